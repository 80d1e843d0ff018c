/- The texts Rl, Rr, one behind the other. -/
import Derived.Test.YthogflfjdfcpeaaMq1
import Derived.Test.YthogflfjdfcpeaaMq12
import Derived.Test.YthogflfjdfcpeaaMq11
/- The document's hand Cold. -/
namespace Go.Proofs.Ythogflfjdfcpeaa
open Go.RowKit

/-- It was turned, and some more were put out. -/
def RngGo (B g : Nat) (w w' : World) (vp vo : Value) (c : ClkN) (out : List KeyN) : Prop := ∃ vp' vo', RngV B g w' vp' vo' c out ∧ Mod (fun k => ClkS g vp k ∨ vo.ownBlock = some k) w w' ∧ (∀ k, vp'.ownBlock = some k → vp.ownBlock = some k ∨ w.heap.size ≤ k) ∧ (∀ k, vo'.ownBlock = some k → vo.ownBlock = some k ∨ w.heap.size ≤ k)
theorem RngV.put_out {B g : Nat} {w w2 : World} {vp vo vo' : Value} {c : ClkN} {os os' : List KeyN} (h : RngV B g w vp vo c os) (hm : Mod (fun k => vo.ownBlock = some k) w w2) (ho : OwnK 3 B w2 28 vo' (os'.map keyC)) :
    RngV B g (w2.setCell ⟨g, 6, none⟩ vo') vp vo' c os' ∧ Mod (fun k => ClkS g vp k ∨ vo.ownBlock = some k) w (w2.setCell ⟨g, 6, none⟩ vo') := by
  have hb : Blk w2 g 70 (ringC c vp vo) := hm.blk h.blk h.ne_out
  have hp : OwnP B w2 30 vp c.ps := OwnK.modS h.ps hm (fun k hk e => h.apart k hk e)
  have hg : Mod (fun k => k = g) w2 (w2.setCell ⟨g, 6, none⟩ vo') := mod_oneCell _ _ _ _
  refine ⟨⟨hb.set_ 6 vo', OwnK.modS hp hg (fun k hk e => own_blk_ne hp.2 hb (by decide) (by rw [hk, e])), OwnK.modS ho hg (fun k hk e => own_blk_ne ho.2 hb (by decide) (by rw [hk, e]))⟩, (hm.mono (fun _ _ h => .inr h)).trans hg (fun i _ h => .inl (.inl h))⟩
theorem Rng_end {B g : Nat} {w w1 w2 w3 : World} {vp vx vo vo' : Value} {c : ClkN} {os : List KeyN} (h1 : Mod (ClkS g vp) w w1) (o1 : ∀ k, vx.ownBlock = some k → vp.ownBlock = some k ∨ w.heap.size ≤ k)
    (h2 : Mod (fun k => ClkS g vx k ∨ vo.ownBlock = some k) w1 w2) (o2 : ∀ k, vo'.ownBlock = some k → vo.ownBlock = some k ∨ w.heap.size ≤ k) (h3 : RngTo B g w2 w3 vx vo' c os) : RngGo B g w w3 vp vo c os := by
  obtain ⟨v3, k1, k2, k3⟩ := h3
  have hs : ∀ i, i < w.heap.size → ClkS g vx i → ClkS g vp i := fun i hi h => by
    rcases h with h | h
    · exact .inl h
    · rcases o1 i h with h | h
      · exact .inr h
      · omega
  have m1 := h1.size
  have m2 := h2.size
  refine ⟨v3, vo', k1, ?_, fun k hk => ?_, o2⟩
  · exact ((h1.mono (fun _ _ h => .inl h)).trans h2 (fun i hi h => h.imp (hs i hi) id)).trans k2 (fun i hi h => .inl (hs i hi h))
  · rcases k3 k hk with h | h
    · exact o1 k h
    · exact .inr (by omega)
set_option linter.unusedSimpArgs false in
set_option maxHeartbeats 16000000 in
set_option maxRecDepth 100000 in
theorem rkTurnCold_any (B g : Nat) (vp vo : Value) (c : ClkN) (os : List KeyN) (w : World) (h : RngV B g w vp vo c os) (hb : BaseK c) (hf : c.ps.any isFree = true) (hn : c.ps.length ≤ 100000) (hB : B ≤ w.heap.size) (ho : os.length ≤ 100000) :
    Calls Try.prog 56 #[.pointer (some ⟨g, 0, none⟩)] w fun e w' => e = .returned (.tuple #[]) ∧ RngGo B g w w' vp vo (turnColdK c os).1 (turnColdK c os).2 := by
  obtain ⟨_, _, _, K, hE⟩ := cold_ends hb hf os
  have HL := Lib.hid (LoopR.start h hb); have Hn := Lib.hid hn; have HE := Lib.hid hE; have Hf := Lib.hid hf; have Hb := Lib.hid hb; have HB := Lib.hid hB; have Ho := Lib.hid ho
  clear h hb hn hE hf hB ho
  go_enter Try.func56, Try.ntmps56
  go_wp2_with fail
  go_loopg [] K (fun k wr => ∃ y vx, Ends coldF k (y, os, false) ((turnColdK c os).1, (turnColdK c os).2, true) ∧ y.ps.any isFree = true ∧ LoopR B g w wr vp vo os c y vx)
  case atStart => exact ⟨c, vp, HE.out, Hf.out, HL.out⟩
  case round =>
    obtain ⟨y, vx, he, hfy, hl⟩ := hrel
    have HEx := Lib.hid he; have Hfy := Lib.hid hfy; have Hl := Lib.hid hl
    clear he hfy hl
    obtain ⟨go1, rfl⟩ : ∃ go1 : Nat, go1 = gk := ⟨_, rfl⟩
    have Hwy := Lib.hid (warm_ends Hl.out.base Hfy.out)
    go_wp2_with fail
    refine (rkLoose0_any B g vx vo y os wr Hl.out.rng Hl.out.base.pgs.1 (by have := Hl.out.len; have := Hn.out; omega)).mono ?_
    rw [Hfy.out]
    rintro e w1 ⟨rfl, hm1⟩
    have HL1 := Lib.hid (Hl.out.new hm1)
    clear hm1
    obtain ⟨_, _, _, _, K2, hE2⟩ := Hwy.out
    have HE2 := Lib.hid hE2
    clear hE2
    go_wp2_with fail
    go_loopg [] K2 (fun k wr => ∃ cx vx, Ends warmF k cx (warmK y) ∧ cx.ps.any isFree = true ∧ LoopR B g w wr vp vo os c cx vx)
    case atStart => exact ⟨y, vx, HE2.out, Hfy.out, HL1.out⟩
    case round =>
      obtain ⟨cx, vx, he, hfx, hl⟩ := hrel
      have HEw := Lib.hid he; have Hfx := Lib.hid hfx; have Hlx := Lib.hid hl
      have Hlen : Hid (cx.ps.length ≤ 100000) := Lib.hid (by have := hl.len; have := Hn.out; omega)
      have HBx : Hid (B ≤ wr.heap.size) := Lib.hid (Nat.le_trans HB.out hl.mod.size)
      clear he hfx hl HL1 Hl
      obtain ⟨q, hq⟩ : ∃ q, cx.ps.any isLoose = q := ⟨_, rfl⟩
      have Hq := Lib.hid hq
      go_wp2_with fail
      refine (rkLoose2_any B g vx vo cx os wr Hlx.out.rng Hlx.out.base.pgs.1 Hlen.out).mono ?_
      rw [hq]
      rintro e w2 ⟨rfl, hm2⟩
      have HL2 := Lib.hid (Hlx.out.new hm2)
      have HB2 : Hid (B ≤ w2.heap.size) := Lib.hid (Nat.le_trans HBx.out hm2.size)
      clear hm2 hq
      cases q with
      | false =>
        obtain ⟨j, hj, hE1⟩ := HEw.out.some_ (warmF_some Hq.out)
        have Hj := Lib.hid hj; have HE1 := Lib.hid hE1
        have Hh := Lib.hid (hot_ends Hlx.out.base)
        clear hj hE1
        go_wp2_with fail
        refine (rkTurnHot_any B g _ vo cx os w2 HL2.out.rng HL2.out.base Hlen.out HB2.out).mono ?_
        rintro e w3 ⟨rfl, ht⟩
        obtain ⟨v1, hl1⟩ := HL2.out.turn ht Hh.out.1.base Hh.out.1.len
        have HL3 := Lib.hid hl1
        clear ht hl1
        go_wp2_with fail
        go_roundg (gk - 1)
        case measure => have := Hj.out; omega
        case rel =>
          have e1 : gk - 1 = j := by have := Hj.out; omega
          rw [e1]
          exact ⟨_, v1, HE1.out, by rw [Hh.out.1.free]; exact Hfx.out, HL3.out⟩
      | true =>
        have He := (HEw.out.none_ (warmF_none Hq.out)).2
        subst He
        clear Hlx HEw HBx
        obtain ⟨p, hp, hok, hlt⟩ := HL2.out.base.cold_at Hq.out
        obtain ⟨pg, n, cap, rfl, Hnn, hnc, hcm, hin, Hpg, hne, x0, x1, x2, x3, x4, x5, x6, fz⟩ := HL2.out.rng.at_ hp
        obtain ⟨i, hi⟩ : ∃ i, (warmK y).cold = i := ⟨_, rfl⟩
        have y2 := HL2.out.rng.cells.2.2.1
        have yh := HL2.out.rng.cells.2.2.2.2.1
        have hat7 : (⟨pg, 0, none⟩ : Addr).add (i * 7) = ⟨pg, i * 7, none⟩ := by rw [add_addr, Nat.zero_add]
        have hin' : (i : Int) < (n : Int) := by omega
        have hi0 : ¬ (i : Int) < 0 := by omega
        rw [hi] at x0 x1 x2 x3 x4 x5 x6 yh hp hlt
        have Hp := Lib.hid hp; have Hok := Lib.hid hok; have Hlt := Lib.hid hlt; have Hi := Lib.hid hi
        clear hp hok hlt hi hnc hcm hin
        obtain ⟨⟨s, l, b⟩, kd, rf, tr, pn⟩ := p
        simp only at x0 x1 x2 x3 x4 x5 x6
        obtain ⟨W1, hW1, hm1, hb1, hz1⟩ := Blk.boxed w2 30 #[.int .i64 s, .int .i64 l, .int .i64 b, .int .i64 kd, .bool rf, .bool tr, .int .i64 pn]
        obtain ⟨g1, hg1⟩ : ∃ g, g = w2.heap.size := ⟨_, rfl⟩
        rw [← hg1] at hb1
        have HW1 := Lib.hid hW1; have Hg1 := Lib.hid hg1; have Hm1 := Lib.hid hm1; have Hb1 := Lib.hid hb1
        have HL3 := Lib.hid (HL2.out.new hm1)
        have HB3 : Hid (B ≤ W1.heap.size) := Lib.hid (Nat.le_trans HB2.out hm1.size)
        clear hW1 hg1 hm1 hb1 hz1
        go_upto_region 5 with fail
        rw [← HW1.out, ← Hg1.out]
        clear x0 x1 x2 x3 x4 x5 x6 y2 yh fz
        have z3 := Hb1.out.cell 3
        have z6 := Hb1.out.cell 6
        simp at z3 z6
        have y2 := HL3.out.rng.cells.2.2.1
        have yh := HL3.out.rng.cells.2.2.2.2.1
        have fh := HL3.out.rng.frozen 4
        have hkd := Hok.out.1
        simp only at hkd
        by_cases hk2 : kd = 2
        · subst hk2
          by_cases h0 : 0 < pn
          · have g0 : decide (0 < pn) = true := decide_eq_true h0
            have H0 := Lib.hid h0
            clear h0
            go_wp2_with fail
            refine (RngV.on_ i HL3.out.rng (by exact Hlt.out) (by have := HL3.out.len; have := Hn.out; omega)).mono ?_
            obtain ⟨m9, hm9⟩ : ∃ m, onK (warmK y).ps.length i = m := ⟨_, rfl⟩
            rw [hm9]
            rintro e w9 ⟨rfl, rfl⟩
            have hn5 : RngTo B g w9 (w9.setCell ⟨g, 4, none⟩ (.int .i64 (m9 : Nat))) (.slice (some ⟨pg, 0, none⟩) n cap) vo { warmK y with cold := m9 } os := RngTo.num HL3.out.rng 4 _ rfl rfl
            obtain ⟨W9, hW9⟩ : ∃ W9, W9 = w9.setCell ⟨g, 4, none⟩ (.int .i64 (m9 : Nat)) := ⟨_, rfl⟩
            rw [← hW9] at hn5
            have hcl : m9 < max (warmK y).ps.length 1 := by rw [← hm9, ← Hi.out]; exact onK_lt HL3.out.base.cold
            have htu := turn_hands HL3.out.base (a := (warmK y).hot) (b := m9) (t := (warmK y).test) HL3.out.base.hot hcl HL3.out.base.test
            have HF9 : Hid (({ warmK y with cold := m9 } : ClkN).ps.any isFree = true) := Lib.hid (by exact loose_is_free Hq.out)
            obtain ⟨v9, hl9⟩ := HL3.out.turn hn5 htu.base (Nat.le_refl _)
            have HL9 := Lib.hid hl9
            have Hf9 : Hid (coldF (y, os, false) = some ({ warmK y with cold := m9 }, os, false)) := Lib.hid (by rw [coldF_on Hfy.out (by rw [Hi.out]; exact Hp.out) (.inr H0.out), Hi.out, hm9])
            obtain ⟨j, hj, hE1⟩ := HEx.out.some_ Hf9.out
            have HW9 := Lib.hid hW9
            clear hn5 hW9 hm9 hcl htu hl9 z3 z6
            have Hj := Lib.hid hj; have HE1 := Lib.hid hE1
            clear hj hE1
            go_wp2_with fail
            go_roundg (go1 - 1)
            case measure => have := Hj.out; omega
            case rel =>
              have e1 : go1 - 1 = j := by have := Hj.out; omega
              rw [e1, ← HW9.out]
              exact ⟨_, v9, HE1.out, HF9.out, HL9.out⟩
          · have g0 : decide (0 < pn) = false := decide_eq_false h0
            have HPN : Hid (pn = 0) := Lib.hid (by have := Hok.out.2.1; simp only at this; omega)
            clear h0
            have z4 := Hb1.out.cell 4
            have z5 := Hb1.out.cell 5
            simp at z4 z5
            cases rf with
            | true =>
              cases tr with
              | true =>
                have fb3 := Hb1.out.frozen 3
                have fb5 := Hb1.out.frozen 5
                have fb4 := Hb1.out.frozen 4
                have z4 := Hb1.out.cell 4
                have z5 := Hb1.out.cell 5
                simp at z4 z5
                have hm2 : Mod (fun _ => False) w2 (((W1.setCell ⟨g1, 3, none⟩ (.int .i64 1)).setCell ⟨g1, 5, none⟩ (.bool false)).setCell ⟨g1, 4, none⟩ (.bool false)) := Hm1.out.trans ((((Mod.refl (fun k => k = g1) W1).setCell (p := ⟨g1, 3, none⟩) (fun _ => rfl) (.int .i64 1)).setCell (p := ⟨g1, 5, none⟩) (fun _ => rfl) (.bool false)).setCell (p := ⟨g1, 4, none⟩) (fun _ => rfl) (.bool false)) (fun i hi h => by have := Hg1.out; omega)
                have hb2 : Blk (((W1.setCell ⟨g1, 3, none⟩ (.int .i64 1)).setCell ⟨g1, 5, none⟩ (.bool false)).setCell ⟨g1, 4, none⟩ (.bool false)) g1 30 #[.int .i64 s, .int .i64 l, .int .i64 b, .int .i64 1, .bool false, .bool false, .int .i64 pn] := by
                  have h := (((Hb1.out.set_ 3 (.int .i64 1)).set_ 5 (.bool false)).set_ 4 (.bool false))
                  simpa using h
                obtain ⟨W2, hW2⟩ : ∃ W2, W2 = (((W1.setCell ⟨g1, 3, none⟩ (.int .i64 1)).setCell ⟨g1, 5, none⟩ (.bool false)).setCell ⟨g1, 4, none⟩ (.bool false)) := ⟨_, rfl⟩
                rw [← hW2] at hm2 hb2
                have HW2 := Lib.hid hW2; have Hm2 := Lib.hid hm2; have Hb2 := Lib.hid hb2
                have HL4 := Lib.hid (HL2.out.new hm2)
                clear hW2 hm2 hb2
                go_upto_region 12 with fail
                rw [← HW2.out]
                clear z3 z4 z5 z6 y2 yh fh fb3 fb5 fb4
                have z0 := Hb2.out.cell 0
                have z1 := Hb2.out.cell 1
                have z2 := Hb2.out.cell 2
                have z3 := Hb2.out.cell 3
                have z4 := Hb2.out.cell 4
                have z5 := Hb2.out.cell 5
                have z6 := Hb2.out.cell 6
                simp at z0 z1 z2 z3 z4 z5 z6
                obtain ⟨_, _, _, e7, _, _, _, _, _, _, x0, x1, x2, x3, x4, x5, x6, fz⟩ := HL4.out.rng.at_ (by rw [← Hi.out] at Hp; exact Hp.out)
                injection e7 with e71 e72 e73
                injection e71 with e71
                injection e71 with e71 _ _
                subst e71 e72 e73
                rw [Hi.out] at x0 x1 x2 x3 x4 x5 x6
                simp only at x0 x1 x2 x3 x4 x5 x6
                have y2 := HL4.out.rng.cells.2.2.1
                obtain ⟨hv2, hm2⟩ := HL4.out.rng.whole (q := ⟨⟨s, l, b⟩, 1, false, false, pn⟩) Hnn.out Hp.out
                simp only at hv2 hm2
                have hv3 := hv2.drew
                have hm3 := hm2.drew
                clear hv2 hm2
                obtain ⟨W3, hW3⟩ : ∃ W3, W3 = (((((((W2.setCell ⟨pg, i * 7, none⟩ (.int .i64 s)).setCell ⟨pg, i * 7 + 1, none⟩ (.int .i64 l)).setCell ⟨pg, i * 7 + 2, none⟩ (.int .i64 b)).setCell ⟨pg, i * 7 + 3, none⟩ (.int .i64 1)).setCell ⟨pg, i * 7 + 4, none⟩ (.bool false)).setCell ⟨pg, i * 7 + 5, none⟩ (.bool false)).setCell ⟨pg, i * 7 + 6, none⟩ (.int .i64 pn)).drew := ⟨_, rfl⟩
                rw [← hW3] at hv3 hm3
                have hg3 : g1 ≠ pg := by have := Hpg.out; have := Hg1.out; omega
                have hb3 := hm3.blk Hb2.out hg3
                have Hb3 := Lib.hid hb3
                have Hv3 := Lib.hid hv3; have HM3 := Lib.hid hm3; have HW3 := Lib.hid hW3
                clear hv3 hm3 hW3 hb3 hg3
                go_region
                rw [← HW3.out]
                clear x0 x1 x2 x3 x4 x5 x6 y2 fz z0 z1 z2 z3 z4 z5 z6
                have y2 := Hv3.out.cells.2.2.1
                go_wp2_with fail
                refine (RngV.on_ i Hv3.out (by show i < ((warmK y).ps.set _ _).length; rw [List.length_set]; exact Hlt.out) (by show ((warmK y).ps.set _ _).length ≤ _; rw [List.length_set]; have := HL2.out.len; have := Hn.out; omega)).mono ?_
                obtain ⟨m9, hm9⟩ : ∃ m, onK ((warmK y).ps.set i ⟨⟨s, l, b⟩, 1, false, false, pn⟩).length i = m := ⟨_, rfl⟩
                have em : onK (warmK y).ps.length i = m9 := by rw [← hm9, List.length_set]
                rw [show onK ({ warmK y with ps := (warmK y).ps.set i ⟨⟨s, l, b⟩, 1, false, false, pn⟩ } : ClkN).ps.length i = m9 from hm9]
                rintro e w9 ⟨rfl, rfl⟩
                have fh := Hv3.out.frozen 4
                have yh := Hv3.out.cells.2.2.2.2.1
                have z3 := Hb3.out.cell 3
                simp at z3
                obtain ⟨W9, hW9⟩ : ∃ W9, W9 = w9.setCell ⟨g, 4, none⟩ (.int .i64 (m9 : Nat)) := ⟨_, rfl⟩
                have hn5 : RngTo B g w9 W9 (.slice (some ⟨pg, 0, none⟩) n cap) vo { warmK y with ps := (warmK y).ps.set i ⟨⟨s, l, b⟩, 1, false, false, pn⟩, cold := m9 } os := by
                  rw [hW9]
                  exact RngTo.num Hv3.out 4 _ (by simp [ringC]) rfl
                have hz3 : W9.cell? ⟨g1, 3, none⟩ = some (.int .i64 1) := by
                  rw [hW9]
                  have hb := Hb3.out.far (p := ⟨g, 4, none⟩) (by have := Hg1.out; have := HL2.out.rng.blk.lt; show g1 ≠ g; omega) (.int .i64 (m9 : Nat))
                  exact hb.cell 3
                have hcl : m9 < max (warmK y).ps.length 1 := by rw [← em, ← Hi.out]; exact onK_lt HL2.out.base.cold
                have hp' : (warmK y).ps[(warmK y).cold]? = some ⟨⟨s, l, b⟩, 2, true, true, pn⟩ := by rw [Hi.out]; exact Hp.out
                have htu := turn_set HL2.out.base hp' (q := ⟨⟨s, l, b⟩, 1, false, false, pn⟩) rfl rfl rfl ⟨.inl rfl, Hok.out.2.1, fun h => absurd h (by show (1 : Int) ≠ 3; decide)⟩ (fun h => absurd h (by show (1 : Int) ≠ 3; decide)) (fun h => by cases h) { warmK y with ps := (warmK y).ps.set i ⟨⟨s, l, b⟩, 1, false, false, pn⟩, cold := m9 } rfl rfl (by rw [Hi.out]) HL2.out.base.hot hcl HL2.out.base.test
                have htx : RngTo B g w2 W9 (.slice (some ⟨pg, 0, none⟩) n cap) vo { warmK y with ps := (warmK y).ps.set i ⟨⟨s, l, b⟩, 1, false, false, pn⟩, cold := m9 } os := RngTo.after Hm2.out (RngTo.step (HM3.out.mono (fun _ _ h => .inr (by rw [h]; rfl))) (fun _ h => .inl h) hn5)
                obtain ⟨v8, hl8⟩ := HL2.out.turn htx htu.base (by show ((warmK y).ps.set i _).length ≤ _; rw [List.length_set]; exact Nat.le_refl _)
                have HL8 := Lib.hid hl8
                have Htu := Lib.hid htu
                have HW9 := Lib.hid hW9
                have Hf9 := Lib.hid (by have h := coldF_hot (out := os) Hfy.out (by rw [Hi.out]; exact Hp.out) rfl HPN.out rfl rfl; rw [Hi.out, em] at h; exact h)
                obtain ⟨j, hj, hE1⟩ := HEx.out.some_ Hf9.out
                clear hn5 hW9 hm9 em hcl hp' htu htx hl8
                have Hco := Lib.hid (cool_ends Htu.out.base)
                have HF9 : Hid ((coolK { warmK y with ps := (warmK y).ps.set i ⟨⟨s, l, b⟩, 1, false, false, pn⟩, cold := m9 }).ps.any isFree = true) := Lib.hid (by rw [Hco.out.1.free, Htu.out.free]; exact loose_is_free Hq.out)
                go_upto_region 15 with fail
                rw [← HW9.out]
                clear hz3
                go_wp2_with fail
                refine (rkCool_any B g _ vo _ os W9 HL8.out.rng Htu.out.base (by have := HL8.out.len; have := Hn.out; omega) (Nat.le_trans HB.out HL8.out.mod.size)).mono ?_
                rintro e w10 ⟨rfl, ht⟩
                obtain ⟨v9, hl9⟩ := HL8.out.turn ht Hco.out.1.base Hco.out.1.len
                have HL9 := Lib.hid hl9
                clear ht hl9
                have Hj := Lib.hid hj; have HE1 := Lib.hid hE1
                clear hj hE1
                go_wp2_with fail
                go_roundg (go1 - 1)
                case measure => have := Hj.out; omega
                case rel =>
                  have e1 : go1 - 1 = j := by have := Hj.out; omega
                  rw [e1]
                  exact ⟨_, v9, HE1.out, HF9.out, HL9.out⟩
              | false =>
                have fb5 := Hb1.out.frozen 5
                have fb4 := Hb1.out.frozen 4
                have z4 := Hb1.out.cell 4
                have z5 := Hb1.out.cell 5
                simp at z4 z5
                have hm2 : Mod (fun _ => False) w2 ((W1.setCell ⟨g1, 5, none⟩ (.bool true)).setCell ⟨g1, 4, none⟩ (.bool false)) := Hm1.out.trans (((Mod.refl (fun k => k = g1) W1).setCell (p := ⟨g1, 5, none⟩) (fun _ => rfl) (.bool true)).setCell (p := ⟨g1, 4, none⟩) (fun _ => rfl) (.bool false)) (fun i hi h => by have := Hg1.out; omega)
                have hb2 : Blk ((W1.setCell ⟨g1, 5, none⟩ (.bool true)).setCell ⟨g1, 4, none⟩ (.bool false)) g1 30 #[.int .i64 s, .int .i64 l, .int .i64 b, .int .i64 2, .bool false, .bool true, .int .i64 pn] := by
                  have h := ((Hb1.out.set_ 5 (.bool true)).set_ 4 (.bool false))
                  simpa using h
                obtain ⟨W2, hW2⟩ : ∃ W2, W2 = ((W1.setCell ⟨g1, 5, none⟩ (.bool true)).setCell ⟨g1, 4, none⟩ (.bool false)) := ⟨_, rfl⟩
                rw [← hW2] at hm2 hb2
                have HW2 := Lib.hid hW2; have Hm2 := Lib.hid hm2; have Hb2 := Lib.hid hb2
                have HL4 := Lib.hid (HL2.out.new hm2)
                clear hW2 hm2 hb2
                go_upto_region 12 with fail
                rw [← HW2.out]
                clear z3 z4 z5 z6 y2 yh fh fb5 fb4
                have z0 := Hb2.out.cell 0
                have z1 := Hb2.out.cell 1
                have z2 := Hb2.out.cell 2
                have z3 := Hb2.out.cell 3
                have z4 := Hb2.out.cell 4
                have z5 := Hb2.out.cell 5
                have z6 := Hb2.out.cell 6
                simp at z0 z1 z2 z3 z4 z5 z6
                obtain ⟨_, _, _, e7, _, _, _, _, _, _, x0, x1, x2, x3, x4, x5, x6, fz⟩ := HL4.out.rng.at_ (by rw [← Hi.out] at Hp; exact Hp.out)
                injection e7 with e71 e72 e73
                injection e71 with e71
                injection e71 with e71 _ _
                subst e71 e72 e73
                rw [Hi.out] at x0 x1 x2 x3 x4 x5 x6
                simp only at x0 x1 x2 x3 x4 x5 x6
                have y2 := HL4.out.rng.cells.2.2.1
                obtain ⟨hv2, hm2⟩ := HL4.out.rng.whole (q := ⟨⟨s, l, b⟩, 2, false, true, pn⟩) Hnn.out Hp.out
                simp only at hv2 hm2
                have hv3 := hv2.drew
                have hm3 := hm2.drew
                clear hv2 hm2
                obtain ⟨W3, hW3⟩ : ∃ W3, W3 = (((((((W2.setCell ⟨pg, i * 7, none⟩ (.int .i64 s)).setCell ⟨pg, i * 7 + 1, none⟩ (.int .i64 l)).setCell ⟨pg, i * 7 + 2, none⟩ (.int .i64 b)).setCell ⟨pg, i * 7 + 3, none⟩ (.int .i64 2)).setCell ⟨pg, i * 7 + 4, none⟩ (.bool false)).setCell ⟨pg, i * 7 + 5, none⟩ (.bool true)).setCell ⟨pg, i * 7 + 6, none⟩ (.int .i64 pn)).drew := ⟨_, rfl⟩
                rw [← hW3] at hv3 hm3
                have hg3 : g1 ≠ pg := by have := Hpg.out; have := Hg1.out; omega
                have hb3 := hm3.blk Hb2.out hg3
                have Hb3 := Lib.hid hb3
                have Hv3 := Lib.hid hv3; have HM3 := Lib.hid hm3; have HW3 := Lib.hid hW3
                clear hv3 hm3 hW3 hb3 hg3
                go_region
                rw [← HW3.out]
                clear x0 x1 x2 x3 x4 x5 x6 y2 fz z0 z1 z2 z3 z4 z5 z6
                have y2 := Hv3.out.cells.2.2.1
                go_wp2_with fail
                refine (RngV.on_ i Hv3.out (by show i < ((warmK y).ps.set _ _).length; rw [List.length_set]; exact Hlt.out) (by show ((warmK y).ps.set _ _).length ≤ _; rw [List.length_set]; have := HL2.out.len; have := Hn.out; omega)).mono ?_
                obtain ⟨m9, hm9⟩ : ∃ m, onK ((warmK y).ps.set i ⟨⟨s, l, b⟩, 2, false, true, pn⟩).length i = m := ⟨_, rfl⟩
                have em : onK (warmK y).ps.length i = m9 := by rw [← hm9, List.length_set]
                rw [show onK ({ warmK y with ps := (warmK y).ps.set i ⟨⟨s, l, b⟩, 2, false, true, pn⟩ } : ClkN).ps.length i = m9 from hm9]
                rintro e w9 ⟨rfl, rfl⟩
                have fh := Hv3.out.frozen 4
                have yh := Hv3.out.cells.2.2.2.2.1
                have z3 := Hb3.out.cell 3
                simp at z3
                obtain ⟨W9, hW9⟩ : ∃ W9, W9 = w9.setCell ⟨g, 4, none⟩ (.int .i64 (m9 : Nat)) := ⟨_, rfl⟩
                have hn5 : RngTo B g w9 W9 (.slice (some ⟨pg, 0, none⟩) n cap) vo { warmK y with ps := (warmK y).ps.set i ⟨⟨s, l, b⟩, 2, false, true, pn⟩, cold := m9 } os := by
                  rw [hW9]
                  exact RngTo.num Hv3.out 4 _ (by simp [ringC]) rfl
                have hz3 : W9.cell? ⟨g1, 3, none⟩ = some (.int .i64 2) := by
                  rw [hW9]
                  have hb := Hb3.out.far (p := ⟨g, 4, none⟩) (by have := Hg1.out; have := HL2.out.rng.blk.lt; show g1 ≠ g; omega) (.int .i64 (m9 : Nat))
                  exact hb.cell 3
                have hcl : m9 < max (warmK y).ps.length 1 := by rw [← em, ← Hi.out]; exact onK_lt HL2.out.base.cold
                have hp' : (warmK y).ps[(warmK y).cold]? = some ⟨⟨s, l, b⟩, 2, true, false, pn⟩ := by rw [Hi.out]; exact Hp.out
                have htu := turn_set HL2.out.base hp' (q := ⟨⟨s, l, b⟩, 2, false, true, pn⟩) rfl rfl rfl ⟨.inr (.inl rfl), Hok.out.2.1, fun h => absurd h (by show (2 : Int) ≠ 3; decide)⟩ (fun h => absurd h (by show (2 : Int) ≠ 3; decide)) (fun h => by cases h) { warmK y with ps := (warmK y).ps.set i ⟨⟨s, l, b⟩, 2, false, true, pn⟩, cold := m9 } rfl rfl (by rw [Hi.out]) HL2.out.base.hot hcl HL2.out.base.test
                have htx : RngTo B g w2 W9 (.slice (some ⟨pg, 0, none⟩) n cap) vo { warmK y with ps := (warmK y).ps.set i ⟨⟨s, l, b⟩, 2, false, true, pn⟩, cold := m9 } os := RngTo.after Hm2.out (RngTo.step (HM3.out.mono (fun _ _ h => .inr (by rw [h]; rfl))) (fun _ h => .inl h) hn5)
                obtain ⟨v8, hl8⟩ := HL2.out.turn htx htu.base (by show ((warmK y).ps.set i _).length ≤ _; rw [List.length_set]; exact Nat.le_refl _)
                have HL8 := Lib.hid hl8
                have Htu := Lib.hid htu
                have HW9 := Lib.hid hW9
                have Hf9 := Lib.hid (by have h := coldF_trial (out := os) Hfy.out (by rw [Hi.out]; exact Hp.out) rfl HPN.out rfl rfl; rw [Hi.out, em] at h; exact h)
                obtain ⟨j, hj, hE1⟩ := HEx.out.some_ Hf9.out
                clear hn5 hW9 hm9 em hcl hp' htu htx hl8
                have HF9 : Hid (({ warmK y with ps := (warmK y).ps.set i ⟨⟨s, l, b⟩, 2, false, true, pn⟩, cold := m9 } : ClkN).ps.any isFree = true) := Lib.hid (by rw [Htu.out.free]; exact loose_is_free Hq.out)
                obtain ⟨v9, hl9⟩ : ∃ v, v = v8 := ⟨_, rfl⟩
                subst hl9
                have HL9 := HL8
                have Hj := Lib.hid hj; have HE1 := Lib.hid hE1
                clear hj hE1
                go_wp2_with fail
                go_roundg (go1 - 1)
                case measure => have := Hj.out; omega
                case rel =>
                  have e1 : go1 - 1 = j := by have := Hj.out; omega
                  rw [e1, ← HW9.out]
                  exact ⟨_, v9, HE1.out, HF9.out, HL9.out⟩
            | false =>
              have z0 := Hb1.out.cell 0
              have z1 := Hb1.out.cell 1
              have z2 := Hb1.out.cell 2
              have z4 := Hb1.out.cell 4
              simp at z0 z1 z2 z4
              have y6 := HL3.out.rng.cells.2.2.2.2.2.2
              have HS : Hid (∀ W', Mod (fun k => vo.ownBlock = some k) W1 W' → W'.cell? ⟨g, 6, none⟩ = some vo ∧ W'.cell? ⟨g1, 0, none⟩ = some (.int .i64 s) ∧ W'.cell? ⟨g1, 1, none⟩ = some (.int .i64 l) ∧ W'.cell? ⟨g1, 2, none⟩ = some (.int .i64 b)) := Lib.hid (fun W' hm => by
                have hb := hm.blk Hb1.out (fun e => own_blk_ne HL3.out.rng.out.2 Hb1.out (by decide) e)
                exact ⟨(hm.blk HL3.out.rng.blk HL3.out.rng.ne_out).cell 6, hb.cell 0, hb.cell 1, hb.cell 2⟩)
              have hone : ∀ u ∈ [Value.int .i64 s, Value.int .i64 l, Value.int .i64 b], u.oneCell' = true := by intro u hu; simp at hu; rcases hu with rfl | rfl | rfl <;> rfl
              have hone3 : ∀ u ∈ [[Value.int .i64 s, Value.int .i64 l, Value.int .i64 b]].flatten, u.oneCell' = true := by intro u hu; simp at hu; rcases hu with rfl | rfl | rfl <;> rfl
              have Hone3 := Lib.hid hone3
              have hr1 : (os.map keyC).length + 1 ≤ maxLen := by rw [List.length_map]; have := Ho.out; unfold maxLen; omega
              have hr2 : ((os.map keyC).length + 1) * 24 ≤ 140737488355328 := by rw [List.length_map]; have := Ho.out; omega
              clear hone hone3
              go_upto_region 16 with fail
              go_cut [] from 67 to 77 (fun wx => ∃ vo', RngV B g wx (.slice (some ⟨pg, 0, none⟩) n cap) vo' (warmK y) (os ++ [⟨s, l, b⟩]) ∧ Mod (fun k => ClkS g (.slice (some ⟨pg, 0, none⟩) n cap) k ∨ vo.ownBlock = some k) W1 wx ∧ (∀ k, vo'.ownBlock = some k → vo.ownBlock = some k ∨ W1.heap.size ≤ k) ∧ Blk wx g1 30 #[.int .i64 s, .int .i64 l, .int .i64 b, .int .i64 2, .bool false, .bool tr, .int .i64 pn])
              case first =>
                have S0 := HS.out _ (Mod.refl _ W1).drew
                refine wp_region_T (fun W' => W'.cell? ⟨g, 6, none⟩ = some vo ∧ W'.cell? ⟨g1, 0, none⟩ = some (.int .i64 s) ∧ W'.cell? ⟨g1, 1, none⟩ = some (.int .i64 l) ∧ W'.cell? ⟨g1, 2, none⟩ = some (.int .i64 b)) 9 (by kernel_rfl) S0 (fun hHeld => ?_)
                refine wpAnyT_take (i := 0) (v := ?_) rfl (by decide) (by kernel_rfl) (by kernel_rfl) (by kernel_rfl) (by kernel_rfl) (fun _ _ _ h => h) (Or.inl ⟨by rfl, ?_⟩) hHeld ?_
                rotate_left
                · (intro w hSw; (try dsimp only at hSw); go_simp; first | done | with_reducible rfl)
                simp only [Act.put, List.setIfInBounds_toArray, List.set_cons_zero, List.set_cons_succ]
                refine wpAnyT_take (i := 1) (v := ?_) rfl (by decide) (by kernel_rfl) (by kernel_rfl) (by kernel_rfl) (by kernel_rfl) (fun _ _ _ h => h) (Or.inl ⟨by rfl, ?_⟩) hHeld ?_
                rotate_left
                · (intro w hSw; (try dsimp only at hSw); go_simp; first | done | with_reducible rfl)
                simp only [Act.put, List.setIfInBounds_toArray, List.set_cons_zero, List.set_cons_succ]
                refine wpAnyT_take (i := 2) (v := ?_) rfl (by decide) (by kernel_rfl) (by kernel_rfl) (by kernel_rfl) (by kernel_rfl) (fun _ _ _ h => h) (Or.inl ⟨by rfl, ?_⟩) hHeld ?_
                rotate_left
                · (intro w hSw; (try dsimp only at hSw); go_simp; first | done | with_reducible rfl)
                simp only [Act.put, List.setIfInBounds_toArray, List.set_cons_zero, List.set_cons_succ]
                refine wpAnyT_take (i := 3) (v := ?_) rfl (by decide) (by kernel_rfl) (by kernel_rfl) (by kernel_rfl) (by kernel_rfl) (fun _ _ _ h => h) (Or.inl ⟨by rfl, ?_⟩) hHeld ?_
                rotate_left
                · (intro w hSw; (try dsimp only at hSw); go_simp; first | done | with_reducible rfl)
                simp only [Act.put, List.setIfInBounds_toArray, List.set_cons_zero, List.set_cons_succ]
                refine wpAnyT_take (i := 4) (v := ?_) rfl (by decide) (by kernel_rfl) (by kernel_rfl) (by kernel_rfl) (by kernel_rfl) (fun _ _ _ h => h) (Or.inl ⟨by rfl, ?_⟩) hHeld ?_
                rotate_left
                · (intro w hSw; (try dsimp only at hSw); go_simp; first | done | with_reducible rfl)
                simp only [Act.put, List.setIfInBounds_toArray, List.set_cons_zero, List.set_cons_succ]
                refine wpAnyT_take (i := 5) (v := ?_) rfl (by decide) (by kernel_rfl) (by kernel_rfl) (by kernel_rfl) (by kernel_rfl) (fun _ _ _ h => h) (Or.inl ⟨by rfl, ?_⟩) hHeld ?_
                rotate_left
                · (intro w hSw; (try dsimp only at hSw); go_simp; first | done | with_reducible rfl)
                simp only [Act.put, List.setIfInBounds_toArray, List.set_cons_zero, List.set_cons_succ]
                refine wpAnyT_take (i := 6) (v := ?_) rfl (by decide) (by kernel_rfl) (by kernel_rfl) (by kernel_rfl) (by kernel_rfl) (fun _ _ _ h => h) (Or.inl ⟨by rfl, ?_⟩) hHeld ?_
                rotate_left
                · (intro w hSw; (try dsimp only at hSw); go_simp; first | done | with_reducible rfl)
                simp only [Act.put, List.setIfInBounds_toArray, List.set_cons_zero, List.set_cons_succ]
                refine wpAnyT_ready (rs := [7]) (by kernel_rfl) (by simp) (AllReadyT.cons rfl (fun K hK => ?_) AllReadyT.nil)
                go_simp
                have hml : Mod (fun k => vo.ownBlock = some k) W1 (W1.alloc (.cells #[.int .i64 s, .int .i64 l, .int .i64 b] 28)).drew := ((Mod.refl _ W1).alloc _).drew
                refine hK.out _ _ (HS.out _ hml) (fun hHeld => ?_)
                clear hK K
                have HOl : Hid (OwnK 3 B (W1.alloc (.cells #[.int .i64 s, .int .i64 l, .int .i64 b] 28)).drew 28 vo (os.map keyC)) := Lib.hid (OwnK.alloc HL3.out.rng.out _).drew
                have HLit : Hid (RdsK 3 (W1.alloc (.cells #[.int .i64 s, .int .i64 l, .int .i64 b] 28)).drew (W1.heap.size + 1) (some ⟨W1.heap.size, 0, none⟩) 1 [[Value.int .i64 s, Value.int .i64 l, Value.int .i64 b]]) := Lib.hid (RdsK.lit1 W1 28 [Value.int .i64 s, Value.int .i64 l, Value.int .i64 b]).drew
                have hsz : B ≤ ((W1.alloc (.cells #[.int .i64 s, .int .i64 l, .int .i64 b] 28)).drew).heap.size := Nat.le_trans HB3.out hml.size
                have Hml := Lib.hid hml
                clear hml
                refine wpAnyT_ready (rs := [8]) (by kernel_rfl) (by simp) (AllReadyT.cons rfl (fun K hK => ?_) AllReadyT.nil)
                refine step_appK (v := vo) (news := [[Value.int .i64 s, Value.int .i64 l, Value.int .i64 b]]) rfl (.tmp 71) (.tmp 74) _ rfl eltKey rfl HOl.out rfl HLit.out Hone3.out hr1 hr2 hsz ?_
                intro v8 w8 HO8 HMo8 HOb8
                obtain ⟨A8, n8, c8, rfl, _⟩ := HO8.out.formN
                have hm8 : Mod (fun k => vo.ownBlock = some k) W1 w8 := Hml.out.trans HMo8.out (fun _ _ h => h)
                refine hK.out _ _ (HS.out _ hm8) (fun hHeld => ?_)
                clear hK K hHeld
                have hv8 : OwnK 3 B w8 28 (.slice A8 n8 c8) ((os ++ [(⟨s, l, b⟩ : KeyN)]).map keyC) := by rw [← keyC_snoc]; exact HO8.out
                have y6 := (hm8.blk HL3.out.rng.blk HL3.out.rng.ne_out).cell 6
                have f6 := (hm8.blk HL3.out.rng.blk HL3.out.rng.ne_out).frozen 6
                have Hm8 := Lib.hid hm8; have Hv8 := Lib.hid hv8
                clear hm8 hv8
                refine wpAnyT_rest (by kernel_rfl) ?_
                refine wpAny_take (i := 9) (v := ?_) rfl (by kernel_rfl) (by kernel_rfl) (by kernel_rfl) (fun _ _ _ h => h) (Or.inl ⟨by rfl, ?_⟩) ?_
                rotate_left
                · (intro w; go_simp; first | done | with_reducible rfl)
                simp only [Act.put, List.setIfInBounds_toArray, List.set_cons_zero, List.set_cons_succ]
                refine wpAny_take (i := 10) (v := ?_) rfl (by kernel_rfl) (by kernel_rfl) (by kernel_rfl) (fun _ _ _ h => h) (Or.inl ⟨by rfl, ?_⟩) ?_
                rotate_left
                · (intro w; go_simp; first | done | with_reducible rfl)
                simp only [Act.put, List.setIfInBounds_toArray, List.set_cons_zero, List.set_cons_succ]
                refine wpAny_ready (rs := [11]) (by kernel_rfl) (by simp) (AllReady.cons rfl (fun K hK => ?_) AllReady.nil)
                go_simp
                refine hK _ _ ?_
                clear hK K
                refine wpAny_done (by kernel_rfl) ?_ _
                go_wp2_with fail
                go_meet
                obtain ⟨k1, k2⟩ := HL3.out.rng.put_out Hm8.out Hv8.out
                refine ⟨_, k1, k2, fun k hk => ?_, ?_⟩
                · rcases HOb8.out with h | h
                  · exact .inl (by rw [← h]; exact hk)
                  · rw [h] at hk
                    injection hk with hk
                    have := Hml.out.size
                    exact .inr (by omega)
                · have hb := Hm8.out.blk Hb1.out (fun e => own_blk_ne HL3.out.rng.out.2 Hb1.out (by decide) e)
                  exact hb.far (p := ⟨g, 6, none⟩) (by have := Hg1.out; have := HL2.out.rng.blk.lt; show g1 ≠ g; omega) _
              case rest =>
                obtain ⟨vo', hr9, hm9, ho9, hb9⟩ := hcut
                obtain ⟨w9, rfl⟩ : ∃ w0 : World, w0 = wc := ⟨_, rfl⟩
                have Hr9 := Lib.hid hr9; have Hm9 := Lib.hid hm9; have Ho9 := Lib.hid ho9; have Hb9 := Lib.hid hb9
                have HB9 : Hid (B ≤ w9.heap.size) := Lib.hid (Nat.le_trans HB3.out hm9.size)
                have z5 := hb9.cell 5
                simp at z5
                clear hr9 hm9 ho9 hb9 z0 z1 z2 z3 z4 z6 y2 y6 yh fh HS Hone3 hr1 hr2
                have HLz := Lib.hid (LoopR.start Hr9.out HL3.out.base)
                have hp' : (warmK y).ps[(warmK y).cold]? = some ⟨⟨s, l, b⟩, 2, false, tr, pn⟩ := by rw [Hi.out]; exact Hp.out
                have Hp' := Lib.hid hp'
                clear hp'
                cases tr with
                | true =>
                  obtain ⟨k1, k2, k3⟩ := (lookC_test HL3.out.base Hp'.out rfl HPN.out rfl rfl).2 rfl
                  have hf := k3 y os Hfy.out rfl
                  rw [Hi.out] at k1 k2 hf
                  obtain ⟨_, _, _, e7, _, _, _, _, _, _, _, _, _, x3, _, _, _, fz⟩ := Hr9.out.at_ (i := i) Hp.out
                  injection e7 with e71 e72 e73
                  injection e71 with e71
                  injection e71 with e71 _ _
                  subst e71 e72 e73
                  simp only at x3
                  have y2 := Hr9.out.cells.2.2.1
                  have hv4 : RngV B g (w9.setCell ⟨pg, i * 7 + 3, none⟩ (.int .i64 3)) (.slice (some ⟨pg, 0, none⟩) n cap) vo' { warmK y with ps := (warmK y).ps.set i ⟨⟨s, l, b⟩, 3, false, true, pn⟩ } (os ++ [⟨s, l, b⟩]) := Hr9.out.field (j := 3) Hnn.out Hp.out (by decide) rfl
                  obtain ⟨W4, hW4⟩ : ∃ W4, W4 = w9.setCell ⟨pg, i * 7 + 3, none⟩ (.int .i64 3) := ⟨_, rfl⟩
                  rw [← hW4] at hv4
                  have Hv4 := Lib.hid hv4
                  have HM4 : Hid (Mod (ClkS g (.slice (some ⟨pg, 0, none⟩) n cap)) w9 W4) := Lib.hid (by rw [hW4]; exact (mod_oneCell _ _ _ _).mono (fun _ _ h => .inr (by rw [h]; rfl)))
                  have HW4 := Lib.hid hW4; have K1 := Lib.hid k1; have K2 := Lib.hid k2; have Hf9 := Lib.hid hf
                  clear hv4 hW4 k1 k2 k3 hf
                  go_upto_region 19 with fail
                  rw [← HW4.out]
                  clear x3 fz y2 z5
                  have y2 := Hv4.out.cells.2.2.1
                  go_wp2_with fail
                  refine (RngV.on_ i Hv4.out (by show i < ((warmK y).ps.set _ _).length; rw [List.length_set]; exact Hlt.out) (by show ((warmK y).ps.set _ _).length ≤ _; rw [List.length_set]; have := HL2.out.len; have := Hn.out; omega)).mono ?_
                  obtain ⟨m9, hm9⟩ : ∃ m, onK ((warmK y).ps.set i ⟨⟨s, l, b⟩, 3, false, true, pn⟩).length i = m := ⟨_, rfl⟩
                  have em : onK (warmK y).ps.length i = m9 := by rw [← hm9, List.length_set]
                  rw [show onK ({ warmK y with ps := (warmK y).ps.set i ⟨⟨s, l, b⟩, 3, false, true, pn⟩ } : ClkN).ps.length i = m9 from hm9]
                  rintro e w10 ⟨rfl, rfl⟩
                  have fh := Hv4.out.frozen 4
                  have yh := Hv4.out.cells.2.2.2.2.1
                  have hn5 : RngTo B g w10 (w10.setCell ⟨g, 4, none⟩ (.int .i64 (m9 : Nat))) (.slice (some ⟨pg, 0, none⟩) n cap) vo' { warmK y with ps := (warmK y).ps.set i ⟨⟨s, l, b⟩, 3, false, true, pn⟩, cold := m9 } (os ++ [⟨s, l, b⟩]) := RngTo.num Hv4.out 4 _ (by simp [ringC]) rfl
                  have HN5 := Lib.hid hn5
                  have Hem := Lib.hid em
                  clear hn5 em hm9
                  have hk1 := K1.out; have hk2 := K2.out; have hf := Hf9.out
                  rw [Hem.out] at hk1 hf
                  obtain ⟨j, hj, hE1⟩ := HEx.out.some_ hf
                  have hT := (hE1.none_ coldF_done).2
                  injection hT with hT1 hT2
                  injection hT2 with hT2 _
                  obtain ⟨v3, hl3⟩ := HLz.out.turn (RngTo.step HM4.out (fun _ h => .inl h) HN5.out) hk1 hk2
                  have hT : turnColdK c os = (trimK { warmK y with ps := (warmK y).ps.set i ⟨⟨s, l, b⟩, 3, false, true, pn⟩, cold := m9 }, os ++ [⟨s, l, b⟩]) := Prod.ext hT1 hT2
                  obtain ⟨c3, hc3⟩ : ∃ c3, c3 = { warmK y with ps := (warmK y).ps.set i ⟨⟨s, l, b⟩, 3, false, true, pn⟩, cold := m9 } := ⟨_, rfl⟩
                  rw [← hc3] at hl3 hT
                  clear hc3 hk1 hk2 hf hj hE1 hT1 hT2
                  obtain ⟨w11, hw11⟩ : ∃ w11, w11 = w10.setCell ⟨g, 4, none⟩ (.int .i64 (m9 : Nat)) := ⟨_, rfl⟩
                  rw [← hw11] at hl3
                  have Hw11 := Lib.hid hw11
                  clear hw11
                  go_upto_block 4 with fail
                  rw [← Hw11.out]
                  clear yh fh y2 HN5
                  have HL11 := Lib.hid hl3; have HT := Lib.hid hT
                  obtain ⟨_, _, _, K3, hE3⟩ := trim_ends hl3.base
                  have HE3 := Lib.hid hE3
                  clear hl3 hT hE3 HLz
                  go_wp2_with fail
                  go_loopg [] K3 (fun k wr => ∃ cz vz, Ends trimF k cz (trimK c3) ∧ LoopR B g w9 wr (.slice (some ⟨pg, 0, none⟩) n cap) vo' (os ++ [⟨s, l, b⟩]) (warmK y) cz vz)
                  case atStart => exact ⟨c3, v3, HE3.out, HL11.out⟩
                  case round =>
                    obtain ⟨cz, vz, he, hl⟩ := hrel
                    obtain ⟨Az, nz, capz, rfl, Hnz, hncz, hcmz, hr⟩ := hl.rng.form
                    have HEz := Lib.hid he; have Hlz := Lib.hid hl; have Hrz := Lib.hid hr
                    have Hlenz : Hid (cz.ps.length ≤ 100000) := Lib.hid (by have := hl.len; have := HL2.out.len; have := Hn.out; omega)
                    obtain ⟨y0, y1, y2, y3, y4, y5, _⟩ := hl.rng.cells
                    obtain ⟨q, hq⟩ : ∃ q, cntK 3 cz.ps = q := ⟨_, rfl⟩
                    have Hq3 := Lib.hid hq
                    have Hcnt : Hid (∀ W, Mod (fun _ => False) wr W → Calls Try.prog 52 #[.agg #[.int .i64 cz.most, .int .i64 cz.target, .slice Az nz capz, .int .i64 (cz.hot : Int), .int .i64 (cz.cold : Int), .int .i64 (cz.test : Int)], .int .i64 3] W fun e w' => e = .returned (.int .i64 (q : Int)) ∧ Mod (fun _ => False) wr w') := Lib.hid (by
                      intro W hW
                      refine (rkCount_any 3 cz.most cz.target cz.hot cz.cold cz.test Az nz capz cz.ps W ((Hrz.out.new hW).fit) (by have := Hnz.out; have := Hlenz.out; omega)).mono ?_
                      rintro e w1 ⟨rfl, hm1⟩
                      rw [Hq3.out]
                      exact ⟨rfl, hW.trans hm1 (fun _ _ h => h)⟩)
                    clear he hl hr hq hncz hcmz
                    by_cases hgo : cz.most < (q : Int)
                    · have hgo2 : decide (cz.most < (q : Int)) = true := decide_eq_true hgo
                      obtain ⟨j, hj, hE1⟩ := HEz.out.some_ (trimF_some (by rw [Hq3.out]; exact hgo))
                      have Hj := Lib.hid hj; have HE1 := Lib.hid hE1
                      have Hte := Lib.hid (test_ends Hlz.out.base)
                      clear hj hE1
                      go_upto_region 21 with fail
                      go_region_with (first
                        | (go_at_call 52; refine (Hcnt.out _ (Mod.refl _ _).drew).mono ?_; rintro e w12 ⟨rfl, hm12⟩; have HL12 := Lib.hid (Hlz.out.new hm12); have z0 := HL12.out.rng.cells.1; clear hm12))
                      all_goals (
                        go_wp2_with fail
                        refine (rkTurnTest_any B g _ vo' cz _ w12 HL12.out.rng HL12.out.base Hlenz.out (Nat.le_trans HB9.out HL12.out.mod.size)).mono ?_
                        rintro e w13 ⟨rfl, ht⟩
                        obtain ⟨v1, hl1⟩ := HL12.out.turn ht Hte.out.1.base Hte.out.1.len
                        have HL13 := Lib.hid hl1
                        clear ht hl1
                        go_wp2_with fail
                        go_roundg (gk - 1)
                        case measure => have := Hj.out; omega
                        case rel =>
                          have e1 : gk - 1 = j := by have := Hj.out; omega
                          rw [e1]
                          exact ⟨_, v1, HE1.out, HL13.out⟩)
                    · have hgo2 : decide (cz.most < (q : Int)) = false := decide_eq_false hgo
                      have He := (HEz.out.none_ (trimF_none (by rw [Hq3.out]; exact hgo))).2
                      have HEe := Lib.hid He
                      clear He
                      go_upto_region 21 with fail
                      go_region_with (first
                        | (go_at_call 52; refine (Hcnt.out _ (Mod.refl _ _).drew).mono ?_; rintro e w12 ⟨rfl, hm12⟩; have HL12 := Lib.hid (Hlz.out.new hm12); have z0 := HL12.out.rng.cells.1; clear hm12))
                      all_goals (
                        go_wp2_with fail
                        refine bodyPost_ret (results_none rfl _ _ _) rfl ?_
                        refine ⟨rfl, ?_⟩
                        rw [HT.out, HEe.out]
                        have hs := HL3.out.mod.size
                        exact Rng_end HL3.out.mod HL3.out.own Hm9.out (fun k hk => (Ho9.out k hk).imp id (fun h => Nat.le_trans hs h)) HL12.out.done)| false =>
                  obtain ⟨k1, k2, k3⟩ := (lookC_goes HL3.out.base Hp'.out rfl HPN.out rfl rfl).2 rfl
                  have hf := k3 y os Hfy.out rfl
                  rw [Hi.out] at k1 k2 hf
                  have K1 := Lib.hid k1; have K2 := Lib.hid k2; have Hf9 := Lib.hid hf
                  clear k1 k2 k3 hf
                  go_wp2_with fail
                  refine (rkGoes_any B g _ vo' (warmK y) (os ++ [⟨s, l, b⟩]) i w9 Hr9.out HL3.out.base Hlt.out (by have := HL2.out.len; have := Hn.out; omega) HB9.out).mono ?_
                  rintro e w10 ⟨rfl, ht⟩
                  have Ht := Lib.hid ht
                  clear ht z5
                  obtain ⟨j, hj, hE1⟩ := HEx.out.some_ Hf9.out
                  have hT := (hE1.none_ coldF_done).2
                  injection hT with hT1 hT2
                  injection hT2 with hT2 _
                  obtain ⟨v3, hl3⟩ := HLz.out.turn Ht.out K1.out K2.out
                  have hT : turnColdK c os = (trimK (goesK (warmK y) i), os ++ [⟨s, l, b⟩]) := Prod.ext hT1 hT2
                  obtain ⟨c3, hc3⟩ : ∃ c3, c3 = goesK (warmK y) i := ⟨_, rfl⟩
                  rw [← hc3] at hl3 hT
                  clear hc3 hj hE1 hT1 hT2
                  have HL11 := Lib.hid hl3; have HT := Lib.hid hT
                  obtain ⟨_, _, _, K3, hE3⟩ := trim_ends hl3.base
                  have HE3 := Lib.hid hE3
                  clear hl3 hT hE3 HLz
                  go_wp2_with fail
                  go_loopg [] K3 (fun k wr => ∃ cz vz, Ends trimF k cz (trimK c3) ∧ LoopR B g w9 wr (.slice (some ⟨pg, 0, none⟩) n cap) vo' (os ++ [⟨s, l, b⟩]) (warmK y) cz vz)
                  case atStart => exact ⟨c3, v3, HE3.out, HL11.out⟩
                  case round =>
                    obtain ⟨cz, vz, he, hl⟩ := hrel
                    obtain ⟨Az, nz, capz, rfl, Hnz, hncz, hcmz, hr⟩ := hl.rng.form
                    have HEz := Lib.hid he; have Hlz := Lib.hid hl; have Hrz := Lib.hid hr
                    have Hlenz : Hid (cz.ps.length ≤ 100000) := Lib.hid (by have := hl.len; have := HL2.out.len; have := Hn.out; omega)
                    obtain ⟨y0, y1, y2, y3, y4, y5, _⟩ := hl.rng.cells
                    obtain ⟨q, hq⟩ : ∃ q, cntK 3 cz.ps = q := ⟨_, rfl⟩
                    have Hq3 := Lib.hid hq
                    have Hcnt : Hid (∀ W, Mod (fun _ => False) wr W → Calls Try.prog 52 #[.agg #[.int .i64 cz.most, .int .i64 cz.target, .slice Az nz capz, .int .i64 (cz.hot : Int), .int .i64 (cz.cold : Int), .int .i64 (cz.test : Int)], .int .i64 3] W fun e w' => e = .returned (.int .i64 (q : Int)) ∧ Mod (fun _ => False) wr w') := Lib.hid (by
                      intro W hW
                      refine (rkCount_any 3 cz.most cz.target cz.hot cz.cold cz.test Az nz capz cz.ps W ((Hrz.out.new hW).fit) (by have := Hnz.out; have := Hlenz.out; omega)).mono ?_
                      rintro e w1 ⟨rfl, hm1⟩
                      rw [Hq3.out]
                      exact ⟨rfl, hW.trans hm1 (fun _ _ h => h)⟩)
                    clear he hl hr hq hncz hcmz
                    by_cases hgo : cz.most < (q : Int)
                    · have hgo2 : decide (cz.most < (q : Int)) = true := decide_eq_true hgo
                      obtain ⟨j, hj, hE1⟩ := HEz.out.some_ (trimF_some (by rw [Hq3.out]; exact hgo))
                      have Hj := Lib.hid hj; have HE1 := Lib.hid hE1
                      have Hte := Lib.hid (test_ends Hlz.out.base)
                      clear hj hE1
                      go_upto_region 21 with fail
                      go_region_with (first
                        | (go_at_call 52; refine (Hcnt.out _ (Mod.refl _ _).drew).mono ?_; rintro e w12 ⟨rfl, hm12⟩; have HL12 := Lib.hid (Hlz.out.new hm12); have z0 := HL12.out.rng.cells.1; clear hm12))
                      all_goals (
                        go_wp2_with fail
                        refine (rkTurnTest_any B g _ vo' cz _ w12 HL12.out.rng HL12.out.base Hlenz.out (Nat.le_trans HB9.out HL12.out.mod.size)).mono ?_
                        rintro e w13 ⟨rfl, ht⟩
                        obtain ⟨v1, hl1⟩ := HL12.out.turn ht Hte.out.1.base Hte.out.1.len
                        have HL13 := Lib.hid hl1
                        clear ht hl1
                        go_wp2_with fail
                        go_roundg (gk - 1)
                        case measure => have := Hj.out; omega
                        case rel =>
                          have e1 : gk - 1 = j := by have := Hj.out; omega
                          rw [e1]
                          exact ⟨_, v1, HE1.out, HL13.out⟩)
                    · have hgo2 : decide (cz.most < (q : Int)) = false := decide_eq_false hgo
                      have He := (HEz.out.none_ (trimF_none (by rw [Hq3.out]; exact hgo))).2
                      have HEe := Lib.hid He
                      clear He
                      go_upto_region 21 with fail
                      go_region_with (first
                        | (go_at_call 52; refine (Hcnt.out _ (Mod.refl _ _).drew).mono ?_; rintro e w12 ⟨rfl, hm12⟩; have HL12 := Lib.hid (Hlz.out.new hm12); have z0 := HL12.out.rng.cells.1; clear hm12))
                      all_goals (
                        go_wp2_with fail
                        refine bodyPost_ret (results_none rfl _ _ _) rfl ?_
                        refine ⟨rfl, ?_⟩
                        rw [HT.out, HEe.out]
                        have hs := HL3.out.mod.size
                        exact Rng_end HL3.out.mod HL3.out.own Hm9.out (fun k hk => (Ho9.out k hk).imp id (fun h => Nat.le_trans hs h)) HL12.out.done)
        · have g2 : ((kd : Int) == 2) = false := by simp [hk2]
          have H2 := Lib.hid hk2
          clear hk2 hkd
          go_wp2_with fail
          refine (RngV.on_ i HL3.out.rng (by exact Hlt.out) (by have := HL3.out.len; have := Hn.out; omega)).mono ?_
          obtain ⟨m9, hm9⟩ : ∃ m, onK (warmK y).ps.length i = m := ⟨_, rfl⟩
          rw [hm9]
          rintro e w9 ⟨rfl, rfl⟩
          have hn5 : RngTo B g w9 (w9.setCell ⟨g, 4, none⟩ (.int .i64 (m9 : Nat))) (.slice (some ⟨pg, 0, none⟩) n cap) vo { warmK y with cold := m9 } os := RngTo.num HL3.out.rng 4 _ rfl rfl
          obtain ⟨W9, hW9⟩ : ∃ W9, W9 = w9.setCell ⟨g, 4, none⟩ (.int .i64 (m9 : Nat)) := ⟨_, rfl⟩
          rw [← hW9] at hn5
          have hcl : m9 < max (warmK y).ps.length 1 := by rw [← hm9, ← Hi.out]; exact onK_lt HL3.out.base.cold
          have htu := turn_hands HL3.out.base (a := (warmK y).hot) (b := m9) (t := (warmK y).test) HL3.out.base.hot hcl HL3.out.base.test
          have HF9 : Hid (({ warmK y with cold := m9 } : ClkN).ps.any isFree = true) := Lib.hid (by exact loose_is_free Hq.out)
          obtain ⟨v9, hl9⟩ := HL3.out.turn hn5 htu.base (Nat.le_refl _)
          have HL9 := Lib.hid hl9
          have Hf9 : Hid (coldF (y, os, false) = some ({ warmK y with cold := m9 }, os, false)) := Lib.hid (by rw [coldF_on Hfy.out (by rw [Hi.out]; exact Hp.out) (.inl H2.out), Hi.out, hm9])
          obtain ⟨j, hj, hE1⟩ := HEx.out.some_ Hf9.out
          have HW9 := Lib.hid hW9
          clear hn5 hW9 hm9 hcl htu hl9 z3 z6
          have Hj := Lib.hid hj; have HE1 := Lib.hid hE1
          clear hj hE1
          go_wp2_with fail
          go_roundg (go1 - 1)
          case measure => have := Hj.out; omega
          case rel =>
            have e1 : go1 - 1 = j := by have := Hj.out; omega
            rw [e1, ← HW9.out]
            exact ⟨_, v9, HE1.out, HF9.out, HL9.out⟩
end Go.Proofs.Ythogflfjdfcpeaa

/- The document's Drop. -/
namespace Go.Proofs.Ythogflfjdfcpeaa
open Go.RowKit

theorem ring_new {W w1 : World} {vp : Value} {c : ClkN} (ho : OwnP (W.heap.size + 2) w1 30 vp c.ps) (hm : Mod (fun _ => False) W w1) :
    RngV W.heap.size w1.heap.size (w1.alloc (.cells #[.int .i64 c.most, .int .i64 c.target, vp, .int .i64 (c.hot : Int), .int .i64 (c.cold : Int), .int .i64 (c.test : Int), .slice none 0 0] 70)) vp (.slice none 0 0) c [] ∧ W.heap.size ≤ w1.heap.size :=
  ⟨⟨Blk.new _ _ _, OwnP.mono (OwnK.alloc ho _) (by omega), OwnK.nil _ _ _ _⟩, hm.size⟩
/-- What is answered is stored: all is new. -/
theorem rk_end {w W wq : World} {g g2 : Nat} {cs : Array Value} {c : ClkN} {os : List KeyN} {vp vo : Value} {b : Bool} (hg2 : w.heap.size + 2 = g2) (hzW : W.heap.size = w.heap.size + 3) (hmW : Mod (fun _ => False) w W) (hr : Blk W g2 25 cs)
    (hc : RngV W.heap.size g wq vp vo c os) (hm : Mod (fun k => W.heap.size ≤ k) W wq) :
    Blk wq g2 25 cs ∧ ∀ w', Mod (fun k => k = g2) wq w' → CkEnd w w' c b (.returned (.tuple #[.agg #[.int .i64 c.most, .int .i64 c.target, vp, .int .i64 (c.hot : Int), .int .i64 (c.cold : Int), .int .i64 (c.test : Int)], .bool b])) := by
  refine ⟨hm.blk hr (by omega), fun w' hm' => ⟨vp, rfl, ?_, ?_⟩⟩
  · exact OwnK.mono (OwnK.modS hc.ps hm' (fun k hk e => by have := (hc.lt k hk).1; omega)) (by omega)
  · have h1 : Mod (fun k => k = g2) W w' := (hm.mono (fun i hi h => by omega)).trans hm' (fun _ _ h => h)
    exact hmW.trans h1 (fun i hi h => by omega)
set_option maxHeartbeats 4000000 in
set_option maxRecDepth 100000 in
theorem rkDrop_any (c : ClkN) (k : KeyN) (A : Option Addr) (n cap : Nat) (w : World) (hs : RdsP w w.heap.size A n c.ps) (hn : n ≤ 100000) (hb : BaseK c) :
    Calls Try.prog 38 #[.agg #[.int .i64 c.most, .int .i64 c.target, .slice A n cap, .int .i64 (c.hot : Int), .int .i64 (c.cold : Int), .int .i64 (c.test : Int)], .agg #[.int .i64 k.s, .int .i64 k.l, .int .i64 k.b]] w fun e w' => CkEnd w w' (dropK c k).1 (dropK c k).2 e := by
  obtain ⟨W, hW, hmW, hbW, hkW, hrW, hzW⟩ := three_boxes w #[.int .i64 c.most, .int .i64 c.target, .slice A n cap, .int .i64 (c.hot : Int), .int .i64 (c.cold : Int), .int .i64 (c.test : Int)] #[.int .i64 k.s, .int .i64 k.l, .int .i64 k.b] #[.int .i64 0, .int .i64 0, .slice none 0 0, .int .i64 0, .int .i64 0, .int .i64 0]
  obtain ⟨g0, hg0⟩ : ∃ g, g = w.heap.size := ⟨_, rfl⟩
  obtain ⟨g1, hg1⟩ : ∃ g, g = w.heap.size + 1 := ⟨_, rfl⟩
  obtain ⟨g2, hg2⟩ : ∃ g, g = w.heap.size + 2 := ⟨_, rfl⟩
  rw [← hg0] at hbW
  rw [← hg1] at hkW
  rw [← hg2] at hrW
  have y0 := hbW.cell 0
  have y1 := hbW.cell 1
  have y2 := hbW.cell 2
  have y3 := hbW.cell 3
  have y4 := hbW.cell 4
  have y5 := hbW.cell 5
  simp at y0 y1 y2 y3 y4 y5
  have Hs := Lib.hid (hs.new hmW).fit; have Hl := Lib.hid hs.len
  have HW := Lib.hid hW; have HmW := Lib.hid hmW; have HbW := Lib.hid hbW; have HkW := Lib.hid hkW; have HrW := Lib.hid hrW; have Hg0 := Lib.hid hg0; have Hg1 := Lib.hid hg1; have Hg2 := Lib.hid hg2; have HzW := Lib.hid hzW; have Hn := Lib.hid hn
  have Hb := Lib.hid hb
  clear hb
  clear hs hW hmW hbW hkW hrW hg0 hg1 hg2 hzW hn
  go_enter Try.func38, Try.ntmps38
  go_upto_region 1 with fail
  rw [← HW.out, ← Hg2.out, ← Hg1.out, ← Hg0.out]
  go_wp2_with fail
  refine (rkCopied_any c A n cap W Hs.out (by have := Hn.out; omega)).mono ?_
  rintro e w1 ⟨vp, rfl, ho1, hm1⟩
  obtain ⟨A1, c1, rfl, hnc1, hcm1, hrd1⟩ := OwnP.form ho1
  obtain ⟨n1, hn1⟩ : ∃ n1, c.ps.length = n1 := ⟨_, rfl⟩
  rw [hn1] at ho1 hnc1 hrd1 ⊢
  dsimp only [clkC]
  obtain ⟨hr3, hsz3⟩ := ring_new (c := c) ho1 hm1
  obtain ⟨g3, hg3⟩ : ∃ g, g = w1.heap.size := ⟨_, rfl⟩
  obtain ⟨W3, hW3⟩ : ∃ W3, W3 = w1.alloc (.cells #[.int .i64 c.most, .int .i64 c.target, .slice A1 n1 c1, .int .i64 (c.hot : Int), .int .i64 (c.cold : Int), .int .i64 (c.test : Int), .slice none 0 0] 70) := ⟨_, rfl⟩
  rw [← hg3, ← hW3] at hr3
  rw [← hg3] at hsz3
  have hm3 : Mod (fun _ => False) W W3 := by rw [hW3]; exact hm1.alloc _
  have Hr3 := Lib.hid hr3; have Hm3 := Lib.hid hm3; have HW3 := Lib.hid hW3; have Hg3 := Lib.hid hg3; have Hsz3 := Lib.hid hsz3; have Hn1 := Lib.hid hn1
  clear y0 y1 y2 y3 y4 y5 hr3 hm3 hW3 hg3 hsz3 hn1 ho1 hm1 hnc1 hcm1 hrd1
  go_upto_region 2 with fail
  rw [← HW3.out, ← Hg3.out]
  have hb3 := Hm3.out.blk HbW.out (fun h => h)
  have hk3 := Hm3.out.blk HkW.out (fun h => h)
  have y0 := hb3.cell 0
  have y1 := hb3.cell 1
  have y2 := hb3.cell 2
  have y3 := hb3.cell 3
  have y4 := hb3.cell 4
  have y5 := hb3.cell 5
  have z0 := hk3.cell 0
  have z1 := hk3.cell 1
  have z2 := hk3.cell 2
  simp at y0 y1 y2 y3 y4 y5 z0 z1 z2
  clear hb3 hk3
  go_wp2_with fail
  refine (rkFind_any c k A n cap W3 (Hs.out.new Hm3.out).fit (by have := Hn.out; omega)).mono ?_
  obtain ⟨z, hz⟩ : ∃ z, placeK k c.ps = z := ⟨_, rfl⟩
  rw [hz]
  rintro e w4 ⟨rfl, hm4⟩
  have Hr4 := Lib.hid (Hr3.out.new hm4)
  have Hm4 := Lib.hid (Hm3.out.trans hm4 (fun _ _ h => h))
  have Hg34 : Hid (W.heap.size ≤ g3) := Hsz3
  clear hm4 y0 y1 y2 y3 y4 y5 z0 z1 z2
  unfold placeK at hz
  cases hf : findK k c.ps with
  | none =>
    rw [hf] at hz
    have gz : z < 0 := by simp only at hz; omega
    have Hf := Lib.hid hf
    have HM := Lib.hid (Hm4.out.mono (S' := fun k => W.heap.size ≤ k) (fun _ _ h => h.elim))
    clear hf hz
    have hend := rk_end (b := false) Hg2.out.symm HzW.out HmW.out HrW.out Hr4.out HM.out
    have Hb9 := Lib.hid hend.1; have HE9 := Lib.hid hend.2
    have q0 := hend.1.cell 0
    have q1 := hend.1.cell 1
    have q2 := hend.1.cell 2
    have q3 := hend.1.cell 3
    have q4 := hend.1.cell 4
    have q5 := hend.1.cell 5
    have p0 := hend.1.frozen 0
    have p1 := hend.1.frozen 1
    have p2 := hend.1.frozen 2
    have p3 := hend.1.frozen 3
    have p4 := hend.1.frozen 4
    have p5 := hend.1.frozen 5
    simp at q0 q1 q2 q3 q4 q5
    obtain ⟨y0, y1, y2, y3, y4, y5, _⟩ := Hr4.out.cells
    clear hend
    go_wp2_with fail
    refine bodyPost_ret (v := .tuple #[.agg #[.int .i64 c.most, .int .i64 c.target, .slice A1 n1 c1, .int .i64 (c.hot : Int), .int .i64 (c.cold : Int), .int .i64 (c.test : Int)], .bool false]) (by have h := Hb9.out.six (.int .i64 c.most) (.int .i64 c.target) (.slice A1 n1 c1) (.int .i64 (c.hot : Int)) (.int .i64 (c.cold : Int)) (.int .i64 (c.test : Int)); simp [results, Try.results38, go_sem, h.1, h.2.1, h.2.2.1, h.2.2.2.1, h.2.2.2.2.1, h.2.2.2.2.2.1]) rfl ?_
    rw [drop_no Hf.out]
    exact HE9.out _ (Mod.six_one _ _ _ _ _ _ _ _)
  | some i =>
    rw [hf] at hz
    simp only at hz
    subst hz
    obtain ⟨p, hp, _⟩ := findK_some hf
    have hlt := (List.getElem?_eq_some_iff.1 hp).1
    have gz : ¬ (i : Int) < 0 := by omega
    have Hf := Lib.hid hf; have Hp := Lib.hid hp; have Hlt := Lib.hid hlt
    clear hf hp hlt
    go_wp2_with fail
    refine (rkGoes_any W.heap.size g3 _ _ c [] i w4 Hr4.out Hb.out Hlt.out (by have := Hl.out; have := Hn.out; omega) Hm4.out.size).mono ?_
    rintro e w5 ⟨rfl, v5, h1, h2, h3⟩
    obtain ⟨A5, n5, c5, rfl, _, _, _, _⟩ := h1.form
    have Hr5 := Lib.hid h1
    have HM : Hid (Mod (fun k => W.heap.size ≤ k) W w5) := Lib.hid ((Hm4.out.mono (S' := fun k => W.heap.size ≤ k) (fun _ _ h => h.elim)).trans h2 (fun j hj h => by
      rcases h with h | h
      · have := Hg34.out; omega
      · exact (Hr4.out.lt j h).1))
    clear h1 h2 h3
    obtain ⟨cg, hcg⟩ : ∃ cg, goesK c i = cg := ⟨_, rfl⟩
    have Hcg := Lib.hid hcg
    rw [hcg] at Hr5
    clear hcg
    have hend := rk_end (b := true) Hg2.out.symm HzW.out HmW.out HrW.out Hr5.out HM.out
    have Hb9 := Lib.hid hend.1; have HE9 := Lib.hid hend.2
    have q0 := hend.1.cell 0
    have q1 := hend.1.cell 1
    have q2 := hend.1.cell 2
    have q3 := hend.1.cell 3
    have q4 := hend.1.cell 4
    have q5 := hend.1.cell 5
    have p0 := hend.1.frozen 0
    have p1 := hend.1.frozen 1
    have p2 := hend.1.frozen 2
    have p3 := hend.1.frozen 3
    have p4 := hend.1.frozen 4
    have p5 := hend.1.frozen 5
    simp at q0 q1 q2 q3 q4 q5
    obtain ⟨y0, y1, y2, y3, y4, y5, _⟩ := Hr5.out.cells
    clear hend
    go_wp2_with fail
    refine bodyPost_ret (v := .tuple #[.agg #[.int .i64 cg.most, .int .i64 cg.target, .slice A5 n5 c5, .int .i64 (cg.hot : Int), .int .i64 (cg.cold : Int), .int .i64 (cg.test : Int)], .bool true]) (by have h := Hb9.out.six (.int .i64 cg.most) (.int .i64 cg.target) (.slice A5 n5 c5) (.int .i64 (cg.hot : Int)) (.int .i64 (cg.cold : Int)) (.int .i64 (cg.test : Int)); simp [results, Try.results38, go_sem, h.1, h.2.1, h.2.2.1, h.2.2.2.1, h.2.2.2.2.1, h.2.2.2.2.2.1]) rfl ?_
    rw [drop_yes Hf.out, Hcg.out]
    exact HE9.out _ (Mod.six_one _ _ _ _ _ _ _ _)
end Go.Proofs.Ythogflfjdfcpeaa
