/- ClokBounds' walk. -/
import Derived.Test.YthogflfjdfcpeaaMq1
import Derived.Test.YthogflfjdfcpeaaMq9
import Derived.Test.YthogflfjdfcpeaaMq2
namespace Go.Proofs.Ythogflfjdfcpeaa
open Go.RowKit

/-- Three boxes: a name, and a clock twice. -/
theorem name_clocks (w : World) (ks cs : Array Value) : ∃ W, W = ((w.alloc (.cells ks 28)).alloc (.cells cs 25)).alloc (.cells cs 25) ∧ Mod (fun _ => False) w W ∧ Blk W w.heap.size 28 ks ∧ Blk W (w.heap.size + 1) 25 cs ∧ Blk W (w.heap.size + 2) 25 cs ∧ W.heap.size = w.heap.size + 3 := by
  refine ⟨_, rfl, (((Mod.refl _ _).alloc _).alloc _).alloc _, ((Blk.new _ _ _).alloc _).alloc _, ?_, ?_, by simp⟩
  · have h := (Blk.new (w.alloc (.cells ks 28)) 25 cs).alloc (.cells cs 25)
    simpa using h
  · have h := Blk.new ((w.alloc (.cells ks 28)).alloc (.cells cs 25)) 25 cs
    simpa using h
/-- What a step of this law's came to. -/
def StepR (i : Nat) (o : Int) (c c' : ClkN) (k : KeyN) (out : List KeyN) (ok : Bool) : Prop :=
  (ok = true → StepOk c c' k out ∧ PinsLe ((i + 1 : Nat) : Int) c') ∧ (ok = false → o < 4 → c.ps.all pinnedP = true)
theorem new_clk {B g : Nat} {W : World} {m M : Int} (e : (newK m).most = M) (h : Blk W g 25 #[.int .i64 M, .int .i64 1, .slice none 0 0, .int .i64 0, .int .i64 0, .int .i64 0]) : ClkV B g W (.slice none 0 0) (newK m) := by
  have e2 : clkC (newK m) (.slice none 0 0) = #[.int .i64 M, .int .i64 1, .slice none 0 0, .int .i64 0, .int .i64 0, .int .i64 0] := by
    unfold clkC
    rw [e]
    rfl
  exact ⟨by rw [e2]; exact h, OwnP.nil _ _ _⟩
set_option maxHeartbeats 60000000 in
set_option maxRecDepth 100000 in
theorem ckbounds_walk (a0 : Int) (A1 : Option Addr) (n1 cp1 : Nat) (zs : List Int) (w : World) (hs : SeesI .i64 w w.heap.size A1 n1 zs) (hz : ∀ x ∈ zs, FitI x) :
    Calls Try.prog 6 #[.int .i64 a0, .slice A1 n1 cp1] w fun e w' => e = .returned (.bool true) ∧ Mod (fun _ => False) w w' := by
  obtain ⟨o0, ho0⟩ : ∃ x, a0 % 8 = x := ⟨_, rfl⟩
  have m0 : bits .and .i64 a0 7 = o0 := by rw [mask7, ho0]
  have b0 : 0 ≤ o0 := by omega
  have b7 : o0 ≤ 7 := by omega
  obtain ⟨M, hM⟩ : ∃ M, o0 + 1 = M := ⟨_, rfl⟩
  have hMb : 1 ≤ M ∧ M ≤ 8 := by omega
  have HMb := Lib.hid hMb
  have Hs := Lib.hid hs; have Hz := Lib.hid hz
  have eM : (newK M).most = M := by show min (max M 1) 1000 = M; omega
  have HeM := Lib.hid eM
  obtain ⟨N, hN⟩ : ∃ N, min n1 150 = N := ⟨_, rfl⟩
  have HN := Lib.hid hN
  clear ho0 hs hz hMb eM hN
  go_enter Try.func6, Try.ntmps6
  go_wp2_with fail
  refine (ckNew_any M w).mono ?_
  rintro e w1 ⟨rfl, hm1⟩
  rw [HeM.out]
  obtain ⟨W1, hW1, hmW1, hbW1, _⟩ := Blk.boxed w1 25 #[.int .i64 M, .int .i64 1, .slice none 0 0, .int .i64 0, .int .i64 0, .int .i64 0]
  obtain ⟨gc, hgc⟩ : ∃ g, g = w1.heap.size := ⟨_, rfl⟩
  rw [← hgc] at hbW1
  have Hgc : Hid (w.heap.size ≤ gc) := Lib.hid (by have := hm1.size; omega)
  have Hc1 : Hid (ClkV w.heap.size gc W1 (.slice none 0 0) (newK M)) := Lib.hid (new_clk HeM.out hbW1)
  have Hm1 := Lib.hid (hm1.trans hmW1 (fun _ _ h => h))
  have HW1 := Lib.hid hW1; have Hg := Lib.hid hgc
  clear hm1 hW1 hmW1 hbW1 hgc m0 b0 b7 hM
  go_upto_region 3 with fail
  rw [← HW1.out, ← Hg.out]
  go_wp2_with fail
  go_loopg [6] N (fun k s6 wr => ∃ (i : Nat) (c : ClkN) (vp : Value), i + k = N ∧ s6 = .int .i64 (i : Int) ∧ Good c ∧ c.most = M ∧ PinsLe (i : Int) c ∧ ClkV w.heap.size gc wr vp c ∧ Mod (fun _ => False) w wr)
  case atStart => exact ⟨0, newK M, _, by omega, rfl, good_new M, HeM.out, pinsLe_new M, Hc1.out, Hm1.out⟩
  case round =>
    obtain ⟨i, c, vp, hik, rfl, hgd, hmo, hpi, hc, hm⟩ := hrel
    have Hik := Lib.hid hik; have Hgd := Lib.hid hgd; have Hmo := Lib.hid hmo; have Hpi := Lib.hid hpi; have Hc := Lib.hid hc; have Hm := Lib.hid hm
    obtain ⟨go1, rfl⟩ : ∃ go1 : Nat, go1 = gk := ⟨_, rfl⟩
    clear hik hgd hmo hpi hc hm Hc1 Hm1 HW1 Hg
    by_cases hin : i < N
    · have b1 : (i : Int) < (n1 : Int) := by have := HN.out; omega
      have b2 : (i : Int) < 150 := by have := HN.out; omega
      obtain ⟨ad, x, rfl, hx, _⟩ := Hs.out.at_ (i := i) (by omega) (Nat.le_refl _) (Mod.refl (fun _ => False) w) (fun _ _ h => h)
      have Hx : Hid (∀ W, Mod (fun _ => False) w W → W.cell? (ad.add i) = some (.int .i64 x)) := Lib.hid (fun W hW => by
        obtain ⟨ad', x', e, hx', hc⟩ := Hs.out.at_ (i := i) (by omega) (Nat.le_refl _) hW (fun _ _ h => h)
        injection e with e
        subst e
        rw [hx] at hx'
        injection hx' with hx'
        rw [hx']
        exact hc)
      have hfx := Hz.out x (List.mem_of_getElem? hx)
      have hfx8 : FitI (x / 8) := by have := hfx.out; constructor <;> omega
      obtain ⟨k, hk⟩ : ∃ k, keyN (x / 8) = k := ⟨_, rfl⟩
      obtain ⟨o, ho⟩ : ∃ o, x % 8 = o := ⟨_, rfl⟩
      have mo : bits .and .i64 x 7 = o := by rw [mask7, ho]
      have ob : 0 ≤ o ∧ o < 8 := by omega
      have Hk := Lib.hid hk; have Hob := Lib.hid ob; have Hfx := Lib.hid hfx
      obtain ⟨A, n, cap, rfl, Hnn, _, _, _⟩ := Hc.out.form
      obtain ⟨y0, y1, y2, y3, y4, y5⟩ := Hc.out.cells
      have xc := Hx.out _ Hm.out
      clear hx hk ho ob hfx
      go_wp2_with fail
      refine (ckKey_any (x / 8) wr hfx8).mono ?_
      rw [Hk.out]
      rintro e w3 ⟨rfl, hm3⟩
      have hc3 := Hc.out.new hm3
      clear xc y0 y1 y2 y3 y4 y5
      obtain ⟨y0, y1, y2, y3, y4, y5⟩ := hc3.cells
      obtain ⟨W4, hW4, hm4, hk4, hw4, hd4, hz4⟩ := name_clocks w3 #[.int .i64 k.s, .int .i64 k.l, .int .i64 k.b] #[.int .i64 c.most, .int .i64 c.target, .slice A n cap, .int .i64 (c.hot : Int), .int .i64 (c.cold : Int), .int .i64 (c.test : Int)]
      obtain ⟨gky, hgk⟩ : ∃ g, g = w3.heap.size := ⟨_, rfl⟩
      obtain ⟨gw, hgw⟩ : ∃ g, g = w3.heap.size + 1 := ⟨_, rfl⟩
      obtain ⟨gd, hgd⟩ : ∃ g, g = w3.heap.size + 2 := ⟨_, rfl⟩
      rw [← hgk] at hk4
      rw [← hgw] at hw4
      rw [← hgd] at hd4
      have Hc4 := Lib.hid (hc3.new hm4)
      have Hv4 : Hid (OwnP w.heap.size W4 30 (.slice A n cap) c.ps) := Lib.hid (hc3.new hm4).ps
      have Hm4 := Lib.hid ((Hm.out.trans hm3 (fun _ _ h => h)).trans hm4 (fun _ _ h => h))
      have Hk4 := Lib.hid hk4; have Hw4 := Lib.hid hw4; have Hd4 := Lib.hid hd4; have HW4 := Lib.hid hW4; have Hgk := Lib.hid hgk; have Hgw := Lib.hid hgw; have Hgdd := Lib.hid hgd
      have Hgcl : Hid (gc < w3.heap.size) := Lib.hid hc3.blk.lt
      have Hlow : Hid (w.heap.size ≤ w3.heap.size) := Lib.hid (Hm.out.trans hm3 (fun _ _ h => h)).size
      clear hc3 hm3 hW4 hm4 hk4 hw4 hd4 hz4 hgk hgw hgd
      have ya : ∀ o j, (w3.alloc o).cell? ⟨gc, j, none⟩ = w3.cell? ⟨gc, j, none⟩ := fun o j => ((Mod.refl (fun _ => False) w3).alloc o).cell (a := ⟨gc, j, none⟩) Hgcl.out (fun h => h)
      have yb : ∀ o o2 j, ((w3.alloc o).alloc o2).cell? ⟨gc, j, none⟩ = w3.cell? ⟨gc, j, none⟩ := fun o o2 j => (((Mod.refl (fun _ => False) w3).alloc o).alloc o2).cell (a := ⟨gc, j, none⟩) Hgcl.out (fun h => h)
      go_upto_region 11 with fail
      rw [← HW4.out, ← Hgdd.out, ← Hgw.out, ← Hgk.out]
      clear y0 y1 y2 y3 y4 y5 ya yb
      have xc := Hx.out _ Hm4.out
      by_cases ho7 : o = 7
      · subst ho7
        go_wp2_with fail
        go_roundg (go1 - 1)
        case measure => have := Hik.out; omega
        case rel => exact ⟨i + 1, c, .slice A n cap, by have := Hik.out; omega, by go_num, Hgd.out, Hmo.out, Hpi.out.mono (by omega), Hc4.out, Hm4.out⟩
      · have Ho6 : Hid (o ≠ 7) := Lib.hid ho7
        clear ho7
        go_upto_block 2 with fail
        go_cut [9, 10] from 53 to 116 (fun s9 s10 wx => ∃ (c' : ClkN) (os : List KeyN) (ok : Bool) (vo vp' : Value), s9 = vo ∧ s10 = .bool ok ∧ StepR i o c c' k os ok ∧ ClkV w.heap.size gd wx vp' c' ∧ OwnK 3 w.heap.size wx 28 vo (os.map keyC) ∧ Mod (fun j => j = gd) W4 wx)
        case first =>
          obtain ⟨y0, y1, y2, y3, y4, y5⟩ := Hc4.out.cells
          obtain ⟨z0, z1, z2⟩ := Hk4.out.threeR
          have hl : o = 0 ∨ o = 1 ∨ o = 2 ∨ o = 3 ∨ o = 4 ∨ o = 5 ∨ o = 6 := by have := Hob.out; have := Ho6.out; omega
          have HlowW : Hid (w.heap.size ≤ W4.heap.size) := Lib.hid Hm4.out.size
          have hd := Hd4.out
          have d0 := hd.cell 0
          have d1 := hd.cell 1
          have d2 := hd.cell 2
          have d3 := hd.cell 3
          have d4 := hd.cell 4
          have d5 := hd.cell 5
          have f0 := hd.frozen 0
          have f1 := hd.frozen 1
          have f2 := hd.frozen 2
          have f3 := hd.frozen 3
          have f4 := hd.frozen 4
          have f5 := hd.frozen 5
          simp at d0 d1 d2 d3 d4 d5
          rcases hl with rfl | rfl | rfl | rfl | rfl | rfl | rfl
          · as_aux_lemma =>
              go_upto_region 16 with fail
              go_wp2_with fail
              obtain ⟨⟨c2, os, ok⟩, hea⟩ : ∃ r, admitK c k = r := ⟨_, rfl⟩
              refine (adm_call c c2 k os ok hea Hgd.out Hc4.out).mono ?_
              rintro e w5 ⟨vo, A5, n5, c5, rfl, h1, h2, h3⟩
              obtain ⟨B5, n6, c6, rfl, _⟩ := OwnK.formN h2
              have hsr : StepR i 0 c c2 k os ok := ⟨fun e => by
                subst e
                have h5 := step_admit (k := k) Hgd.out (by rw [hea])
                rw [hea] at h5
                have h6 := pins_admit (k := k) Hgd.out Hpi.out (by omega)
                rw [hea] at h6
                exact ⟨h5, h6.mono (by omega)⟩, fun e _ => by
                subst e
                exact no_pinned (k := k) Hgd.out (by rw [hea])⟩
              dsimp only [clkC]
              clear d0 d1 d2 d3 d4 d5 f0 f1 f2 f3 f4 f5 hd
              have hd5 := h3.blk Hd4.out (fun h => h)
              have d0 := hd5.cell 0
              have d1 := hd5.cell 1
              have d2 := hd5.cell 2
              have d3 := hd5.cell 3
              have d4 := hd5.cell 4
              have d5 := hd5.cell 5
              have f0 := hd5.frozen 0
              have f1 := hd5.frozen 1
              have f2 := hd5.frozen 2
              have f3 := hd5.frozen 3
              have f4 := hd5.frozen 4
              have f5 := hd5.frozen 5
              simp at d0 d1 d2 d3 d4 d5
              have hko := clk_over (W := w) c2 rfl hd5 (by have := Hgdd.out; have := Hlow.out; omega) h1 (by have := HlowW.out; omega) (Hm4.out.trans h3 (fun _ _ h => h))
              have hk2 : OwnK 3 w.heap.size _ 28 (.slice B5 n6 c6) (os.map keyC) := OwnK.mono (OwnK.modS h2 (Mod.six_one w5 gd (.int .i64 c2.most) (.int .i64 c2.target) (.slice A5 n5 c5) (.int .i64 (c2.hot : Int)) (.int .i64 (c2.cold : Int)) (.int .i64 (c2.test : Int))) (fun j hj e => own_blk_ne h2.2 hd5 (by decide) (by rw [hj, e]))) HlowW.out
              have hmd : Mod (fun j => j = gd) W4 _ := (h3.mono (fun _ _ h => h.elim)).trans (Mod.six_one w5 gd (.int .i64 c2.most) (.int .i64 c2.target) (.slice A5 n5 c5) (.int .i64 (c2.hot : Int)) (.int .i64 (c2.cold : Int)) (.int .i64 (c2.test : Int))) (fun _ _ h => h)
              obtain ⟨W5, hW5⟩ : ∃ W5, W5 = (((((w5.setCell ⟨gd, 0, none⟩ (.int .i64 c2.most)).setCell ⟨gd, 1, none⟩ (.int .i64 c2.target)).setCell ⟨gd, 2, none⟩ (.slice A5 n5 c5)).setCell ⟨gd, 3, none⟩ (.int .i64 (c2.hot : Int))).setCell ⟨gd, 4, none⟩ (.int .i64 (c2.cold : Int))).setCell ⟨gd, 5, none⟩ (.int .i64 (c2.test : Int)) := ⟨_, rfl⟩
              rw [← hW5] at hko hk2 hmd
              have HcD := Lib.hid hko.1; have HkD := Lib.hid hk2; have HmD := Lib.hid hmd; have HW5 := Lib.hid hW5; have Hsr := Lib.hid hsr; have Hea := Lib.hid hea
              have HkW := Lib.hid (hmd.blk Hk4.out (by have := Hgk.out; have := Hgdd.out; omega))
              clear hko hk2 hmd hW5 hsr hea h1 h2 h3 hd5
              go_upto_region 17 with fail
              rw [← HW5.out]
              clear d0 d1 d2 d3 d4 d5 f0 f1 f2 f3 f4 f5 y0 y1 y2 y3 y4 y5 z0 z1 z2
              cases ok with
              | false =>
                go_quiet (fail)
                go_wp2_with fail
                go_meet
                exact ⟨c2, os, false, _, _, rfl, rfl, Hsr.out, HcD.out.drewN _, HkD.out.mod ((Mod.refl _ _).drewN _), HmD.out.drewN _⟩
              | true =>
                have hc2 := admit_yes (k := k) Hgd.out (by rw [Hea.out])
                rw [Hea.out] at hc2
                obtain ⟨j, p, hf, hp, _, hr⟩ := hc2.found
                have Hf := Lib.hid hf; have Hp := Lib.hid hp
                have hk3 : ((p.kind : Int) == 3) = false := by have := (resi_of (hc2.good.base.ok_at hp)).1 hr; simpa using this
                obtain ⟨pg, n7, cap7, e7, Hn7, _, _, hin7, _⟩ := HcD.out.at_ hp
                injection e7 with e71 e72 e73
                subst e71 e72 e73
                have hat7 : (⟨pg, 0, none⟩ : Addr).add (j * 7) = ⟨pg, j * 7, none⟩ := by rw [add_addr, Nat.zero_add]
                have g1 : ¬ (j : Int) < 0 := by omega
                have g2 : decide ((n5 : Int) ≤ (j : Int)) = false := decide_eq_false (by omega)
                have g3 : (j : Int) < (n5 : Int) := by omega
                have g4 : decide ((j : Int) < 0) = false := decide_eq_false g1
                have g5 : decide (n5 ≤ j) = false := decide_eq_false (by omega)
                have Ld : Hid (∀ w2, Mod (fun _ => False) W5 w2 → w2.cell? ⟨gd, 0, none⟩ = some (.int .i64 c2.most) ∧ w2.cell? ⟨gd, 1, none⟩ = some (.int .i64 c2.target) ∧ w2.cell? ⟨gd, 2, none⟩ = some (.slice (some ⟨pg, 0, none⟩) n5 c5) ∧ w2.cell? ⟨gd, 3, none⟩ = some (.int .i64 c2.hot) ∧ w2.cell? ⟨gd, 4, none⟩ = some (.int .i64 c2.cold) ∧ w2.cell? ⟨gd, 5, none⟩ = some (.int .i64 c2.test)) := Lib.hid (fun w2 h => (HcD.out.new h).cells)
                have Lk : Hid (∀ w2, Mod (fun _ => False) W5 w2 → w2.cell? ⟨gky, 0, none⟩ = some (.int .i64 k.s) ∧ w2.cell? ⟨gky, 1, none⟩ = some (.int .i64 k.l) ∧ w2.cell? ⟨gky, 2, none⟩ = some (.int .i64 k.b)) := Lib.hid (fun w2 h => (h.blk HkW.out (fun h => h)).threeR)
                have Lp : Hid (∀ w2, Mod (fun _ => False) W5 w2 → w2.cell? ⟨pg, j * 7 + 3, none⟩ = some (.int .i64 p.kind)) := Lib.hid (fun w2 h => ((HcD.out.new h).page_ Hp.out).2.2.2.1)
                have Cf : Hid (∀ w2, Mod (fun _ => False) W5 w2 → Calls Try.prog 10 #[.agg #[.int .i64 c2.most, .int .i64 c2.target, .slice (some ⟨pg, 0, none⟩) n5 c5, .int .i64 (c2.hot : Int), .int .i64 (c2.cold : Int), .int .i64 (c2.test : Int)], .agg #[.int .i64 k.s, .int .i64 k.l, .int .i64 k.b]] w2 fun e w' => e = .returned (.int .i64 (j : Int)) ∧ Mod (fun _ => False) W5 w') := Lib.hid (fun w2 h => by
                  have hrd := OwnK.rds (HcD.out.new h).ps (by rw [List.length_map]; exact Hn7.out)
                  refine (find_any c2 k (some ⟨pg, 0, none⟩) n5 c5 w2 hrd (by have := Hn7.out; have h9 : c2.ps.length ≤ 2000 := hc2.good.len; omega)).mono ?_
                  rintro e w' ⟨rfl, hm⟩
                  exact ⟨by unfold placeK; rw [Hf.out], h.trans hm (fun _ _ h => h)⟩)
                clear hc2 hf hp hr hin7
                refine wp_region_class (fun W' => Mod (fun _ => False) W5 W') (by kernel_rfl) (by kernel_rfl) (Mod.refl _ _).drew ?_
                iterate 2 quiet_step (exact fun _ => rfl)
                refine wpQuiet_step (fun K hK => ?_)
                go_simp
                refine ⟨.agg #[.int .i64 c2.most, .int .i64 c2.target, .slice (some ⟨pg, 0, none⟩) n5 c5, .int .i64 (c2.hot : Int), .int .i64 (c2.cold : Int), .int .i64 (c2.test : Int)], fun w2 h2 => ?_, hK _ ?_⟩
                · obtain ⟨b0, b1, b2, b3, b4, b5⟩ := Ld.out w2 h2
                  simp only [b0, b1, b2, b3, b4, b5, Result.andThen_ok]
                  exact ⟨trivial, trivial⟩
                clear hK K
                refine wpQuiet_step (fun K hK => ?_)
                go_simp
                refine ⟨.agg #[.int .i64 k.s, .int .i64 k.l, .int .i64 k.b], fun w2 h2 => ?_, hK _ ?_⟩
                · obtain ⟨b0, b1, b2⟩ := Lk.out w2 h2
                  simp only [b0, b1, b2, Result.andThen_ok]
                  exact ⟨trivial, trivial⟩
                clear hK K
                refine wpQuiet_step (fun K hK => ?_)
                go_simp
                refine ⟨.int .i64 (j : Int), fun w2 h2 => (Cf.out w2 h2).mono ?_, hK _ ?_⟩
                · rintro e w3 ⟨rfl, hm⟩
                  exact ⟨rfl, hm⟩
                clear hK K
                iterate 2 quiet_step (exact fun _ => rfl)
                refine wpQuiet_step (fun K hK => ?_)
                go_simp
                refine ⟨.agg #[.int .i64 c2.most, .int .i64 c2.target, .slice (some ⟨pg, 0, none⟩) n5 c5, .int .i64 (c2.hot : Int), .int .i64 (c2.cold : Int), .int .i64 (c2.test : Int)], fun w2 h2 => ?_, hK _ ?_⟩
                · obtain ⟨b0, b1, b2, b3, b4, b5⟩ := Ld.out w2 h2
                  simp only [b0, b1, b2, b3, b4, b5, Result.andThen_ok]
                  exact ⟨trivial, trivial⟩
                clear hK K
                refine wpQuiet_step (fun K hK => ?_)
                go_simp
                refine ⟨.agg #[.int .i64 k.s, .int .i64 k.l, .int .i64 k.b], fun w2 h2 => ?_, hK _ ?_⟩
                · obtain ⟨b0, b1, b2⟩ := Lk.out w2 h2
                  simp only [b0, b1, b2, Result.andThen_ok]
                  exact ⟨trivial, trivial⟩
                clear hK K
                refine wpQuiet_step (fun K hK => ?_)
                go_simp
                refine ⟨.int .i64 (j : Int), fun w2 h2 => (Cf.out w2 h2).mono ?_, hK _ ?_⟩
                · rintro e w3 ⟨rfl, hm⟩
                  exact ⟨rfl, hm⟩
                clear hK K
                iterate 1 quiet_step (exact fun _ => rfl)
                refine wpQuiet_step (fun K hK => ?_)
                go_simp
                refine ⟨.slice (some ⟨pg, 0, none⟩) n5 c5, fun w2 h2 => ?_, hK _ ?_⟩
                · have b0 := (Ld.out w2 h2).2.2.1
                  simp only [b0]
                  exact ⟨rfl, rfl⟩
                clear hK K
                iterate 4 quiet_step (exact fun _ => rfl)
                iterate 1 quiet_step (exact fun _ => rfl)
                refine wpQuiet_step (fun K hK => ?_)
                go_simp
                refine ⟨.slice (some ⟨pg, 0, none⟩) n5 c5, fun w2 h2 => ?_, hK _ ?_⟩
                · have b0 := (Ld.out w2 h2).2.2.1
                  simp only [b0]
                  exact ⟨rfl, rfl⟩
                clear hK K
                refine wpQuiet_step (fun K hK => ?_)
                go_simp
                refine ⟨.agg #[.int .i64 c2.most, .int .i64 c2.target, .slice (some ⟨pg, 0, none⟩) n5 c5, .int .i64 (c2.hot : Int), .int .i64 (c2.cold : Int), .int .i64 (c2.test : Int)], fun w2 h2 => ?_, hK _ ?_⟩
                · obtain ⟨b0, b1, b2, b3, b4, b5⟩ := Ld.out w2 h2
                  simp only [b0, b1, b2, b3, b4, b5, Result.andThen_ok]
                  exact ⟨trivial, trivial⟩
                clear hK K
                refine wpQuiet_step (fun K hK => ?_)
                go_simp
                refine ⟨.agg #[.int .i64 k.s, .int .i64 k.l, .int .i64 k.b], fun w2 h2 => ?_, hK _ ?_⟩
                · obtain ⟨b0, b1, b2⟩ := Lk.out w2 h2
                  simp only [b0, b1, b2, Result.andThen_ok]
                  exact ⟨trivial, trivial⟩
                clear hK K
                refine wpQuiet_step (fun K hK => ?_)
                go_simp
                refine ⟨.int .i64 (j : Int), fun w2 h2 => (Cf.out w2 h2).mono ?_, hK _ ?_⟩
                · rintro e w3 ⟨rfl, hm⟩
                  exact ⟨rfl, hm⟩
                clear hK K
                iterate 2 quiet_step (exact fun _ => rfl)
                refine wpQuiet_step (fun K hK => ?_)
                go_simp
                refine ⟨.int .i64 p.kind, fun w2 h2 => ?_, hK _ ?_⟩
                · have b0 := Lp.out w2 h2
                  simp only [b0]
                  exact ⟨rfl, rfl⟩
                clear hK K
                iterate 3 quiet_step (exact fun _ => rfl)
                refine wpQuiet_nil ?_
                intro w7 h7
                have H7 := Lib.hid h7
                clear h7
                go_wp2_with fail
                go_meet
                exact ⟨c2, os, true, _, _, rfl, rfl, Hsr.out, HcD.out.new H7.out, HkD.out.mod H7.out, HmD.out.trans H7.out (fun _ _ h => h.elim)⟩
          · as_aux_lemma =>
              go_upto_region 16 with fail
              go_wp2_with fail
              obtain ⟨⟨c2, os, ok⟩, hea⟩ : ∃ r, admitK c k = r := ⟨_, rfl⟩
              refine (adm_call c c2 k os ok hea Hgd.out Hc4.out).mono ?_
              rintro e w5 ⟨vo, A5, n5, c5, rfl, h1, h2, h3⟩
              obtain ⟨B5, n6, c6, rfl, _⟩ := OwnK.formN h2
              have hsr : StepR i 1 c c2 k os ok := ⟨fun e => by
                subst e
                have h5 := step_admit (k := k) Hgd.out (by rw [hea])
                rw [hea] at h5
                have h6 := pins_admit (k := k) Hgd.out Hpi.out (by omega)
                rw [hea] at h6
                exact ⟨h5, h6.mono (by omega)⟩, fun e _ => by
                subst e
                exact no_pinned (k := k) Hgd.out (by rw [hea])⟩
              dsimp only [clkC]
              clear d0 d1 d2 d3 d4 d5 f0 f1 f2 f3 f4 f5 hd
              have hd5 := h3.blk Hd4.out (fun h => h)
              have d0 := hd5.cell 0
              have d1 := hd5.cell 1
              have d2 := hd5.cell 2
              have d3 := hd5.cell 3
              have d4 := hd5.cell 4
              have d5 := hd5.cell 5
              have f0 := hd5.frozen 0
              have f1 := hd5.frozen 1
              have f2 := hd5.frozen 2
              have f3 := hd5.frozen 3
              have f4 := hd5.frozen 4
              have f5 := hd5.frozen 5
              simp at d0 d1 d2 d3 d4 d5
              have hko := clk_over (W := w) c2 rfl hd5 (by have := Hgdd.out; have := Hlow.out; omega) h1 (by have := HlowW.out; omega) (Hm4.out.trans h3 (fun _ _ h => h))
              have hk2 : OwnK 3 w.heap.size _ 28 (.slice B5 n6 c6) (os.map keyC) := OwnK.mono (OwnK.modS h2 (Mod.six_one w5 gd (.int .i64 c2.most) (.int .i64 c2.target) (.slice A5 n5 c5) (.int .i64 (c2.hot : Int)) (.int .i64 (c2.cold : Int)) (.int .i64 (c2.test : Int))) (fun j hj e => own_blk_ne h2.2 hd5 (by decide) (by rw [hj, e]))) HlowW.out
              have hmd : Mod (fun j => j = gd) W4 _ := (h3.mono (fun _ _ h => h.elim)).trans (Mod.six_one w5 gd (.int .i64 c2.most) (.int .i64 c2.target) (.slice A5 n5 c5) (.int .i64 (c2.hot : Int)) (.int .i64 (c2.cold : Int)) (.int .i64 (c2.test : Int))) (fun _ _ h => h)
              obtain ⟨W5, hW5⟩ : ∃ W5, W5 = (((((w5.setCell ⟨gd, 0, none⟩ (.int .i64 c2.most)).setCell ⟨gd, 1, none⟩ (.int .i64 c2.target)).setCell ⟨gd, 2, none⟩ (.slice A5 n5 c5)).setCell ⟨gd, 3, none⟩ (.int .i64 (c2.hot : Int))).setCell ⟨gd, 4, none⟩ (.int .i64 (c2.cold : Int))).setCell ⟨gd, 5, none⟩ (.int .i64 (c2.test : Int)) := ⟨_, rfl⟩
              rw [← hW5] at hko hk2 hmd
              have HcD := Lib.hid hko.1; have HkD := Lib.hid hk2; have HmD := Lib.hid hmd; have HW5 := Lib.hid hW5; have Hsr := Lib.hid hsr; have Hea := Lib.hid hea
              have HkW := Lib.hid (hmd.blk Hk4.out (by have := Hgk.out; have := Hgdd.out; omega))
              clear hko hk2 hmd hW5 hsr hea h1 h2 h3 hd5
              go_upto_region 17 with fail
              rw [← HW5.out]
              clear d0 d1 d2 d3 d4 d5 f0 f1 f2 f3 f4 f5 y0 y1 y2 y3 y4 y5 z0 z1 z2
              cases ok with
              | false =>
                go_quiet (fail)
                go_wp2_with fail
                go_meet
                exact ⟨c2, os, false, _, _, rfl, rfl, Hsr.out, HcD.out.drewN _, HkD.out.mod ((Mod.refl _ _).drewN _), HmD.out.drewN _⟩
              | true =>
                have hc2 := admit_yes (k := k) Hgd.out (by rw [Hea.out])
                rw [Hea.out] at hc2
                obtain ⟨j, p, hf, hp, _, hr⟩ := hc2.found
                have Hf := Lib.hid hf; have Hp := Lib.hid hp
                have hk3 : ((p.kind : Int) == 3) = false := by have := (resi_of (hc2.good.base.ok_at hp)).1 hr; simpa using this
                obtain ⟨pg, n7, cap7, e7, Hn7, _, _, hin7, _⟩ := HcD.out.at_ hp
                injection e7 with e71 e72 e73
                subst e71 e72 e73
                have hat7 : (⟨pg, 0, none⟩ : Addr).add (j * 7) = ⟨pg, j * 7, none⟩ := by rw [add_addr, Nat.zero_add]
                have g1 : ¬ (j : Int) < 0 := by omega
                have g2 : decide ((n5 : Int) ≤ (j : Int)) = false := decide_eq_false (by omega)
                have g3 : (j : Int) < (n5 : Int) := by omega
                have g4 : decide ((j : Int) < 0) = false := decide_eq_false g1
                have g5 : decide (n5 ≤ j) = false := decide_eq_false (by omega)
                have Ld : Hid (∀ w2, Mod (fun _ => False) W5 w2 → w2.cell? ⟨gd, 0, none⟩ = some (.int .i64 c2.most) ∧ w2.cell? ⟨gd, 1, none⟩ = some (.int .i64 c2.target) ∧ w2.cell? ⟨gd, 2, none⟩ = some (.slice (some ⟨pg, 0, none⟩) n5 c5) ∧ w2.cell? ⟨gd, 3, none⟩ = some (.int .i64 c2.hot) ∧ w2.cell? ⟨gd, 4, none⟩ = some (.int .i64 c2.cold) ∧ w2.cell? ⟨gd, 5, none⟩ = some (.int .i64 c2.test)) := Lib.hid (fun w2 h => (HcD.out.new h).cells)
                have Lk : Hid (∀ w2, Mod (fun _ => False) W5 w2 → w2.cell? ⟨gky, 0, none⟩ = some (.int .i64 k.s) ∧ w2.cell? ⟨gky, 1, none⟩ = some (.int .i64 k.l) ∧ w2.cell? ⟨gky, 2, none⟩ = some (.int .i64 k.b)) := Lib.hid (fun w2 h => (h.blk HkW.out (fun h => h)).threeR)
                have Lp : Hid (∀ w2, Mod (fun _ => False) W5 w2 → w2.cell? ⟨pg, j * 7 + 3, none⟩ = some (.int .i64 p.kind)) := Lib.hid (fun w2 h => ((HcD.out.new h).page_ Hp.out).2.2.2.1)
                have Cf : Hid (∀ w2, Mod (fun _ => False) W5 w2 → Calls Try.prog 10 #[.agg #[.int .i64 c2.most, .int .i64 c2.target, .slice (some ⟨pg, 0, none⟩) n5 c5, .int .i64 (c2.hot : Int), .int .i64 (c2.cold : Int), .int .i64 (c2.test : Int)], .agg #[.int .i64 k.s, .int .i64 k.l, .int .i64 k.b]] w2 fun e w' => e = .returned (.int .i64 (j : Int)) ∧ Mod (fun _ => False) W5 w') := Lib.hid (fun w2 h => by
                  have hrd := OwnK.rds (HcD.out.new h).ps (by rw [List.length_map]; exact Hn7.out)
                  refine (find_any c2 k (some ⟨pg, 0, none⟩) n5 c5 w2 hrd (by have := Hn7.out; have h9 : c2.ps.length ≤ 2000 := hc2.good.len; omega)).mono ?_
                  rintro e w' ⟨rfl, hm⟩
                  exact ⟨by unfold placeK; rw [Hf.out], h.trans hm (fun _ _ h => h)⟩)
                clear hc2 hf hp hr hin7
                refine wp_region_class (fun W' => Mod (fun _ => False) W5 W') (by kernel_rfl) (by kernel_rfl) (Mod.refl _ _).drew ?_
                iterate 2 quiet_step (exact fun _ => rfl)
                refine wpQuiet_step (fun K hK => ?_)
                go_simp
                refine ⟨.agg #[.int .i64 c2.most, .int .i64 c2.target, .slice (some ⟨pg, 0, none⟩) n5 c5, .int .i64 (c2.hot : Int), .int .i64 (c2.cold : Int), .int .i64 (c2.test : Int)], fun w2 h2 => ?_, hK _ ?_⟩
                · obtain ⟨b0, b1, b2, b3, b4, b5⟩ := Ld.out w2 h2
                  simp only [b0, b1, b2, b3, b4, b5, Result.andThen_ok]
                  exact ⟨trivial, trivial⟩
                clear hK K
                refine wpQuiet_step (fun K hK => ?_)
                go_simp
                refine ⟨.agg #[.int .i64 k.s, .int .i64 k.l, .int .i64 k.b], fun w2 h2 => ?_, hK _ ?_⟩
                · obtain ⟨b0, b1, b2⟩ := Lk.out w2 h2
                  simp only [b0, b1, b2, Result.andThen_ok]
                  exact ⟨trivial, trivial⟩
                clear hK K
                refine wpQuiet_step (fun K hK => ?_)
                go_simp
                refine ⟨.int .i64 (j : Int), fun w2 h2 => (Cf.out w2 h2).mono ?_, hK _ ?_⟩
                · rintro e w3 ⟨rfl, hm⟩
                  exact ⟨rfl, hm⟩
                clear hK K
                iterate 2 quiet_step (exact fun _ => rfl)
                refine wpQuiet_step (fun K hK => ?_)
                go_simp
                refine ⟨.agg #[.int .i64 c2.most, .int .i64 c2.target, .slice (some ⟨pg, 0, none⟩) n5 c5, .int .i64 (c2.hot : Int), .int .i64 (c2.cold : Int), .int .i64 (c2.test : Int)], fun w2 h2 => ?_, hK _ ?_⟩
                · obtain ⟨b0, b1, b2, b3, b4, b5⟩ := Ld.out w2 h2
                  simp only [b0, b1, b2, b3, b4, b5, Result.andThen_ok]
                  exact ⟨trivial, trivial⟩
                clear hK K
                refine wpQuiet_step (fun K hK => ?_)
                go_simp
                refine ⟨.agg #[.int .i64 k.s, .int .i64 k.l, .int .i64 k.b], fun w2 h2 => ?_, hK _ ?_⟩
                · obtain ⟨b0, b1, b2⟩ := Lk.out w2 h2
                  simp only [b0, b1, b2, Result.andThen_ok]
                  exact ⟨trivial, trivial⟩
                clear hK K
                refine wpQuiet_step (fun K hK => ?_)
                go_simp
                refine ⟨.int .i64 (j : Int), fun w2 h2 => (Cf.out w2 h2).mono ?_, hK _ ?_⟩
                · rintro e w3 ⟨rfl, hm⟩
                  exact ⟨rfl, hm⟩
                clear hK K
                iterate 1 quiet_step (exact fun _ => rfl)
                refine wpQuiet_step (fun K hK => ?_)
                go_simp
                refine ⟨.slice (some ⟨pg, 0, none⟩) n5 c5, fun w2 h2 => ?_, hK _ ?_⟩
                · have b0 := (Ld.out w2 h2).2.2.1
                  simp only [b0]
                  exact ⟨rfl, rfl⟩
                clear hK K
                iterate 4 quiet_step (exact fun _ => rfl)
                iterate 1 quiet_step (exact fun _ => rfl)
                refine wpQuiet_step (fun K hK => ?_)
                go_simp
                refine ⟨.slice (some ⟨pg, 0, none⟩) n5 c5, fun w2 h2 => ?_, hK _ ?_⟩
                · have b0 := (Ld.out w2 h2).2.2.1
                  simp only [b0]
                  exact ⟨rfl, rfl⟩
                clear hK K
                refine wpQuiet_step (fun K hK => ?_)
                go_simp
                refine ⟨.agg #[.int .i64 c2.most, .int .i64 c2.target, .slice (some ⟨pg, 0, none⟩) n5 c5, .int .i64 (c2.hot : Int), .int .i64 (c2.cold : Int), .int .i64 (c2.test : Int)], fun w2 h2 => ?_, hK _ ?_⟩
                · obtain ⟨b0, b1, b2, b3, b4, b5⟩ := Ld.out w2 h2
                  simp only [b0, b1, b2, b3, b4, b5, Result.andThen_ok]
                  exact ⟨trivial, trivial⟩
                clear hK K
                refine wpQuiet_step (fun K hK => ?_)
                go_simp
                refine ⟨.agg #[.int .i64 k.s, .int .i64 k.l, .int .i64 k.b], fun w2 h2 => ?_, hK _ ?_⟩
                · obtain ⟨b0, b1, b2⟩ := Lk.out w2 h2
                  simp only [b0, b1, b2, Result.andThen_ok]
                  exact ⟨trivial, trivial⟩
                clear hK K
                refine wpQuiet_step (fun K hK => ?_)
                go_simp
                refine ⟨.int .i64 (j : Int), fun w2 h2 => (Cf.out w2 h2).mono ?_, hK _ ?_⟩
                · rintro e w3 ⟨rfl, hm⟩
                  exact ⟨rfl, hm⟩
                clear hK K
                iterate 2 quiet_step (exact fun _ => rfl)
                refine wpQuiet_step (fun K hK => ?_)
                go_simp
                refine ⟨.int .i64 p.kind, fun w2 h2 => ?_, hK _ ?_⟩
                · have b0 := Lp.out w2 h2
                  simp only [b0]
                  exact ⟨rfl, rfl⟩
                clear hK K
                iterate 3 quiet_step (exact fun _ => rfl)
                refine wpQuiet_nil ?_
                intro w7 h7
                have H7 := Lib.hid h7
                clear h7
                go_wp2_with fail
                go_meet
                exact ⟨c2, os, true, _, _, rfl, rfl, Hsr.out, HcD.out.new H7.out, HkD.out.mod H7.out, HmD.out.trans H7.out (fun _ _ h => h.elim)⟩
          · as_aux_lemma =>
              go_upto_region 16 with fail
              go_wp2_with fail
              obtain ⟨⟨c2, os, ok⟩, hea⟩ : ∃ r, admitK c k = r := ⟨_, rfl⟩
              refine (adm_call c c2 k os ok hea Hgd.out Hc4.out).mono ?_
              rintro e w5 ⟨vo, A5, n5, c5, rfl, h1, h2, h3⟩
              obtain ⟨B5, n6, c6, rfl, _⟩ := OwnK.formN h2
              have hsr : StepR i 2 c c2 k os ok := ⟨fun e => by
                subst e
                have h5 := step_admit (k := k) Hgd.out (by rw [hea])
                rw [hea] at h5
                have h6 := pins_admit (k := k) Hgd.out Hpi.out (by omega)
                rw [hea] at h6
                exact ⟨h5, h6.mono (by omega)⟩, fun e _ => by
                subst e
                exact no_pinned (k := k) Hgd.out (by rw [hea])⟩
              dsimp only [clkC]
              clear d0 d1 d2 d3 d4 d5 f0 f1 f2 f3 f4 f5 hd
              have hd5 := h3.blk Hd4.out (fun h => h)
              have d0 := hd5.cell 0
              have d1 := hd5.cell 1
              have d2 := hd5.cell 2
              have d3 := hd5.cell 3
              have d4 := hd5.cell 4
              have d5 := hd5.cell 5
              have f0 := hd5.frozen 0
              have f1 := hd5.frozen 1
              have f2 := hd5.frozen 2
              have f3 := hd5.frozen 3
              have f4 := hd5.frozen 4
              have f5 := hd5.frozen 5
              simp at d0 d1 d2 d3 d4 d5
              have hko := clk_over (W := w) c2 rfl hd5 (by have := Hgdd.out; have := Hlow.out; omega) h1 (by have := HlowW.out; omega) (Hm4.out.trans h3 (fun _ _ h => h))
              have hk2 : OwnK 3 w.heap.size _ 28 (.slice B5 n6 c6) (os.map keyC) := OwnK.mono (OwnK.modS h2 (Mod.six_one w5 gd (.int .i64 c2.most) (.int .i64 c2.target) (.slice A5 n5 c5) (.int .i64 (c2.hot : Int)) (.int .i64 (c2.cold : Int)) (.int .i64 (c2.test : Int))) (fun j hj e => own_blk_ne h2.2 hd5 (by decide) (by rw [hj, e]))) HlowW.out
              have hmd : Mod (fun j => j = gd) W4 _ := (h3.mono (fun _ _ h => h.elim)).trans (Mod.six_one w5 gd (.int .i64 c2.most) (.int .i64 c2.target) (.slice A5 n5 c5) (.int .i64 (c2.hot : Int)) (.int .i64 (c2.cold : Int)) (.int .i64 (c2.test : Int))) (fun _ _ h => h)
              obtain ⟨W5, hW5⟩ : ∃ W5, W5 = (((((w5.setCell ⟨gd, 0, none⟩ (.int .i64 c2.most)).setCell ⟨gd, 1, none⟩ (.int .i64 c2.target)).setCell ⟨gd, 2, none⟩ (.slice A5 n5 c5)).setCell ⟨gd, 3, none⟩ (.int .i64 (c2.hot : Int))).setCell ⟨gd, 4, none⟩ (.int .i64 (c2.cold : Int))).setCell ⟨gd, 5, none⟩ (.int .i64 (c2.test : Int)) := ⟨_, rfl⟩
              rw [← hW5] at hko hk2 hmd
              have HcD := Lib.hid hko.1; have HkD := Lib.hid hk2; have HmD := Lib.hid hmd; have HW5 := Lib.hid hW5; have Hsr := Lib.hid hsr; have Hea := Lib.hid hea
              have HkW := Lib.hid (hmd.blk Hk4.out (by have := Hgk.out; have := Hgdd.out; omega))
              clear hko hk2 hmd hW5 hsr hea h1 h2 h3 hd5
              go_upto_region 17 with fail
              rw [← HW5.out]
              clear d0 d1 d2 d3 d4 d5 f0 f1 f2 f3 f4 f5 y0 y1 y2 y3 y4 y5 z0 z1 z2
              cases ok with
              | false =>
                go_quiet (fail)
                go_wp2_with fail
                go_meet
                exact ⟨c2, os, false, _, _, rfl, rfl, Hsr.out, HcD.out.drewN _, HkD.out.mod ((Mod.refl _ _).drewN _), HmD.out.drewN _⟩
              | true =>
                have hc2 := admit_yes (k := k) Hgd.out (by rw [Hea.out])
                rw [Hea.out] at hc2
                obtain ⟨j, p, hf, hp, _, hr⟩ := hc2.found
                have Hf := Lib.hid hf; have Hp := Lib.hid hp
                have hk3 : ((p.kind : Int) == 3) = false := by have := (resi_of (hc2.good.base.ok_at hp)).1 hr; simpa using this
                obtain ⟨pg, n7, cap7, e7, Hn7, _, _, hin7, _⟩ := HcD.out.at_ hp
                injection e7 with e71 e72 e73
                subst e71 e72 e73
                have hat7 : (⟨pg, 0, none⟩ : Addr).add (j * 7) = ⟨pg, j * 7, none⟩ := by rw [add_addr, Nat.zero_add]
                have g1 : ¬ (j : Int) < 0 := by omega
                have g2 : decide ((n5 : Int) ≤ (j : Int)) = false := decide_eq_false (by omega)
                have g3 : (j : Int) < (n5 : Int) := by omega
                have g4 : decide ((j : Int) < 0) = false := decide_eq_false g1
                have g5 : decide (n5 ≤ j) = false := decide_eq_false (by omega)
                have Ld : Hid (∀ w2, Mod (fun _ => False) W5 w2 → w2.cell? ⟨gd, 0, none⟩ = some (.int .i64 c2.most) ∧ w2.cell? ⟨gd, 1, none⟩ = some (.int .i64 c2.target) ∧ w2.cell? ⟨gd, 2, none⟩ = some (.slice (some ⟨pg, 0, none⟩) n5 c5) ∧ w2.cell? ⟨gd, 3, none⟩ = some (.int .i64 c2.hot) ∧ w2.cell? ⟨gd, 4, none⟩ = some (.int .i64 c2.cold) ∧ w2.cell? ⟨gd, 5, none⟩ = some (.int .i64 c2.test)) := Lib.hid (fun w2 h => (HcD.out.new h).cells)
                have Lk : Hid (∀ w2, Mod (fun _ => False) W5 w2 → w2.cell? ⟨gky, 0, none⟩ = some (.int .i64 k.s) ∧ w2.cell? ⟨gky, 1, none⟩ = some (.int .i64 k.l) ∧ w2.cell? ⟨gky, 2, none⟩ = some (.int .i64 k.b)) := Lib.hid (fun w2 h => (h.blk HkW.out (fun h => h)).threeR)
                have Lp : Hid (∀ w2, Mod (fun _ => False) W5 w2 → w2.cell? ⟨pg, j * 7 + 3, none⟩ = some (.int .i64 p.kind)) := Lib.hid (fun w2 h => ((HcD.out.new h).page_ Hp.out).2.2.2.1)
                have Cf : Hid (∀ w2, Mod (fun _ => False) W5 w2 → Calls Try.prog 10 #[.agg #[.int .i64 c2.most, .int .i64 c2.target, .slice (some ⟨pg, 0, none⟩) n5 c5, .int .i64 (c2.hot : Int), .int .i64 (c2.cold : Int), .int .i64 (c2.test : Int)], .agg #[.int .i64 k.s, .int .i64 k.l, .int .i64 k.b]] w2 fun e w' => e = .returned (.int .i64 (j : Int)) ∧ Mod (fun _ => False) W5 w') := Lib.hid (fun w2 h => by
                  have hrd := OwnK.rds (HcD.out.new h).ps (by rw [List.length_map]; exact Hn7.out)
                  refine (find_any c2 k (some ⟨pg, 0, none⟩) n5 c5 w2 hrd (by have := Hn7.out; have h9 : c2.ps.length ≤ 2000 := hc2.good.len; omega)).mono ?_
                  rintro e w' ⟨rfl, hm⟩
                  exact ⟨by unfold placeK; rw [Hf.out], h.trans hm (fun _ _ h => h)⟩)
                clear hc2 hf hp hr hin7
                refine wp_region_class (fun W' => Mod (fun _ => False) W5 W') (by kernel_rfl) (by kernel_rfl) (Mod.refl _ _).drew ?_
                iterate 2 quiet_step (exact fun _ => rfl)
                refine wpQuiet_step (fun K hK => ?_)
                go_simp
                refine ⟨.agg #[.int .i64 c2.most, .int .i64 c2.target, .slice (some ⟨pg, 0, none⟩) n5 c5, .int .i64 (c2.hot : Int), .int .i64 (c2.cold : Int), .int .i64 (c2.test : Int)], fun w2 h2 => ?_, hK _ ?_⟩
                · obtain ⟨b0, b1, b2, b3, b4, b5⟩ := Ld.out w2 h2
                  simp only [b0, b1, b2, b3, b4, b5, Result.andThen_ok]
                  exact ⟨trivial, trivial⟩
                clear hK K
                refine wpQuiet_step (fun K hK => ?_)
                go_simp
                refine ⟨.agg #[.int .i64 k.s, .int .i64 k.l, .int .i64 k.b], fun w2 h2 => ?_, hK _ ?_⟩
                · obtain ⟨b0, b1, b2⟩ := Lk.out w2 h2
                  simp only [b0, b1, b2, Result.andThen_ok]
                  exact ⟨trivial, trivial⟩
                clear hK K
                refine wpQuiet_step (fun K hK => ?_)
                go_simp
                refine ⟨.int .i64 (j : Int), fun w2 h2 => (Cf.out w2 h2).mono ?_, hK _ ?_⟩
                · rintro e w3 ⟨rfl, hm⟩
                  exact ⟨rfl, hm⟩
                clear hK K
                iterate 2 quiet_step (exact fun _ => rfl)
                refine wpQuiet_step (fun K hK => ?_)
                go_simp
                refine ⟨.agg #[.int .i64 c2.most, .int .i64 c2.target, .slice (some ⟨pg, 0, none⟩) n5 c5, .int .i64 (c2.hot : Int), .int .i64 (c2.cold : Int), .int .i64 (c2.test : Int)], fun w2 h2 => ?_, hK _ ?_⟩
                · obtain ⟨b0, b1, b2, b3, b4, b5⟩ := Ld.out w2 h2
                  simp only [b0, b1, b2, b3, b4, b5, Result.andThen_ok]
                  exact ⟨trivial, trivial⟩
                clear hK K
                refine wpQuiet_step (fun K hK => ?_)
                go_simp
                refine ⟨.agg #[.int .i64 k.s, .int .i64 k.l, .int .i64 k.b], fun w2 h2 => ?_, hK _ ?_⟩
                · obtain ⟨b0, b1, b2⟩ := Lk.out w2 h2
                  simp only [b0, b1, b2, Result.andThen_ok]
                  exact ⟨trivial, trivial⟩
                clear hK K
                refine wpQuiet_step (fun K hK => ?_)
                go_simp
                refine ⟨.int .i64 (j : Int), fun w2 h2 => (Cf.out w2 h2).mono ?_, hK _ ?_⟩
                · rintro e w3 ⟨rfl, hm⟩
                  exact ⟨rfl, hm⟩
                clear hK K
                iterate 1 quiet_step (exact fun _ => rfl)
                refine wpQuiet_step (fun K hK => ?_)
                go_simp
                refine ⟨.slice (some ⟨pg, 0, none⟩) n5 c5, fun w2 h2 => ?_, hK _ ?_⟩
                · have b0 := (Ld.out w2 h2).2.2.1
                  simp only [b0]
                  exact ⟨rfl, rfl⟩
                clear hK K
                iterate 4 quiet_step (exact fun _ => rfl)
                iterate 1 quiet_step (exact fun _ => rfl)
                refine wpQuiet_step (fun K hK => ?_)
                go_simp
                refine ⟨.slice (some ⟨pg, 0, none⟩) n5 c5, fun w2 h2 => ?_, hK _ ?_⟩
                · have b0 := (Ld.out w2 h2).2.2.1
                  simp only [b0]
                  exact ⟨rfl, rfl⟩
                clear hK K
                refine wpQuiet_step (fun K hK => ?_)
                go_simp
                refine ⟨.agg #[.int .i64 c2.most, .int .i64 c2.target, .slice (some ⟨pg, 0, none⟩) n5 c5, .int .i64 (c2.hot : Int), .int .i64 (c2.cold : Int), .int .i64 (c2.test : Int)], fun w2 h2 => ?_, hK _ ?_⟩
                · obtain ⟨b0, b1, b2, b3, b4, b5⟩ := Ld.out w2 h2
                  simp only [b0, b1, b2, b3, b4, b5, Result.andThen_ok]
                  exact ⟨trivial, trivial⟩
                clear hK K
                refine wpQuiet_step (fun K hK => ?_)
                go_simp
                refine ⟨.agg #[.int .i64 k.s, .int .i64 k.l, .int .i64 k.b], fun w2 h2 => ?_, hK _ ?_⟩
                · obtain ⟨b0, b1, b2⟩ := Lk.out w2 h2
                  simp only [b0, b1, b2, Result.andThen_ok]
                  exact ⟨trivial, trivial⟩
                clear hK K
                refine wpQuiet_step (fun K hK => ?_)
                go_simp
                refine ⟨.int .i64 (j : Int), fun w2 h2 => (Cf.out w2 h2).mono ?_, hK _ ?_⟩
                · rintro e w3 ⟨rfl, hm⟩
                  exact ⟨rfl, hm⟩
                clear hK K
                iterate 2 quiet_step (exact fun _ => rfl)
                refine wpQuiet_step (fun K hK => ?_)
                go_simp
                refine ⟨.int .i64 p.kind, fun w2 h2 => ?_, hK _ ?_⟩
                · have b0 := Lp.out w2 h2
                  simp only [b0]
                  exact ⟨rfl, rfl⟩
                clear hK K
                iterate 3 quiet_step (exact fun _ => rfl)
                refine wpQuiet_nil ?_
                intro w7 h7
                have H7 := Lib.hid h7
                clear h7
                go_wp2_with fail
                go_meet
                exact ⟨c2, os, true, _, _, rfl, rfl, Hsr.out, HcD.out.new H7.out, HkD.out.mod H7.out, HmD.out.trans H7.out (fun _ _ h => h.elim)⟩
          · as_aux_lemma =>
              go_upto_region 16 with fail
              go_wp2_with fail
              obtain ⟨⟨c2, os, ok⟩, hea⟩ : ∃ r, admitK c k = r := ⟨_, rfl⟩
              refine (adm_call c c2 k os ok hea Hgd.out Hc4.out).mono ?_
              rintro e w5 ⟨vo, A5, n5, c5, rfl, h1, h2, h3⟩
              obtain ⟨B5, n6, c6, rfl, _⟩ := OwnK.formN h2
              have hsr : StepR i 3 c c2 k os ok := ⟨fun e => by
                subst e
                have h5 := step_admit (k := k) Hgd.out (by rw [hea])
                rw [hea] at h5
                have h6 := pins_admit (k := k) Hgd.out Hpi.out (by omega)
                rw [hea] at h6
                exact ⟨h5, h6.mono (by omega)⟩, fun e _ => by
                subst e
                exact no_pinned (k := k) Hgd.out (by rw [hea])⟩
              dsimp only [clkC]
              clear d0 d1 d2 d3 d4 d5 f0 f1 f2 f3 f4 f5 hd
              have hd5 := h3.blk Hd4.out (fun h => h)
              have d0 := hd5.cell 0
              have d1 := hd5.cell 1
              have d2 := hd5.cell 2
              have d3 := hd5.cell 3
              have d4 := hd5.cell 4
              have d5 := hd5.cell 5
              have f0 := hd5.frozen 0
              have f1 := hd5.frozen 1
              have f2 := hd5.frozen 2
              have f3 := hd5.frozen 3
              have f4 := hd5.frozen 4
              have f5 := hd5.frozen 5
              simp at d0 d1 d2 d3 d4 d5
              have hko := clk_over (W := w) c2 rfl hd5 (by have := Hgdd.out; have := Hlow.out; omega) h1 (by have := HlowW.out; omega) (Hm4.out.trans h3 (fun _ _ h => h))
              have hk2 : OwnK 3 w.heap.size _ 28 (.slice B5 n6 c6) (os.map keyC) := OwnK.mono (OwnK.modS h2 (Mod.six_one w5 gd (.int .i64 c2.most) (.int .i64 c2.target) (.slice A5 n5 c5) (.int .i64 (c2.hot : Int)) (.int .i64 (c2.cold : Int)) (.int .i64 (c2.test : Int))) (fun j hj e => own_blk_ne h2.2 hd5 (by decide) (by rw [hj, e]))) HlowW.out
              have hmd : Mod (fun j => j = gd) W4 _ := (h3.mono (fun _ _ h => h.elim)).trans (Mod.six_one w5 gd (.int .i64 c2.most) (.int .i64 c2.target) (.slice A5 n5 c5) (.int .i64 (c2.hot : Int)) (.int .i64 (c2.cold : Int)) (.int .i64 (c2.test : Int))) (fun _ _ h => h)
              obtain ⟨W5, hW5⟩ : ∃ W5, W5 = (((((w5.setCell ⟨gd, 0, none⟩ (.int .i64 c2.most)).setCell ⟨gd, 1, none⟩ (.int .i64 c2.target)).setCell ⟨gd, 2, none⟩ (.slice A5 n5 c5)).setCell ⟨gd, 3, none⟩ (.int .i64 (c2.hot : Int))).setCell ⟨gd, 4, none⟩ (.int .i64 (c2.cold : Int))).setCell ⟨gd, 5, none⟩ (.int .i64 (c2.test : Int)) := ⟨_, rfl⟩
              rw [← hW5] at hko hk2 hmd
              have HcD := Lib.hid hko.1; have HkD := Lib.hid hk2; have HmD := Lib.hid hmd; have HW5 := Lib.hid hW5; have Hsr := Lib.hid hsr; have Hea := Lib.hid hea
              have HkW := Lib.hid (hmd.blk Hk4.out (by have := Hgk.out; have := Hgdd.out; omega))
              clear hko hk2 hmd hW5 hsr hea h1 h2 h3 hd5
              go_upto_region 17 with fail
              rw [← HW5.out]
              clear d0 d1 d2 d3 d4 d5 f0 f1 f2 f3 f4 f5 y0 y1 y2 y3 y4 y5 z0 z1 z2
              cases ok with
              | false =>
                go_quiet (fail)
                go_wp2_with fail
                go_meet
                exact ⟨c2, os, false, _, _, rfl, rfl, Hsr.out, HcD.out.drewN _, HkD.out.mod ((Mod.refl _ _).drewN _), HmD.out.drewN _⟩
              | true =>
                have hc2 := admit_yes (k := k) Hgd.out (by rw [Hea.out])
                rw [Hea.out] at hc2
                obtain ⟨j, p, hf, hp, _, hr⟩ := hc2.found
                have Hf := Lib.hid hf; have Hp := Lib.hid hp
                have hk3 : ((p.kind : Int) == 3) = false := by have := (resi_of (hc2.good.base.ok_at hp)).1 hr; simpa using this
                obtain ⟨pg, n7, cap7, e7, Hn7, _, _, hin7, _⟩ := HcD.out.at_ hp
                injection e7 with e71 e72 e73
                subst e71 e72 e73
                have hat7 : (⟨pg, 0, none⟩ : Addr).add (j * 7) = ⟨pg, j * 7, none⟩ := by rw [add_addr, Nat.zero_add]
                have g1 : ¬ (j : Int) < 0 := by omega
                have g2 : decide ((n5 : Int) ≤ (j : Int)) = false := decide_eq_false (by omega)
                have g3 : (j : Int) < (n5 : Int) := by omega
                have g4 : decide ((j : Int) < 0) = false := decide_eq_false g1
                have g5 : decide (n5 ≤ j) = false := decide_eq_false (by omega)
                have Ld : Hid (∀ w2, Mod (fun _ => False) W5 w2 → w2.cell? ⟨gd, 0, none⟩ = some (.int .i64 c2.most) ∧ w2.cell? ⟨gd, 1, none⟩ = some (.int .i64 c2.target) ∧ w2.cell? ⟨gd, 2, none⟩ = some (.slice (some ⟨pg, 0, none⟩) n5 c5) ∧ w2.cell? ⟨gd, 3, none⟩ = some (.int .i64 c2.hot) ∧ w2.cell? ⟨gd, 4, none⟩ = some (.int .i64 c2.cold) ∧ w2.cell? ⟨gd, 5, none⟩ = some (.int .i64 c2.test)) := Lib.hid (fun w2 h => (HcD.out.new h).cells)
                have Lk : Hid (∀ w2, Mod (fun _ => False) W5 w2 → w2.cell? ⟨gky, 0, none⟩ = some (.int .i64 k.s) ∧ w2.cell? ⟨gky, 1, none⟩ = some (.int .i64 k.l) ∧ w2.cell? ⟨gky, 2, none⟩ = some (.int .i64 k.b)) := Lib.hid (fun w2 h => (h.blk HkW.out (fun h => h)).threeR)
                have Lp : Hid (∀ w2, Mod (fun _ => False) W5 w2 → w2.cell? ⟨pg, j * 7 + 3, none⟩ = some (.int .i64 p.kind)) := Lib.hid (fun w2 h => ((HcD.out.new h).page_ Hp.out).2.2.2.1)
                have Cf : Hid (∀ w2, Mod (fun _ => False) W5 w2 → Calls Try.prog 10 #[.agg #[.int .i64 c2.most, .int .i64 c2.target, .slice (some ⟨pg, 0, none⟩) n5 c5, .int .i64 (c2.hot : Int), .int .i64 (c2.cold : Int), .int .i64 (c2.test : Int)], .agg #[.int .i64 k.s, .int .i64 k.l, .int .i64 k.b]] w2 fun e w' => e = .returned (.int .i64 (j : Int)) ∧ Mod (fun _ => False) W5 w') := Lib.hid (fun w2 h => by
                  have hrd := OwnK.rds (HcD.out.new h).ps (by rw [List.length_map]; exact Hn7.out)
                  refine (find_any c2 k (some ⟨pg, 0, none⟩) n5 c5 w2 hrd (by have := Hn7.out; have h9 : c2.ps.length ≤ 2000 := hc2.good.len; omega)).mono ?_
                  rintro e w' ⟨rfl, hm⟩
                  exact ⟨by unfold placeK; rw [Hf.out], h.trans hm (fun _ _ h => h)⟩)
                clear hc2 hf hp hr hin7
                refine wp_region_class (fun W' => Mod (fun _ => False) W5 W') (by kernel_rfl) (by kernel_rfl) (Mod.refl _ _).drew ?_
                iterate 2 quiet_step (exact fun _ => rfl)
                refine wpQuiet_step (fun K hK => ?_)
                go_simp
                refine ⟨.agg #[.int .i64 c2.most, .int .i64 c2.target, .slice (some ⟨pg, 0, none⟩) n5 c5, .int .i64 (c2.hot : Int), .int .i64 (c2.cold : Int), .int .i64 (c2.test : Int)], fun w2 h2 => ?_, hK _ ?_⟩
                · obtain ⟨b0, b1, b2, b3, b4, b5⟩ := Ld.out w2 h2
                  simp only [b0, b1, b2, b3, b4, b5, Result.andThen_ok]
                  exact ⟨trivial, trivial⟩
                clear hK K
                refine wpQuiet_step (fun K hK => ?_)
                go_simp
                refine ⟨.agg #[.int .i64 k.s, .int .i64 k.l, .int .i64 k.b], fun w2 h2 => ?_, hK _ ?_⟩
                · obtain ⟨b0, b1, b2⟩ := Lk.out w2 h2
                  simp only [b0, b1, b2, Result.andThen_ok]
                  exact ⟨trivial, trivial⟩
                clear hK K
                refine wpQuiet_step (fun K hK => ?_)
                go_simp
                refine ⟨.int .i64 (j : Int), fun w2 h2 => (Cf.out w2 h2).mono ?_, hK _ ?_⟩
                · rintro e w3 ⟨rfl, hm⟩
                  exact ⟨rfl, hm⟩
                clear hK K
                iterate 2 quiet_step (exact fun _ => rfl)
                refine wpQuiet_step (fun K hK => ?_)
                go_simp
                refine ⟨.agg #[.int .i64 c2.most, .int .i64 c2.target, .slice (some ⟨pg, 0, none⟩) n5 c5, .int .i64 (c2.hot : Int), .int .i64 (c2.cold : Int), .int .i64 (c2.test : Int)], fun w2 h2 => ?_, hK _ ?_⟩
                · obtain ⟨b0, b1, b2, b3, b4, b5⟩ := Ld.out w2 h2
                  simp only [b0, b1, b2, b3, b4, b5, Result.andThen_ok]
                  exact ⟨trivial, trivial⟩
                clear hK K
                refine wpQuiet_step (fun K hK => ?_)
                go_simp
                refine ⟨.agg #[.int .i64 k.s, .int .i64 k.l, .int .i64 k.b], fun w2 h2 => ?_, hK _ ?_⟩
                · obtain ⟨b0, b1, b2⟩ := Lk.out w2 h2
                  simp only [b0, b1, b2, Result.andThen_ok]
                  exact ⟨trivial, trivial⟩
                clear hK K
                refine wpQuiet_step (fun K hK => ?_)
                go_simp
                refine ⟨.int .i64 (j : Int), fun w2 h2 => (Cf.out w2 h2).mono ?_, hK _ ?_⟩
                · rintro e w3 ⟨rfl, hm⟩
                  exact ⟨rfl, hm⟩
                clear hK K
                iterate 1 quiet_step (exact fun _ => rfl)
                refine wpQuiet_step (fun K hK => ?_)
                go_simp
                refine ⟨.slice (some ⟨pg, 0, none⟩) n5 c5, fun w2 h2 => ?_, hK _ ?_⟩
                · have b0 := (Ld.out w2 h2).2.2.1
                  simp only [b0]
                  exact ⟨rfl, rfl⟩
                clear hK K
                iterate 4 quiet_step (exact fun _ => rfl)
                iterate 1 quiet_step (exact fun _ => rfl)
                refine wpQuiet_step (fun K hK => ?_)
                go_simp
                refine ⟨.slice (some ⟨pg, 0, none⟩) n5 c5, fun w2 h2 => ?_, hK _ ?_⟩
                · have b0 := (Ld.out w2 h2).2.2.1
                  simp only [b0]
                  exact ⟨rfl, rfl⟩
                clear hK K
                refine wpQuiet_step (fun K hK => ?_)
                go_simp
                refine ⟨.agg #[.int .i64 c2.most, .int .i64 c2.target, .slice (some ⟨pg, 0, none⟩) n5 c5, .int .i64 (c2.hot : Int), .int .i64 (c2.cold : Int), .int .i64 (c2.test : Int)], fun w2 h2 => ?_, hK _ ?_⟩
                · obtain ⟨b0, b1, b2, b3, b4, b5⟩ := Ld.out w2 h2
                  simp only [b0, b1, b2, b3, b4, b5, Result.andThen_ok]
                  exact ⟨trivial, trivial⟩
                clear hK K
                refine wpQuiet_step (fun K hK => ?_)
                go_simp
                refine ⟨.agg #[.int .i64 k.s, .int .i64 k.l, .int .i64 k.b], fun w2 h2 => ?_, hK _ ?_⟩
                · obtain ⟨b0, b1, b2⟩ := Lk.out w2 h2
                  simp only [b0, b1, b2, Result.andThen_ok]
                  exact ⟨trivial, trivial⟩
                clear hK K
                refine wpQuiet_step (fun K hK => ?_)
                go_simp
                refine ⟨.int .i64 (j : Int), fun w2 h2 => (Cf.out w2 h2).mono ?_, hK _ ?_⟩
                · rintro e w3 ⟨rfl, hm⟩
                  exact ⟨rfl, hm⟩
                clear hK K
                iterate 2 quiet_step (exact fun _ => rfl)
                refine wpQuiet_step (fun K hK => ?_)
                go_simp
                refine ⟨.int .i64 p.kind, fun w2 h2 => ?_, hK _ ?_⟩
                · have b0 := Lp.out w2 h2
                  simp only [b0]
                  exact ⟨rfl, rfl⟩
                clear hK K
                iterate 3 quiet_step (exact fun _ => rfl)
                refine wpQuiet_nil ?_
                intro w7 h7
                have H7 := Lib.hid h7
                clear h7
                go_wp2_with fail
                go_meet
                exact ⟨c2, os, true, _, _, rfl, rfl, Hsr.out, HcD.out.new H7.out, HkD.out.mod H7.out, HmD.out.trans H7.out (fun _ _ h => h.elim)⟩
          · as_aux_lemma =>
              go_upto_region 20 with fail
              go_wp2_with fail
              obtain ⟨⟨c2, ok⟩, hea⟩ : ∃ r, touchK c k = r := ⟨_, rfl⟩
              refine (touch_call c c2 k ok hea Hgd.out Hc4.out).mono ?_
              rintro e w5 ⟨A5, n5, c5, rfl, h1, h3⟩
              have hsr : StepR i 4 c c2 k [] ok := ⟨fun _ => by
                have h5 := step_touch (k := k) Hgd.out
                rw [hea] at h5
                have h6 := pins_touch (k := k) Hgd.out Hpi.out (by omega)
                rw [hea] at h6
                exact ⟨h5, h6.mono (by omega)⟩, fun _ h => by omega⟩
              dsimp only [clkC]
              clear d0 d1 d2 d3 d4 d5 f0 f1 f2 f3 f4 f5 hd
              have hd5 := h3.blk Hd4.out (fun h => h)
              have d0 := hd5.cell 0
              have d1 := hd5.cell 1
              have d2 := hd5.cell 2
              have d3 := hd5.cell 3
              have d4 := hd5.cell 4
              have d5 := hd5.cell 5
              have f0 := hd5.frozen 0
              have f1 := hd5.frozen 1
              have f2 := hd5.frozen 2
              have f3 := hd5.frozen 3
              have f4 := hd5.frozen 4
              have f5 := hd5.frozen 5
              simp at d0 d1 d2 d3 d4 d5
              have hko := clk_over (W := w) c2 rfl hd5 (by have := Hgdd.out; have := Hlow.out; omega) h1 (by have := HlowW.out; omega) (Hm4.out.trans h3 (fun _ _ h => h))
              have hmd : Mod (fun j => j = gd) W4 _ := (h3.mono (fun _ _ h => h.elim)).trans (Mod.six_one w5 gd (.int .i64 c2.most) (.int .i64 c2.target) (.slice A5 n5 c5) (.int .i64 (c2.hot : Int)) (.int .i64 (c2.cold : Int)) (.int .i64 (c2.test : Int))) (fun _ _ h => h)
              obtain ⟨W5, hW5⟩ : ∃ W5, W5 = (((((w5.setCell ⟨gd, 0, none⟩ (.int .i64 c2.most)).setCell ⟨gd, 1, none⟩ (.int .i64 c2.target)).setCell ⟨gd, 2, none⟩ (.slice A5 n5 c5)).setCell ⟨gd, 3, none⟩ (.int .i64 (c2.hot : Int))).setCell ⟨gd, 4, none⟩ (.int .i64 (c2.cold : Int))).setCell ⟨gd, 5, none⟩ (.int .i64 (c2.test : Int)) := ⟨_, rfl⟩
              rw [← hW5] at hko hmd
              have HcD := Lib.hid hko.1; have HmD := Lib.hid hmd; have HW5 := Lib.hid hW5; have Hsr := Lib.hid hsr
              clear hko hmd hW5 hsr h1 h3 hd5
              go_wp2_with fail
              go_meet
              rw [← HW5.out]
              exact ⟨c2, [], ok, _, _, rfl, rfl, Hsr.out, HcD.out, OwnK.nil _ _ _ _, HmD.out⟩
          · as_aux_lemma =>
              obtain ⟨mz, hmz⟩ : ∃ z, x / 256 % 2 = z := ⟨_, rfl⟩
              have mm : bits .and .i64 (x / 256) 1 = mz := by rw [mask1, hmz]
              obtain ⟨mm2, hm2⟩ : ∃ z, mz * 2 = z := ⟨_, rfl⟩
              obtain ⟨m, hmm⟩ : ∃ z, mm2 - 1 = z := ⟨_, rfl⟩
              have hmb : -1 ≤ m ∧ m ≤ 1 := by omega
              have wr1 : IntKind.i64.wrap (mz * 2) = mm2 := by rw [hm2]; exact IntWalk.i64_in _ (by omega)
              have wr2 : IntKind.i64.wrap (mm2 - 1) = m := by rw [hmm]; exact IntWalk.i64_in _ (by omega)
              have Hmb := Lib.hid hmb
              clear hmz hm2 hmm hmb
              obtain ⟨⟨c2, ok⟩, hea⟩ : ∃ r, pinK c k m = r := ⟨_, rfl⟩
              have Hea := Lib.hid hea
              have hsr : StepR i 5 c c2 k [] ok := ⟨fun _ => by
                have h5 := step_pin (k := k) Hgd.out m
                rw [hea] at h5
                have h6 := pins_pin (k := k) (d := 1) (n := m) Hgd.out Hpi.out (by omega) (by have := Hmb.out; omega) (by omega)
                rw [hea] at h6
                exact ⟨h5, h6.mono (by omega)⟩, fun _ h => by omega⟩
              have Hsr := Lib.hid hsr
              have HP : Hid (Calls Try.prog 8 #[.agg #[.int .i64 c.most, .int .i64 c.target, .slice A n cap, .int .i64 (c.hot : Int), .int .i64 (c.cold : Int), .int .i64 (c.test : Int)], .agg #[.int .i64 k.s, .int .i64 k.l, .int .i64 k.b], .int .i64 m] W4.drew fun e w' => ∃ A1 n1 c1, e = .returned (.tuple #[.agg (clkC c2 (.slice A1 n1 c1)), .bool ok]) ∧ OwnP W4.heap.size w' 30 (.slice A1 n1 c1) c2.ps ∧ Mod (fun _ => False) W4 w') := Lib.hid ((pin_call (B := w.heap.size) (g := gc) (W := W4.drew) c c2 k m ok hea Hgd.out (by have := Hmb.out; omega) (fun p hp => by have := Hpi.out p hp; omega) Hc4.out.drew).mono (by
                rintro e w' ⟨A1, n1, c1, rfl, h1, h2⟩
                exact ⟨A1, n1, c1, rfl, h1, ((Mod.refl _ _).drew).trans h2 (fun _ _ h => h)⟩))
              clear hea hsr d0 d1 d2 d3 d4 d5 f0 f1 f2 f3 f4 f5 hd
              go_upto_region 23 with fail
              go_region_with (first
                | (go_at_call 8; refine HP.out.mono ?_; rintro e w5 ⟨A5, n5, c5, rfl, h1, h3⟩; dsimp only [clkC]; have hd5 := h3.blk Hd4.out (fun h => h); have d0 := hd5.cell 0; have d1 := hd5.cell 1; have d2 := hd5.cell 2; have d3 := hd5.cell 3; have d4 := hd5.cell 4; have d5 := hd5.cell 5; have f0 := hd5.frozen 0; have f1 := hd5.frozen 1; have f2 := hd5.frozen 2; have f3 := hd5.frozen 3; have f4 := hd5.frozen 4; have f5 := hd5.frozen 5; simp at d0 d1 d2 d3 d4 d5; have H1 := Lib.hid h1; have H3 := Lib.hid h3; clear h1 h3))
              all_goals (
                have hd5 := H3.out.blk Hd4.out (fun h => h)
                have hko := clk_over (W := w) c2 rfl hd5 (by have := Hgdd.out; have := Hlow.out; omega) H1.out (by have := HlowW.out; omega) (Hm4.out.trans H3.out (fun _ _ h => h))
                have hmd : Mod (fun j => j = gd) W4 _ := (H3.out.mono (fun _ _ h => h.elim)).trans (Mod.six_one w5 gd (.int .i64 c2.most) (.int .i64 c2.target) (.slice A5 n5 c5) (.int .i64 (c2.hot : Int)) (.int .i64 (c2.cold : Int)) (.int .i64 (c2.test : Int))) (fun _ _ h => h)
                have HcD := Lib.hid hko.1; have HmD := Lib.hid hmd
                clear hko hmd hd5 d0 d1 d2 d3 d4 d5 f0 f1 f2 f3 f4 f5
                go_wp2_with fail
                go_meet
                first
                  | exact ⟨c2, [], ok, _, _, rfl, rfl, Hsr.out, HcD.out, OwnK.nil _ _ _ _, HmD.out⟩
                  | exact ⟨c2, [], ok, _, _, rfl, rfl, Hsr.out, HcD.out.drew, OwnK.nil _ _ _ _, HmD.out.drew⟩)
          · as_aux_lemma =>
              obtain ⟨mz, hmz⟩ : ∃ z, x / 256 % 2 = z := ⟨_, rfl⟩
              have mm : bits .and .i64 (x / 256) 1 = mz := by rw [mask1, hmz]
              obtain ⟨mm2, hm2⟩ : ∃ z, mz * 2 = z := ⟨_, rfl⟩
              obtain ⟨m, hmm⟩ : ∃ z, mm2 - 1 = z := ⟨_, rfl⟩
              have hmb : -1 ≤ m ∧ m ≤ 1 := by omega
              have wr1 : IntKind.i64.wrap (mz * 2) = mm2 := by rw [hm2]; exact IntWalk.i64_in _ (by omega)
              have wr2 : IntKind.i64.wrap (mm2 - 1) = m := by rw [hmm]; exact IntWalk.i64_in _ (by omega)
              have Hmb := Lib.hid hmb
              clear hmz hm2 hmm hmb
              obtain ⟨⟨c2, ok⟩, hea⟩ : ∃ r, pinK c k m = r := ⟨_, rfl⟩
              have Hea := Lib.hid hea
              have hsr : StepR i 6 c c2 k [] ok := ⟨fun _ => by
                have h5 := step_pin (k := k) Hgd.out m
                rw [hea] at h5
                have h6 := pins_pin (k := k) (d := 1) (n := m) Hgd.out Hpi.out (by omega) (by have := Hmb.out; omega) (by omega)
                rw [hea] at h6
                exact ⟨h5, h6.mono (by omega)⟩, fun _ h => by omega⟩
              have Hsr := Lib.hid hsr
              have HP : Hid (Calls Try.prog 8 #[.agg #[.int .i64 c.most, .int .i64 c.target, .slice A n cap, .int .i64 (c.hot : Int), .int .i64 (c.cold : Int), .int .i64 (c.test : Int)], .agg #[.int .i64 k.s, .int .i64 k.l, .int .i64 k.b], .int .i64 m] W4.drew fun e w' => ∃ A1 n1 c1, e = .returned (.tuple #[.agg (clkC c2 (.slice A1 n1 c1)), .bool ok]) ∧ OwnP W4.heap.size w' 30 (.slice A1 n1 c1) c2.ps ∧ Mod (fun _ => False) W4 w') := Lib.hid ((pin_call (B := w.heap.size) (g := gc) (W := W4.drew) c c2 k m ok hea Hgd.out (by have := Hmb.out; omega) (fun p hp => by have := Hpi.out p hp; omega) Hc4.out.drew).mono (by
                rintro e w' ⟨A1, n1, c1, rfl, h1, h2⟩
                exact ⟨A1, n1, c1, rfl, h1, ((Mod.refl _ _).drew).trans h2 (fun _ _ h => h)⟩))
              clear hea hsr d0 d1 d2 d3 d4 d5 f0 f1 f2 f3 f4 f5 hd
              go_upto_region 23 with fail
              go_region_with (first
                | (go_at_call 8; refine HP.out.mono ?_; rintro e w5 ⟨A5, n5, c5, rfl, h1, h3⟩; dsimp only [clkC]; have hd5 := h3.blk Hd4.out (fun h => h); have d0 := hd5.cell 0; have d1 := hd5.cell 1; have d2 := hd5.cell 2; have d3 := hd5.cell 3; have d4 := hd5.cell 4; have d5 := hd5.cell 5; have f0 := hd5.frozen 0; have f1 := hd5.frozen 1; have f2 := hd5.frozen 2; have f3 := hd5.frozen 3; have f4 := hd5.frozen 4; have f5 := hd5.frozen 5; simp at d0 d1 d2 d3 d4 d5; have H1 := Lib.hid h1; have H3 := Lib.hid h3; clear h1 h3))
              all_goals (
                have hd5 := H3.out.blk Hd4.out (fun h => h)
                have hko := clk_over (W := w) c2 rfl hd5 (by have := Hgdd.out; have := Hlow.out; omega) H1.out (by have := HlowW.out; omega) (Hm4.out.trans H3.out (fun _ _ h => h))
                have hmd : Mod (fun j => j = gd) W4 _ := (H3.out.mono (fun _ _ h => h.elim)).trans (Mod.six_one w5 gd (.int .i64 c2.most) (.int .i64 c2.target) (.slice A5 n5 c5) (.int .i64 (c2.hot : Int)) (.int .i64 (c2.cold : Int)) (.int .i64 (c2.test : Int))) (fun _ _ h => h)
                have HcD := Lib.hid hko.1; have HmD := Lib.hid hmd
                clear hko hmd hd5 d0 d1 d2 d3 d4 d5 f0 f1 f2 f3 f4 f5
                go_wp2_with fail
                go_meet
                first
                  | exact ⟨c2, [], ok, _, _, rfl, rfl, Hsr.out, HcD.out, OwnK.nil _ _ _ _, HmD.out⟩
                  | exact ⟨c2, [], ok, _, _, rfl, rfl, Hsr.out, HcD.out.drew, OwnK.nil _ _ _ _, HmD.out.drew⟩)
        case rest =>
          clear xc
          obtain ⟨w6, rfl⟩ : ∃ w0 : World, w0 = wc := ⟨_, rfl⟩
          obtain ⟨c', os, ok, vo, vp', rfl, rfl, hsr, hcd, hko, hmd⟩ := hcut
          obtain ⟨Bo, no, co, rfl, Hn0, _, _, _⟩ := OwnK.formN hko
          have Hno : Hid (os.length = no) := Lib.hid (by have h := Hn0.out; simpa using h)
          obtain ⟨A', n', cap', rfl, Hn', hnc', hcm', hR'⟩ := hcd.form
          have hne : gw ≠ gd ∧ gky ≠ gd ∧ gc ≠ gd := by have := Hgk.out; have := Hgw.out; have := Hgdd.out; have := Hgcl.out; omega
          have hne2 : gw ≠ gc ∧ gky ≠ gc := by have := Hgk.out; have := Hgw.out; have := Hgcl.out; omega
          have hwb := hmd.blk Hw4.out hne.1
          have hkb := hmd.blk Hk4.out hne.2.1
          have hcb : Blk w6 gc 25 #[.int .i64 c.most, .int .i64 c.target, .slice A n cap, .int .i64 (c.hot : Int), .int .i64 (c.cold : Int), .int .i64 (c.test : Int)] := hmd.blk Hc4.out.blk hne.2.2
          have hov := OwnK.modS Hv4.out hmd (fun j hj e => own_blk_ne Hv4.out.2 Hd4.out (by decide) (by rw [hj, e]))
          have HmA : Hid (Mod (fun _ => False) w w6) := Lib.hid (Hm4.out.trans hmd (fun j hj e => by have := Hgdd.out; have := Hlow.out; omega))
          have Hov := Lib.hid hov; have Hcb := Lib.hid hcb; have Hwb := Lib.hid hwb; have Hkb := Lib.hid hkb; have Hcd := Lib.hid hcd; have Hko := Lib.hid hko; have Hsr := Lib.hid hsr; have Hne2 := Lib.hid hne2; have Hnc' := Lib.hid hnc'
          clear hov hcb hwb hkb hcd hko hsr hne hne2 hmd hR' hcm' Hn0 hnc' Hc4 Hm4 Hk4 Hw4 Hd4 Hv4 HW4
          cases ok with
          | false =>
            as_aux_lemma =>
              have y2 := Hwb.out.cell 2
              simp at y2
              have Hc6 : Hid (ClkV w.heap.size gc w6 (.slice A n cap) c) := Lib.hid ⟨Hcb.out, Hov.out⟩
              have Hall : Hid (o < 4 → c.ps.all pinnedP = true) := Lib.hid (Hsr.out.2 rfl)
              have HRw : Hid (RdsP w6 w6.heap.size A n c.ps) := Lib.hid (OwnK.rds Hov.out (by rw [List.length_map]; exact Hnn.out))
              have xc := Hx.out _ HmA.out
              clear Hov Hcb Hwb Hkb Hcd Hko Hsr Hne2
              go_wp2_with fail
              go_loopg [12, 122] n (fun k s12 s122 wr => ∃ (j : Nat) (q : Bool), j + k = n ∧ s122 = .int .i64 (j : Int) ∧ s12 = .bool q ∧ (c.ps.take j).all pinnedP = q ∧ Mod (fun _ => False) w6 wr)
              case atStart => exact ⟨0, true, by omega, rfl, rfl, by simp, Mod.refl _ _⟩
              case round =>
                obtain ⟨j, q, hjk, rfl, rfl, hq, hm⟩ := hrel
                have Hjk := Lib.hid hjk; have Hq := Lib.hid hq; have Hm8 := Lib.hid hm
                clear hjk hq hm
                by_cases hjn : j < n
                · obtain ⟨ad2, p, rfl, _, hp, c0, c1, c2, c3, c4, c5, c6⟩ := (HRw.out.new Hm8.out).at_ hjn
                  have Hat := Lib.hid (all_take (f := pinnedP) hp)
                  have hjn' : (j : Int) < (n : Int) := by omega
                  have hjn2 : (j : Int) ≤ 100000 := by have := Hnn.out; have h9 : c.ps.length ≤ 2000 := Hgd.out.len; omega
                  obtain ⟨⟨s, l, b⟩, kd, rf, tr, pn⟩ := p
                  simp only at c0 c1 c2 c3 c4 c5 c6
                  obtain ⟨W1, hW1, hm1, hb1, hz1⟩ := Blk.boxed wr 30 #[.int .i64 s, .int .i64 l, .int .i64 b, .int .i64 kd, .bool rf, .bool tr, .int .i64 pn]
                  obtain ⟨g1, hg1⟩ : ∃ g, g = wr.heap.size := ⟨_, rfl⟩
                  rw [← hg1] at hb1
                  have y3 := hb1.cell 3
                  have y6 := hb1.cell 6
                  simp at y3 y6
                  have HmW1 := Lib.hid (Hm8.out.trans hm1 (fun _ _ h => h))
                  have HW1 := Lib.hid hW1; have Hg1 := Lib.hid hg1
                  clear hW1 hm1 hb1 hz1 hg1 hp xc
                  go_upto_region 29 with fail
                  rw [← HW1.out, ← Hg1.out]
                  clear c0 c1 c2 c3 c4 c5 c6
                  cases q with
                  | false =>
                    go_wp2_with fail
                    go_roundg (gk - 1)
                    case measure => have := Hjk.out; omega
                    case rel => exact ⟨j + 1, false, by have := Hjk.out; omega, by go_num, rfl, by rw [Hat.out, Hq.out]; rfl, HmW1.out⟩
                  | true =>
                    by_cases h3 : kd = 3
                    · have b3 : ((kd : Int) == 3) = true := by simp [h3]
                      have H3 := Lib.hid h3
                      clear h3
                      go_wp2_with fail
                      go_roundg (gk - 1)
                      case measure => have := Hjk.out; omega
                      case rel => exact ⟨j + 1, true, by have := Hjk.out; omega, by go_num, rfl, by rw [Hat.out, Hq.out]; simp [pinnedP, H3.out], HmW1.out⟩
                    · have b3 : ((kd : Int) == 3) = false := by simp [h3]
                      have H3 := Lib.hid h3
                      clear h3
                      go_wp2_with fail
                      go_roundg (gk - 1)
                      case measure => have := Hjk.out; omega
                      case rel => exact ⟨j + 1, decide (0 < pn), by have := Hjk.out; omega, by go_num, rfl, by rw [Hat.out, Hq.out]; simp [pinnedP, H3.out], HmW1.out⟩
                · have hjn' : ¬ (j : Int) < (n : Int) := by omega
                  have hfull : c.ps.all pinnedP = q := by have h := Hq.out; rw [List.take_of_length_le (by have := Hnn.out; have := Hjk.out; omega)] at h; exact h
                  have Hq4 : Hid (o < 4 → q = true) := Lib.hid (fun h => by rw [← hfull]; exact Hall.out h)
                  have xc := Hx.out _ (HmA.out.trans Hm8.out (fun _ _ h => h))
                  clear hfull
                  by_cases ho4 : o < 4
                  · have hq1 := Hq4.out ho4
                    subst hq1
                    have b4 : decide (o < 4) = true := decide_eq_true ho4
                    go_wp2_with fail
                    go_roundg (go1 - 1)
                    case measure => have := Hik.out; omega
                    case rel => exact ⟨i + 1, c, .slice A n cap, by have := Hik.out; omega, by go_num, Hgd.out, Hmo.out, Hpi.out.mono (by omega), Hc6.out.new Hm8.out, HmA.out.trans Hm8.out (fun _ _ h => h)⟩
                  · have b4 : decide (o < 4) = false := decide_eq_false ho4
                    go_wp2_with fail
                    go_roundg (go1 - 1)
                    case measure => have := Hik.out; omega
                    case rel => exact ⟨i + 1, c, .slice A n cap, by have := Hik.out; omega, by go_num, Hgd.out, Hmo.out, Hpi.out.mono (by omega), Hc6.out.new Hm8.out, HmA.out.trans Hm8.out (fun _ _ h => h)⟩
          | true =>
            as_aux_lemma =>
              have Hso := Lib.hid (Hsr.out.1 rfl).1
              have Hpl := Lib.hid (Hsr.out.1 rfl).2
              obtain ⟨d0, d1, d2, d3, d4, d5⟩ := Hcd.out.cells
              have y0 := Hcb.out.cell 0
              have f0 := Hcb.out.frozen 0
              have y1 := Hcb.out.cell 1
              have f1 := Hcb.out.frozen 1
              have y2 := Hcb.out.cell 2
              have f2 := Hcb.out.frozen 2
              have y3 := Hcb.out.cell 3
              have f3 := Hcb.out.frozen 3
              have y4 := Hcb.out.cell 4
              have f4 := Hcb.out.frozen 4
              have y5 := Hcb.out.cell 5
              have f5 := Hcb.out.frozen 5
              simp at y0 y1 y2 y3 y4 y5
              obtain ⟨hc7, hm7, _⟩ := clk_over (W := w) c' rfl Hcb.out Hgc.out Hcd.out.ps (Nat.le_refl _) HmA.out
              have hms := Mod.six_one w6 gc (.int .i64 c'.most) (.int .i64 c'.target) (.slice A' n' cap') (.int .i64 (c'.hot : Int)) (.int .i64 (c'.cold : Int)) (.int .i64 (c'.test : Int))
              obtain ⟨W7, hW7⟩ : ∃ W7, W7 = ((((((w6.setCell ⟨gc, 0, none⟩ (.int .i64 c'.most)).setCell ⟨gc, 1, none⟩ (.int .i64 c'.target)).setCell ⟨gc, 2, none⟩ (.slice A' n' cap')).setCell ⟨gc, 3, none⟩ (.int .i64 (c'.hot : Int))).setCell ⟨gc, 4, none⟩ (.int .i64 (c'.cold : Int))).setCell ⟨gc, 5, none⟩ (.int .i64 (c'.test : Int))) := ⟨_, rfl⟩
              rw [← hW7] at hc7 hm7 hms
              have hov7 := OwnK.modS Hov.out hms (fun j hj e => own_blk_ne Hov.out.2 Hcb.out (by decide) (by rw [hj, e]))
              have hko7 := OwnK.modS Hko.out hms (fun j hj e => own_blk_ne Hko.out.2 Hcb.out (by decide) (by rw [hj, e]))
              have hwb7 := hms.blk Hwb.out Hne2.out.1
              have hkb7 := hms.blk Hkb.out Hne2.out.2
              have HRw : Hid (RdsP W7 W7.heap.size A n c.ps) := Lib.hid (OwnK.rds hov7 (by rw [List.length_map]; exact Hnn.out))
              have HRo : Hid (RdsK 3 W7 W7.heap.size Bo no (os.map keyC)) := Lib.hid (OwnK.rds hko7 (by rw [List.length_map]; exact Hno.out))
              have HRp : Hid (RdsP W7 W7.heap.size A' n' c'.ps) := Lib.hid (OwnK.rds hc7.ps (by rw [List.length_map]; exact Hn'.out))
              have Hc7 := Lib.hid hc7; have Hm7 := Lib.hid hm7; have HW7 := Lib.hid hW7; have Hwb7 := Lib.hid hwb7; have Hkb7 := Lib.hid hkb7
              have Hlen : Hid (n' ≤ 2000) := Lib.hid (by have h9 : c'.ps.length ≤ 2000 := Hso.out.good.len; have := Hn'.out; omega)
              clear hc7 hm7 hms hW7 hov7 hko7 hwb7 hkb7 Hov Hcb Hwb Hkb Hcd Hko Hsr
              go_upto_region 34 with fail
              rw [← HW7.out]
              clear d0 d1 d2 d3 d4 d5 f0 f1 f2 f3 f4 f5 y0 y1 y2 y3 y4 y5
              have y2 := Hc7.out.cells.2.2.1
              go_wp2_with fail
              go_loopg [15, 16, 17, 152] n' (fun k s15 s16 s17 s152 wr => ∃ (j q1 q2 q3 : Nat), j + k = n' ∧ s15 = .int .i64 (q1 : Int) ∧ s16 = .int .i64 (q2 : Int) ∧ s17 = .int .i64 (q3 : Int) ∧ s152 = .int .i64 (j : Int) ∧ cntK 1 (c'.ps.take j) = q1 ∧ cntK 2 (c'.ps.take j) = q2 ∧ cntK 3 (c'.ps.take j) = q3 ∧ Mod (fun _ => False) W7 wr)
              case atStart => exact ⟨0, 0, 0, 0, by omega, rfl, rfl, rfl, rfl, by simp [cntK], by simp [cntK], by simp [cntK], Mod.refl _ _⟩
              case round =>
                obtain ⟨j, q1, q2, q3, hjk, rfl, rfl, rfl, rfl, e1, e2, e3, hm⟩ := hrel
                have Hjk := Lib.hid hjk; have E1 := Lib.hid e1; have E2 := Lib.hid e2; have E3 := Lib.hid e3; have Hm8 := Lib.hid hm
                have bq1 : (q1 : Int) ≤ 2000 := by have h1 : cntK 1 (c'.ps.take j) ≤ (c'.ps.take j).length := List.countP_le_length; rw [List.length_take] at h1; have := Hn'.out; have := Hlen.out; omega
                have bq2 : (q2 : Int) ≤ 2000 := by have h1 : cntK 2 (c'.ps.take j) ≤ (c'.ps.take j).length := List.countP_le_length; rw [List.length_take] at h1; have := Hn'.out; have := Hlen.out; omega
                have bq3 : (q3 : Int) ≤ 2000 := by have h1 : cntK 3 (c'.ps.take j) ≤ (c'.ps.take j).length := List.countP_le_length; rw [List.length_take] at h1; have := Hn'.out; have := Hlen.out; omega
                clear hjk e1 e2 e3 hm y2
                by_cases hjn : j < n'
                · as_aux_lemma =>
                    obtain ⟨ad2, p, rfl, _, hp, c0, c1, c2, c3, c4, c5, c6⟩ := (HRp.out.new Hm8.out).at_ hjn
                    have Ht1 := Lib.hid (cnt_take 1 hp); have Ht2 := Lib.hid (cnt_take 2 hp); have Ht3 := Lib.hid (cnt_take 3 hp)
                    have hjn' : (j : Int) < (n' : Int) := by omega
                    have hjn2 : (j : Int) ≤ 100000 := by have := Hlen.out; omega
                    have hpk : placeK p.key c'.ps = (j : Int) := by unfold placeK; rw [Hso.out.good.place hp]
                    have hokp := Hso.out.good.base.ok_at hp
                    obtain ⟨⟨s, l, b⟩, kd, rf, tr, pn⟩ := p
                    simp only at c0 c1 c2 c3 c4 c5 c6
                    obtain ⟨W1, hW1, hm1, hb1, hz1⟩ := Blk.boxed wr 30 #[.int .i64 s, .int .i64 l, .int .i64 b, .int .i64 kd, .bool rf, .bool tr, .int .i64 pn]
                    obtain ⟨g1, hg1⟩ : ∃ g, g = wr.heap.size := ⟨_, rfl⟩
                    rw [← hg1] at hb1
                    have HmW1 := Lib.hid (Hm8.out.trans hm1 (fun _ _ h => h))
                    have HbW1 := Lib.hid hb1
                    have Hpk := Lib.hid hpk; have Hokp := Lib.hid hokp
                    have HW1 := Lib.hid hW1; have Hg1 := Lib.hid hg1
                    obtain ⟨y0, y1, y2, y3, y4, y5⟩ := (Hc7.out.new HmW1.out).cells
                    have x0 := hb1.cell 0
                    have x1 := hb1.cell 1
                    have x2 := hb1.cell 2
                    have x3 := hb1.cell 3
                    simp at x0 x1 x2 x3
                    clear hW1 hm1 hb1 hz1 hg1 hp hpk hokp
                    go_upto_region 38 with fail
                    rw [← HW1.out, ← Hg1.out]
                    clear c0 c1 c2 c3 c4 c5 c6
                    rcases Hokp.out.1 with h | h | h
                    · have b1 : ((kd : Int) == 1) = true := by simp only at h; simp [h]
                      have b2 : ((kd : Int) == 2) = false := by simp only at h; simp [h]
                      have b3 : ((kd : Int) == 3) = false := by simp only at h; simp [h]
                      have Hk := Lib.hid h
                      have p0 : decide (pn < 0) = false := decide_eq_false (by have := Hokp.out.2.1; simp only at this; omega)
                      clear h
                      go_wp2_with fail
                      refine (find_any c' ⟨s, l, b⟩ (some ad2) n' cap' W1 (HRp.out.new HmW1.out).fit (by have := Hlen.out; omega)).mono ?_
                      rw [Hpk.out]
                      rintro e w2 ⟨rfl, hm2⟩
                      have hb2 := hm2.blk HbW1.out (fun h => h)
                      clear x0 x1 x2 x3 y0 y1 y2 y3 y4 y5
                      have x3 := hb2.cell 3
                      have x6 := hb2.cell 6
                      simp at x3 x6
                      have Hm2 := Lib.hid (HmW1.out.trans hm2 (fun _ _ h => h))
                      clear hb2 hm2
                      go_wp2_with fail
                      go_roundg (gk - 1)
                      case measure => have := Hjk.out; omega
                      case rel => exact ⟨j + 1, q1 + 1, q2, q3, by have := Hjk.out; omega, by go_num, rfl, rfl, by go_num, by rw [Ht1.out, E1.out, if_pos Hk.out]; first | done | rfl, by rw [Ht2.out, E2.out, if_neg (fun e => absurd (e.symm.trans Hk.out) (by decide))]; first | done | rfl, by rw [Ht3.out, E3.out, if_neg (fun e => absurd (e.symm.trans Hk.out) (by decide))]; first | done | rfl, Hm2.out⟩
                    · have b1 : ((kd : Int) == 1) = false := by simp only at h; simp [h]
                      have b2 : ((kd : Int) == 2) = true := by simp only at h; simp [h]
                      have b3 : ((kd : Int) == 3) = false := by simp only at h; simp [h]
                      have Hk := Lib.hid h
                      have p0 : decide (pn < 0) = false := decide_eq_false (by have := Hokp.out.2.1; simp only at this; omega)
                      clear h
                      go_wp2_with fail
                      refine (find_any c' ⟨s, l, b⟩ (some ad2) n' cap' W1 (HRp.out.new HmW1.out).fit (by have := Hlen.out; omega)).mono ?_
                      rw [Hpk.out]
                      rintro e w2 ⟨rfl, hm2⟩
                      have hb2 := hm2.blk HbW1.out (fun h => h)
                      clear x0 x1 x2 x3 y0 y1 y2 y3 y4 y5
                      have x3 := hb2.cell 3
                      have x6 := hb2.cell 6
                      simp at x3 x6
                      have Hm2 := Lib.hid (HmW1.out.trans hm2 (fun _ _ h => h))
                      clear hb2 hm2
                      go_wp2_with fail
                      go_roundg (gk - 1)
                      case measure => have := Hjk.out; omega
                      case rel => exact ⟨j + 1, q1, q2 + 1, q3, by have := Hjk.out; omega, rfl, by go_num, rfl, by go_num, by rw [Ht1.out, E1.out, if_neg (fun e => absurd (e.symm.trans Hk.out) (by decide))]; first | done | rfl, by rw [Ht2.out, E2.out, if_pos Hk.out]; first | done | rfl, by rw [Ht3.out, E3.out, if_neg (fun e => absurd (e.symm.trans Hk.out) (by decide))]; first | done | rfl, Hm2.out⟩
                    · have b1 : ((kd : Int) == 1) = false := by simp only at h; simp [h]
                      have b2 : ((kd : Int) == 2) = false := by simp only at h; simp [h]
                      have b3 : ((kd : Int) == 3) = true := by simp only at h; simp [h]
                      have Hk := Lib.hid h
                      have p0 : decide (pn < 0) = false := decide_eq_false (by have := Hokp.out.2.1; simp only at this; omega)
                      have p1 : decide (0 < pn) = false := decide_eq_false (by have := Hokp.out.2.2 Hk.out; simp only at this; omega)
                      clear h
                      go_wp2_with fail
                      refine (find_any c' ⟨s, l, b⟩ (some ad2) n' cap' W1 (HRp.out.new HmW1.out).fit (by have := Hlen.out; omega)).mono ?_
                      rw [Hpk.out]
                      rintro e w2 ⟨rfl, hm2⟩
                      have hb2 := hm2.blk HbW1.out (fun h => h)
                      clear x0 x1 x2 x3 y0 y1 y2 y3 y4 y5
                      have x3 := hb2.cell 3
                      have x6 := hb2.cell 6
                      simp at x3 x6
                      have Hm2 := Lib.hid (HmW1.out.trans hm2 (fun _ _ h => h))
                      clear hb2 hm2
                      go_wp2_with fail
                      go_roundg (gk - 1)
                      case measure => have := Hjk.out; omega
                      case rel => exact ⟨j + 1, q1, q2, q3 + 1, by have := Hjk.out; omega, rfl, rfl, by go_num, by go_num, by rw [Ht1.out, E1.out, if_neg (fun e => absurd (e.symm.trans Hk.out) (by decide))]; first | done | rfl, by rw [Ht2.out, E2.out, if_neg (fun e => absurd (e.symm.trans Hk.out) (by decide))]; first | done | rfl, by rw [Ht3.out, E3.out, if_pos Hk.out]; first | done | rfl, Hm2.out⟩
                · have hjn' : ¬ (j : Int) < (n' : Int) := by omega
                  have hfull : c'.ps.take j = c'.ps := List.take_of_length_le (by have := Hn'.out; have := Hjk.out; omega)
                  have hE1 := E1.out; have hE2 := E2.out; have hE3 := E3.out
                  rw [hfull] at hE1 hE2 hE3
                  obtain ⟨T, hT⟩ : ∃ T, c'.target = T := ⟨_, rfl⟩
                  obtain ⟨h1, hh1⟩ : ∃ x, c'.hot = x := ⟨_, rfl⟩
                  obtain ⟨h2, hh2⟩ : ∃ x, c'.cold = x := ⟨_, rfl⟩
                  obtain ⟨h3, hh3⟩ : ∃ x, c'.test = x := ⟨_, rfl⟩
                  have hM : c'.most = M := by rw [Hso.out.most, Hmo.out]
                  have hMb := HMb.out
                  have g1 := Hso.out.good.room
                  have g2 := Hso.out.good.trial
                  have g3 := Hso.out.good.hots
                  have g4 := Hso.out.good.base.target
                  have g5 := Hso.out.good.base.hot
                  have g6 := Hso.out.good.base.cold
                  have g7 := Hso.out.good.base.test
                  rw [hE1, hE2, hM] at g1
                  rw [hE3, hM] at g2
                  rw [hE1, hM, hT] at g3
                  rw [hT, hM] at g4
                  rw [hh1, Hn'.out] at g5
                  rw [hh2, Hn'.out] at g6
                  rw [hh3, Hn'.out] at g7
                  obtain ⟨w8, rfl⟩ : ∃ w0 : World, w0 = wr := ⟨_, rfl⟩
                  obtain ⟨y0, y1, y2, y3, y4, y5⟩ := (Hc7.out.new Hm8.out).cells
                  rw [hT] at y1
                  rw [hh1] at y3
                  rw [hh2] at y4
                  rw [hh3] at y5
                  go_upto_region 49 with fail
                  go_cut [266] from 193 to 266 (fun s266 wx => s266 = .bool false ∧ Mod (fun _ => False) W7 wx)
                  case first =>
                    as_aux_lemma =>
                      have k1 : decide (M < (q1 : Int) + (q2 : Int)) = false := decide_eq_false (by omega)
                      have k2 : decide (M < (q3 : Int)) = false := decide_eq_false (by omega)
                      have k3 : decide (M - T < (q1 : Int)) = false := decide_eq_false (by omega)
                      have k4 : decide (T < 1) = false := decide_eq_false (by omega)
                      have k5 : decide (M < T) = false := decide_eq_false (by omega)
                      have k6 : M ≤ 8 := by omega
                      have k7 : 1 ≤ M := by omega
                      have k8 : T ≤ 8 := by omega
                      have k9 : 1 ≤ T := by omega
                      have Hg5 := Lib.hid g5; have Hg6 := Lib.hid g6; have Hg7 := Lib.hid g7
                      clear hM hT hh1 hh2 hh3 hE1 hE2 hE3 hfull g1 g2 g3 g4 g5 g6 g7 hMb
                      by_cases hz : n' = 0
                      · have z0 : decide (0 < (n' : Int)) = false := decide_eq_false (by omega)
                        have H0 := Lib.hid hz
                        clear hz
                        refine wp_region_lit ?_
                        simp only [List.append_eq, List.cons_append, List.nil_append]
                        go_wp2_with fail
                        all_goals (
                          go_meet
                          exact ⟨by first | rfl | (exfalso; have := H0.out; omega), Hm8.out⟩)
                      · have z0 : decide (0 < (n' : Int)) = true := decide_eq_true (by omega)
                        have z1 : decide ((h1 : Int) < 0) = false := decide_eq_false (by omega)
                        have z2 : decide ((n' : Int) ≤ (h1 : Int)) = false := decide_eq_false (by have := Hg5.out; omega)
                        have z3 : decide ((h2 : Int) < 0) = false := decide_eq_false (by omega)
                        have z4 : decide ((n' : Int) ≤ (h2 : Int)) = false := decide_eq_false (by have := Hg6.out; omega)
                        have z5 : decide ((h3 : Int) < 0) = false := decide_eq_false (by omega)
                        have z6 : decide ((n' : Int) ≤ (h3 : Int)) = false := decide_eq_false (by have := Hg7.out; omega)
                        clear hz
                        refine wp_region_lit ?_
                        simp only [List.append_eq, List.cons_append, List.nil_append]
                        go_wp2_with fail
                        all_goals (
                          go_meet
                          exact ⟨by first | rfl | (exfalso; omega) | (simp; have := Hg5.out; have := Hg6.out; have := Hg7.out; omega), Hm8.out⟩)
                  case rest =>
                    obtain ⟨w9, rfl⟩ : ∃ w0 : World, w0 = wc := ⟨_, rfl⟩
                    obtain ⟨rfl, hcut⟩ := hcut
                    have Hm9 : Hid (Mod (fun _ => False) W7 w9) := Lib.hid hcut
                    clear hcut hM hT hh1 hh2 hh3 hE1 hE2 hE3 hfull g1 g2 g3 g4 g5 g6 g7 hMb y0 y1 y2 y3 y4 y5 Hjk E1 E2 E3 bq1 bq2 bq3 hjn hjn' Hm8
                    go_wp2_with fail
                    go_loopg [269] no (fun k s269 wr => ∃ j : Nat, j + k = no ∧ s269 = .int .i64 (j : Int) ∧ Mod (fun _ => False) W7 wr)
                    case atStart => exact ⟨0, by omega, rfl, Hm9.out⟩
                    case round =>
                      obtain ⟨j, hjk, rfl, hm⟩ := hrel
                      have Hjk := Lib.hid hjk; have Hm8 := Lib.hid hm
                      clear hjk hm
                      by_cases hjn : j < no
                      · as_aux_lemma =>
                          obtain ⟨ad2, x, rfl, _, hx, c0, c1, c2⟩ := keys_at (HRo.out.new Hm8.out) hjn
                          have hgo := fun i p h1 h2 => Hso.out.gone x (List.mem_of_getElem? hx) i p h1 h2
                          have Hgo := Lib.hid hgo
                          have hjn' : (j : Int) < (no : Int) := by omega
                          have hjn2 : (j : Int) ≤ 100000 := by have := Hno.out; have := Hso.out.few; omega
                          obtain ⟨s, l, b⟩ := x
                          simp only at c0 c1 c2
                          obtain ⟨W1, hW1, hm1, hb1, hz1⟩ := Blk.boxed wr 28 #[.int .i64 s, .int .i64 l, .int .i64 b]
                          obtain ⟨g1, hg1⟩ : ∃ g, g = wr.heap.size := ⟨_, rfl⟩
                          rw [← hg1] at hb1
                          have HmW1 := Lib.hid (Hm8.out.trans hm1 (fun _ _ h => h))
                          have HW1 := Lib.hid hW1; have Hg1 := Lib.hid hg1
                          obtain ⟨y0, y1, y2, y3, y4, y5⟩ := (Hc7.out.new HmW1.out).cells
                          obtain ⟨x0, x1, x2⟩ := hb1.threeR
                          clear hW1 hm1 hb1 hz1 hg1 hx hgo
                          go_upto_region 54 with fail
                          rw [← HW1.out, ← Hg1.out]
                          clear c0 c1 c2
                          go_wp2_with fail
                          refine (find_any c' ⟨s, l, b⟩ A' n' cap' W1 (HRp.out.new HmW1.out).fit (by have := Hlen.out; omega)).mono ?_
                          obtain ⟨z, hz⟩ : ∃ z, placeK ⟨s, l, b⟩ c'.ps = z := ⟨_, rfl⟩
                          rw [hz]
                          rintro e w2 ⟨rfl, hm2⟩
                          have Hm2 := Lib.hid (HmW1.out.trans hm2 (fun _ _ h => h))
                          clear x0 x1 x2 y0 y1 y2 y3 y4 y5 hm2
                          unfold placeK at hz
                          cases hf : findK ⟨s, l, b⟩ c'.ps with
                          | none =>
                            rw [hf] at hz
                            have z0 : decide (0 ≤ z) = false := decide_eq_false (by simp only at hz; omega)
                            clear hf hz
                            go_wp2_with fail
                            go_roundg (gk - 1)
                            case measure => have := Hjk.out; omega
                            case rel => exact ⟨j + 1, by have := Hjk.out; omega, by go_num, Hm2.out⟩
                          | some m =>
                            rw [hf] at hz
                            simp only at hz
                            subst hz
                            obtain ⟨p, hp, _⟩ := findK_some hf
                            have hk3 := Hgo.out m p hf hp
                            have b3 : ((p.kind : Int) == 3) = true := by simp [hk3]
                            have hml : (m : Int) < (n' : Int) := by have h := (List.getElem?_eq_some_iff.1 hp).1; have := Hn'.out; omega
                            have z0 : decide (0 ≤ (m : Int)) = true := decide_eq_true (by omega)
                            have z1 : ¬ (m : Int) < 0 := by omega
                            obtain ⟨pg, n7, cap7, e7, _, _, _, _, _, _, _, _, _, u3, _⟩ := (Hc7.out.new Hm2.out).at_ hp
                            have y2 := (Hc7.out.new Hm2.out).cells.2.2.1
                            injection e7 with e71 e72 e73
                            subst e71 e72 e73
                            have hat7 : (⟨pg, 0, none⟩ : Addr).add (m * 7) = ⟨pg, m * 7, none⟩ := by rw [add_addr, Nat.zero_add]
                            clear hf hp hk3
                            go_wp2_with fail
                            go_roundg (gk - 1)
                            case measure => have := Hjk.out; omega
                            case rel => exact ⟨j + 1, by have := Hjk.out; omega, by go_num, Hm2.out⟩
                      · have hjn' : ¬ (j : Int) < (no : Int) := by omega
                        obtain ⟨w10, rfl⟩ : ∃ w0 : World, w0 = wr := ⟨_, rfl⟩
                        have y2 := (Hm8.out.blk Hwb7.out (fun h => h)).cell 2
                        simp at y2
                        go_wp2_with fail
                        clear y2 hjn hjn'
                        have Hm9 := Hm8
                        clear Hm8 Hjk
                        go_loopg [291] n (fun k s291 wr => ∃ j : Nat, j + k = n ∧ s291 = .int .i64 (j : Int) ∧ Mod (fun _ => False) W7 wr)
                        case atStart => exact ⟨0, by omega, rfl, Hm9.out⟩
                        case round =>
                          obtain ⟨j, hjk, rfl, hm⟩ := hrel
                          have Hjk := Lib.hid hjk; have Hm8 := Lib.hid hm
                          clear hjk hm
                          by_cases hjn : j < n
                          · as_aux_lemma =>
                              obtain ⟨ad2, p, rfl, _, hp, c0, c1, c2, c3, c4, c5, c6⟩ := (HRw.out.new Hm8.out).at_ hjn
                              have hokp := Hgd.out.base.ok_at hp
                              have Hst : Hid (0 < p.pins → p.key ≠ k → ∃ m q, findK p.key c'.ps = some m ∧ c'.ps[m]? = some q ∧ q.pins = p.pins) := Lib.hid (fun h0 hk => by
                                have hr : p.resi = true := (resi_of hokp).2 (fun h => by have := hokp.2.2 h; omega)
                                have h1 := Hso.out.stay (p.key, p.pins) (res_mem.2 ⟨p, List.mem_of_getElem? hp, hr, rfl⟩) (by simp only; omega) hk
                                obtain ⟨m, q, h2, h3, _, h5⟩ := res_found Hso.out.good h1
                                exact ⟨m, q, h2, h3, h5⟩)
                              have hjn' : (j : Int) < (n : Int) := by omega
                              have hjn2 : (j : Int) ≤ 100000 := by have := Hnn.out; have h9 : c.ps.length ≤ 2000 := Hgd.out.len; omega
                              clear hokp
                              obtain ⟨⟨s, l, b⟩, kd, rf, tr, pn⟩ := p
                              simp only at c0 c1 c2 c3 c4 c5 c6
                              obtain ⟨W1, hW1, hm1, hb1, hz1⟩ := Blk.boxed wr 30 #[.int .i64 s, .int .i64 l, .int .i64 b, .int .i64 kd, .bool rf, .bool tr, .int .i64 pn]
                              obtain ⟨g1, hg1⟩ : ∃ g, g = wr.heap.size := ⟨_, rfl⟩
                              rw [← hg1] at hb1
                              have HmW1 := Lib.hid (Hm8.out.trans hm1 (fun _ _ h => h))
                              have HbW1 := Lib.hid hb1
                              have HW1 := Lib.hid hW1; have Hg1 := Lib.hid hg1
                              obtain ⟨ks, kl, kb⟩ := k
                              obtain ⟨z0, z1, z2⟩ := (HmW1.out.blk Hkb7.out (fun h => h)).threeR
                              simp only at z0 z1 z2
                              obtain ⟨y0, y1, y2, y3, y4, y5⟩ := (Hc7.out.new HmW1.out).cells
                              have x0 := hb1.cell 0
                              have x1 := hb1.cell 1
                              have x2 := hb1.cell 2
                              have x6 := hb1.cell 6
                              simp at x0 x1 x2 x6
                              clear hW1 hm1 hb1 hz1 hg1 hp
                              go_upto_region 61 with fail
                              rw [← HW1.out, ← Hg1.out]
                              clear c0 c1 c2 c3 c4 c5 c6
                              by_cases h0 : 0 < pn
                              · have k0 : decide (0 < pn) = true := decide_eq_true h0
                                by_cases hk : (⟨s, l, b⟩ : KeyN) = ⟨ks, kl, kb⟩
                                · injection hk with hk1 hk2 hk3
                                  subst hk1 hk2 hk3
                                  go_quiet (fail)
                                  go_wp2_with fail
                                  go_roundg (gk - 1)
                                  case measure => have := Hjk.out; omega
                                  case rel => exact ⟨j + 1, by have := Hjk.out; omega, by go_num, HmW1.out.drewN _⟩
                                · obtain ⟨m, q, hf, hq, hpn⟩ := Hst.out h0 hk
                                  have Hf := Lib.hid hf; have H0 := Lib.hid h0
                                  have hml : m < n' := by have h := (List.getElem?_eq_some_iff.1 hq).1; have := Hn'.out; omega
                                  have hpn' : q.pins = pn := hpn
                                  obtain ⟨pg, n7, cap7, e7, _, _, _, _, _, _, _, _, _, _, _, _, u6, _⟩ := (Hc7.out.new HmW1.out).at_ hq
                                  injection e7 with e71 e72 e73
                                  subst e71 e72 e73
                                  have hat7 : (⟨pg, 0, none⟩ : Addr).add (m * 7) = ⟨pg, m * 7, none⟩ := by rw [add_addr, Nat.zero_add]
                                  have g1' : ¬ (m : Int) < 0 := by omega
                                  have g3 : (m : Int) < (n' : Int) := by omega
                                  have g4 : decide ((m : Int) < 0) = false := decide_eq_false g1'
                                  have Hq := Lib.hid hq; have Hpn := Lib.hid hpn'
                                  have Ld : Hid (∀ w2, Mod (fun _ => False) W1 w2 → w2.cell? ⟨gc, 0, none⟩ = some (.int .i64 c'.most) ∧ w2.cell? ⟨gc, 1, none⟩ = some (.int .i64 c'.target) ∧ w2.cell? ⟨gc, 2, none⟩ = some (.slice (some ⟨pg, 0, none⟩) n' cap') ∧ w2.cell? ⟨gc, 3, none⟩ = some (.int .i64 c'.hot) ∧ w2.cell? ⟨gc, 4, none⟩ = some (.int .i64 c'.cold) ∧ w2.cell? ⟨gc, 5, none⟩ = some (.int .i64 c'.test)) := Lib.hid (fun w2 h => ((Hc7.out.new HmW1.out).new h).cells)
                                  have Lk : Hid (∀ w2, Mod (fun _ => False) W1 w2 → w2.cell? ⟨gky, 0, none⟩ = some (.int .i64 ks) ∧ w2.cell? ⟨gky, 1, none⟩ = some (.int .i64 kl) ∧ w2.cell? ⟨gky, 2, none⟩ = some (.int .i64 kb)) := Lib.hid (fun w2 h => (h.blk (HmW1.out.blk Hkb7.out (fun h => h)) (fun h => h)).threeR)
                                  have Lb : Hid (∀ w2, Mod (fun _ => False) W1 w2 → w2.cell? ⟨g1, 0, none⟩ = some (.int .i64 s) ∧ w2.cell? ⟨g1, 1, none⟩ = some (.int .i64 l) ∧ w2.cell? ⟨g1, 2, none⟩ = some (.int .i64 b)) := Lib.hid (fun w2 h => ⟨(h.blk HbW1.out (fun h => h)).cell 0, (h.blk HbW1.out (fun h => h)).cell 1, (h.blk HbW1.out (fun h => h)).cell 2⟩)
                                  have Lp : Hid (∀ w2, Mod (fun _ => False) W1 w2 → w2.cell? ⟨g1, 6, none⟩ = some (.int .i64 pn)) := Lib.hid (fun w2 h => (h.blk HbW1.out (fun h => h)).cell 6)
                                  have Lq : Hid (∀ w2, Mod (fun _ => False) W1 w2 → w2.cell? ⟨pg, m * 7 + 6, none⟩ = some (.int .i64 pn)) := Lib.hid (fun w2 h => by
                                    have h9 := (((Hc7.out.new HmW1.out).new h).page_ Hq.out).2.2.2.2.2.2.1
                                    rw [Hpn.out] at h9
                                    exact h9)
                                  have Cf : Hid (∀ w2, Mod (fun _ => False) W1 w2 → Calls Try.prog 10 #[.agg #[.int .i64 c'.most, .int .i64 c'.target, .slice (some ⟨pg, 0, none⟩) n' cap', .int .i64 (c'.hot : Int), .int .i64 (c'.cold : Int), .int .i64 (c'.test : Int)], .agg #[.int .i64 s, .int .i64 l, .int .i64 b]] w2 fun e w' => e = .returned (.int .i64 (m : Int)) ∧ Mod (fun _ => False) W1 w') := Lib.hid (fun w2 h => by
                                    refine (find_any c' ⟨s, l, b⟩ (some ⟨pg, 0, none⟩) n' cap' w2 ((HRp.out.new HmW1.out).fit.new h).fit (by have := Hlen.out; omega)).mono ?_
                                    rintro e w' ⟨rfl, hm⟩
                                    exact ⟨by unfold placeK; rw [Hf.out], h.trans hm (fun _ _ h => h)⟩)
                                  have hd3 : s ≠ ks ∨ l ≠ kl ∨ b ≠ kb := by
                                    by_cases d0 : s = ks
                                    · by_cases d1 : l = kl
                                      · exact .inr (.inr (fun d2 => hk (by rw [d0, d1, d2])))
                                      · exact .inr (.inl d1)
                                    · exact .inl d0
                                  clear hf hq hpn hpn' hk x0 x1 x2 x6 y0 y1 y2 y3 y4 y5 z0 z1 z2 u6 k0 h0
                                  have k0 : decide (0 < pn) = true := decide_eq_true (by have := H0.out; omega)
                                  have HD3 := Lib.hid hd3
                                  clear hd3
                                  refine wp_region_class (fun W' => Mod (fun _ => False) W1 W') (by kernel_rfl) (by kernel_rfl) (Mod.refl _ _).drew ?_
                                  iterate 1 quiet_step (exact fun _ => rfl)
                                  refine wpQuiet_step (fun K hK => ?_)
                                  go_simp
                                  refine ⟨.int .i64 pn, fun w2 h2 => ?_, hK _ ?_⟩
                                  · have b0 := Lp.out w2 h2
                                    simp only [b0]
                                    exact ⟨rfl, rfl⟩
                                  clear hK K
                                  iterate 3 quiet_step (exact fun _ => rfl)
                                  refine wpQuiet_step (fun K hK => ?_)
                                  go_simp
                                  refine ⟨.agg #[.int .i64 s, .int .i64 l, .int .i64 b], fun w2 h2 => ?_, hK _ ?_⟩
                                  · obtain ⟨b0, b1, b2⟩ := Lb.out w2 h2
                                    simp only [b0, b1, b2, Result.andThen_ok]
                                    exact ⟨trivial, trivial⟩
                                  clear hK K
                                  refine wpQuiet_step (fun K hK => ?_)
                                  go_simp
                                  refine ⟨.agg #[.int .i64 ks, .int .i64 kl, .int .i64 kb], fun w2 h2 => ?_, hK _ ?_⟩
                                  · obtain ⟨b0, b1, b2⟩ := Lk.out w2 h2
                                    simp only [b0, b1, b2, Result.andThen_ok]
                                    exact ⟨trivial, trivial⟩
                                  clear hK K
                                  refine wpQuiet_step (fun K hK => ?_)
                                  go_simp
                                  refine ⟨.bool true, fun w2 h2 => ?_, hK _ ?_⟩
                                  · rcases HD3.out with d | d | d <;> (go_simp; first | done | rfl | trivial | exact ⟨rfl, rfl⟩ | exact ⟨trivial, trivial⟩)
                                  clear hK K
                                  iterate 2 quiet_step (exact fun _ => rfl)
                                  refine wpQuiet_step (fun K hK => ?_)
                                  go_simp
                                  refine ⟨.agg #[.int .i64 c'.most, .int .i64 c'.target, .slice (some ⟨pg, 0, none⟩) n' cap', .int .i64 (c'.hot : Int), .int .i64 (c'.cold : Int), .int .i64 (c'.test : Int)], fun w2 h2 => ?_, hK _ ?_⟩
                                  · obtain ⟨b0, b1, b2, b3, b4, b5⟩ := Ld.out w2 h2
                                    simp only [b0, b1, b2, b3, b4, b5, Result.andThen_ok]
                                    exact ⟨trivial, trivial⟩
                                  clear hK K
                                  iterate 1 quiet_step (exact fun _ => rfl)
                                  refine wpQuiet_step (fun K hK => ?_)
                                  go_simp
                                  refine ⟨.agg #[.int .i64 s, .int .i64 l, .int .i64 b], fun w2 h2 => ?_, hK _ ?_⟩
                                  · obtain ⟨b0, b1, b2⟩ := Lb.out w2 h2
                                    simp only [b0, b1, b2, Result.andThen_ok]
                                    exact ⟨trivial, trivial⟩
                                  clear hK K
                                  refine wpQuiet_step (fun K hK => ?_)
                                  go_simp
                                  refine ⟨.int .i64 (m : Int), fun w2 h2 => (Cf.out w2 h2).mono ?_, hK _ ?_⟩
                                  · rintro e w3 ⟨rfl, hm⟩
                                    exact ⟨rfl, hm⟩
                                  clear hK K
                                  iterate 3 quiet_step (exact fun _ => rfl)
                                  refine wpQuiet_step (fun K hK => ?_)
                                  go_simp
                                  refine ⟨(.slice (some ⟨pg, 0, none⟩) n' cap'), fun w2 h2 => ?_, hK _ ?_⟩
                                  · have b0 := (Ld.out w2 h2).2.2.1
                                    simp only [b0]
                                    exact ⟨rfl, rfl⟩
                                  clear hK K
                                  refine wpQuiet_step (fun K hK => ?_)
                                  go_simp
                                  refine ⟨.agg #[.int .i64 c'.most, .int .i64 c'.target, .slice (some ⟨pg, 0, none⟩) n' cap', .int .i64 (c'.hot : Int), .int .i64 (c'.cold : Int), .int .i64 (c'.test : Int)], fun w2 h2 => ?_, hK _ ?_⟩
                                  · obtain ⟨b0, b1, b2, b3, b4, b5⟩ := Ld.out w2 h2
                                    simp only [b0, b1, b2, b3, b4, b5, Result.andThen_ok]
                                    exact ⟨trivial, trivial⟩
                                  clear hK K
                                  iterate 1 quiet_step (exact fun _ => rfl)
                                  refine wpQuiet_step (fun K hK => ?_)
                                  go_simp
                                  refine ⟨.agg #[.int .i64 s, .int .i64 l, .int .i64 b], fun w2 h2 => ?_, hK _ ?_⟩
                                  · obtain ⟨b0, b1, b2⟩ := Lb.out w2 h2
                                    simp only [b0, b1, b2, Result.andThen_ok]
                                    exact ⟨trivial, trivial⟩
                                  clear hK K
                                  refine wpQuiet_step (fun K hK => ?_)
                                  go_simp
                                  refine ⟨.int .i64 (m : Int), fun w2 h2 => (Cf.out w2 h2).mono ?_, hK _ ?_⟩
                                  · rintro e w3 ⟨rfl, hm⟩
                                    exact ⟨rfl, hm⟩
                                  clear hK K
                                  iterate 2 quiet_step (exact fun _ => rfl)
                                  refine wpQuiet_step (fun K hK => ?_)
                                  go_simp
                                  refine ⟨.int .i64 pn, fun w2 h2 => ?_, hK _ ?_⟩
                                  · have b0 := Lq.out w2 h2
                                    simp only [b0]
                                    exact ⟨rfl, rfl⟩
                                  clear hK K
                                  iterate 1 quiet_step (exact fun _ => rfl)
                                  refine wpQuiet_step (fun K hK => ?_)
                                  go_simp
                                  refine ⟨.int .i64 pn, fun w2 h2 => ?_, hK _ ?_⟩
                                  · have b0 := Lp.out w2 h2
                                    simp only [b0]
                                    exact ⟨rfl, rfl⟩
                                  clear hK K
                                  iterate 3 quiet_step (exact fun _ => rfl)
                                  refine wpQuiet_nil ?_
                                  intro w7 h7
                                  have H7 := Lib.hid h7
                                  clear h7
                                  go_wp2_with fail
                                  go_roundg (gk - 1)
                                  case measure => have := Hjk.out; omega
                                  case rel => exact ⟨j + 1, by have := Hjk.out; omega, by go_num, HmW1.out.trans H7.out (fun _ _ h => h)⟩
                              · have k0 : decide (0 < pn) = false := decide_eq_false h0
                                go_quiet (fail)
                                go_wp2_with fail
                                go_roundg (gk - 1)
                                case measure => have := Hjk.out; omega
                                case rel => exact ⟨j + 1, by have := Hjk.out; omega, by go_num, HmW1.out.drewN _⟩
                          · have hjn' : ¬ (j : Int) < (n : Int) := by omega
                            go_wp2_with fail
                            go_roundg (go1 - 1)
                            case measure => have := Hik.out; omega
                            case rel => exact ⟨i + 1, c', .slice A' n' cap', by have := Hik.out; omega, by go_num, Hso.out.good, by rw [Hso.out.most]; exact Hmo.out, Hpl.out, Hc7.out.new Hm8.out, Hm7.out.trans Hm8.out (fun _ _ h => h)⟩
    · as_aux_lemma =>
        by_cases b1 : (i : Int) < (n1 : Int)
        · have b2 : ¬ (i : Int) < 150 := by have := HN.out; omega
          go_wp2_with fail
          refine (ckAwake_any wr).mono ?_
          rintro e w2 ⟨rfl, hm2⟩
          have Hm2 := Lib.hid (Hm.out.trans hm2 (fun _ _ h => h))
          clear hm2
          go_wp2_with fail
          go_ret
          exact ⟨rfl, Hm2.out⟩
        · skip
          go_wp2_with fail
          refine (ckAwake_any wr).mono ?_
          rintro e w2 ⟨rfl, hm2⟩
          have Hm2 := Lib.hid (Hm.out.trans hm2 (fun _ _ h => h))
          clear hm2
          go_wp2_with fail
          go_ret
          exact ⟨rfl, Hm2.out⟩
end Go.Proofs.Ythogflfjdfcpeaa
