/- The texts Ri, Rj, Rn, one behind the other. -/
import Derived.Test.YthogflfjdfcpeaaMq1
import Derived.Test.YthogflfjdfcpeaaMq11
/- The document's hand Test, and its hand Hot. -/
namespace Go.Proofs.Ythogflfjdfcpeaa
open Go.RowKit

theorem RngV.count {B g : Nat} {A : Option Addr} {n cap : Nat} {vo : Value} {c : ClkN} {os : List KeyN} {w : World} (kd : Int) (h : RngV B g w (.slice A n cap) vo c os) (hn : c.ps.length ≤ 100000) :
    Calls Try.prog 52 #[.agg #[.int .i64 c.most, .int .i64 c.target, .slice A n cap, .int .i64 (c.hot : Int), .int .i64 (c.cold : Int), .int .i64 (c.test : Int)], .int .i64 kd] w fun e w' => e = .returned (.int .i64 (cntK kd c.ps : Int)) ∧ Mod (fun _ => False) w w' := by
  obtain ⟨A', n', cap', e, hl, _, _, hr⟩ := h.form
  injection e with e1 e2 e3
  subst e1 e2 e3
  exact rkCount_any kd c.most c.target c.hot c.cold c.test A n cap c.ps w hr (by have := hl.out; omega)
theorem RngV.on_ {B g : Nat} {A : Option Addr} {n cap : Nat} {vo : Value} {c : ClkN} {os : List KeyN} {w : World} (i : Nat) (h : RngV B g w (.slice A n cap) vo c os) (hi : i < c.ps.length) (hn : c.ps.length ≤ 100000) :
    Calls Try.prog 67 #[.pointer (some ⟨g, 0, none⟩), .int .i64 (i : Int)] w fun e w' => e = .returned (.int .i64 ((onK c.ps.length i : Nat) : Int)) ∧ w' = w := by
  obtain ⟨A', n', cap', e, hl, _, _, hr⟩ := h.form
  injection e with e1 e2 e3
  subst e1 e2 e3
  have e4 : c.ps.length = n := hl.out
  rw [e4]
  exact rkOn_any g A n cap i w h.cells.2.2.1 (by omega)
set_option maxHeartbeats 4000000 in
set_option maxRecDepth 100000 in
theorem rkTurnTest_any (B g : Nat) (vp vo : Value) (c : ClkN) (os : List KeyN) (w : World) (h : RngV B g w vp vo c os) (hb : BaseK c) (hn : c.ps.length ≤ 100000) (hB : B ≤ w.heap.size) :
    Calls Try.prog 68 #[.pointer (some ⟨g, 0, none⟩)] w fun e w' => e = .returned (.tuple #[]) ∧ RngTo B g w w' vp vo (turnTestK c) os := by
  obtain ⟨_, _, _, K, bK, hE⟩ := test_ends hb
  have Hc := Lib.hid h; have Hb := Lib.hid hb; have Hn := Lib.hid hn; have HE := Lib.hid hE; have HB := Lib.hid hB
  clear h hb hn hE hB
  go_enter Try.func68, Try.ntmps68
  go_wp2_with fail
  go_loopg [] K (fun k wr => ∃ cx vx, Ends testF k (cx, false) (turnTestK c, bK) ∧ BaseK cx ∧ cx.ps.length ≤ c.ps.length ∧ RngV B g wr vx vo cx os ∧ Mod (ClkS g vp) w wr ∧ ∀ k, vx.ownBlock = some k → vp.ownBlock = some k ∨ w.heap.size ≤ k)
  case atStart => exact ⟨c, vp, HE.out, Hb.out, Nat.le_refl _, Hc.out, Mod.refl _ _, fun _ h => .inl h⟩
  case round =>
    obtain ⟨cx, vx, he, hbx, hlx, hvx, hmx, hox⟩ := hrel
    have HEx := Lib.hid he; have Hbx := Lib.hid hbx; have Hlx := Lib.hid (Nat.le_trans hlx Hn.out); have Hll := Lib.hid hlx; have Hvx := Lib.hid hvx; have Hmx := Lib.hid hmx; have Hox := Lib.hid hox
    have HBx : Hid (B ≤ wr.heap.size) := Lib.hid (Nat.le_trans HB.out hmx.size)
    clear he hbx hlx hvx hmx hox
    obtain ⟨A, n, cap, rfl, Hnn, _, _, _⟩ := Hvx.out.form
    obtain ⟨y0, y1, y2, y3, y4, y5, _⟩ := Hvx.out.cells
    go_wp2_with fail
    refine (RngV.count 3 Hvx.out Hlx.out).mono ?_
    obtain ⟨q, hq⟩ : ∃ q, cntK 3 cx.ps = q := ⟨_, rfl⟩
    rw [hq]
    rintro e w1 ⟨rfl, hm1⟩
    have Hq := Lib.hid hq
    have HT : Hid (RngTo B g w w1 vp vo cx os) := Lib.hid (RngTo.step Hmx.out Hox.out ⟨_, Hvx.out.new hm1, hm1.mono (fun _ _ h => h.elim), fun _ h => .inl h⟩)
    have Hv1 := Lib.hid (Hvx.out.new hm1)
    have HM1 := Lib.hid (Hmx.out.trans hm1 (fun _ _ h => h.elim))
    have HB1 : Hid (B ≤ w1.heap.size) := Lib.hid (Nat.le_trans HBx.out hm1.size)
    clear hq hm1 y0 y1 y2 y3 y4 y5
    by_cases hgo : (0 : Int) < (q : Int)
    · have hc0 : cntK 3 cx.ps ≠ 0 := by have := Hq.out; omega
      have Hc0 := Lib.hid hc0
      obtain ⟨p, hp, hok, hlt⟩ := Hbx.out.test_at hc0
      obtain ⟨pg, n', cap', e7, _, hnc, hcm, hin, Hpg, hne, x0, x1, x2, x3, x4, x5, x6, fz⟩ := Hv1.out.at_ hp
      injection e7 with e71 e72 e73
      subst e71 e72 e73
      obtain ⟨i, hi⟩ : ∃ i, cx.test = i := ⟨_, rfl⟩
      have y2 := Hv1.out.cells.2.2.1
      have yh := Hv1.out.cells.2.2.2.2.2.1
      have hat7 : (⟨pg, 0, none⟩ : Addr).add (i * 7) = ⟨pg, i * 7, none⟩ := by rw [add_addr, Nat.zero_add]
      have hin' : (i : Int) < (n : Int) := by omega
      have hi0 : ¬ (i : Int) < 0 := by omega
      rw [hi] at x0 x1 x2 x3 x4 x5 x6 yh hp hlt
      have Hp := Lib.hid hp; have Hok := Lib.hid hok; have Hlt := Lib.hid hlt; have Hi := Lib.hid hi
      clear hp hok hlt hi hnc hcm hin hc0
      obtain ⟨⟨s, l, b⟩, kd, rf, tr, pn⟩ := p
      simp only at x0 x1 x2 x3 x4 x5 x6
      have hkd := Hok.out.1
      simp only at hkd
      rcases hkd with rfl | rfl | rfl
      · go_wp2_with fail
        refine (RngV.on_ i Hv1.out (by exact Hlt.out) Hlx.out).mono ?_
        rintro e w9 ⟨rfl, rfl⟩
        clear x0 x1 x2 x3 x4 x5 x6
        have fh := Hv1.out.frozen 5
        obtain ⟨W9, hW9⟩ : ∃ W9, W9 = w9.setCell ⟨g, 5, none⟩ (.int .i64 (onK cx.ps.length i : Nat)) := ⟨_, rfl⟩
        have hn5 : RngTo B g w9 W9 (.slice (some ⟨pg, 0, none⟩) n cap) vo { cx with test := onK cx.ps.length i } os := by rw [hW9]; exact RngTo.num Hv1.out 5 _ rfl rfl
        have HN5 := Lib.hid hn5
        have HW9 := Lib.hid hW9
        have Hf : Hid (testF (cx, false) = some ({ cx with test := onK cx.ps.length i }, false)) := Lib.hid (by rw [testF_on Hc0.out (by rw [Hi.out]; exact Hp.out) (by show (1 : Int) ≠ 3; decide) (by rintro ⟨h1, h2⟩; exact absurd h1 (by show (1 : Int) ≠ 2; decide)), Hi.out])
        obtain ⟨j, hj, hE1⟩ := HEx.out.some_ Hf.out
        have Hj := Lib.hid hj; have HE1 := Lib.hid hE1
        have Hk := Lib.hid (test_keep Hbx.out Hf.out)
        obtain ⟨v9, k1, k2, k3⟩ := RngTo.step HM1.out Hox.out HN5.out
        have K1 := Lib.hid k1; have K2 := Lib.hid k2; have K3 := Lib.hid k3
        clear hj hE1 k1 k2 k3 hn5 hW9
        go_wp2_with fail
        go_roundg (gk - 1)
        case measure => have := Hj.out; omega
        case rel =>
          have e1 : gk - 1 = j := by have := Hj.out; omega
          rw [e1, ← HW9.out]
          exact ⟨_, v9, HE1.out, Hk.out.1, Nat.le_trans Hk.out.2.1 Hll.out, K1.out, K2.out, K3.out⟩
      · cases tr with
        | false =>
          go_wp2_with fail
          refine (RngV.on_ i Hv1.out (by exact Hlt.out) Hlx.out).mono ?_
          rintro e w9 ⟨rfl, rfl⟩
          clear x0 x1 x2 x3 x4 x5 x6
          have fh := Hv1.out.frozen 5
          obtain ⟨W9, hW9⟩ : ∃ W9, W9 = w9.setCell ⟨g, 5, none⟩ (.int .i64 (onK cx.ps.length i : Nat)) := ⟨_, rfl⟩
          have hn5 : RngTo B g w9 W9 (.slice (some ⟨pg, 0, none⟩) n cap) vo { cx with test := onK cx.ps.length i } os := by rw [hW9]; exact RngTo.num Hv1.out 5 _ rfl rfl
          have HN5 := Lib.hid hn5
          have HW9 := Lib.hid hW9
          have Hf : Hid (testF (cx, false) = some ({ cx with test := onK cx.ps.length i }, false)) := Lib.hid (by rw [testF_on Hc0.out (by rw [Hi.out]; exact Hp.out) (by show (2 : Int) ≠ 3; decide) (by rintro ⟨h1, h2⟩; cases h2), Hi.out])
          obtain ⟨j, hj, hE1⟩ := HEx.out.some_ Hf.out
          have Hj := Lib.hid hj; have HE1 := Lib.hid hE1
          have Hk := Lib.hid (test_keep Hbx.out Hf.out)
          obtain ⟨v9, k1, k2, k3⟩ := RngTo.step HM1.out Hox.out HN5.out
          have K1 := Lib.hid k1; have K2 := Lib.hid k2; have K3 := Lib.hid k3
          clear hj hE1 k1 k2 k3 hn5 hW9
          go_wp2_with fail
          go_roundg (gk - 1)
          case measure => have := Hj.out; omega
          case rel =>
            have e1 : gk - 1 = j := by have := Hj.out; omega
            rw [e1, ← HW9.out]
            exact ⟨_, v9, HE1.out, Hk.out.1, Nat.le_trans Hk.out.2.1 Hll.out, K1.out, K2.out, K3.out⟩
        | true =>
          have hf : RngV B g (w1.setCell ⟨pg, i * 7 + 5, none⟩ (.bool false)) (.slice (some ⟨pg, 0, none⟩) n cap) vo { cx with ps := cx.ps.set i ⟨⟨s, l, b⟩, 2, rf, false, pn⟩ } os := Hv1.out.field (j := 5) Hnn.out Hp.out (by decide) rfl
          obtain ⟨w4, hw4⟩ : ∃ w4, w4 = w1.setCell ⟨pg, i * 7 + 5, none⟩ (.bool false) := ⟨_, rfl⟩
          rw [← hw4] at hf
          have Hv4 := Lib.hid hf
          have HM4 : Hid (Mod (ClkS g (.slice (some ⟨pg, 0, none⟩) n cap)) w1 w4) := Lib.hid (by rw [hw4]; exact (mod_oneCell _ _ _ _).mono (fun _ _ h => .inr (by rw [h]; rfl)))
          have Hb4 := Lib.hid (set_base (q := ⟨⟨s, l, b⟩, 2, rf, false, pn⟩) Hbx.out Hp.out rfl rfl rfl ⟨.inr (.inl rfl), Hok.out.2.1, fun h => Hok.out.2.2 h⟩ (fun h => h) (fun h => h))
          have Hw4 := Lib.hid hw4
          clear hf hw4
          go_upto_region 7 with fail
          rw [← Hw4.out]
          clear x0 x1 x2 x3 x4 x5 x6 y2 yh fz
          go_wp2_with fail
          refine (rkAim_any B g _ vo _ os (-1) w4 Hv4.out Hb4.out (by omega)).mono ?_
          rintro e w5 ⟨rfl, v5, h1, h2, h3⟩
          obtain ⟨A5, n5, c5, rfl, Hn5, _, _, _⟩ := h1.form
          have Hv5 := Lib.hid h1; have H2 := Lib.hid h2; have H3 := Lib.hid h3
          have y2 := h1.cells.2.2.1
          clear h1 h2 h3
          go_wp2_with fail
          refine (RngV.on_ i Hv5.out (by show i < (cx.ps.set _ _).length; rw [List.length_set]; exact Hlt.out) (by show (cx.ps.set _ _).length ≤ _; rw [List.length_set]; exact Hlx.out)).mono ?_
          rintro e w9 ⟨rfl, rfl⟩
          have fh := Hv5.out.frozen 5
          have yh := Hv5.out.cells.2.2.2.2.2.1
          obtain ⟨m9, hm9⟩ : ∃ m, onK (aimK { cx with ps := cx.ps.set i ⟨⟨s, l, b⟩, 2, rf, false, pn⟩ } (-1)).ps.length i = m := ⟨_, rfl⟩
          have em : onK cx.ps.length i = m9 := by rw [← hm9]; show _ = onK (cx.ps.set i _).length i; rw [List.length_set]
          obtain ⟨W9, hW9⟩ : ∃ W9, W9 = w9.setCell ⟨g, 5, none⟩ (.int .i64 (m9 : Nat)) := ⟨_, rfl⟩
          have hn5 : RngTo B g w9 W9 (.slice A5 n5 c5) vo (aimK { cx with ps := cx.ps.set i ⟨⟨s, l, b⟩, 2, rf, false, pn⟩, test := m9 } (-1)) os := by
            rw [hW9]
            refine RngTo.num Hv5.out 5 _ ?_ rfl
            simp [ringC, aimK]
          have HN5 := Lib.hid hn5
          have HW9 := Lib.hid hW9
          have Hf : Hid (testF (cx, false) = some (aimK { cx with ps := cx.ps.set i ⟨⟨s, l, b⟩, 2, rf, false, pn⟩, test := m9 } (-1), false)) := Lib.hid (by rw [testF_trial Hc0.out (by rw [Hi.out]; exact Hp.out) rfl rfl, Hi.out, em])
          obtain ⟨j, hj, hE1⟩ := HEx.out.some_ Hf.out
          have Hj := Lib.hid hj; have HE1 := Lib.hid hE1
          have Hk := Lib.hid (test_keep Hbx.out Hf.out)
          obtain ⟨v9, k1, k2, k3⟩ := RngTo.step HM1.out Hox.out (RngTo.step HM4.out (fun _ h => .inl h) (RngTo.step H2.out H3.out HN5.out))
          have K1 := Lib.hid k1; have K2 := Lib.hid k2; have K3 := Lib.hid k3
          have Hm9 := Lib.hid hm9
          rw [hm9]
          clear hj hE1 k1 k2 k3 hn5 hW9 em hm9
          go_wp2_with fail
          go_roundg (gk - 1)
          case measure => have := Hj.out; omega
          case rel =>
            have e1 : gk - 1 = j := by have := Hj.out; omega
            rw [e1, ← HW9.out]
            exact ⟨_, v9, HE1.out, Hk.out.1, Nat.le_trans Hk.out.2.1 Hll.out, K1.out, K2.out, K3.out⟩
      · go_wp2_with fail
        refine (rkGoes_any B g _ vo cx os i w1 Hv1.out Hbx.out Hlt.out Hlx.out HB1.out).mono ?_
        rintro e w2 ⟨rfl, v2, h1, h2, h3⟩
        have Hb2 : Hid (BaseK (goesK cx i)) := Lib.hid (goes_base Hbx.out Hp.out)
        have Hv2 := Lib.hid h1; have H2 := Lib.hid h2; have H3 := Lib.hid h3
        clear h1 h2 h3 x0 x1 x2 x3 x4 x5 x6 y2 yh fz
        go_wp2_with fail
        refine (rkAim_any B g v2 vo (goesK cx i) os (-1) w2 Hv2.out Hb2.out (by omega)).mono ?_
        rintro e w3 ⟨rfl, ht3⟩
        have HT3 : Hid (RngTo B g w w3 vp vo (aimK (goesK cx i) (-1)) os) := Lib.hid (RngTo.step HM1.out Hox.out (RngTo.step H2.out H3.out ht3))
        clear ht3
        go_wp2_with fail
        refine bodyPost_ret (results_none rfl _ _ _) rfl ?_
        refine ⟨rfl, ?_⟩
        have Hf : testF (cx, false) = some (aimK (goesK cx i) (-1), true) := by rw [testF_goes Hc0.out (by rw [Hi.out]; exact Hp.out) rfl, Hi.out]
        obtain ⟨j, hj, hE1⟩ := HEx.out.some_ Hf
        have h4 := (hE1.none_ testF_done).2
        injection h4 with h4 _
        rw [h4]
        exact HT3.out
    · go_wp2_with fail
      go_end0
      refine ⟨rfl, ?_⟩
      have h4 := (HEx.out.none_ (testF_end (by have := Hq.out; omega))).2
      injection h4 with h4 _
      rw [h4]
      exact HT.out
end Go.Proofs.Ythogflfjdfcpeaa

/- The document's hand Hot. -/
namespace Go.Proofs.Ythogflfjdfcpeaa
open Go.RowKit

set_option maxHeartbeats 4000000 in
set_option maxRecDepth 100000 in
theorem rkTurnHot_any (B g : Nat) (vp vo : Value) (c : ClkN) (os : List KeyN) (w : World) (h : RngV B g w vp vo c os) (hb : BaseK c) (hn : c.ps.length ≤ 100000) (hB : B ≤ w.heap.size) :
    Calls Try.prog 66 #[.pointer (some ⟨g, 0, none⟩)] w fun e w' => e = .returned (.tuple #[]) ∧ RngTo B g w w' vp vo (turnHotK c) os := by
  obtain ⟨_, _, _, K, bK, hE⟩ := hot_ends hb
  have Hc := Lib.hid h; have Hb := Lib.hid hb; have Hn := Lib.hid hn; have HE := Lib.hid hE; have HB := Lib.hid hB
  clear h hb hn hE hB
  go_enter Try.func66, Try.ntmps66
  go_wp2_with fail
  go_loopg [] K (fun k wr => ∃ cx vx, Ends hotF k (cx, false) (turnHotK c, bK) ∧ BaseK cx ∧ cx.ps.length ≤ c.ps.length ∧ RngV B g wr vx vo cx os ∧ Mod (ClkS g vp) w wr ∧ ∀ k, vx.ownBlock = some k → vp.ownBlock = some k ∨ w.heap.size ≤ k)
  case atStart => exact ⟨c, vp, HE.out, Hb.out, Nat.le_refl _, Hc.out, Mod.refl _ _, fun _ h => .inl h⟩
  case round =>
    obtain ⟨cx, vx, he, hbx, hlx, hvx, hmx, hox⟩ := hrel
    have HEx := Lib.hid he; have Hbx := Lib.hid hbx; have Hlx := Lib.hid (Nat.le_trans hlx Hn.out); have Hll := Lib.hid hlx; have Hvx := Lib.hid hvx; have Hmx := Lib.hid hmx; have Hox := Lib.hid hox
    have HBx : Hid (B ≤ wr.heap.size) := Lib.hid (Nat.le_trans HB.out hmx.size)
    clear he hbx hlx hvx hmx hox
    obtain ⟨A, n, cap, rfl, Hnn, _, _, _⟩ := Hvx.out.form
    obtain ⟨y0, y1, y2, y3, y4, y5, _⟩ := Hvx.out.cells
    go_wp2_with fail
    refine (RngV.count 1 Hvx.out Hlx.out).mono ?_
    obtain ⟨q, hq⟩ : ∃ q, cntK 1 cx.ps = q := ⟨_, rfl⟩
    rw [hq]
    rintro e w1 ⟨rfl, hm1⟩
    have Hq := Lib.hid hq
    have HT : Hid (RngTo B g w w1 vp vo cx os) := Lib.hid (RngTo.step Hmx.out Hox.out ⟨_, Hvx.out.new hm1, hm1.mono (fun _ _ h => h.elim), fun _ h => .inl h⟩)
    have Hv1 := Lib.hid (Hvx.out.new hm1)
    have HM1 := Lib.hid (Hmx.out.trans hm1 (fun _ _ h => h.elim))
    have HB1 : Hid (B ≤ w1.heap.size) := Lib.hid (Nat.le_trans HBx.out hm1.size)
    clear hq hm1 y0 y1 y2 y3 y4 y5
    by_cases hgo : (0 : Int) < (q : Int)
    · have hc0 : cntK 1 cx.ps ≠ 0 := by have := Hq.out; omega
      have Hc0 := Lib.hid hc0
      obtain ⟨p, hp, hok, hlt⟩ := Hbx.out.hot_at hc0
      obtain ⟨pg, n', cap', e7, _, hnc, hcm, hin, Hpg, hne, x0, x1, x2, x3, x4, x5, x6, fz⟩ := Hv1.out.at_ hp
      injection e7 with e71 e72 e73
      subst e71 e72 e73
      obtain ⟨i, hi⟩ : ∃ i, cx.hot = i := ⟨_, rfl⟩
      have y2 := Hv1.out.cells.2.2.1
      have yh := Hv1.out.cells.2.2.2.1
      have hat7 : (⟨pg, 0, none⟩ : Addr).add (i * 7) = ⟨pg, i * 7, none⟩ := by rw [add_addr, Nat.zero_add]
      have hin' : (i : Int) < (n : Int) := by omega
      have hi0 : ¬ (i : Int) < 0 := by omega
      rw [hi] at x0 x1 x2 x3 x4 x5 x6 yh hp hlt
      have Hp := Lib.hid hp; have Hok := Lib.hid hok; have Hlt := Lib.hid hlt; have Hi := Lib.hid hi
      clear hp hok hlt hi hnc hcm hin hc0
      obtain ⟨⟨s, l, b⟩, kd, rf, tr, pn⟩ := p
      simp only at x0 x1 x2 x3 x4 x5 x6
      have hkd := Hok.out.1
      simp only at hkd
      rcases hkd with rfl | rfl | rfl
      · cases rf with
        | true =>
          obtain ⟨W1, hW1, hm1, hb1, hz1⟩ := Blk.boxed w1 30 #[.int .i64 s, .int .i64 l, .int .i64 b, .int .i64 1, .bool true, .bool tr, .int .i64 pn]
          obtain ⟨g1, hg1⟩ : ∃ g, g = w1.heap.size := ⟨_, rfl⟩
          rw [← hg1] at hb1
          have z0 := hb1.cell 0
          have z1 := hb1.cell 1
          have z2 := hb1.cell 2
          have z3 := hb1.cell 3
          have z4 := hb1.cell 4
          have z5 := hb1.cell 5
          have z6 := hb1.cell 6
          have fb4 := hb1.frozen 4
          simp at z0 z1 z2 z3 z4 z5 z6
          have hm2 : Mod (fun _ => False) w1 (W1.setCell ⟨g1, 4, none⟩ (.bool false)) := (hm1.setCell (p := ⟨g1, 4, none⟩) (fun h => absurd h (by show ¬ g1 < _; omega)) (.bool false))
          have hb2 : Blk (W1.setCell ⟨g1, 4, none⟩ (.bool false)) g1 30 #[.int .i64 s, .int .i64 l, .int .i64 b, .int .i64 1, .bool false, .bool tr, .int .i64 pn] := by
            have h := (hb1.set_ 4 (.bool false))
            simpa using h
          obtain ⟨W2, hW2⟩ : ∃ W2, W2 = (W1.setCell ⟨g1, 4, none⟩ (.bool false)) := ⟨_, rfl⟩
          rw [← hW2] at hm2 hb2
          have HW1 := Lib.hid hW1; have Hg1 := Lib.hid hg1; have HW2 := Lib.hid hW2; have Hm2 := Lib.hid hm2; have Hb2 := Lib.hid hb2
          clear hW1 hg1 hW2 hm1 hb1 hz1 hm2 hb2
          go_upto_region 3 with fail
          rw [← HW1.out, ← Hg1.out]
          clear x0 x1 x2 x3 x4 x5 x6 y2 yh fz
          go_upto_region 13 with fail
          rw [← HW2.out]
          clear z0 z1 z2 z3 z4 z5 z6 fb4
          have z0 := Hb2.out.cell 0
          have z1 := Hb2.out.cell 1
          have z2 := Hb2.out.cell 2
          have z3 := Hb2.out.cell 3
          have z4 := Hb2.out.cell 4
          have z5 := Hb2.out.cell 5
          have z6 := Hb2.out.cell 6
          simp at z0 z1 z2 z3 z4 z5 z6
          have Hv2 := Lib.hid (Hv1.out.new Hm2.out)
          obtain ⟨_, _, _, e7, _, _, _, _, _, _, x0, x1, x2, x3, x4, x5, x6, fz⟩ := Hv2.out.at_ Hp.out
          injection e7 with e71 e72 e73
          injection e71 with e71
          injection e71 with e71 _ _
          subst e71 e72 e73
          simp only at x0 x1 x2 x3 x4 x5 x6
          have y2 := Hv2.out.cells.2.2.1
          obtain ⟨hv2, hm2⟩ := Hv2.out.whole (q := ⟨⟨s, l, b⟩, 1, false, tr, pn⟩) Hnn.out Hp.out
          simp only at hv2 hm2
          have hv3 := hv2.drew
          have hm3 := hm2.drew
          clear hv2 hm2
          obtain ⟨W3, hW3⟩ : ∃ W3, W3 = (((((((W2.setCell ⟨pg, i * 7, none⟩ (.int .i64 s)).setCell ⟨pg, i * 7 + 1, none⟩ (.int .i64 l)).setCell ⟨pg, i * 7 + 2, none⟩ (.int .i64 b)).setCell ⟨pg, i * 7 + 3, none⟩ (.int .i64 1)).setCell ⟨pg, i * 7 + 4, none⟩ (.bool false)).setCell ⟨pg, i * 7 + 5, none⟩ (.bool tr)).setCell ⟨pg, i * 7 + 6, none⟩ (.int .i64 pn)).drew := ⟨_, rfl⟩
          rw [← hW3] at hv3 hm3
          have Hv3 := Lib.hid hv3; have HM3 := Lib.hid hm3; have HW3 := Lib.hid hW3
          clear hv3 hm3 hW3
          go_region
          rw [← HW3.out]
          clear x0 x1 x2 x3 x4 x5 x6 y2 fz z0 z1 z2 z3 z4 z5 z6
          have y2 := Hv3.out.cells.2.2.1
          go_wp2_with fail
          refine (RngV.on_ i Hv3.out (by show i < (cx.ps.set _ _).length; rw [List.length_set]; exact Hlt.out) (by show (cx.ps.set _ _).length ≤ _; rw [List.length_set]; exact Hlx.out)).mono ?_
          obtain ⟨m9, hm9⟩ : ∃ m, onK (cx.ps.set i ⟨⟨s, l, b⟩, 1, false, tr, pn⟩).length i = m := ⟨_, rfl⟩
          have em : onK cx.ps.length i = m9 := by rw [← hm9, List.length_set]
          rw [show onK ({ cx with ps := cx.ps.set i ⟨⟨s, l, b⟩, 1, false, tr, pn⟩ } : ClkN).ps.length i = m9 from hm9]
          rintro e w9 ⟨rfl, rfl⟩
          have fh := Hv3.out.frozen 3
          have yh := Hv3.out.cells.2.2.2.1
          obtain ⟨W9, hW9⟩ : ∃ W9, W9 = w9.setCell ⟨g, 3, none⟩ (.int .i64 (m9 : Nat)) := ⟨_, rfl⟩
          have hn5 : RngTo B g w9 W9 (.slice (some ⟨pg, 0, none⟩) n cap) vo { cx with ps := cx.ps.set i ⟨⟨s, l, b⟩, 1, false, tr, pn⟩, hot := m9 } os := by
            rw [hW9]
            exact RngTo.num Hv3.out 3 _ (by simp [ringC]) rfl
          have HN5 := Lib.hid hn5
          have HW9 := Lib.hid hW9
          have Hf : Hid (hotF (cx, false) = some ({ cx with ps := cx.ps.set i ⟨⟨s, l, b⟩, 1, false, tr, pn⟩, hot := m9 }, false)) := Lib.hid (by rw [hotF_ref Hc0.out (by rw [Hi.out]; exact Hp.out) rfl rfl, Hi.out, em])
          obtain ⟨j, hj, hE1⟩ := HEx.out.some_ Hf.out
          have Hj := Lib.hid hj; have HE1 := Lib.hid hE1
          have HTx : Hid (RngTo B g w W9 vp vo { cx with ps := cx.ps.set i ⟨⟨s, l, b⟩, 1, false, tr, pn⟩, hot := m9 } os) := Lib.hid (RngTo.step HM1.out Hox.out (RngTo.after Hm2.out (RngTo.step (HM3.out.mono (fun _ _ h => .inr (by rw [h]; rfl))) (fun _ h => .inl h) HN5.out)))
          clear hj hE1 hn5 hW9 hm9 em
          have Hk := Lib.hid (hot_keep Hbx.out Hf.out)
          obtain ⟨v9, k1, k2, k3⟩ := HTx.out
          have K1 := Lib.hid k1; have K2 := Lib.hid k2; have K3 := Lib.hid k3
          clear k1 k2 k3
          go_wp2_with fail
          go_roundg (gk - 1)
          case measure => have := Hj.out; omega
          case rel =>
            have e1 : gk - 1 = j := by have := Hj.out; omega
            rw [e1, ← HW9.out]
            exact ⟨_, v9, HE1.out, Hk.out.1, Nat.le_trans Hk.out.2.1 Hll.out, K1.out, K2.out, K3.out⟩
        | false =>
          obtain ⟨W1, hW1, hm1, hb1, hz1⟩ := Blk.boxed w1 30 #[.int .i64 s, .int .i64 l, .int .i64 b, .int .i64 1, .bool false, .bool tr, .int .i64 pn]
          obtain ⟨g1, hg1⟩ : ∃ g, g = w1.heap.size := ⟨_, rfl⟩
          rw [← hg1] at hb1
          have z0 := hb1.cell 0
          have z1 := hb1.cell 1
          have z2 := hb1.cell 2
          have z3 := hb1.cell 3
          have z4 := hb1.cell 4
          have z5 := hb1.cell 5
          have z6 := hb1.cell 6
          have fb3 := hb1.frozen 3
          have fb4 := hb1.frozen 4
          have fb5 := hb1.frozen 5
          simp at z0 z1 z2 z3 z4 z5 z6
          have hm2 : Mod (fun _ => False) w1 (((W1.setCell ⟨g1, 3, none⟩ (.int .i64 2)).setCell ⟨g1, 4, none⟩ (.bool false)).setCell ⟨g1, 5, none⟩ (.bool false)) := (((hm1.setCell (p := ⟨g1, 3, none⟩) (fun h => absurd h (by show ¬ g1 < _; omega)) (.int .i64 2)).setCell (p := ⟨g1, 4, none⟩) (fun h => absurd h (by show ¬ g1 < _; omega)) (.bool false)).setCell (p := ⟨g1, 5, none⟩) (fun h => absurd h (by show ¬ g1 < _; omega)) (.bool false))
          have hb2 : Blk (((W1.setCell ⟨g1, 3, none⟩ (.int .i64 2)).setCell ⟨g1, 4, none⟩ (.bool false)).setCell ⟨g1, 5, none⟩ (.bool false)) g1 30 #[.int .i64 s, .int .i64 l, .int .i64 b, .int .i64 2, .bool false, .bool false, .int .i64 pn] := by
            have h := (((hb1.set_ 3 (.int .i64 2)).set_ 4 (.bool false)).set_ 5 (.bool false))
            simpa using h
          obtain ⟨W2, hW2⟩ : ∃ W2, W2 = (((W1.setCell ⟨g1, 3, none⟩ (.int .i64 2)).setCell ⟨g1, 4, none⟩ (.bool false)).setCell ⟨g1, 5, none⟩ (.bool false)) := ⟨_, rfl⟩
          rw [← hW2] at hm2 hb2
          have HW1 := Lib.hid hW1; have Hg1 := Lib.hid hg1; have HW2 := Lib.hid hW2; have Hm2 := Lib.hid hm2; have Hb2 := Lib.hid hb2
          clear hW1 hg1 hW2 hm1 hb1 hz1 hm2 hb2
          go_upto_region 3 with fail
          rw [← HW1.out, ← Hg1.out]
          clear x0 x1 x2 x3 x4 x5 x6 y2 yh fz
          go_upto_region 13 with fail
          rw [← HW2.out]
          clear z0 z1 z2 z3 z4 z5 z6 fb3 fb4 fb5
          have z0 := Hb2.out.cell 0
          have z1 := Hb2.out.cell 1
          have z2 := Hb2.out.cell 2
          have z3 := Hb2.out.cell 3
          have z4 := Hb2.out.cell 4
          have z5 := Hb2.out.cell 5
          have z6 := Hb2.out.cell 6
          simp at z0 z1 z2 z3 z4 z5 z6
          have Hv2 := Lib.hid (Hv1.out.new Hm2.out)
          obtain ⟨_, _, _, e7, _, _, _, _, _, _, x0, x1, x2, x3, x4, x5, x6, fz⟩ := Hv2.out.at_ Hp.out
          injection e7 with e71 e72 e73
          injection e71 with e71
          injection e71 with e71 _ _
          subst e71 e72 e73
          simp only at x0 x1 x2 x3 x4 x5 x6
          have y2 := Hv2.out.cells.2.2.1
          obtain ⟨hv2, hm2⟩ := Hv2.out.whole (q := ⟨⟨s, l, b⟩, 2, false, false, pn⟩) Hnn.out Hp.out
          simp only at hv2 hm2
          have hv3 := hv2.drew
          have hm3 := hm2.drew
          clear hv2 hm2
          obtain ⟨W3, hW3⟩ : ∃ W3, W3 = (((((((W2.setCell ⟨pg, i * 7, none⟩ (.int .i64 s)).setCell ⟨pg, i * 7 + 1, none⟩ (.int .i64 l)).setCell ⟨pg, i * 7 + 2, none⟩ (.int .i64 b)).setCell ⟨pg, i * 7 + 3, none⟩ (.int .i64 2)).setCell ⟨pg, i * 7 + 4, none⟩ (.bool false)).setCell ⟨pg, i * 7 + 5, none⟩ (.bool false)).setCell ⟨pg, i * 7 + 6, none⟩ (.int .i64 pn)).drew := ⟨_, rfl⟩
          rw [← hW3] at hv3 hm3
          have Hv3 := Lib.hid hv3; have HM3 := Lib.hid hm3; have HW3 := Lib.hid hW3
          clear hv3 hm3 hW3
          go_region
          rw [← HW3.out]
          clear x0 x1 x2 x3 x4 x5 x6 y2 fz z0 z1 z2 z3 z4 z5 z6
          have y2 := Hv3.out.cells.2.2.1
          go_wp2_with fail
          refine (RngV.on_ i Hv3.out (by show i < (cx.ps.set _ _).length; rw [List.length_set]; exact Hlt.out) (by show (cx.ps.set _ _).length ≤ _; rw [List.length_set]; exact Hlx.out)).mono ?_
          obtain ⟨m9, hm9⟩ : ∃ m, onK (cx.ps.set i ⟨⟨s, l, b⟩, 2, false, false, pn⟩).length i = m := ⟨_, rfl⟩
          have em : onK cx.ps.length i = m9 := by rw [← hm9, List.length_set]
          rw [show onK ({ cx with ps := cx.ps.set i ⟨⟨s, l, b⟩, 2, false, false, pn⟩ } : ClkN).ps.length i = m9 from hm9]
          rintro e w9 ⟨rfl, rfl⟩
          have fh := Hv3.out.frozen 3
          have yh := Hv3.out.cells.2.2.2.1
          obtain ⟨W9, hW9⟩ : ∃ W9, W9 = w9.setCell ⟨g, 3, none⟩ (.int .i64 (m9 : Nat)) := ⟨_, rfl⟩
          have hn5 : RngTo B g w9 W9 (.slice (some ⟨pg, 0, none⟩) n cap) vo { cx with ps := cx.ps.set i ⟨⟨s, l, b⟩, 2, false, false, pn⟩, hot := m9 } os := by
            rw [hW9]
            exact RngTo.num Hv3.out 3 _ (by simp [ringC]) rfl
          have HN5 := Lib.hid hn5
          have HW9 := Lib.hid hW9
          have Hf : Hid (hotF (cx, false) = some ({ cx with ps := cx.ps.set i ⟨⟨s, l, b⟩, 2, false, false, pn⟩, hot := m9 }, true)) := Lib.hid (by rw [hotF_cool Hc0.out (by rw [Hi.out]; exact Hp.out) rfl rfl, Hi.out, em])
          obtain ⟨j, hj, hE1⟩ := HEx.out.some_ Hf.out
          have Hj := Lib.hid hj; have HE1 := Lib.hid hE1
          have HTx : Hid (RngTo B g w W9 vp vo { cx with ps := cx.ps.set i ⟨⟨s, l, b⟩, 2, false, false, pn⟩, hot := m9 } os) := Lib.hid (RngTo.step HM1.out Hox.out (RngTo.after Hm2.out (RngTo.step (HM3.out.mono (fun _ _ h => .inr (by rw [h]; rfl))) (fun _ h => .inl h) HN5.out)))
          clear hj hE1 hn5 hW9 hm9 em
          go_wp2_with fail
          refine bodyPost_ret (results_none rfl _ _ _) rfl ?_
          rw [← HW9.out]
          refine ⟨rfl, ?_⟩
          have h4 := (HE1.out.none_ hotF_done).2
          injection h4 with h4 _
          rw [h4]
          exact HTx.out
      · obtain ⟨W1, hW1, hm1, hb1, hz1⟩ := Blk.boxed w1 30 #[.int .i64 s, .int .i64 l, .int .i64 b, .int .i64 2, .bool rf, .bool tr, .int .i64 pn]
        obtain ⟨g1, hg1⟩ : ∃ g, g = w1.heap.size := ⟨_, rfl⟩
        rw [← hg1] at hb1
        have z0 := hb1.cell 0
        have z1 := hb1.cell 1
        have z2 := hb1.cell 2
        have z3 := hb1.cell 3
        have z4 := hb1.cell 4
        have z5 := hb1.cell 5
        have z6 := hb1.cell 6
        have fb5 := hb1.frozen 5
        simp at z0 z1 z2 z3 z4 z5 z6
        have hm2 : Mod (fun _ => False) w1 (W1.setCell ⟨g1, 5, none⟩ (.bool false)) := (hm1.setCell (p := ⟨g1, 5, none⟩) (fun h => absurd h (by show ¬ g1 < _; omega)) (.bool false))
        have hb2 : Blk (W1.setCell ⟨g1, 5, none⟩ (.bool false)) g1 30 #[.int .i64 s, .int .i64 l, .int .i64 b, .int .i64 2, .bool rf, .bool false, .int .i64 pn] := by
          have h := (hb1.set_ 5 (.bool false))
          simpa using h
        obtain ⟨W2, hW2⟩ : ∃ W2, W2 = (W1.setCell ⟨g1, 5, none⟩ (.bool false)) := ⟨_, rfl⟩
        rw [← hW2] at hm2 hb2
        have HW1 := Lib.hid hW1; have Hg1 := Lib.hid hg1; have HW2 := Lib.hid hW2; have Hm2 := Lib.hid hm2; have Hb2 := Lib.hid hb2
        clear hW1 hg1 hW2 hm1 hb1 hz1 hm2 hb2
        go_upto_region 3 with fail
        rw [← HW1.out, ← Hg1.out]
        clear x0 x1 x2 x3 x4 x5 x6 y2 yh fz
        go_upto_region 13 with fail
        rw [← HW2.out]
        clear z0 z1 z2 z3 z4 z5 z6 fb5
        have z0 := Hb2.out.cell 0
        have z1 := Hb2.out.cell 1
        have z2 := Hb2.out.cell 2
        have z3 := Hb2.out.cell 3
        have z4 := Hb2.out.cell 4
        have z5 := Hb2.out.cell 5
        have z6 := Hb2.out.cell 6
        simp at z0 z1 z2 z3 z4 z5 z6
        have Hv2 := Lib.hid (Hv1.out.new Hm2.out)
        obtain ⟨_, _, _, e7, _, _, _, _, _, _, x0, x1, x2, x3, x4, x5, x6, fz⟩ := Hv2.out.at_ Hp.out
        injection e7 with e71 e72 e73
        injection e71 with e71
        injection e71 with e71 _ _
        subst e71 e72 e73
        simp only at x0 x1 x2 x3 x4 x5 x6
        have y2 := Hv2.out.cells.2.2.1
        obtain ⟨hv2, hm2⟩ := Hv2.out.whole (q := ⟨⟨s, l, b⟩, 2, rf, false, pn⟩) Hnn.out Hp.out
        simp only at hv2 hm2
        have hv3 := hv2.drew
        have hm3 := hm2.drew
        clear hv2 hm2
        obtain ⟨W3, hW3⟩ : ∃ W3, W3 = (((((((W2.setCell ⟨pg, i * 7, none⟩ (.int .i64 s)).setCell ⟨pg, i * 7 + 1, none⟩ (.int .i64 l)).setCell ⟨pg, i * 7 + 2, none⟩ (.int .i64 b)).setCell ⟨pg, i * 7 + 3, none⟩ (.int .i64 2)).setCell ⟨pg, i * 7 + 4, none⟩ (.bool rf)).setCell ⟨pg, i * 7 + 5, none⟩ (.bool false)).setCell ⟨pg, i * 7 + 6, none⟩ (.int .i64 pn)).drew := ⟨_, rfl⟩
        rw [← hW3] at hv3 hm3
        have Hv3 := Lib.hid hv3; have HM3 := Lib.hid hm3; have HW3 := Lib.hid hW3
        clear hv3 hm3 hW3
        go_region
        rw [← HW3.out]
        clear x0 x1 x2 x3 x4 x5 x6 y2 fz z0 z1 z2 z3 z4 z5 z6
        have y2 := Hv3.out.cells.2.2.1
        go_wp2_with fail
        refine (RngV.on_ i Hv3.out (by show i < (cx.ps.set _ _).length; rw [List.length_set]; exact Hlt.out) (by show (cx.ps.set _ _).length ≤ _; rw [List.length_set]; exact Hlx.out)).mono ?_
        obtain ⟨m9, hm9⟩ : ∃ m, onK (cx.ps.set i ⟨⟨s, l, b⟩, 2, rf, false, pn⟩).length i = m := ⟨_, rfl⟩
        have em : onK cx.ps.length i = m9 := by rw [← hm9, List.length_set]
        rw [show onK ({ cx with ps := cx.ps.set i ⟨⟨s, l, b⟩, 2, rf, false, pn⟩ } : ClkN).ps.length i = m9 from hm9]
        rintro e w9 ⟨rfl, rfl⟩
        have fh := Hv3.out.frozen 3
        have yh := Hv3.out.cells.2.2.2.1
        obtain ⟨W9, hW9⟩ : ∃ W9, W9 = w9.setCell ⟨g, 3, none⟩ (.int .i64 (m9 : Nat)) := ⟨_, rfl⟩
        have hn5 : RngTo B g w9 W9 (.slice (some ⟨pg, 0, none⟩) n cap) vo { cx with ps := cx.ps.set i ⟨⟨s, l, b⟩, 2, rf, false, pn⟩, hot := m9 } os := by
          rw [hW9]
          exact RngTo.num Hv3.out 3 _ (by simp [ringC]) rfl
        have HN5 := Lib.hid hn5
        have HW9 := Lib.hid hW9
        have Hf : Hid (hotF (cx, false) = some ({ cx with ps := cx.ps.set i ⟨⟨s, l, b⟩, 2, rf, false, pn⟩, hot := m9 }, false)) := Lib.hid (by rw [hotF_cold Hc0.out (by rw [Hi.out]; exact Hp.out) rfl, Hi.out, em])
        obtain ⟨j, hj, hE1⟩ := HEx.out.some_ Hf.out
        have Hj := Lib.hid hj; have HE1 := Lib.hid hE1
        have HTx : Hid (RngTo B g w W9 vp vo { cx with ps := cx.ps.set i ⟨⟨s, l, b⟩, 2, rf, false, pn⟩, hot := m9 } os) := Lib.hid (RngTo.step HM1.out Hox.out (RngTo.after Hm2.out (RngTo.step (HM3.out.mono (fun _ _ h => .inr (by rw [h]; rfl))) (fun _ h => .inl h) HN5.out)))
        clear hj hE1 hn5 hW9 hm9 em
        have Hk := Lib.hid (hot_keep Hbx.out Hf.out)
        obtain ⟨v9, k1, k2, k3⟩ := HTx.out
        have K1 := Lib.hid k1; have K2 := Lib.hid k2; have K3 := Lib.hid k3
        clear k1 k2 k3
        go_wp2_with fail
        go_roundg (gk - 1)
        case measure => have := Hj.out; omega
        case rel =>
          have e1 : gk - 1 = j := by have := Hj.out; omega
          rw [e1, ← HW9.out]
          exact ⟨_, v9, HE1.out, Hk.out.1, Nat.le_trans Hk.out.2.1 Hll.out, K1.out, K2.out, K3.out⟩
      · obtain ⟨W1, hW1, hm1, hb1, hz1⟩ := Blk.boxed w1 30 #[.int .i64 s, .int .i64 l, .int .i64 b, .int .i64 3, .bool rf, .bool tr, .int .i64 pn]
        obtain ⟨g1, hg1⟩ : ∃ g, g = w1.heap.size := ⟨_, rfl⟩
        rw [← hg1] at hb1
        have z3 := hb1.cell 3
        have z4 := hb1.cell 4
        simp at z3 z4
        have HW1 := Lib.hid hW1; have Hg1 := Lib.hid hg1; have Hm1b := Lib.hid hm1
        clear hW1 hg1 hb1 hz1 hm1
        go_upto_region 3 with fail
        rw [← HW1.out, ← Hg1.out]
        clear x0 x1 x2 x3 x4 x5 x6 y2 yh fz
        go_wp2_with fail
        refine (rkGoes_any B g _ vo cx os i W1 (Hv1.out.new Hm1b.out) Hbx.out Hlt.out Hlx.out (Nat.le_trans HB1.out Hm1b.out.size)).mono ?_
        rintro e w2 ⟨rfl, v2, h1, h2, h3⟩
        have Hb2 : Hid (BaseK (goesK cx i)) := Lib.hid (goes_base Hbx.out Hp.out)
        have Hv2 := Lib.hid h1; have H2 := Lib.hid h2; have H3 := Lib.hid h3
        clear h1 h2 h3 z3 z4
        go_wp2_with fail
        refine (rkAim_any B g v2 vo (goesK cx i) os (-1) w2 Hv2.out Hb2.out (by omega)).mono ?_
        rintro e w3 ⟨rfl, ht3⟩
        have Hf : Hid (hotF (cx, false) = some (aimK (goesK cx i) (-1), false)) := Lib.hid (by rw [hotF_goes Hc0.out (by rw [Hi.out]; exact Hp.out) (by show (3 : Int) ≠ 1; decide) (by show (3 : Int) ≠ 2; decide), Hi.out])
        obtain ⟨j, hj, hE1⟩ := HEx.out.some_ Hf.out
        have Hj := Lib.hid hj; have HE1 := Lib.hid hE1
        have Hk := Lib.hid (hot_keep Hbx.out Hf.out)
        obtain ⟨v9, k1, k2, k3⟩ := RngTo.step HM1.out Hox.out (RngTo.after Hm1b.out (RngTo.step H2.out H3.out ht3))
        have K1 := Lib.hid k1; have K2 := Lib.hid k2; have K3 := Lib.hid k3
        clear hj hE1 k1 k2 k3 ht3
        go_wp2_with fail
        go_roundg (gk - 1)
        case measure => have := Hj.out; omega
        case rel =>
          have e1 : gk - 1 = j := by have := Hj.out; omega
          rw [e1]
          exact ⟨_, v9, HE1.out, Hk.out.1, Nat.le_trans Hk.out.2.1 Hll.out, K1.out, K2.out, K3.out⟩
    · go_wp2_with fail
      go_end0
      refine ⟨rfl, ?_⟩
      have h4 := (HEx.out.none_ (hotF_end (by have := Hq.out; omega))).2
      injection h4 with h4 _
      rw [h4]
      exact HT.out
end Go.Proofs.Ythogflfjdfcpeaa

/- The document's cool. -/
namespace Go.Proofs.Ythogflfjdfcpeaa
open Go.RowKit

/-- The ring's word in a loop: it was turned, and is a base. -/
structure LoopR (B g : Nat) (w wr : World) (vp vo : Value) (os : List KeyN) (c0 cx : ClkN) (vx : Value) : Prop where
  base : BaseK cx
  len : cx.ps.length ≤ c0.ps.length
  rng : RngV B g wr vx vo cx os
  mod : Mod (ClkS g vp) w wr
  own : ∀ k, vx.ownBlock = some k → vp.ownBlock = some k ∨ w.heap.size ≤ k
theorem LoopR.start {B g : Nat} {w : World} {vp vo : Value} {os : List KeyN} {c : ClkN} (h : RngV B g w vp vo c os) (hb : BaseK c) : LoopR B g w w vp vo os c c vp := ⟨hb, Nat.le_refl _, h, Mod.refl _ _, fun _ h => .inl h⟩
theorem LoopR.new {B g : Nat} {w wr w1 : World} {vp vo vx : Value} {os : List KeyN} {c0 cx : ClkN} (h : LoopR B g w wr vp vo os c0 cx vx) (hm : Mod (fun _ => False) wr w1) : LoopR B g w w1 vp vo os c0 cx vx :=
  ⟨h.base, h.len, h.rng.new hm, h.mod.trans hm (fun _ _ h => h.elim), h.own⟩
theorem LoopR.turn {B g : Nat} {w wr w1 : World} {vp vo vx : Value} {os : List KeyN} {c0 cx c1 : ClkN} (h : LoopR B g w wr vp vo os c0 cx vx) (ht : RngTo B g wr w1 vx vo c1 os) (hb : BaseK c1) (hl : c1.ps.length ≤ cx.ps.length) : ∃ v1, LoopR B g w w1 vp vo os c0 c1 v1 := by
  obtain ⟨v1, h1, h2, h3⟩ := RngTo.step h.mod h.own ht
  exact ⟨v1, hb, Nat.le_trans hl h.len, h1, h2, h3⟩
theorem LoopR.done {B g : Nat} {w wr : World} {vp vo vx : Value} {os : List KeyN} {c0 cx : ClkN} (h : LoopR B g w wr vp vo os c0 cx vx) : RngTo B g w wr vp vo cx os := ⟨vx, h.rng, h.mod, h.own⟩
set_option maxHeartbeats 1000000 in
set_option maxRecDepth 100000 in
theorem rkCool_any (B g : Nat) (vp vo : Value) (c : ClkN) (os : List KeyN) (w : World) (h : RngV B g w vp vo c os) (hb : BaseK c) (hn : c.ps.length ≤ 100000) (hB : B ≤ w.heap.size) :
    Calls Try.prog 58 #[.pointer (some ⟨g, 0, none⟩)] w fun e w' => e = .returned (.tuple #[]) ∧ RngTo B g w w' vp vo (coolK c) os := by
  obtain ⟨_, _, K, hE⟩ := cool_ends hb
  have HL := Lib.hid (LoopR.start h hb); have Hn := Lib.hid hn; have HE := Lib.hid hE; have HB := Lib.hid hB
  clear h hb hn hE hB
  go_enter Try.func58, Try.ntmps58
  go_wp2_with fail
  go_loopg [] K (fun k wr => ∃ cx vx, Ends coolF k cx (coolK c) ∧ LoopR B g w wr vp vo os c cx vx)
  case atStart => exact ⟨c, vp, HE.out, HL.out⟩
  case round =>
    obtain ⟨cx, vx, he, hl⟩ := hrel
    obtain ⟨A, n, cap, rfl, Hnn, hnc, hcm, hr⟩ := hl.rng.form
    have HEx := Lib.hid he; have Hlx := Lib.hid hl; have Hr := Lib.hid hr
    obtain ⟨y0, y1, y2, y3, y4, y5, _⟩ := hl.rng.cells
    obtain ⟨q, hq⟩ : ∃ q, cntK 1 cx.ps = q := ⟨_, rfl⟩
    obtain ⟨D, hD⟩ : ∃ D, cx.most - cx.target = D := ⟨_, rfl⟩
    have hwD : IntKind.i64.wrap (cx.most - cx.target) = D := by rw [hD]; exact IntWalk.i64_in _ (by have := hl.base.most; have := hl.base.target; omega)
    have Hq := Lib.hid hq; have HD := Lib.hid hD
    have hnl : n ≤ 1000000 := by have := Hnn.out; have := hl.len; have := Hn.out; omega
    have Hcnt : Hid (∀ W, Mod (fun _ => False) wr W → Calls Try.prog 52 #[.agg #[.int .i64 cx.most, .int .i64 cx.target, .slice A n cap, .int .i64 (cx.hot : Int), .int .i64 (cx.cold : Int), .int .i64 (cx.test : Int)], .int .i64 1] W fun e w' => e = .returned (.int .i64 (q : Int)) ∧ Mod (fun _ => False) wr w') := Lib.hid (by
      intro W hW
      refine (rkCount_any 1 cx.most cx.target cx.hot cx.cold cx.test A n cap cx.ps W ((Hr.out.new hW).fit) hnl).mono ?_
      rintro e w1 ⟨rfl, hm1⟩
      rw [Hq.out]
      exact ⟨rfl, hW.trans hm1 (fun _ _ h => h)⟩)
    clear he hl hr hq hD hnc hcm
    by_cases hgo : D < (q : Int)
    · have hgo2 : decide (D < (q : Int)) = true := decide_eq_true hgo
      have Hf := Lib.hid (coolF_some (c := cx) (by rw [HD.out, Hq.out]; exact hgo))
      obtain ⟨j, hj, hE1⟩ := HEx.out.some_ Hf.out
      have Hj := Lib.hid hj; have HE1 := Lib.hid hE1
      have Hh := Lib.hid (hot_ends Hlx.out.base)
      clear hj hE1
      go_upto_region 0 with fail
      go_region_with (first
        | (go_at_call 52; refine (Hcnt.out _ (Mod.refl _ _).drew).mono ?_; rintro e w1 ⟨rfl, hm1⟩; have HL1 := Lib.hid (Hlx.out.new hm1); have z0 := HL1.out.rng.cells.1; have z1 := HL1.out.rng.cells.2.1; clear hm1))
      all_goals (
        go_wp2_with fail
        refine (rkTurnHot_any B g _ vo cx os w1 HL1.out.rng HL1.out.base (by have := HL1.out.len; have := Hn.out; omega) (Nat.le_trans HB.out HL1.out.mod.size)).mono ?_
        rintro e w2 ⟨rfl, ht⟩
        obtain ⟨v1, hl1⟩ := HL1.out.turn ht Hh.out.1.base Hh.out.1.len
        have HL2 := Lib.hid hl1
        clear ht hl1
        go_wp2_with fail
        go_roundg (gk - 1)
        case measure => have := Hj.out; omega
        case rel =>
          have e1 : gk - 1 = j := by have := Hj.out; omega
          rw [e1]
          exact ⟨_, v1, HE1.out, HL2.out⟩)
    · have hgo2 : decide (D < (q : Int)) = false := decide_eq_false hgo
      have Hf := Lib.hid (coolF_none (c := cx) (by rw [HD.out, Hq.out]; exact hgo))
      have He := Lib.hid (HEx.out.none_ Hf.out)
      go_upto_region 0 with fail
      go_region_with (first
        | (go_at_call 52; refine (Hcnt.out _ (Mod.refl _ _).drew).mono ?_; rintro e w1 ⟨rfl, hm1⟩; have HL1 := Lib.hid (Hlx.out.new hm1); have z0 := HL1.out.rng.cells.1; have z1 := HL1.out.rng.cells.2.1; clear hm1))
      all_goals (
        go_wp2_with fail
        go_end0
        rw [He.out.2]
        exact ⟨rfl, HL1.out.done⟩)
end Go.Proofs.Ythogflfjdfcpeaa
