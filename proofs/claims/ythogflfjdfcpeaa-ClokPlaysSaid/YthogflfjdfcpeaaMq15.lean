/- The texts Qzc, one behind the other. -/
import Derived.Test.YthogflfjdfcpeaaMq1
import Derived.Test.YthogflfjdfcpeaaMq14
import Derived.Test.YthogflfjdfcpeaaMq5
import Derived.Test.YthogflfjdfcpeaaMq2
/- The law's Clock: a clock that a script led somewhere. -/
namespace Go.Proofs.Ythogflfjdfcpeaa
open Go.RowKit

theorem pins_step {c : ClkN} {n m : Int} (h : Good c) (hp : PinsLe m c) (h0 : 0 ≤ m) : PinsLe (m + 2) (stepK c n).1 := by
  unfold stepK
  split
  · exact (pins_admit h hp h0).mono (by omega)
  split
  · exact (pins_touch h hp h0).mono (by omega)
  split
  · exact pins_pin h hp h0 (by omega) (by omega)
  split
  · exact (pins_admit h hp h0).mono (by omega)
  · exact (pins_drop hp).mono (by omega)
theorem led_pins (most : Int) (l : List Int) : PinsLe (2 * (l.length : Int)) (ledK most l) := by
  have : ∀ (l : List Int) (c : ClkN) (m : Int), Good c → PinsLe m c → 0 ≤ m → PinsLe (m + 2 * (l.length : Int)) (l.foldl (fun c n => (stepK c n).1) c) := by
    intro l
    induction l with
    | nil => intro c m _ hp _; simpa using hp
    | cons n l ih =>
      intro c m hg hp h0
      have h := ih (stepK c n).1 (m + 2) (step_good hg n).1 (pins_step hg hp h0) (by omega)
      exact h.mono (by simp only [List.length_cons]; omega)
  have h := this l (newK most) 0 (good_new most) (pinsLe_new most) (by omega)
  unfold ledK
  exact h.mono (by omega)
theorem led_pinsT (most : Int) (l : List Int) (i : Nat) (hi : i ≤ 1000) : ∀ p ∈ (ledK most (l.take i)).ps, p.pins ≤ 1000000 := fun p hp => by
  have h := led_pins most (l.take i) p hp
  have h2 : (l.take i).length ≤ i := List.length_take_le ..
  omega
theorem clkb_new {B g : Nat} {W : World} {m M : Int} (e : (newK m).most = M) (h : Blk W g 25 #[.int .i64 M, .int .i64 1, .slice none 0 0, .int .i64 0, .int .i64 0, .int .i64 0]) : ClkV B g W (.slice none 0 0) (newK m) := by
  have e2 : clkC (newK m) (.slice none 0 0) = #[.int .i64 M, .int .i64 1, .slice none 0 0, .int .i64 0, .int .i64 0, .int .i64 0] := by
    unfold clkC
    rw [e]
    rfl
  exact ⟨by rw [e2]; exact h, OwnP.nil _ _ _⟩
set_option maxHeartbeats 20000000 in
set_option maxRecDepth 100000 in
theorem lclock_any (a0 : Int) (A1 : Option Addr) (n1 cp1 : Nat) (zs : List Int) (w : World) (hs : SeesI .i64 w w.heap.size A1 n1 zs) (hz : ∀ x ∈ zs, FitI x) :
    Calls Try.prog 7 #[.int .i64 a0, .slice A1 n1 cp1] w fun e w' => ∃ vp, e = .returned (.agg #[.int .i64 (ledK (a0 % 8 + 1) (zs.take 80)).most, .int .i64 (ledK (a0 % 8 + 1) (zs.take 80)).target, vp, .int .i64 ((ledK (a0 % 8 + 1) (zs.take 80)).hot : Int), .int .i64 ((ledK (a0 % 8 + 1) (zs.take 80)).cold : Int), .int .i64 ((ledK (a0 % 8 + 1) (zs.take 80)).test : Int)]) ∧ OwnP w.heap.size w' 30 vp (ledK (a0 % 8 + 1) (zs.take 80)).ps ∧ Mod (fun _ => False) w w' := by
  obtain ⟨o0, ho0⟩ : ∃ x, a0 % 8 = x := ⟨_, rfl⟩
  have m0 : bits .and .i64 a0 7 = o0 := by rw [mask7, ho0]
  have b0 : 0 ≤ o0 := by omega
  have b7 : o0 ≤ 7 := by omega
  rw [ho0]
  obtain ⟨M, hM⟩ : ∃ M, o0 + 1 = M := ⟨_, rfl⟩
  rw [hM]
  have hMb : 1 ≤ M ∧ M ≤ 8 := by omega
  have eM : (newK M).most = M := by show min (max M 1) 1000 = M; omega
  obtain ⟨N, hN⟩ : ∃ N, min n1 80 = N := ⟨_, rfl⟩
  obtain ⟨W0, hW0, hm0, hb0, hz0⟩ := Blk.boxed w 25 #[.int .i64 0, .int .i64 0, .slice none 0 0, .int .i64 0, .int .i64 0, .int .i64 0]
  obtain ⟨g4, hg4⟩ : ∃ g, g = w.heap.size := ⟨_, rfl⟩
  rw [← hg4] at hb0
  have HMb := Lib.hid hMb; have Hs := Lib.hid hs; have Hz := Lib.hid hz; have HeM := Lib.hid eM; have HN := Lib.hid hN
  have HW0 := Lib.hid hW0; have Hm0 := Lib.hid hm0; have Hb0 := Lib.hid hb0; have Hg4 := Lib.hid hg4
  have Hz0 := Lib.hid hz0
  clear ho0 hs hz hMb eM hN hW0 hm0 hb0 hg4 hz0
  go_enter Try.func7, Try.ntmps7
  go_upto_region 1 with fail
  rw [← HW0.out, ← Hg4.out]
  go_wp2_with fail
  refine (rkNew_any M W0).mono ?_
  rintro e w1 ⟨rfl, hm1⟩
  rw [HeM.out]
  obtain ⟨W1, hW1, hmW1, hbW1, _⟩ := Blk.boxed w1 25 #[.int .i64 M, .int .i64 1, .slice none 0 0, .int .i64 0, .int .i64 0, .int .i64 0]
  obtain ⟨gc, hgc⟩ : ∃ g, g = w1.heap.size := ⟨_, rfl⟩
  rw [← hgc] at hbW1
  have hm01 := hm1.trans hmW1 (fun _ _ h => h)
  have Hgc : Hid (w.heap.size ≤ gc ∧ g4 ≠ gc) := Lib.hid (by have := hm1.size; have := Hm0.out.size; have := Hb0.out.lt; have := Hg4.out; omega)
  have Hc1 : Hid (ClkV w.heap.size gc W1 (.slice none 0 0) (newK M)) := Lib.hid (clkb_new HeM.out hbW1)
  have Hr1 := Lib.hid (hm01.blk Hb0.out (fun h => h))
  have Hm1 := Lib.hid (Hm0.out.trans hm01 (fun _ _ h => h))
  have HW1 := Lib.hid hW1; have Hg := Lib.hid hgc
  clear hm1 hW1 hmW1 hbW1 hgc m0 b0 b7 hM hm01
  go_upto_region 2 with fail
  rw [← HW1.out, ← Hg.out]
  go_wp2_with fail
  go_loopg [6] N (fun k s6 wr => ∃ (i : Nat) (vp : Value), i + k = N ∧ s6 = .int .i64 (i : Int) ∧ ClkV w.heap.size gc wr vp (ledK M (zs.take i)) ∧ Blk wr g4 25 #[.int .i64 0, .int .i64 0, .slice none 0 0, .int .i64 0, .int .i64 0, .int .i64 0] ∧ Mod (fun _ => False) w wr)
  case atStart => exact ⟨0, _, by omega, rfl, Hc1.out, Hr1.out, Hm1.out⟩
  case round =>
    obtain ⟨i, vp, hik, rfl, hc, hr, hm⟩ := hrel
    have Hik := Lib.hid hik; have Hc := Lib.hid hc; have Hm := Lib.hid hm; have Hr := Lib.hid hr
    clear hik hc hm hr Hc1 Hm1 HW1 Hg Hr1
    obtain ⟨A, n, cap, rfl, Hnn, _, _, Hrd⟩ := Hc.out.form
    have Hrd := Lib.hid Hrd
    obtain ⟨y0, y1, y2, y3, y4, y5⟩ := Hc.out.cells
    have hgd := (led_good M (zs.take i)).1
    have Hgd := Lib.hid hgd
    have Hi8 : Hid (i ≤ 80) := Lib.hid (by have := HN.out; have := Hik.out; omega)
    clear hgd
    by_cases hin : i < N
    · have b1 : (i : Int) < (n1 : Int) := by have := HN.out; omega
      have b2 : (i : Int) < 80 := by have := HN.out; omega
      obtain ⟨ad, x, rfl, hx, _⟩ := Hs.out.at_ (i := i) (by omega) (Nat.le_refl _) (Mod.refl (fun _ => False) w) (fun _ _ h => h)
      have xc : wr.cell? (ad.add i) = some (.int .i64 x) := by
        obtain ⟨ad', x', e, hx', hc⟩ := Hs.out.at_ (i := i) (by omega) (Nat.le_refl _) Hm.out (fun _ _ h => h)
        injection e with e
        subst e
        rw [hx] at hx'
        injection hx' with hx'
        rw [hx']
        exact hc
      have Hled := Lib.hid (led_take (most := M) hx)
      have Hfx := Hz.out x (List.mem_of_getElem? hx)
      obtain ⟨c, hcc⟩ : ∃ c, ledK M (zs.take i) = c := ⟨_, rfl⟩
      have Hpin := Lib.hid (led_pinsT M zs i (by have := Hi8.out; omega))
      rw [hcc] at Hc Hnn Hrd y0 y1 y3 y4 y5 Hgd Hled Hpin
      clear hx hcc
      obtain ⟨⟨c2, os, ok⟩, hst⟩ : ∃ r, stepK c x = r := ⟨_, rfl⟩
      rw [hst] at Hled
      have HP : Hid (Calls Try.prog 18 #[.agg #[.int .i64 c.most, .int .i64 c.target, .slice A n cap, .int .i64 (c.hot : Int), .int .i64 (c.cold : Int), .int .i64 (c.test : Int)], .int .i64 x] wr.drew fun e w' => ∃ A5 n5 c5 vo, e = .returned (.tuple #[.agg #[.int .i64 c2.most, .int .i64 c2.target, .slice A5 n5 c5, .int .i64 (c2.hot : Int), .int .i64 (c2.cold : Int), .int .i64 (c2.test : Int)], vo, .bool ok]) ∧ OwnP wr.heap.size w' 30 (.slice A5 n5 c5) c2.ps ∧ Mod (fun _ => False) wr w') := Lib.hid ((lstep_any c x A n cap wr.drew Hrd.out (by have := Hnn.out; have h9 : c.ps.length ≤ 2000 := Hgd.out.len; omega) Hgd.out Hfx Hpin.out).mono (by
        rw [hst]
        rintro e w' ⟨vp, vo, rfl, h1, h2, h3⟩
        obtain ⟨A5, c5, rfl, _⟩ := OwnP.form h1
        exact ⟨A5, _, c5, vo, rfl, h1, ((Mod.refl _ _).drew).trans h3 (fun _ _ h => h)⟩))
      clear hst Hfx
      go_upto_region 5 with fail
      go_region_with (first
        | (go_at_call 18; refine HP.out.mono ?_; rintro e w5 ⟨A5, n5, c5, vo, rfl, h1, h3⟩; have hd5 := h3.blk Hc.out.blk (fun h => h); have d0 := hd5.cell 0; have d1 := hd5.cell 1; have d2 := hd5.cell 2; have d3 := hd5.cell 3; have d4 := hd5.cell 4; have d5 := hd5.cell 5; have f0 := hd5.frozen 0; have f1 := hd5.frozen 1; have f2 := hd5.frozen 2; have f3 := hd5.frozen 3; have f4 := hd5.frozen 4; have f5 := hd5.frozen 5; simp only [clkC] at d0 d1 d2 d3 d4 d5; simp at d0 d1 d2 d3 d4 d5; have H1 := Lib.hid h1; have H3 := Lib.hid h3; clear h1 h3 hd5))
      all_goals (
        have hd5 := H3.out.blk Hc.out.blk (fun h => h)
        have hr5 := H3.out.blk Hr.out (fun h => h)
        have hko := clk_over (W := w) c2 rfl hd5 Hgc.out.1 H1.out Hm.out.size (Hm.out.trans H3.out (fun _ _ h => h))
        have hr6 : Blk ((((((w5.setCell ⟨gc, 0, none⟩ (.int .i64 c2.most)).setCell ⟨gc, 1, none⟩ (.int .i64 c2.target)).setCell ⟨gc, 2, none⟩ (.slice A5 n5 c5)).setCell ⟨gc, 3, none⟩ (.int .i64 (c2.hot : Int))).setCell ⟨gc, 4, none⟩ (.int .i64 (c2.cold : Int))).setCell ⟨gc, 5, none⟩ (.int .i64 (c2.test : Int))) g4 25 #[.int .i64 0, .int .i64 0, .slice none 0 0, .int .i64 0, .int .i64 0, .int .i64 0] := (Mod.six_one w5 gc (.int .i64 c2.most) (.int .i64 c2.target) (.slice A5 n5 c5) (.int .i64 (c2.hot : Int)) (.int .i64 (c2.cold : Int)) (.int .i64 (c2.test : Int))).blk hr5 Hgc.out.2
        have HK := Lib.hid hko; have HR6 := Lib.hid hr6
        clear hd5 hr5 hko hr6 d0 d1 d2 d3 d4 d5 f0 f1 f2 f3 f4 f5 y0 y1 y2 y3 y4 y5 xc
        go_wp2_with fail
        go_roundg (gk - 1)
        case measure => have := Hik.out; omega
        case rel =>
          refine ⟨i + 1, .slice A5 n5 c5, by have := Hik.out; omega, by go_num, ?_⟩
          rw [Hled.out]
          first
            | exact ⟨HK.out.1, HR6.out, HK.out.2.1⟩
            | exact ⟨HK.out.1.drew, HR6.out, HK.out.2.1.drew⟩)
    · have Hfin : Hid (ledK M (zs.take i) = ledK M (zs.take 80)) := Lib.hid (by
        have hl : zs.length = n1 := by have := Hs.out.1; omega
        have hi : i = min n1 80 := by have := HN.out; have := Hik.out; omega
        congr 1
        rw [hi]
        by_cases h : n1 ≤ 80
        · rw [List.take_of_length_le (by omega), List.take_of_length_le (by omega)]
        · rw [Nat.min_eq_right (by omega)])
      have Hc := Hc
      rw [Hfin.out] at Hc y0 y1 y3 y4 y5
      obtain ⟨c, hcc⟩ : ∃ c, ledK M (zs.take 80) = c := ⟨_, rfl⟩
      rw [hcc] at Hc y0 y1 y3 y4 y5
      have Hcc := Lib.hid hcc
      have hr := Hr.out
      have q0 := hr.cell 0
      have q1 := hr.cell 1
      have q2 := hr.cell 2
      have q3 := hr.cell 3
      have q4 := hr.cell 4
      have q5 := hr.cell 5
      have p0 := hr.frozen 0
      have p1 := hr.frozen 1
      have p2 := hr.frozen 2
      have p3 := hr.frozen 3
      have p4 := hr.frozen 4
      have p5 := hr.frozen 5
      simp at q0 q1 q2 q3 q4 q5
      clear hcc hr Hfin Hnn Hrd
      by_cases b1 : (i : Int) < (n1 : Int)
      · have b2 : ¬ (i : Int) < 80 := by have := HN.out; omega
        go_wp2_with fail
        refine bodyPost_ret (v := .agg #[.int .i64 c.most, .int .i64 c.target, .slice A n cap, .int .i64 (c.hot : Int), .int .i64 (c.cold : Int), .int .i64 (c.test : Int)]) (by have h := Hr.out.six (.int .i64 c.most) (.int .i64 c.target) (.slice A n cap) (.int .i64 (c.hot : Int)) (.int .i64 (c.cold : Int)) (.int .i64 (c.test : Int)); simp [results, Try.results7, go_sem, h.1, h.2.1, h.2.2.1, h.2.2.2.1, h.2.2.2.2.1, h.2.2.2.2.2.1]) rfl ?_
        rw [Hcc.out]
        have hsx := Mod.six_one wr g4 (.int .i64 c.most) (.int .i64 c.target) (.slice A n cap) (.int .i64 (c.hot : Int)) (.int .i64 (c.cold : Int)) (.int .i64 (c.test : Int))
        exact ⟨_, rfl, OwnK.modS Hc.out.ps hsx (fun j hj e => own_blk_ne Hc.out.ps.2 Hr.out (by decide) (by rw [hj, e])), Hm.out.trans hsx (fun j hj e => by have := Hg4.out; omega)⟩
      · skip
        go_wp2_with fail
        refine bodyPost_ret (v := .agg #[.int .i64 c.most, .int .i64 c.target, .slice A n cap, .int .i64 (c.hot : Int), .int .i64 (c.cold : Int), .int .i64 (c.test : Int)]) (by have h := Hr.out.six (.int .i64 c.most) (.int .i64 c.target) (.slice A n cap) (.int .i64 (c.hot : Int)) (.int .i64 (c.cold : Int)) (.int .i64 (c.test : Int)); simp [results, Try.results7, go_sem, h.1, h.2.1, h.2.2.1, h.2.2.2.1, h.2.2.2.2.1, h.2.2.2.2.2.1]) rfl ?_
        rw [Hcc.out]
        have hsx := Mod.six_one wr g4 (.int .i64 c.most) (.int .i64 c.target) (.slice A n cap) (.int .i64 (c.hot : Int)) (.int .i64 (c.cold : Int)) (.int .i64 (c.test : Int))
        exact ⟨_, rfl, OwnK.modS Hc.out.ps hsx (fun j hj e => own_blk_ne Hc.out.ps.2 Hr.out (by decide) (by rw [hj, e])), Hm.out.trans hsx (fun j hj e => by have := Hg4.out; omega)⟩
end Go.Proofs.Ythogflfjdfcpeaa
