/- BlobBudget's walk. -/
import Derived.Test.YtnfpbjioiiedeaaHd
import Derived.Test.YtnfpbjioiiedeaaBli
import Derived.Test.YtnfpbjioiiedeaaAnd
namespace Go.Proofs.Ytnfpbjioiiedeaa
open Go.RowKit

theorem bare_o {o : Int} (h0 : 0 ≤ o) (h1 : o ≤ 1023) : newB o = bareB o 0 0 := by
  rw [bare_new, show min (max o 0) 1073741824 = o by omega]
/-- What one call comes to, its charge named. -/
theorem ch_bare {bud ch m ch' : Int} {nx : Nat} (h : m ≤ 0 ∨ ch + m ≤ bud) (e : max (ch + m) 0 = ch') : chargeB (bareB bud ch nx) m = (bareB bud ch' nx, true) := by rw [bare_charge h, e]
theorem ch_sole {bud ch m ch' : Int} {nx id n : Nat} {b : List Nat} (h : m ≤ 0 ∨ ch + b.length + m ≤ bud) (e : max (ch + m) 0 = ch') : chargeB (sole bud ch nx id b n) m = (sole bud ch' nx id b n, true) := by rw [sole_charge h, e]
set_option maxHeartbeats 16000000 in
set_option maxRecDepth 100000 in
theorem blbudget_walk (a0 a1 a2 : Int) (w : World) : Calls Try.prog 4 #[.int .i64 a0, .int .i64 a1, .int .i64 a2] w fun e w' => e = .returned (.bool true) ∧ Mod (fun _ => False) w w' := by
  obtain ⟨o0, ho0⟩ : ∃ x, a0 % 1024 = x := ⟨_, rfl⟩
  obtain ⟨o1, ho1⟩ : ∃ x, a1 % 512 = x := ⟨_, rfl⟩
  obtain ⟨o2, ho2⟩ : ∃ x, a2 % 512 = x := ⟨_, rfl⟩
  have m0 : bits .and .i64 a0 1023 = o0 := by rw [← ho0]; exact i64_mask a0 1023 10 rfl (by omega)
  have m1 : bits .and .i64 a1 511 = o1 := by rw [← ho1]; exact i64_mask a1 511 9 rfl (by omega)
  have b0 : 0 ≤ o0 ∧ o0 ≤ 1023 := by omega
  have b1 : 0 ≤ o1 ∧ o1 ≤ 511 := by omega
  obtain ⟨K, hK⟩ : ∃ K : Nat, o2 = (K : Int) := ⟨o2.toNat, by omega⟩
  have m2 : bits .and .i64 a2 511 = (K : Int) := by rw [← hK, ← ho2]; exact i64_mask a2 511 9 rfl (by omega)
  have bK : K ≤ 511 := by omega
  obtain ⟨zs, hzs⟩ : ∃ zs : List Nat, zs = List.replicate K 0 := ⟨_, rfl⟩
  have Hzs := Lib.hid hzs
  have HzK : Hid (zs.length = K) := Lib.hid (by rw [hzs]; simp)
  have F1 : Hid (FitI 1) := Lib.hid (fit_small (by omega) (by omega))
  have F5 : Hid (FitI (-5000)) := Lib.hid (fit_small (by omega) (by omega))
  have Hb0 := Lib.hid b0; have Hb1 := Lib.hid b1; have HbK := Lib.hid bK
  clear ho0 ho1 ho2 hK hzs
  obtain ⟨b00, b01⟩ := b0
  obtain ⟨b10, b11⟩ := b1
  go_enter Try.func4, Try.ntmps4
  go_wp2_with fail
  refine (blNew_any o0 w).mono ?_
  rintro e w0 ⟨g, b, rfl, hc, hm0, hb0, hg0⟩
  have HB0 : Hid (BloV (fun _ => True) g b 0 w0 (bareB o0 0 0)) := Lib.hid (by have h := hc w0 (Mod.refl _ _) (fun _ => True); rwa [bare_o (by omega) (by omega)] at h)
  have HM0 : Hid (Mod (fun j => j = g ∨ j = b) w0 w0) := Lib.hid (Mod.refl _ _)
  have HE : Hid (∀ W', Mod (fun j => j = g ∨ j = b) w0 W' → Mod (fun _ => False) w W') := Lib.hid (fun W' h => hm0.trans h (fun i hi h => by omega))
  clear hc hm0 hb0 hg0 m0 m1 m2
  go_wp2_with fail
  by_cases hch : o1 ≤ o0
  · as_aux_lemma =>
      refine (call_bcharge (n := o1) (ok := true) (ch_bare (ch' := o1) (.inr (by omega)) (by omega)) HB0.out (fit_small (by omega) (by omega))).mono ?_
      rintro e w1 ⟨rfl, h1, h2⟩
      have HB1 : Hid (BloV (fun _ => True) g b 0 w1 (bareB o0 o1 0)) := Lib.hid h1
      have HM1 : Hid (Mod (fun j => j = g ∨ j = b) w0 w1) := Lib.hid (HM0.out.trans h2 (fun _ _ h => h))
      clear h1 h2
      have hmx : K ≤ maxLen := by unfold maxLen; omega
      have hbm : 1 * K ≤ 281474976710656 := by omega
      go_wp2_with (at_make; refine wpList_mk rfl (.tmp 33) (.tmp 33) _ rfl elt8 (n := K) (cap := K) rfl rfl rfl rfl rfl (Nat.le_refl _) hbm hmx ?_; intro w2 HO HBl)
      obtain ⟨H2, hH2⟩ : ∃ x, x = w1.heap.size := ⟨_, rfl⟩
      have hm2 := mod_below HBl.out
      have Hs2 : Hid (∀ w', Mod (fun j => j = g ∨ j = b) w2 w' → Rds w' w'.heap.size (some ⟨w1.heap.size, 0, none⟩) K (cells8 zs)) := Lib.hid (fun w' hm => by
        have h1 : Own w1.heap.size w2 5 (.slice (some ⟨w1.heap.size, 0, none⟩) K K) (cells8 zs) := by
          have h2 := HO.out
          rwa [show cells8 zs = List.replicate K (.int .u8 0) by rw [Hzs.out]; simp [cells8]]
        exact Own.rds8 (hm.owns h1 (fun k hk e => by have h3 := Own.block h1 k hk; have h4 := HB1.out.lt; omega)) HzK.out)
      have HB2 : Hid (BloV (fun _ => True) g b 0 w2 (bareB o0 o1 0)) := Lib.hid (HB1.out.new hm2)
      have HM2 : Hid (Mod (fun j => j = g ∨ j = b) w0 w2) := Lib.hid (HM1.out.trans (hm2.mono (fun _ _ h => h.elim)) (fun _ _ h => h))
      clear hH2 hm2 HO HBl
      by_cases hfit : o1 + (K : Int) ≤ o0
      · have Hfit := Lib.hid hfit
        go_wp2_with fail
        refine (call_badd (o := some 1) (v := 1) (ok := true) (bare_add (b := zs) (by rw [HzK.out]; have := Hfit.out; omega)) rfl rfl HB2.out Hs2.out (by omega) (fun _ _ => trivial)).mono ?_
        rintro e w3 ⟨rfl, h1, h2⟩
        have HB3 : Hid (BloV (fun _ => True) g b 1 w3 (sole o0 o1 1 1 zs 1)) := Lib.hid h1
        have HM3 : Hid (Mod (fun j => j = g ∨ j = b) w0 w3) := Lib.hid (HM2.out.trans h2 (fun _ _ h => h))
        clear h1 h2
        obtain ⟨R, hR⟩ : ∃ R, R = o0 - o1 - (K : Int) := ⟨_, rfl⟩
        have hR0 : 0 ≤ R ∧ R ≤ 1023 := by omega
        obtain ⟨R00, R01⟩ := hR0
        obtain ⟨U, hU⟩ : ∃ U, U = o1 + (K : Int) := ⟨_, rfl⟩
        obtain ⟨D, hD⟩ : ∃ D, D = o0 - (K : Int) := ⟨_, rfl⟩
        have hUo : U ≤ o0 := by omega
        have hw1 : IntKind.i64.wrap (o1 + (K : Int)) = U := by rw [IntWalk.i64_in _ (by omega), hU]
        have hw2 : IntKind.i64.wrap (o0 - o1) = o0 - o1 := by rw [IntWalk.i64_in _ (by omega)]
        have hw3 : IntKind.i64.wrap (o0 - o1 - (K : Int)) = R := by rw [IntWalk.i64_in _ (by omega), hR]
        have hw4 : IntKind.i64.wrap (R + 1) = R + 1 := by rw [IntWalk.i64_in _ (by omega)]
        have hw5 : IntKind.i64.wrap (o0 - (K : Int)) = D := by rw [IntWalk.i64_in _ (by omega), hD]
        have hw6 : IntKind.i64.wrap ((K : Int) + 1) = (K : Int) + 1 := by rw [IntWalk.i64_in _ (by omega)]
        have HR := Lib.hid hR; have HU := Lib.hid hU; have HD := Lib.hid hD
        clear hR hU hD hfit
        go_wp2_with fail
        refine (call_bused (u := U) (by rw [sole_used, HzK.out]; have := HU.out; omega) HB3.out).mono ?_
        rintro e w4 ⟨rfl, h1, h2⟩
        have HB4 : Hid (BloV (fun _ => True) g b 1 w4 (sole o0 o1 1 1 zs 1)) := Lib.hid h1
        have HM4 : Hid (Mod (fun j => j = g ∨ j = b) w0 w4) := Lib.hid (HM3.out.trans (h2.mono (fun _ _ h => h.elim)) (fun _ _ h => h))
        clear h1 h2
        go_wp2_with fail
        refine (call_bcharge (n := R + 1) (ok := false) (sole_over (by omega) (by rw [HzK.out]; have := HR.out; omega)) HB4.out (fit_small (by omega) (by omega))).mono ?_
        rintro e w5 ⟨rfl, h1, h2⟩
        have HB5 : Hid (BloV (fun _ => True) g b 1 w5 (sole o0 o1 1 1 zs 1)) := Lib.hid h1
        have HM5 : Hid (Mod (fun j => j = g ∨ j = b) w0 w5) := Lib.hid (HM4.out.trans h2 (fun _ _ h => h))
        clear h1 h2
        go_wp2_with fail
        refine (call_bcharge (n := R) (ok := true) (ch_sole (ch' := D) (.inr (by rw [HzK.out]; have := HR.out; omega)) (by have := HR.out; have := HD.out; omega)) HB5.out (fit_small (by omega) (by omega))).mono ?_
        rintro e w6 ⟨rfl, h1, h2⟩
        have HB6 : Hid (BloV (fun _ => True) g b 1 w6 (sole o0 D 1 1 zs 1)) := Lib.hid h1
        have HM6 : Hid (Mod (fun j => j = g ∨ j = b) w0 w6) := Lib.hid (HM5.out.trans h2 (fun _ _ h => h))
        clear h1 h2
        go_wp2_with fail
        refine (call_bused (u := o0) (by rw [sole_used, HzK.out]; have := HD.out; omega) HB6.out).mono ?_
        rintro e w7 ⟨rfl, h1, h2⟩
        have HB7 : Hid (BloV (fun _ => True) g b 1 w7 (sole o0 D 1 1 zs 1)) := Lib.hid h1
        have HM7 : Hid (Mod (fun j => j = g ∨ j = b) w0 w7) := Lib.hid (HM6.out.trans (h2.mono (fun _ _ h => h.elim)) (fun _ _ h => h))
        clear h1 h2
        go_wp2_with fail
        refine (call_bleave (k := 1) (ok := true) (s' := bareB o0 D 1) sole_last HB7.out F1.out (by omega)).mono ?_
        rintro e w8 ⟨rfl, h1, h2⟩
        have HB8 : Hid (BloV (fun _ => True) g b 2 w8 (bareB o0 D 1)) := Lib.hid h1
        have HM8 : Hid (Mod (fun j => j = g ∨ j = b) w0 w8) := Lib.hid (HM7.out.trans h2 (fun _ _ h => h))
        clear h1 h2
        go_wp2_with fail
        refine (call_bused (u := D) bare_used HB8.out).mono ?_
        rintro e w9 ⟨rfl, h1, h2⟩
        have HB9 : Hid (BloV (fun _ => True) g b 2 w9 (bareB o0 D 1)) := Lib.hid h1
        have HM9 : Hid (Mod (fun j => j = g ∨ j = b) w0 w9) := Lib.hid (HM8.out.trans (h2.mono (fun _ _ h => h.elim)) (fun _ _ h => h))
        clear h1 h2
        have HD0 : Hid (0 ≤ D ∧ D ≤ o0) := Lib.hid (by have := HD.out; have := HU.out; omega)
        by_cases hk0 : 0 < (K : Int)
        · go_wp2_with fail
          refine (call_bcharge (n := (K : Int) + 1) (ok := false) (bare_over (by omega) (by have := HD.out; omega)) HB9.out (fit_small (by omega) (by omega))).mono ?_
          rintro e w10 ⟨rfl, h1, h2⟩
          have HB10 : Hid (BloV (fun _ => True) g b 2 w10 (bareB o0 D 1)) := Lib.hid h1
          have HM10 : Hid (Mod (fun j => j = g ∨ j = b) w0 w10) := Lib.hid (HM9.out.trans h2 (fun _ _ h => h))
          clear h1 h2
          go_wp2_with fail
          refine (call_bcharge (n := (K : Int)) (ok := true) (ch_bare (ch' := o0) (.inr (by have := HD.out; omega)) (by have := HD.out; omega)) HB10.out (fit_small (by omega) (by omega))).mono ?_
          rintro e w11 ⟨rfl, h1, h2⟩
          have HB11 : Hid (BloV (fun _ => True) g b 2 w11 (bareB o0 o0 1)) := Lib.hid h1
          have HM11 : Hid (Mod (fun j => j = g ∨ j = b) w0 w11) := Lib.hid (HM10.out.trans h2 (fun _ _ h => h))
          clear h1 h2
          obtain ⟨Y, hYY⟩ : ∃ Y, max (o0 + (-5000)) 0 = Y := ⟨_, rfl⟩
          have hY0 : Y ≤ o0 := by omega
          have HYY := Lib.hid hYY
          clear hYY
          have hY : max (o0 + (-5000)) 0 = Y := HYY.out
          have HY := Lib.hid hY
          clear hY
          go_wp2_with fail
          refine (call_bcharge (n := -5000) (ok := true) (ch_bare (.inl (by omega)) HY.out) HB11.out F5.out).mono ?_
          rintro e w90 ⟨rfl, h1, h2⟩
          have HB90 : Hid (BloV (fun _ => True) g b 2 w90 (bareB o0 Y 1)) := Lib.hid h1
          have HM90 : Hid (Mod (fun j => j = g ∨ j = b) w0 w90) := Lib.hid (HM11.out.trans h2 (fun _ _ h => h))
          clear h1 h2
          go_wp2_with fail
          refine (call_bused (u := Y) bare_used HB90.out).mono ?_
          rintro e w91 ⟨rfl, h1, h2⟩
          have HB91 : Hid (BloV (fun _ => True) g b 2 w91 (bareB o0 Y 1)) := Lib.hid h1
          have HM91 : Hid (Mod (fun j => j = g ∨ j = b) w0 w91) := Lib.hid (HM90.out.trans (h2.mono (fun _ _ h => h.elim)) (fun _ _ h => h))
          clear h1 h2
          go_wp2_with fail
          refine (blAwake_any w91).mono ?_
          rintro e w92 ⟨rfl, h2⟩
          have HM92 : Hid (Mod (fun j => j = g ∨ j = b) w0 w92) := Lib.hid (HM91.out.trans (h2.mono (fun _ _ h => h.elim)) (fun _ _ h => h))
          clear h2
          go_wp2_with fail
          go_ret
          exact ⟨rfl, HE.out _ HM92.out⟩
        · obtain ⟨Y, hYY⟩ : ∃ Y, max (D + (-5000)) 0 = Y := ⟨_, rfl⟩
          have hY0 : Y ≤ o0 := by have := HD0.out; omega
          have HYY := Lib.hid hYY
          clear hYY
          have hY : max (D + (-5000)) 0 = Y := HYY.out
          have HY := Lib.hid hY
          clear hY
          go_wp2_with fail
          refine (call_bcharge (n := -5000) (ok := true) (ch_bare (.inl (by omega)) HY.out) HB9.out F5.out).mono ?_
          rintro e w90 ⟨rfl, h1, h2⟩
          have HB90 : Hid (BloV (fun _ => True) g b 2 w90 (bareB o0 Y 1)) := Lib.hid h1
          have HM90 : Hid (Mod (fun j => j = g ∨ j = b) w0 w90) := Lib.hid (HM9.out.trans h2 (fun _ _ h => h))
          clear h1 h2
          go_wp2_with fail
          refine (call_bused (u := Y) bare_used HB90.out).mono ?_
          rintro e w91 ⟨rfl, h1, h2⟩
          have HB91 : Hid (BloV (fun _ => True) g b 2 w91 (bareB o0 Y 1)) := Lib.hid h1
          have HM91 : Hid (Mod (fun j => j = g ∨ j = b) w0 w91) := Lib.hid (HM90.out.trans (h2.mono (fun _ _ h => h.elim)) (fun _ _ h => h))
          clear h1 h2
          go_wp2_with fail
          refine (blAwake_any w91).mono ?_
          rintro e w92 ⟨rfl, h2⟩
          have HM92 : Hid (Mod (fun j => j = g ∨ j = b) w0 w92) := Lib.hid (HM91.out.trans (h2.mono (fun _ _ h => h.elim)) (fun _ _ h => h))
          clear h2
          go_wp2_with fail
          go_ret
          exact ⟨rfl, HE.out _ HM92.out⟩
      · have Hfit := Lib.hid hfit
        go_wp2_with fail
        refine (call_badd (o := none) (v := 0) (ok := false) (bare_full (b := zs) (by rw [HzK.out]; have := Hfit.out; omega)) rfl rfl HB2.out Hs2.out (by omega) (fun _ _ => trivial)).mono ?_
        rintro e w3 ⟨rfl, h1, h2⟩
        have HB3 : Hid (BloV (fun _ => True) g b 1 w3 (bareB o0 o1 0)) := Lib.hid h1
        have HM3 : Hid (Mod (fun j => j = g ∨ j = b) w0 w3) := Lib.hid (HM2.out.trans h2 (fun _ _ h => h))
        clear h1 h2
        obtain ⟨U, hU⟩ : ∃ U, U = o1 + (K : Int) := ⟨_, rfl⟩
        have hUo : ¬ U ≤ o0 := by omega
        have hw1 : IntKind.i64.wrap (o1 + (K : Int)) = U := by rw [IntWalk.i64_in _ (by omega), hU]
        have HU := Lib.hid hU
        clear hU hfit
        go_wp2_with fail
        refine (call_bused (u := o1) bare_used HB3.out).mono ?_
        rintro e w4 ⟨rfl, h1, h2⟩
        have HB4 : Hid (BloV (fun _ => True) g b 1 w4 (bareB o0 o1 0)) := Lib.hid h1
        have HM4 : Hid (Mod (fun j => j = g ∨ j = b) w0 w4) := Lib.hid (HM3.out.trans (h2.mono (fun _ _ h => h.elim)) (fun _ _ h => h))
        clear h1 h2
        obtain ⟨Y, hYY⟩ : ∃ Y, max (o1 + (-5000)) 0 = Y := ⟨_, rfl⟩
        have hY0 : Y ≤ o0 := by omega
        have HYY := Lib.hid hYY
        clear hYY
        have hY : max (o1 + (-5000)) 0 = Y := HYY.out
        have HY := Lib.hid hY
        clear hY
        go_wp2_with fail
        refine (call_bcharge (n := -5000) (ok := true) (ch_bare (.inl (by omega)) HY.out) HB4.out F5.out).mono ?_
        rintro e w90 ⟨rfl, h1, h2⟩
        have HB90 : Hid (BloV (fun _ => True) g b 1 w90 (bareB o0 Y 0)) := Lib.hid h1
        have HM90 : Hid (Mod (fun j => j = g ∨ j = b) w0 w90) := Lib.hid (HM4.out.trans h2 (fun _ _ h => h))
        clear h1 h2
        go_wp2_with fail
        refine (call_bused (u := Y) bare_used HB90.out).mono ?_
        rintro e w91 ⟨rfl, h1, h2⟩
        have HB91 : Hid (BloV (fun _ => True) g b 1 w91 (bareB o0 Y 0)) := Lib.hid h1
        have HM91 : Hid (Mod (fun j => j = g ∨ j = b) w0 w91) := Lib.hid (HM90.out.trans (h2.mono (fun _ _ h => h.elim)) (fun _ _ h => h))
        clear h1 h2
        go_wp2_with fail
        refine (blAwake_any w91).mono ?_
        rintro e w92 ⟨rfl, h2⟩
        have HM92 : Hid (Mod (fun j => j = g ∨ j = b) w0 w92) := Lib.hid (HM91.out.trans (h2.mono (fun _ _ h => h.elim)) (fun _ _ h => h))
        clear h2
        go_wp2_with fail
        go_ret
        exact ⟨rfl, HE.out _ HM92.out⟩
  · as_aux_lemma =>
      refine (call_bcharge (n := o1) (ok := false) (bare_over (by omega) (by omega)) HB0.out (fit_small (by omega) (by omega))).mono ?_
      rintro e w1 ⟨rfl, h1, h2⟩
      have HB1 : Hid (BloV (fun _ => True) g b 0 w1 (bareB o0 0 0)) := Lib.hid h1
      have HM1 : Hid (Mod (fun j => j = g ∨ j = b) w0 w1) := Lib.hid (HM0.out.trans h2 (fun _ _ h => h))
      clear h1 h2
      have hmx : K ≤ maxLen := by unfold maxLen; omega
      have hbm : 1 * K ≤ 281474976710656 := by omega
      go_wp2_with (at_make; refine wpList_mk rfl (.tmp 33) (.tmp 33) _ rfl elt8 (n := K) (cap := K) rfl rfl rfl rfl rfl (Nat.le_refl _) hbm hmx ?_; intro w2 HO HBl)
      obtain ⟨H2, hH2⟩ : ∃ x, x = w1.heap.size := ⟨_, rfl⟩
      have hm2 := mod_below HBl.out
      have Hs2 : Hid (∀ w', Mod (fun j => j = g ∨ j = b) w2 w' → Rds w' w'.heap.size (some ⟨w1.heap.size, 0, none⟩) K (cells8 zs)) := Lib.hid (fun w' hm => by
        have h1 : Own w1.heap.size w2 5 (.slice (some ⟨w1.heap.size, 0, none⟩) K K) (cells8 zs) := by
          have h2 := HO.out
          rwa [show cells8 zs = List.replicate K (.int .u8 0) by rw [Hzs.out]; simp [cells8]]
        exact Own.rds8 (hm.owns h1 (fun k hk e => by have h3 := Own.block h1 k hk; have h4 := HB1.out.lt; omega)) HzK.out)
      have HB2 : Hid (BloV (fun _ => True) g b 0 w2 (bareB o0 0 0)) := Lib.hid (HB1.out.new hm2)
      have HM2 : Hid (Mod (fun j => j = g ∨ j = b) w0 w2) := Lib.hid (HM1.out.trans (hm2.mono (fun _ _ h => h.elim)) (fun _ _ h => h))
      clear hH2 hm2 HO HBl
      by_cases hfit : (K : Int) ≤ o0
      · have Hfit := Lib.hid hfit
        go_wp2_with fail
        refine (call_badd (o := some 1) (v := 1) (ok := true) (bare_add (b := zs) (by rw [HzK.out]; have := Hfit.out; omega)) rfl rfl HB2.out Hs2.out (by omega) (fun _ _ => trivial)).mono ?_
        rintro e w3 ⟨rfl, h1, h2⟩
        have HB3 : Hid (BloV (fun _ => True) g b 1 w3 (sole o0 0 1 1 zs 1)) := Lib.hid h1
        have HM3 : Hid (Mod (fun j => j = g ∨ j = b) w0 w3) := Lib.hid (HM2.out.trans h2 (fun _ _ h => h))
        clear h1 h2
        obtain ⟨D, hD⟩ : ∃ D, D = o0 - (K : Int) := ⟨_, rfl⟩
        have hR0 : 0 ≤ D ∧ D ≤ 1023 := by omega
        obtain ⟨R00, R01⟩ := hR0
        have hw1 : IntKind.i64.wrap (K : Int) = (K : Int) := by rw [IntWalk.i64_in _ (by omega)]
        have hw2 : IntKind.i64.wrap o0 = o0 := by rw [IntWalk.i64_in _ (by omega)]
        have hw4 : IntKind.i64.wrap (D + 1) = D + 1 := by rw [IntWalk.i64_in _ (by omega)]
        have hw5 : IntKind.i64.wrap (o0 - (K : Int)) = D := by rw [IntWalk.i64_in _ (by omega), hD]
        have hw6 : IntKind.i64.wrap ((K : Int) + 1) = (K : Int) + 1 := by rw [IntWalk.i64_in _ (by omega)]
        have HD := Lib.hid hD
        have HR := HD
        have HU := HD
        clear hD
        go_wp2_with fail
        refine (call_bused (u := (K : Int)) (by rw [sole_used, HzK.out]; have := HU.out; omega) HB3.out).mono ?_
        rintro e w4 ⟨rfl, h1, h2⟩
        have HB4 : Hid (BloV (fun _ => True) g b 1 w4 (sole o0 0 1 1 zs 1)) := Lib.hid h1
        have HM4 : Hid (Mod (fun j => j = g ∨ j = b) w0 w4) := Lib.hid (HM3.out.trans (h2.mono (fun _ _ h => h.elim)) (fun _ _ h => h))
        clear h1 h2
        go_wp2_with fail
        refine (call_bcharge (n := D + 1) (ok := false) (sole_over (by omega) (by rw [HzK.out]; have := HR.out; omega)) HB4.out (fit_small (by omega) (by omega))).mono ?_
        rintro e w5 ⟨rfl, h1, h2⟩
        have HB5 : Hid (BloV (fun _ => True) g b 1 w5 (sole o0 0 1 1 zs 1)) := Lib.hid h1
        have HM5 : Hid (Mod (fun j => j = g ∨ j = b) w0 w5) := Lib.hid (HM4.out.trans h2 (fun _ _ h => h))
        clear h1 h2
        go_wp2_with fail
        refine (call_bcharge (n := D) (ok := true) (ch_sole (ch' := D) (.inr (by rw [HzK.out]; have := HR.out; omega)) (by have := HR.out; have := HD.out; omega)) HB5.out (fit_small (by omega) (by omega))).mono ?_
        rintro e w6 ⟨rfl, h1, h2⟩
        have HB6 : Hid (BloV (fun _ => True) g b 1 w6 (sole o0 D 1 1 zs 1)) := Lib.hid h1
        have HM6 : Hid (Mod (fun j => j = g ∨ j = b) w0 w6) := Lib.hid (HM5.out.trans h2 (fun _ _ h => h))
        clear h1 h2
        go_wp2_with fail
        refine (call_bused (u := o0) (by rw [sole_used, HzK.out]; have := HD.out; omega) HB6.out).mono ?_
        rintro e w7 ⟨rfl, h1, h2⟩
        have HB7 : Hid (BloV (fun _ => True) g b 1 w7 (sole o0 D 1 1 zs 1)) := Lib.hid h1
        have HM7 : Hid (Mod (fun j => j = g ∨ j = b) w0 w7) := Lib.hid (HM6.out.trans (h2.mono (fun _ _ h => h.elim)) (fun _ _ h => h))
        clear h1 h2
        go_wp2_with fail
        refine (call_bleave (k := 1) (ok := true) (s' := bareB o0 D 1) sole_last HB7.out F1.out (by omega)).mono ?_
        rintro e w8 ⟨rfl, h1, h2⟩
        have HB8 : Hid (BloV (fun _ => True) g b 2 w8 (bareB o0 D 1)) := Lib.hid h1
        have HM8 : Hid (Mod (fun j => j = g ∨ j = b) w0 w8) := Lib.hid (HM7.out.trans h2 (fun _ _ h => h))
        clear h1 h2
        go_wp2_with fail
        refine (call_bused (u := D) bare_used HB8.out).mono ?_
        rintro e w9 ⟨rfl, h1, h2⟩
        have HB9 : Hid (BloV (fun _ => True) g b 2 w9 (bareB o0 D 1)) := Lib.hid h1
        have HM9 : Hid (Mod (fun j => j = g ∨ j = b) w0 w9) := Lib.hid (HM8.out.trans (h2.mono (fun _ _ h => h.elim)) (fun _ _ h => h))
        clear h1 h2
        have HD0 : Hid (0 ≤ D ∧ D ≤ o0) := Lib.hid (by have := HD.out; have := HU.out; omega)
        by_cases hk0 : 0 < (K : Int)
        · go_wp2_with fail
          refine (call_bcharge (n := (K : Int) + 1) (ok := false) (bare_over (by omega) (by have := HD.out; omega)) HB9.out (fit_small (by omega) (by omega))).mono ?_
          rintro e w10 ⟨rfl, h1, h2⟩
          have HB10 : Hid (BloV (fun _ => True) g b 2 w10 (bareB o0 D 1)) := Lib.hid h1
          have HM10 : Hid (Mod (fun j => j = g ∨ j = b) w0 w10) := Lib.hid (HM9.out.trans h2 (fun _ _ h => h))
          clear h1 h2
          go_wp2_with fail
          refine (call_bcharge (n := (K : Int)) (ok := true) (ch_bare (ch' := o0) (.inr (by have := HD.out; omega)) (by have := HD.out; omega)) HB10.out (fit_small (by omega) (by omega))).mono ?_
          rintro e w11 ⟨rfl, h1, h2⟩
          have HB11 : Hid (BloV (fun _ => True) g b 2 w11 (bareB o0 o0 1)) := Lib.hid h1
          have HM11 : Hid (Mod (fun j => j = g ∨ j = b) w0 w11) := Lib.hid (HM10.out.trans h2 (fun _ _ h => h))
          clear h1 h2
          obtain ⟨Y, hYY⟩ : ∃ Y, max (o0 + (-5000)) 0 = Y := ⟨_, rfl⟩
          have hY0 : Y ≤ o0 := by omega
          have HYY := Lib.hid hYY
          clear hYY
          have hY : max (o0 + (-5000)) 0 = Y := HYY.out
          have HY := Lib.hid hY
          clear hY
          go_wp2_with fail
          refine (call_bcharge (n := -5000) (ok := true) (ch_bare (.inl (by omega)) HY.out) HB11.out F5.out).mono ?_
          rintro e w90 ⟨rfl, h1, h2⟩
          have HB90 : Hid (BloV (fun _ => True) g b 2 w90 (bareB o0 Y 1)) := Lib.hid h1
          have HM90 : Hid (Mod (fun j => j = g ∨ j = b) w0 w90) := Lib.hid (HM11.out.trans h2 (fun _ _ h => h))
          clear h1 h2
          go_wp2_with fail
          refine (call_bused (u := Y) bare_used HB90.out).mono ?_
          rintro e w91 ⟨rfl, h1, h2⟩
          have HB91 : Hid (BloV (fun _ => True) g b 2 w91 (bareB o0 Y 1)) := Lib.hid h1
          have HM91 : Hid (Mod (fun j => j = g ∨ j = b) w0 w91) := Lib.hid (HM90.out.trans (h2.mono (fun _ _ h => h.elim)) (fun _ _ h => h))
          clear h1 h2
          go_wp2_with fail
          refine (blAwake_any w91).mono ?_
          rintro e w92 ⟨rfl, h2⟩
          have HM92 : Hid (Mod (fun j => j = g ∨ j = b) w0 w92) := Lib.hid (HM91.out.trans (h2.mono (fun _ _ h => h.elim)) (fun _ _ h => h))
          clear h2
          go_wp2_with fail
          go_ret
          exact ⟨rfl, HE.out _ HM92.out⟩
        · obtain ⟨Y, hYY⟩ : ∃ Y, max (D + (-5000)) 0 = Y := ⟨_, rfl⟩
          have hY0 : Y ≤ o0 := by have := HD0.out; omega
          have HYY := Lib.hid hYY
          clear hYY
          have hY : max (D + (-5000)) 0 = Y := HYY.out
          have HY := Lib.hid hY
          clear hY
          go_wp2_with fail
          refine (call_bcharge (n := -5000) (ok := true) (ch_bare (.inl (by omega)) HY.out) HB9.out F5.out).mono ?_
          rintro e w90 ⟨rfl, h1, h2⟩
          have HB90 : Hid (BloV (fun _ => True) g b 2 w90 (bareB o0 Y 1)) := Lib.hid h1
          have HM90 : Hid (Mod (fun j => j = g ∨ j = b) w0 w90) := Lib.hid (HM9.out.trans h2 (fun _ _ h => h))
          clear h1 h2
          go_wp2_with fail
          refine (call_bused (u := Y) bare_used HB90.out).mono ?_
          rintro e w91 ⟨rfl, h1, h2⟩
          have HB91 : Hid (BloV (fun _ => True) g b 2 w91 (bareB o0 Y 1)) := Lib.hid h1
          have HM91 : Hid (Mod (fun j => j = g ∨ j = b) w0 w91) := Lib.hid (HM90.out.trans (h2.mono (fun _ _ h => h.elim)) (fun _ _ h => h))
          clear h1 h2
          go_wp2_with fail
          refine (blAwake_any w91).mono ?_
          rintro e w92 ⟨rfl, h2⟩
          have HM92 : Hid (Mod (fun j => j = g ∨ j = b) w0 w92) := Lib.hid (HM91.out.trans (h2.mono (fun _ _ h => h.elim)) (fun _ _ h => h))
          clear h2
          go_wp2_with fail
          go_ret
          exact ⟨rfl, HE.out _ HM92.out⟩
      · have Hfit := Lib.hid hfit
        go_wp2_with fail
        refine (call_badd (o := none) (v := 0) (ok := false) (bare_full (b := zs) (by rw [HzK.out]; have := Hfit.out; omega)) rfl rfl HB2.out Hs2.out (by omega) (fun _ _ => trivial)).mono ?_
        rintro e w3 ⟨rfl, h1, h2⟩
        have HB3 : Hid (BloV (fun _ => True) g b 1 w3 (bareB o0 0 0)) := Lib.hid h1
        have HM3 : Hid (Mod (fun j => j = g ∨ j = b) w0 w3) := Lib.hid (HM2.out.trans h2 (fun _ _ h => h))
        clear h1 h2
        have hw1 : IntKind.i64.wrap (K : Int) = (K : Int) := by rw [IntWalk.i64_in _ (by omega)]
        go_wp2_with fail
        refine (call_bused (u := 0) bare_used HB3.out).mono ?_
        rintro e w4 ⟨rfl, h1, h2⟩
        have HB4 : Hid (BloV (fun _ => True) g b 1 w4 (bareB o0 0 0)) := Lib.hid h1
        have HM4 : Hid (Mod (fun j => j = g ∨ j = b) w0 w4) := Lib.hid (HM3.out.trans (h2.mono (fun _ _ h => h.elim)) (fun _ _ h => h))
        clear h1 h2
        obtain ⟨Y, hYY⟩ : ∃ Y, max (0 + (-5000)) 0 = Y := ⟨_, rfl⟩
        have hY0 : Y ≤ o0 := by omega
        have HYY := Lib.hid hYY
        clear hYY
        have hY : max (0 + (-5000)) 0 = Y := HYY.out
        have HY := Lib.hid hY
        clear hY
        go_wp2_with fail
        refine (call_bcharge (n := -5000) (ok := true) (ch_bare (.inl (by omega)) HY.out) HB4.out F5.out).mono ?_
        rintro e w90 ⟨rfl, h1, h2⟩
        have HB90 : Hid (BloV (fun _ => True) g b 1 w90 (bareB o0 Y 0)) := Lib.hid h1
        have HM90 : Hid (Mod (fun j => j = g ∨ j = b) w0 w90) := Lib.hid (HM4.out.trans h2 (fun _ _ h => h))
        clear h1 h2
        go_wp2_with fail
        refine (call_bused (u := Y) bare_used HB90.out).mono ?_
        rintro e w91 ⟨rfl, h1, h2⟩
        have HB91 : Hid (BloV (fun _ => True) g b 1 w91 (bareB o0 Y 0)) := Lib.hid h1
        have HM91 : Hid (Mod (fun j => j = g ∨ j = b) w0 w91) := Lib.hid (HM90.out.trans (h2.mono (fun _ _ h => h.elim)) (fun _ _ h => h))
        clear h1 h2
        go_wp2_with fail
        refine (blAwake_any w91).mono ?_
        rintro e w92 ⟨rfl, h2⟩
        have HM92 : Hid (Mod (fun j => j = g ∨ j = b) w0 w92) := Lib.hid (HM91.out.trans (h2.mono (fun _ _ h => h.elim)) (fun _ _ h => h))
        clear h2
        go_wp2_with fail
        go_ret
        exact ⟨rfl, HE.out _ HM92.out⟩
end Go.Proofs.Ytnfpbjioiiedeaa
