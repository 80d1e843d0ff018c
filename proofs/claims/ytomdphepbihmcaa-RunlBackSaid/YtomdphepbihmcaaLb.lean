/- Values are read as they were told: RunlBack's walk. -/
import Derived.Test.YtomdphepbihmcaaLa
namespace Go.Proofs.Ytomdphepbihmcaa
open Go.RowKit

set_option maxHeartbeats 1000000 in
set_option maxRecDepth 100000 in
theorem runlBack_walk (A : Option Addr) (n cap : Nat) (zs : List Nat) (how : Int) (w : World) (hs : Rds w w.heap.size A n (cellsU zs)) (hz : ∀ x ∈ zs, x < 2 ^ 64) :
    Calls Try.prog 5 #[.slice A n cap, .int .i64 how] w fun e w' => e = .returned (.bool true) ∧ Mod (fun _ => False) w w' := by
  have Hs := Lib.hid hs; have Hz := Lib.hid hz
  clear hs hz
  go_enter Try.func5, Try.ntmps5
  go_wp2_with fail
  refine (values_any A n cap zs how w Hs.out Hz.out).mono ?_
  rintro e w1 ⟨v1, ts, rfl, ho1, hl1, hu1, hm1⟩
  obtain ⟨A1, L, c1, rfl, HL, hLc, hr1⟩ := own_formUN ho1
  rw [HL.out] at hl1
  have Hr1 := Lib.hid hr1; have Hm1 := Lib.hid hm1; have Hu1 := Lib.hid hu1
  have Hfit : Hid (∀ x ∈ ts, x < 18446744073709551616) := Lib.hid hu1
  have hsome : decR L (encR ts) = some ts := by rw [← HL.out]; exact decR_of (by rw [HL.out]; omega) Hfit.out
  have hmore : decR (L + 1) (encR ts) = none := decR_other (by rw [HL.out]; omega) Hfit.out (by rw [HL.out]; omega)
  have hless : 0 < L → decR (L - 1) (encR ts) = none := fun h => decR_other (by rw [HL.out]; omega) Hfit.out (by rw [HL.out]; omega)
  have h256 : lt256 (encR ts) := encR_256 _ ts rfl
  have Hsome := Lib.hid hsome; have Hmore := Lib.hid hmore; have Hless := Lib.hid hless; have H256 := Lib.hid h256
  clear ho1 hr1 hm1 hu1 hsome hmore hless h256 Hfit
  go_wp2_with fail
  refine (lenc_any A1 L c1 _ ts w1 Hr1.out (Nat.le_refl _) Hu1.out (by omega) hLc).mono ?_
  rintro e w2 ⟨v2, rfl, ho2, hm2⟩
  obtain ⟨A2, M, c2, rfl, HM, hMc, hcm, hr2⟩ := own_formN8 ho2
  have Hr2 := Lib.hid hr2; have Hm2 := Lib.hid (Hm1.out.trans hm2 (fun _ _ h => h)); have Hr12 := Lib.hid (Hr1.out.new hm2); have Hcm := Lib.hid hcm
  clear ho2 hm2 hr2 hcm Hr1
  go_wp2_with fail
  refine (ldec_any A2 M c2 _ L (L : Int) (encR ts) w2 Hr2.out (Nat.le_refl _) H256.out hMc Hcm.out (by omega)).mono ?_
  intro e w3 hE
  obtain ⟨v3, rfl, ho3, hm3⟩ := hE.some_ Hsome.out
  obtain ⟨A3, L3, c3, rfl, HL3, _, hr3⟩ := own_formUN ho3
  obtain rfl : L3 = L := by have := HL.out; have := HL3.out; omega
  have Hr3 := Lib.hid hr3; have Hm3 := Lib.hid (Hm2.out.trans hm3 (fun _ _ h => h)); have Hr13 := Lib.hid (Hr12.out.fit.new hm3); have Hr23 := Lib.hid (Hr2.out.new hm3)
  clear hE ho3 hm3 hr3 Hr12 Hr2
  have hLi : IntKind.i64.wrap ((L3 : Int) + 1) = ((L3 + 1 : Nat) : Int) := by rw [IntKind.wrap_i64]; omega
  go_wp2_with fail
  refine (ldec_any A2 M c2 _ (L3 + 1) _ (encR ts) w3 Hr23.out.fit (Nat.le_refl _) H256.out hMc Hcm.out (by omega)).mono ?_
  intro e w4 hE
  obtain ⟨rfl, hm4⟩ := hE.none_ Hmore.out
  have Hm4 := Lib.hid (Hm3.out.trans hm4 (fun _ _ h => h)); have Hr14 := Lib.hid (Hr13.out.fit.new hm4); have Hr24 := Lib.hid (Hr23.out.fit.new hm4); have Hr34 := Lib.hid (Hr3.out.new hm4)
  clear hE hm4 Hr13 Hr23 Hr3
  by_cases hL0 : 0 < L3
  · have hL0i : (0 : Int) < (L3 : Int) := by omega
    have hLj : (L3 : Int) - 1 = ((L3 - 1 : Nat) : Int) := by omega
    go_wp2_with fail
    refine (ldec_any A2 M c2 _ (L3 - 1) _ (encR ts) w4 Hr24.out.fit (Nat.le_refl _) H256.out hMc Hcm.out (by omega)).mono ?_
    intro e w5 hE
    obtain ⟨rfl, hm5⟩ := hE.none_ (Hless.out hL0)
    have Hm5 := Lib.hid (Hm4.out.trans hm5 (fun _ _ h => h)); have Hr15 := Lib.hid (Hr14.out.fit.new hm5); have Hr35 := Lib.hid (Hr34.out.fit.new hm5)
    clear hE hm5
    go_wp2_with fail
    refine (same_words A3 A1 L3 c3 c1 _ _ ts w5 Hr35.out Hr15.out (by omega)).mono ?_
    rintro e w6 ⟨rfl, hm6⟩
    have Hm6 := Lib.hid (Hm5.out.trans hm6 (fun _ _ h => h))
    clear hm6
    go_wp2_with fail
    refine (lawake_any w6).mono ?_
    rintro e w7 ⟨rfl, hm7⟩
    have Hm7 := Lib.hid (Hm6.out.trans hm7 (fun _ _ h => h))
    clear hm7
    go_wp2_with fail
    go_ret
    exact ⟨rfl, Hm7.out⟩
  · have hL0i : ¬ (0 : Int) < (L3 : Int) := by omega
    go_wp2_with fail
    refine (same_words A3 A1 L3 c3 c1 _ _ ts w4 Hr34.out Hr14.out (by omega)).mono ?_
    rintro e w6 ⟨rfl, hm6⟩
    have Hm6 := Lib.hid (Hm4.out.trans hm6 (fun _ _ h => h))
    clear hm6
    go_wp2_with fail
    refine (lawake_any w6).mono ?_
    rintro e w7 ⟨rfl, hm7⟩
    have Hm7 := Lib.hid (Hm6.out.trans hm7 (fun _ _ h => h))
    clear hm7
    go_wp2_with fail
    go_ret
    exact ⟨rfl, Hm7.out⟩
end Go.Proofs.Ytomdphepbihmcaa
