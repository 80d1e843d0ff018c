/- What the document fixes of runs: awake. -/
import Derived.Test.YtomdphepbihmcaaLe
import Derived.Test.YtomdphepbihmcaaLd
import Derived.Test.YtomdphepbihmcaaUs
namespace Go.Proofs.Ytomdphepbihmcaa
open Go.RowKit

theorem lawk_enc : encR [5, 5, 5, 300] = [3, 5, 1, 172, 2] := by decide +kernel
theorem lawk_dec : decR 4 [3, 5, 1, 172, 2] = some [5, 5, 5, 300] := by decide +kernel
theorem lawk_no : decR 2 [1, 5, 1, 5] = none := by decide +kernel
theorem lawk_lt : ∀ x ∈ [5, 5, 5, 300], x < 2 ^ 64 := by decide +kernel
theorem lawk_256 : lt256 [3, 5, 1, 172, 2] := by unfold lt256; decide
theorem lawk_256' : lt256 [1, 5, 1, 5] := by unfold lt256; decide
set_option maxHeartbeats 1000000 in
set_option maxRecDepth 100000 in
theorem lawake_any (w : World) : Calls Try.prog 8 #[] w fun e w' => e = .returned (.bool true) ∧ Mod (fun _ => False) w w' := by
  obtain ⟨wl, hwl⟩ : ∃ wl, wl = w.alloc (.cells #[.int .u64 5, .int .u64 5, .int .u64 5, .int .u64 300] 37) := ⟨_, rfl⟩
  have hml : Mod (fun _ => False) w wl := by rw [hwl]; exact (Mod.refl _ _).alloc _
  have hsee : Hid (Rds wl (w.heap.size + 1) (some ⟨w.heap.size, 0, none⟩) 4 (cellsU [5, 5, 5, 300])) := Lib.hid (by
    rw [hwl]
    exact Rds.lit w 37 #[.int .u64 5, .int .u64 5, .int .u64 5, .int .u64 300])
  have hsz : w.heap.size + 1 ≤ wl.heap.size := by rw [hwl]; simp
  have Hwl := Lib.hid hwl; have Hml := Lib.hid hml
  clear hwl hml
  go_enter Try.func8, Try.ntmps8
  go_wp2_with fail
  rw [← Hwl.out]
  refine (lenc_any _ 4 4 (w.heap.size + 1) [5, 5, 5, 300] wl hsee.out hsz lawk_lt (by decide) (by decide)).mono ?_
  rintro e w1 ⟨v, rfl, ho1, hm1⟩
  rw [lawk_enc] at ho1
  obtain ⟨A1, c1, rfl, hc1, hcm1, hr1⟩ := own_form8 ho1
  have Hr1 : Hid (Rds w1 w1.heap.size A1 5 (cells8 [3, 5, 1, 172, 2])) := Lib.hid hr1
  have Hm1 := Lib.hid (Hml.out.trans hm1 (fun _ _ h => h))
  have hl1 : [3, 5, 1, 172, 2].length = 5 := rfl
  rw [hl1] at hc1 ⊢
  clear ho1 hm1 hr1 hl1 hsz hsee Hwl
  go_wp2_with fail
  refine (ldec_any A1 5 c1 _ 4 4 [3, 5, 1, 172, 2] w1 Hr1.out (Nat.le_refl _) lawk_256 hc1 hcm1 (by decide)).mono ?_
  intro e w2 hE
  obtain ⟨v, rfl, ho2, hm2⟩ := hE.some_ lawk_dec
  obtain ⟨A2, c2, rfl, _, hr2⟩ := own_formU ho2
  have Hr2 : Hid (Rds w2 w2.heap.size A2 4 (cellsU [5, 5, 5, 300])) := Lib.hid hr2
  have hl2 : [5, 5, 5, 300].length = 4 := rfl
  rw [hl2]
  have Hm2 := Lib.hid (Hm1.out.trans hm2 (fun _ _ h => h)); have Hr12 := Lib.hid (Hr1.out.new hm2)
  clear hE ho2 hm2 hr2 hl2
  obtain ⟨w3, hw3⟩ : ∃ w3, w3 = w2.alloc (.cells #[.int .u8 1, .int .u8 5, .int .u8 1, .int .u8 5] 5) := ⟨_, rfl⟩
  have hm3 : Mod (fun _ => False) w2 w3 := by rw [hw3]; exact (Mod.refl _ _).alloc _
  have hsee3 : Hid (Rds w3 (w2.heap.size + 1) (some ⟨w2.heap.size, 0, none⟩) 4 (cells8 [1, 5, 1, 5])) := Lib.hid (by
    rw [hw3]
    exact Rds.lit w2 5 #[.int .u8 1, .int .u8 5, .int .u8 1, .int .u8 5])
  have hsz3 : w2.heap.size + 1 ≤ w3.heap.size := by rw [hw3]; simp
  have Hw3 := Lib.hid hw3; have Hm3 := Lib.hid (Hm2.out.trans hm3 (fun _ _ h => h)); have Hr23 := Lib.hid (Hr2.out.new hm3); have Hr13 := Lib.hid (Hr12.out.fit.new hm3)
  clear hw3 hm3
  go_wp2_with fail
  rw [← Hw3.out]
  refine (ldec_any _ 4 4 (w2.heap.size + 1) 2 2 [1, 5, 1, 5] w3 hsee3.out hsz3 lawk_256' (by decide) (by decide) (by decide)).mono ?_
  intro e w4 hE
  obtain ⟨rfl, hm4⟩ := hE.none_ lawk_no
  have Hm4 := Lib.hid (Hm3.out.trans hm4 (fun _ _ h => h)); have Hr24 := Lib.hid (Hr23.out.fit.new hm4)
  have hcv : (convert 27 9 (.slice A1 5 c1)).run Try.prog w4 = .ok (.string ⟨#[3, 5, 1, 172, 2]⟩) w4 := conv_rds Try.underlying27 Try.underlying5 Try.underlying9 w4 (Hr13.out.fit.new hm4) lawk_256
  clear hE hm4 hsz3 hsee3 Hw3
  go_wp2_with fail
  refine (same_words A2 _ 4 c2 4 _ _ [5, 5, 5, 300] _ ((Hr24.out.fit).alloc (Nat.le_refl _) _) (Rds.lit w4 37 #[.int .u64 5, .int .u64 5, .int .u64 5, .int .u64 300]) (by decide)).mono ?_
  rintro e w5 ⟨rfl, hm5⟩
  have Hm5 := Lib.hid ((Hm4.out.alloc _).trans hm5 (fun _ _ h => h))
  clear hm5
  go_wp2_with fail
  go_ret
  exact ⟨rfl, Hm5.out⟩
/-- Encode, then string(..) of what it answers. -/
theorem lenc_at (A : Option Addr) (n cap B : Nat) (us : List Nat) (s : ByteArray) (w : World) (hs : Rds w B A n (cellsU us)) (hB : B ≤ w.heap.size) (hu : ∀ x ∈ us, x < 2 ^ 64) (hn : n ≤ 1000000) (hcap : n ≤ cap) (hss : s = strOf (encR us)) :
    Calls Try.prog 7 #[.slice A n cap] w fun e w' => ∃ A' n' c', e = .returned (.slice A' n' c') ∧ (convert 27 9 (.slice A' n' c')).run Try.prog w' = .ok (.string s) w' ∧ Mod (fun _ => False) w w' := by
  subst hss
  refine (lenc_any A n cap B us w hs hB hu hn hcap).mono ?_
  rintro e w' ⟨v, rfl, ho, hm⟩
  obtain ⟨A', c', rfl, _, _, hr⟩ := own_form8 ho
  exact ⟨A', _, c', rfl, conv_rds Try.underlying27 Try.underlying5 Try.underlying9 w' hr (encR_256 _ us rfl), hm⟩
end Go.Proofs.Ytomdphepbihmcaa
