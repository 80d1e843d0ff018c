/- What the document fixes of values by their least: awake. -/
import Derived.Test.YtliaehfknppnaaaPr
import Derived.Test.YtliaehfknppnaaaUs
namespace Go.Proofs.Ytliaehfknppnaaa
open Go.RowKit

theorem pawk_enc : encP [300, 303, 301] = [172, 2, 2, 52] := by decide +kernel
theorem pawk_dec : decP 3 [172, 2, 2, 52] = some [300, 303, 301] := by decide +kernel
theorem pawk_no : decP 2 [5, 1, 0] = none := by decide +kernel
theorem pawk_lt : ∀ x ∈ [300, 303, 301], x < 2 ^ 64 := by decide +kernel
theorem pawk_256 : lt256 [172, 2, 2, 52] := by unfold lt256; decide
theorem pawk_256' : lt256 [5, 1, 0] := by unfold lt256; decide
set_option maxHeartbeats 1000000 in
set_option maxRecDepth 100000 in
theorem pawake_any (w : World) : Calls Try.prog 9 #[] w fun e w' => e = .returned (.bool true) ∧ Mod (fun _ => False) w w' := by
  obtain ⟨wl, hwl⟩ : ∃ wl, wl = w.alloc (.cells #[.int .u64 300, .int .u64 303, .int .u64 301] 31) := ⟨_, rfl⟩
  have hml : Mod (fun _ => False) w wl := by rw [hwl]; exact (Mod.refl _ _).alloc _
  have hsee : Hid (Rds wl (w.heap.size + 1) (some ⟨w.heap.size, 0, none⟩) 3 (cellsU [300, 303, 301])) := Lib.hid (by
    rw [hwl]
    exact Rds.lit w 31 #[.int .u64 300, .int .u64 303, .int .u64 301])
  have hsz : w.heap.size + 1 ≤ wl.heap.size := by rw [hwl]; simp
  have Hwl := Lib.hid hwl; have Hml := Lib.hid hml
  clear hwl hml
  go_enter Try.func9, Try.ntmps9
  go_wp2_with fail
  rw [← Hwl.out]
  refine (penc_any _ 3 3 (w.heap.size + 1) [300, 303, 301] wl hsee.out hsz pawk_lt (by decide)).mono ?_
  rintro e w1 ⟨v, rfl, ho1, hm1⟩
  rw [pawk_enc] at ho1
  obtain ⟨A1, c1, rfl, hc1, hcm1, hr1⟩ := own_form8 ho1
  have Hr1 : Hid (Rds w1 w1.heap.size A1 4 (cells8 [172, 2, 2, 52])) := Lib.hid hr1
  have Hm1 := Lib.hid (Hml.out.trans hm1 (fun _ _ h => h))
  have hl1 : [172, 2, 2, 52].length = 4 := rfl
  rw [hl1] at hc1 ⊢
  clear ho1 hm1 hr1 hl1 hsz hsee Hwl
  go_wp2_with fail
  refine (pdec_any A1 4 c1 _ 3 3 [172, 2, 2, 52] w1 Hr1.out (Nat.le_refl _) pawk_256 hc1 hcm1 (by decide) (by decide)).mono ?_
  intro e w2 hE
  obtain ⟨v, rfl, ho2, hm2⟩ := hE.some_ pawk_dec
  obtain ⟨A2, c2, rfl, _, hr2⟩ := own_formU ho2
  have Hr2 : Hid (Rds w2 w2.heap.size A2 3 (cellsU [300, 303, 301])) := Lib.hid hr2
  have hl2 : [300, 303, 301].length = 3 := rfl
  rw [hl2]
  have Hm2 := Lib.hid (Hm1.out.trans hm2 (fun _ _ h => h)); have Hr12 := Lib.hid (Hr1.out.new hm2)
  clear hE ho2 hm2 hr2 hl2
  obtain ⟨w3, hw3⟩ : ∃ w3, w3 = w2.alloc (.cells #[.int .u8 5, .int .u8 1, .int .u8 0] 5) := ⟨_, rfl⟩
  have hm3 : Mod (fun _ => False) w2 w3 := by rw [hw3]; exact (Mod.refl _ _).alloc _
  have hsee3 : Hid (Rds w3 (w2.heap.size + 1) (some ⟨w2.heap.size, 0, none⟩) 3 (cells8 [5, 1, 0])) := Lib.hid (by
    rw [hw3]
    exact Rds.lit w2 5 #[.int .u8 5, .int .u8 1, .int .u8 0])
  have hsz3 : w2.heap.size + 1 ≤ w3.heap.size := by rw [hw3]; simp
  have Hw3 := Lib.hid hw3; have Hm3 := Lib.hid (Hm2.out.trans hm3 (fun _ _ h => h)); have Hr23 := Lib.hid (Hr2.out.new hm3); have Hr13 := Lib.hid (Hr12.out.fit.new hm3)
  clear hw3 hm3
  go_wp2_with fail
  rw [← Hw3.out]
  refine (pdec_any _ 3 3 (w2.heap.size + 1) 2 2 [5, 1, 0] w3 hsee3.out hsz3 pawk_256' (by decide) (by decide) (by decide) (by decide)).mono ?_
  intro e w4 hE
  obtain ⟨rfl, hm4⟩ := hE.none_ pawk_no
  have Hm4 := Lib.hid (Hm3.out.trans hm4 (fun _ _ h => h)); have Hr24 := Lib.hid (Hr23.out.fit.new hm4)
  have hcv : (convert 27 9 (.slice A1 4 c1)).run Try.prog w4 = .ok (.string ⟨#[172, 2, 2, 52]⟩) w4 := conv_rds Try.underlying27 Try.underlying5 Try.underlying9 w4 (Hr13.out.fit.new hm4) pawk_256
  clear hE hm4 hsz3 hsee3 Hw3
  go_wp2_with fail
  refine (same_words A2 _ 3 c2 3 _ _ [300, 303, 301] _ ((Hr24.out.fit).alloc (Nat.le_refl _) _) (Rds.lit w4 31 #[.int .u64 300, .int .u64 303, .int .u64 301]) (by decide)).mono ?_
  rintro e w5 ⟨rfl, hm5⟩
  have Hm5 := Lib.hid ((Hm4.out.alloc _).trans hm5 (fun _ _ h => h))
  clear hm5
  go_wp2_with fail
  go_ret
  exact ⟨rfl, Hm5.out⟩
/-- Encode, then string(..) of what it answers. -/
theorem penc_at (A : Option Addr) (n cap B : Nat) (us : List Nat) (s : ByteArray) (w : World) (hs : Rds w B A n (cellsU us)) (hB : B ≤ w.heap.size) (hu : ∀ x ∈ us, x < 2 ^ 64) (hn : n ≤ 1000000) (hss : s = strOf (encP us)) :
    Calls Try.prog 8 #[.slice A n cap] w fun e w' => ∃ A' n' c', e = .returned (.slice A' n' c') ∧ (convert 27 9 (.slice A' n' c')).run Try.prog w' = .ok (.string s) w' ∧ Mod (fun _ => False) w w' := by
  subst hss
  refine (penc_any A n cap B us w hs hB hu hn).mono ?_
  rintro e w' ⟨v, rfl, ho, hm⟩
  obtain ⟨A', c', rfl, _, _, hr⟩ := own_form8 ho
  exact ⟨A', _, c', rfl, conv_rds Try.underlying27 Try.underlying5 Try.underlying9 w' hr (encP_256 us), hm⟩
end Go.Proofs.Ytliaehfknppnaaa
