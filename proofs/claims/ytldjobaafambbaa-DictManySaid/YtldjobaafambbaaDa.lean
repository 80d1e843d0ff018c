/- What the document fixes of values by a list: awake. -/
import Derived.Test.YtldjobaafambbaaDr
import Derived.Test.YtldjobaafambbaaUs
namespace Go.Proofs.Ytldjobaafambbaa
open Go.RowKit Go.Maps

theorem dawk_enc : encD [5, 9, 5] = some [2, 5, 9, 64] := by decide +kernel
theorem dawk_dec : decD 3 [2, 5, 9, 64] = some [5, 9, 5] := by decide +kernel
theorem dawk_lt : ∀ x ∈ [5, 9, 5], x < 2 ^ 64 := by decide +kernel
theorem dawk_256 : lt256 [2, 5, 9, 64] := by unfold lt256; decide
/-- The first i cells bear their own number, the rest 0. -/
def ramp (n i : Nat) : List Nat := List.range i ++ List.replicate (n - i) 0
theorem ramp_len {n i : Nat} (h : i ≤ n) : (ramp n i).length = n := by simp [ramp]; omega
theorem ramp_set {n i : Nat} (h : i < n) : (ramp n i).set i i = ramp n (i + 1) := by
  unfold ramp
  obtain ⟨j, hj⟩ : ∃ j, n - i = j + 1 := ⟨n - i - 1, by omega⟩
  rw [hj, show n - (i + 1) = j by omega, List.replicate_succ, List.set_append_right _ _ (by simp), List.length_range, Nat.sub_self, List.set_cons_zero, List.range_succ]
  simp
theorem ramp_zero (n : Nat) : ramp n 0 = List.replicate n 0 := by simp [ramp]
theorem ramp_all (n : Nat) : ramp n n = List.range n := by simp [ramp]
theorem ramp_no : encD (List.range 257) = none := by
  refine encD_many ?_
  have e : uniq (List.range 257) = List.range 257 := by
    show uniqF [] (List.range 257) = _
    rw [uniqF_apart _ _ (fun _ _ h => by cases h) List.nodup_range, List.nil_append]
  rw [e, List.length_range]
  omega
theorem ramp_lt : ∀ x ∈ List.range 257, x < 2 ^ 64 := fun x hx => by
  rw [List.mem_range] at hx
  omega
set_option maxHeartbeats 1000000 in
set_option maxRecDepth 100000 in
theorem dawake_any (w : World) : Calls Try.prog 8 #[] w fun e w' => e = .returned (.bool true) ∧ Mod (fun _ => False) w w' := by
  obtain ⟨wl, hwl⟩ : ∃ wl, wl = w.alloc (.cells #[.int .u64 5, .int .u64 9, .int .u64 5] 32) := ⟨_, rfl⟩
  have hml : Mod (fun _ => False) w wl := by rw [hwl]; exact (Mod.refl _ _).alloc _
  have hsee : Hid (Rds wl (w.heap.size + 1) (some ⟨w.heap.size, 0, none⟩) 3 (cellsU [5, 9, 5])) := Lib.hid (by
    rw [hwl]
    exact Rds.lit w 32 #[.int .u64 5, .int .u64 9, .int .u64 5])
  have hsz : w.heap.size + 1 ≤ wl.heap.size := by rw [hwl]; simp
  have Hwl := Lib.hid hwl; have Hml := Lib.hid hml
  have hbm : 8 * 257 ≤ 281474976710656 := by decide
  have hmx : 257 ≤ maxLen := by decide
  clear hwl hml
  go_enter Try.func8, Try.ntmps8
  go_wp2_with fail
  rw [← Hwl.out]
  refine (denc_any _ 3 3 (w.heap.size + 1) [5, 9, 5] wl hsee.out hsz dawk_lt (by decide)).mono ?_
  intro e w1 hE
  obtain ⟨v, rfl, ho1, hm1⟩ := hE.some_ dawk_enc
  obtain ⟨A1, c1, rfl, hc1, hcm1, hr1⟩ := own_form8 ho1
  have Hr1 : Hid (Rds w1 w1.heap.size A1 4 (cells8 [2, 5, 9, 64])) := Lib.hid hr1
  have Hm1 := Lib.hid (Hml.out.trans hm1 (fun _ _ h => h))
  have hl1 : [2, 5, 9, 64].length = 4 := rfl
  rw [hl1] at hc1 ⊢
  clear hE ho1 hm1 hr1 hl1 hsz hsee Hwl
  go_wp2_with (at_make; refine wpList_mk rfl _ _ _ rfl eltU (n := 257) (cap := 257) rfl rfl rfl rfl rfl (Nat.le_refl _) hbm hmx ?_; intro w2 HO2 HB2)
  have R0 : Hid (Own w1.heap.size w2 32 (.slice (some ⟨w1.heap.size, 0, none⟩) 257 257) (cellsU (ramp 257 0)) ∧ Mod (fun _ => False) w1 w2) := Lib.hid ⟨by
    rw [ramp_zero]
    have h := HO2.out
    rw [show List.replicate 257 (Value.int .u64 0) = cellsU (List.replicate 257 0) by simp [cellsU]] at h
    exact h, mod_below HB2.out⟩
  clear HO2 HB2 hbm hmx
  go_loopg [17] 257 (fun l s17 wr => ∃ i : Nat, i + l = 257 ∧ s17 = .int .i64 (i : Int) ∧ Own w1.heap.size wr 32 (.slice (some ⟨w1.heap.size, 0, none⟩) 257 257) (cellsU (ramp 257 i)) ∧ Mod (fun _ => False) w1 wr)
  case atStart => exact ⟨0, by omega, rfl, R0.out⟩
  case round =>
    obtain ⟨i, hil, rfl, hown, hm⟩ := hrel
    have Hown := Lib.hid hown; have Hm := Lib.hid hm; have Hil := Lib.hid hil
    clear hown hm hil R0
    by_cases hin : i < 257
    · obtain ⟨hu0, hfz, hset⟩ := own_setU (k := i) (b := i) Hown.out (ramp_len (by omega)).symm hin
      obtain ⟨u0, hu0⟩ := hu0
      rw [ramp_set hin] at hset
      have Hset := Lib.hid hset
      have hi0 : (0 : Int) ≤ (i : Int) := by omega
      have hi257 : (i : Int) < 257 := by omega
      clear hset
      go_wp2_with fail
      go_roundg (gk - 1)
      case measure => have := Hil.out; omega
      case rel => exact ⟨i + 1, by have := Hil.out; omega, by go_num, Hset.out, Hm.out.setCell (fun h => absurd h (by simp)) _⟩
    · have hi : i = 257 := by have := Hil.out; omega
      have hr3 : Rds wr wr.heap.size (some ⟨w1.heap.size, 0, none⟩) 257 (cellsU (List.range 257)) := by
        have h := Hown.out
        rw [hi, ramp_all] at h
        exact h.rds (by simp)
      have Hr3 := Lib.hid hr3
      have Hm3 := Lib.hid (Hm1.out.trans Hm.out (fun _ _ h => h)); have Hr13 := Lib.hid (Hr1.out.new Hm.out).fit
      have hnot : ¬ (i : Int) < 257 := by omega
      clear hr3 hi Hown hin
      generalize w1.heap.size = g3 at *
      go_wp2_with fail
      refine (denc_any _ 257 257 _ (List.range 257) wr Hr3.out (Nat.le_refl _) ramp_lt (by decide)).mono ?_
      intro e w4 hE
      obtain ⟨rfl, hm4⟩ := hE.none_ ramp_no
      have Hm4 := Lib.hid (Hm3.out.trans hm4 (fun _ _ h => h)); have Hr14 := Lib.hid (Hr13.out.new hm4).fit
      clear hE hm4 Hr3
      go_wp2_with fail
      refine (ddec_any A1 4 c1 _ 3 3 [2, 5, 9, 64] w4 Hr14.out (Nat.le_refl _) dawk_256 hc1 hcm1 (by decide) (by decide)).mono ?_
      intro e w5 hE
      obtain ⟨v5, rfl, ho5, hm5⟩ := hE.some_ dawk_dec
      obtain ⟨A5, c5, rfl, _, hr5⟩ := own_formU ho5
      have Hr5 : Hid (Rds w5 w5.heap.size A5 3 (cellsU [5, 9, 5])) := Lib.hid hr5
      have hl5 : [5, 9, 5].length = 3 := rfl
      rw [hl5]
      have Hm5 := Lib.hid (Hm4.out.trans hm5 (fun _ _ h => h))
      have hcv : (convert 27 9 (.slice A1 4 c1)).run Try.prog w5 = .ok (.string ⟨#[2, 5, 9, 64]⟩) w5 := conv_rds Try.underlying27 Try.underlying5 Try.underlying9 w5 (Hr14.out.new hm5) dawk_256
      clear hE ho5 hm5 hr5 hl5
      go_wp2_with fail
      refine (same_words A5 _ 3 c5 3 _ _ [5, 9, 5] _ (Hr5.out.alloc (Nat.le_refl _) _) (Rds.lit w5 32 #[.int .u64 5, .int .u64 9, .int .u64 5]) (by decide)).mono ?_
      rintro e w6 ⟨rfl, hm6⟩
      have Hm6 := Lib.hid ((Hm5.out.alloc _).trans hm6 (fun _ _ h => h))
      clear hm6
      go_wp2_with fail
      go_ret
      exact ⟨rfl, Hm6.out⟩
end Go.Proofs.Ytldjobaafambbaa
