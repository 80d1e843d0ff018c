/- The document's numbers, bits, held, fits. -/
import Derived.Test.YthhcfngnbgckmaaDoorSk
namespace Go.Proofs.YthhcfngnbgckmaaDoor
open Go.RowKit

def numsV : Array Value := #[.int .i64 240, .int .i64 120, .int .i64 60, .int .i64 30, .int .i64 20, .int .i64 15, .int .i64 12, .int .i64 10, .int .i64 8, .int .i64 7, .int .i64 6, .int .i64 5, .int .i64 4, .int .i64 3, .int .i64 2, .int .i64 1]
def bitsV : Array Value := #[.int .i64 0, .int .i64 0, .int .i64 1, .int .i64 2, .int .i64 3, .int .i64 4, .int .i64 5, .int .i64 6, .int .i64 7, .int .i64 8, .int .i64 10, .int .i64 12, .int .i64 15, .int .i64 20, .int .i64 30, .int .i64 60]
theorem numsV_at : ∀ k : Fin 16, numsV[k.val]? = some (.int .i64 (numN k.val : Int)) := by
  intro ⟨k, hk⟩
  have h : k = 0 ∨ k = 1 ∨ k = 2 ∨ k = 3 ∨ k = 4 ∨ k = 5 ∨ k = 6 ∨ k = 7 ∨ k = 8 ∨ k = 9 ∨ k = 10 ∨ k = 11 ∨ k = 12 ∨ k = 13 ∨ k = 14 ∨ k = 15 := by omega
  rcases h with rfl | rfl | rfl | rfl | rfl | rfl | rfl | rfl | rfl | rfl | rfl | rfl | rfl | rfl | rfl | rfl <;> rfl
theorem bitsV_at : ∀ k : Fin 16, bitsV[k.val]? = some (.int .i64 (bitN k.val : Int)) := by
  intro ⟨k, hk⟩
  have h : k = 0 ∨ k = 1 ∨ k = 2 ∨ k = 3 ∨ k = 4 ∨ k = 5 ∨ k = 6 ∨ k = 7 ∨ k = 8 ∨ k = 9 ∨ k = 10 ∨ k = 11 ∨ k = 12 ∨ k = 13 ∨ k = 14 ∨ k = 15 := by omega
  rcases h with rfl | rfl | rfl | rfl | rfl | rfl | rfl | rfl | rfl | rfl | rfl | rfl | rfl | rfl | rfl | rfl <;> rfl
set_option maxHeartbeats 1000000 in
theorem numbers_any (k : Nat) (w : World) (hk : k < 16) : Calls Tryd.prog 15 #[.int .i64 (k : Int)] w fun e w' => e = .returned (.int .i64 (numN k : Int)) ∧ Mod (fun _ => False) w w' := by
  obtain ⟨W, hW⟩ : ∃ W, W = w.alloc (.cells numsV 45) := ⟨_, rfl⟩
  have hmW : Mod (fun _ => False) w W := by rw [hW]; exact (Mod.refl _ _).alloc _
  have hbW : Blk W w.heap.size 45 numsV := by rw [hW]; exact Blk.new _ _ _
  have hd := (hbW.cell k).trans (numsV_at ⟨k, hk⟩)
  simp only at hd
  obtain ⟨c, hc⟩ : ∃ c, c = numN k := ⟨_, rfl⟩
  rw [← hc] at hd ⊢
  have hk0 : (0 : Int) ≤ (k : Int) := by omega
  have hk1 : (k : Int) < 16 := by omega
  unfold numsV at hW
  have HW := Lib.hid hW; have HmW := Lib.hid hmW
  clear hW hmW hbW hc
  go_enter Tryd.func15, Tryd.ntmps15
  go_wp2_with (first | (rw [← HW.out]))
  go_ret
  exact ⟨rfl, HmW.out⟩
set_option maxHeartbeats 1000000 in
theorem bits_any (k : Nat) (w : World) (hk : k < 16) : Calls Tryd.prog 16 #[.int .i64 (k : Int)] w fun e w' => e = .returned (.int .i64 (bitN k : Int)) ∧ Mod (fun _ => False) w w' := by
  obtain ⟨W, hW⟩ : ∃ W, W = w.alloc (.cells bitsV 45) := ⟨_, rfl⟩
  have hmW : Mod (fun _ => False) w W := by rw [hW]; exact (Mod.refl _ _).alloc _
  have hbW : Blk W w.heap.size 45 bitsV := by rw [hW]; exact Blk.new _ _ _
  have hd := (hbW.cell k).trans (bitsV_at ⟨k, hk⟩)
  simp only at hd
  obtain ⟨c, hc⟩ : ∃ c, c = bitN k := ⟨_, rfl⟩
  rw [← hc] at hd ⊢
  have hk0 : (0 : Int) ≤ (k : Int) := by omega
  have hk1 : (k : Int) < 16 := by omega
  unfold bitsV at hW
  have HW := Lib.hid hW; have HmW := Lib.hid hmW
  clear hW hmW hbW hc
  go_enter Tryd.func16, Tryd.ntmps16
  go_wp2_with (first | (rw [← HW.out]))
  go_ret
  exact ⟨rfl, HmW.out⟩
theorem numbers_is (k c : Nat) (w : World) (hk : k < 16) (hc : numN k = c) : Calls Tryd.prog 15 #[.int .i64 (k : Int)] w fun e w' => e = .returned (.int .i64 (c : Int)) ∧ Mod (fun _ => False) w w' := by
  subst hc
  exact numbers_any k w hk
theorem bits_is (k c : Nat) (w : World) (hk : k < 16) (hc : bitN k = c) : Calls Tryd.prog 16 #[.int .i64 (k : Int)] w fun e w' => e = .returned (.int .i64 (c : Int)) ∧ Mod (fun _ => False) w w' := by
  subst hc
  exact bits_any k w hk
theorem held_any (m : Int) (N : Nat) (w : World) (hN : max 0 (min m 65535) = (N : Int)) : Calls Tryd.prog 19 #[.int .i64 m] w fun e w' => e = .returned (.int .i64 (N : Int)) ∧ w = w' := by
  obtain ⟨mx, hmx⟩ : ∃ mx : Int, max m 0 = mx := ⟨_, rfl⟩
  have hmax := maxI_is (P := Tryd.prog) (t := 3) (ty := 3) hmx
  have hmin := minI_is (P := Tryd.prog) (t := 3) (ty := 3) (n1 := mx) (n2 := 65535) (m := (N : Int)) (by omega)
  clear hmx hN
  go_enter Tryd.func19, Tryd.ntmps19
  go_wp2_with fail
  go_ret
  exact ⟨rfl, rfl⟩
end Go.Proofs.YthhcfngnbgckmaaDoor
