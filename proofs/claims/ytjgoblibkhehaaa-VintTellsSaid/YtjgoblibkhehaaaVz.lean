/- Zig and Zag, of the code and of the document's own answer; ends. -/
import Derived.Test.YtjgoblibkhehaaaProg
import Derived.Test.YtjgoblibkhehaaaVm
import Derived.Test.YtjgoblibkhehaaaMem
import Derived.Test.YtjgoblibkhehaaaAnd
import Derived.WalkKit
import Derived.ProofKit
import Derived.Lib.Hide
import Derived.BigQuiet
import Derived.Deep.QuietTactic
import Derived.Outline
namespace Go.Proofs.Ytjgoblibkhehaaa
open Go.RowKit

theorem u64_xor_ones (a : Int) (h1 : 0 ≤ a) (h2 : a < 18446744073709551616) : bits .xor .u64 a 18446744073709551615 = 18446744073709551615 - a := by
  obtain ⟨a, rfl⟩ := Int.eq_ofNat_of_zero_le h1
  show IntKind.u64.wrap ((BitVec.ofInt 64 (a : Int) ^^^ BitVec.ofInt 64 18446744073709551615).toNat : Int) = _
  have h1 : BitVec.ofInt 64 18446744073709551615 = BitVec.allOnes 64 := by decide
  rw [h1, BitVec.xor_allOnes, BitVec.toNat_not, ofInt_u64 a (by omega), IntKind.wrap_u64]
  omega
theorem u64_xor_zero (a : Int) (h1 : 0 ≤ a) (h2 : a < 18446744073709551616) : bits .xor .u64 a 0 = a := by
  obtain ⟨a, rfl⟩ := Int.eq_ofNat_of_zero_le h1
  rw [show (0 : Int) = ((0 : Nat) : Int) from rfl, u64_xor_nat a 0 (by omega) (by omega), Nat.xor_zero]
theorem i64_xor_ones (a : Int) (h1 : 0 ≤ a) (h2 : a < 9223372036854775808) : bits .xor .i64 a (-1) = -1 - a := by
  obtain ⟨a, rfl⟩ := Int.eq_ofNat_of_zero_le h1
  show IntKind.i64.wrap ((BitVec.ofInt 64 (a : Int) ^^^ BitVec.ofInt 64 (-1)).toNat : Int) = _
  have h1 : BitVec.ofInt 64 (-1) = BitVec.allOnes 64 := by decide
  rw [h1, BitVec.xor_allOnes, BitVec.toNat_not, ofInt_u64 a (by omega), IntKind.wrap_i64]
  omega
theorem i64_xor_zero (a : Int) (h1 : 0 ≤ a) (h2 : a < 9223372036854775808) : bits .xor .i64 a 0 = a := by
  obtain ⟨a, rfl⟩ := Int.eq_ofNat_of_zero_le h1
  show IntKind.i64.wrap ((BitVec.ofInt 64 (a : Int) ^^^ BitVec.ofInt 64 0).toNat : Int) = _
  have h1 : BitVec.ofInt 64 0 = 0#64 := by decide
  rw [h1, BitVec.xor_zero, ofInt_u64 a (by omega), IntKind.wrap_i64]
  omega
theorem u64_and1 (u : Int) (h : Fit64 u) : bits .and .u64 u 1 = u % 2 := by
  obtain ⟨u, rfl⟩ := Int.eq_ofNat_of_zero_le h.1
  rw [show (1 : Int) = ((1 : Nat) : Int) from rfl, u64_and_nat u 1 (by have := h.2; omega) (by omega), nat_mask1]
  omega

theorem zig_any (n : Int) (w : World) (h : FitI n) : Calls Try.prog 10 #[.int .i64 n] w fun e w' => e = .returned (.int .u64 (zig n)) ∧ w = w' := by
  go_enter Try.func10, Try.ntmps10
  go_wp2
  go_ret
  refine ⟨ret_int ?_, rfl⟩
  obtain ⟨h1, h2⟩ := h
  rcases Int.lt_or_le n 0 with h0 | h0
  · have e1 : IntKind.u64.wrap (IntKind.u64.wrap n * 2) = 2 * n + 18446744073709551616 := by rw [IntKind.wrap_u64, IntKind.wrap_u64]; omega
    have e2 : IntKind.u64.wrap (n / 9223372036854775808) = 18446744073709551615 := by rw [IntKind.wrap_u64]; omega
    rw [e1, e2, u64_xor_ones _ (by omega) (by omega), zig, if_pos h0]
    omega
  · have e1 : IntKind.u64.wrap (IntKind.u64.wrap n * 2) = 2 * n := by rw [IntKind.wrap_u64, IntKind.wrap_u64]; omega
    have e2 : IntKind.u64.wrap (n / 9223372036854775808) = 0 := by rw [IntKind.wrap_u64]; omega
    rw [e1, e2, u64_xor_zero _ (by omega) (by omega), zig, if_neg (by omega)]
theorem zag_any (u : Int) (w : World) (h : Fit64 u) : Calls Try.prog 11 #[.int .u64 u] w fun e w' => e = .returned (.int .i64 (zag u)) ∧ w = w' := by
  go_enter Try.func11, Try.ntmps11
  go_wp2
  go_ret
  refine ⟨ret_int ?_, rfl⟩
  rw [u64_and1 u h]
  obtain ⟨h1, h2⟩ := h
  have e1 : wrap64 (u / 2) = u / 2 := by unfold wrap64; omega
  rcases Int.emod_two_eq u with h0 | h0
  · have e2 : wrap64 (-wrap64 (u % 2)) = 0 := by rw [h0]; simp [wrap64]
    rw [e1, e2, i64_xor_zero _ (by omega) (by omega), zag, if_neg (by omega)]
  · have e2 : wrap64 (-wrap64 (u % 2)) = -1 := by rw [h0]; simp [wrap64]
    rw [e1, e2, i64_xor_ones _ (by omega) (by omega), zag, if_pos h0]
    omega
theorem rzig_any (n : Int) (w : World) (h : FitI n) : Calls Try.prog 14 #[.int .i64 n] w fun e w' => e = .returned (.int .u64 (zig n)) ∧ w = w' := by
  by_cases h0 : n < 0
  · go_enter Try.func14, Try.ntmps14
    go_wp2
    go_ret
    refine ⟨ret_int ?_, rfl⟩
    obtain ⟨h1, h2⟩ := h
    have e1 : wrap64 (-wrap64 (n + 1)) = -(n + 1) := by unfold wrap64; omega
    have e2 : IntKind.u64.wrap (-(n + 1)) = -(n + 1) := by rw [IntKind.wrap_u64]; omega
    have e3 : IntKind.u64.wrap (2 * -(n + 1)) = 2 * -(n + 1) := by rw [IntKind.wrap_u64]; omega
    rw [e1, e2, e3, IntKind.wrap_u64, zig, if_pos h0]
    omega
  · go_enter Try.func14, Try.ntmps14
    go_wp2
    go_ret
    refine ⟨ret_int ?_, rfl⟩
    obtain ⟨h1, h2⟩ := h
    rw [IntKind.wrap_u64, IntKind.wrap_u64, zig, if_neg (by omega)]
    omega
theorem rzag_any (u : Int) (w : World) (h : Fit64 u) : Calls Try.prog 15 #[.int .u64 u] w fun e w' => e = .returned (.int .i64 (zag u)) ∧ w = w' := by
  have ha := u64_and1 u h
  rcases Int.emod_two_eq u with h0 | h0
  · have hb : (bits .and .u64 u 1 == 1) = false := by rw [ha, h0]; rfl
    clear ha
    go_enter Try.func15, Try.ntmps15
    go_wp2
    go_ret
    refine ⟨ret_int ?_, rfl⟩
    obtain ⟨h1, h2⟩ := h
    rw [zag, if_neg (by omega)]
    unfold wrap64
    omega
  · have hb : (bits .and .u64 u 1 == 1) = true := by rw [ha, h0]; rfl
    clear ha
    go_enter Try.func15, Try.ntmps15
    go_wp2
    go_ret
    refine ⟨ret_int ?_, rfl⟩
    obtain ⟨h1, h2⟩ := h
    rw [zag, if_pos h0]
    unfold wrap64
    omega
theorem ends_no (i x : Nat) (w : World) (h : (i = 9 ∧ 2 ≤ x) ∨ (x = 0 ∧ 0 < i)) : Calls Try.prog 16 #[.int .i64 (i : Int), .int .u8 (x : Int)] w fun e w' => e = .returned (.bool false) ∧ w = w' := by
  go_enter Try.func16, Try.ntmps16
  go_wp2
  all_goals (go_ret; exact ⟨by simp <;> omega, rfl⟩)
theorem ends_yes (i x : Nat) (w : World) (h : ¬ ((i = 9 ∧ 2 ≤ x) ∨ (x = 0 ∧ 0 < i))) : Calls Try.prog 16 #[.int .i64 (i : Int), .int .u8 (x : Int)] w fun e w' => e = .returned (.bool true) ∧ w = w' := by
  go_enter Try.func16, Try.ntmps16
  go_wp2
  all_goals (go_ret; exact ⟨by simp <;> omega, rfl⟩)
end Go.Proofs.Ytjgoblibkhehaaa
