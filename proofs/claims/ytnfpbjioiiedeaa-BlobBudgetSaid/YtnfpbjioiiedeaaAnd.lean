/- '&' with a mask on int, whatever the sign. -/
import Derived.Test.YtnfpbjioiiedeaaHd
namespace Go.Proofs.Ytnfpbjioiiedeaa

theorem i64_mask (a : Int) (m i : Nat) (hm : m = 2 ^ i - 1) (hi : i ≤ 62) : bits .and .i64 a (m : Int) = a % ((2 ^ i : Nat) : Int) := by
  have hp : (2 : Nat) ^ i ≤ 2 ^ 62 := Nat.pow_le_pow_right (by omega) hi
  have hp0 : 0 < (2 : Nat) ^ i := Nat.two_pow_pos i
  show IntKind.i64.wrap ((BitVec.ofInt 64 a &&& BitVec.ofInt 64 (m : Int)).toNat : Int) = _
  have hmm : (BitVec.ofInt 64 (m : Int)).toNat = m := by
    rw [BitVec.ofInt_natCast, BitVec.toNat_ofNat]
    exact Nat.mod_eq_of_lt (by omega)
  rw [BitVec.toNat_and, hmm, hm, Nat.and_two_pow_sub_one_eq_mod, BitVec.toNat_ofInt]
  have hd : ((2 ^ i : Nat) : Int) ∣ (18446744073709551616 : Int) := by
    refine ⟨((2 ^ (64 - i) : Nat) : Int), ?_⟩
    rw [← Int.natCast_mul, ← Nat.pow_add, show i + (64 - i) = 64 by omega]
    rfl
  have h1 : (((a % ((2 ^ 64 : Nat) : Int)).toNat % 2 ^ i : Nat) : Int) = a % ((2 ^ i : Nat) : Int) := by
    rw [Int.natCast_emod, Int.toNat_of_nonneg (Int.emod_nonneg _ (by decide))]
    exact Int.emod_emod_of_dvd a hd
  rw [h1, IntKind.wrap_i64]
  have h2 : 0 ≤ a % ((2 ^ i : Nat) : Int) := Int.emod_nonneg _ (by omega)
  have h3 : a % ((2 ^ i : Nat) : Int) < ((2 ^ i : Nat) : Int) := Int.emod_lt_of_pos _ (by omega)
  generalize a % ((2 ^ i : Nat) : Int) = x at *
  generalize (2 : Nat) ^ i = y at *
  omega
theorem i64_and255 (a : Int) : bits .and .i64 a 255 = a % 256 := i64_mask a 255 8 rfl (by omega)
theorem i64_and127 (a : Int) : bits .and .i64 a 127 = a % 128 := i64_mask a 127 7 rfl (by omega)
theorem i64_and63 (a : Int) : bits .and .i64 a 63 = a % 64 := i64_mask a 63 6 rfl (by omega)
theorem i64_and7 (a : Int) : bits .and .i64 a 7 = a % 8 := i64_mask a 7 3 rfl (by omega)
theorem i64_and3 (a : Int) : bits .and .i64 a 3 = a % 4 := i64_mask a 3 2 rfl (by omega)
end Go.Proofs.Ytnfpbjioiiedeaa
