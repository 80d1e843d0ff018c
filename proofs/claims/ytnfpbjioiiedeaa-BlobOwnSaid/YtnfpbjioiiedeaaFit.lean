import Derived.Test.YtnfpbjioiiedeaaHd
import Derived.Test.YtnfpbjioiiedeaaMem
import Derived.Test.YtnfpbjioiiedeaaAnd
namespace Go.Proofs.Ytnfpbjioiiedeaa
open Go.RowKit
theorem fit_u64 {a : Int} (h : (Lit.int .u64 a).wf = true) : Fit64 a := by
  have := bounds_u64 h
  exact ⟨by omega, by omega⟩
theorem fit_i64 {a : Int} (h : (Lit.int .i64 a).wf = true) : FitI a := by
  have := bounds_i64 h
  exact ⟨by omega, by omega⟩
theorem and_nat (a : Int) (m i : Nat) (hm : m = 2 ^ i - 1) (hi : i ≤ 62) : ∃ x : Nat, bits .and .i64 a (m : Int) = (x : Int) ∧ x < 2 ^ i := by
  have hp : 0 < (2 : Nat) ^ i := Nat.two_pow_pos i
  have h0 : 0 ≤ a % ((2 ^ i : Nat) : Int) := Int.emod_nonneg _ (by omega)
  have h1 : a % ((2 ^ i : Nat) : Int) < ((2 ^ i : Nat) : Int) := Int.emod_lt_of_pos _ (by omega)
  refine ⟨(a % ((2 ^ i : Nat) : Int)).toNat, ?_, ?_⟩
  · rw [i64_mask a m i hm hi, Int.toNat_of_nonneg h0]
  · omega
end Go.Proofs.Ytnfpbjioiiedeaa
