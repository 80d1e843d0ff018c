/- min and max as rules for whatever world; a bool that is answered; numbers shifted away. -/
import Derived.Test.YtnfpbjioiiedeaaHd
import Derived.Test.YtnfpbjioiiedeaaMem
namespace Go.Proofs.Ytnfpbjioiiedeaa
open Go.RowKit

theorem ret_bool {a b : Bool} (h : a = b) : Ending.returned (.bool a) = .returned (.bool b) := by rw [h]
/-- min of two, as a rule for whatever world. -/
theorem min2_is {P : Program} {t ty : TypeId} {n1 n2 m : Nat} (h : min n1 n2 = m) : ∀ w, (Builtin.min_ #[t, t] ty #[.int .i64 (n1 : Int), .int .i64 (n2 : Int)]).run P w = .ok (.int .i64 (m : Int)) w := by
  intro w
  have hx : (if (n2 : Int) < (n1 : Int) then (n2 : Int) else (n1 : Int)) = (m : Int) := by
    split <;> omega
  simp only [Builtin.min_, List.foldlM, Builtin.min2, Sem.run_bind, Sem.run_pure, Result.andThen_ok, hx]
theorem minI_is {P : Program} {t ty : TypeId} {n1 n2 m : Int} (h : min n1 n2 = m) : ∀ w, (Builtin.min_ #[t, t] ty #[.int .i64 n1, .int .i64 n2]).run P w = .ok (.int .i64 m) w := by
  intro w
  have hx : (if n2 < n1 then n2 else n1) = m := by
    split <;> omega
  simp only [Builtin.min_, List.foldlM, Builtin.min2, Sem.run_bind, Sem.run_pure, Result.andThen_ok, hx]
theorem maxI_is {P : Program} {t ty : TypeId} {n1 n2 m : Int} (h : max n1 n2 = m) : ∀ w, (Builtin.max_ #[t, t] ty #[.int .i64 n1, .int .i64 n2]).run P w = .ok (.int .i64 m) w := by
  intro w
  have hx : (if n1 < n2 then n2 else n1) = m := by
    split <;> omega
  simp only [Builtin.max_, List.foldlM, Builtin.max2, Sem.run_bind, Sem.run_pure, Result.andThen_ok, hx]
theorem div_nought {x s : Nat} (h : x < 2 ^ s) : ((x : Int) / 2 ^ s != 0) = false := by
  have e : (x : Int) / 2 ^ s = ((x / 2 ^ s : Nat) : Int) := by rw [Int.natCast_ediv]; simp
  rw [e, Nat.div_eq_of_lt h]
  rfl
theorem div_some {x s : Nat} (h : ¬ x < 2 ^ s) : ((x : Int) / 2 ^ s != 0) = true := by
  have e : (x : Int) / 2 ^ s = ((x / 2 ^ s : Nat) : Int) := by rw [Int.natCast_ediv]; simp
  have h1 : 1 ≤ x / 2 ^ s := by rw [Nat.le_div_iff_mul_le (Nat.two_pow_pos _)]; omega
  rw [e]
  simp only [bne_iff_ne, ne_eq]
  omega
end Go.Proofs.Ytnfpbjioiiedeaa
