/- Numbers that are put, and read again: the mathematics. -/
import Derived.Test.YtcbljeiceahimaaBitm
namespace Go.Proofs.Ytcbljeiceahimaa

/-- How many bits behind i puts, and their number: k j bits of v j at the j-th. -/
def LL (k : Nat → Nat) : Nat → Nat
  | 0 => 0
  | i + 1 => LL k i + k i
def NN (k v : Nat → Nat) : Nat → Nat
  | 0 => 0
  | i + 1 => NN k v i * 2 ^ k i + v i % 2 ^ k i
theorem LL_mono (k : Nat → Nat) {i c : Nat} (h : i ≤ c) : LL k i ≤ LL k c := by
  induction h with
  | refl => exact Nat.le_refl _
  | step _ ih => exact Nat.le_trans ih (Nat.le_add_right _ _)
theorem LL_le (k : Nat → Nat) (hk : ∀ i, k i ≤ 64) (c : Nat) : LL k c ≤ 64 * c := by
  induction c with
  | zero => exact Nat.le_refl _
  | succ c ih => have := hk c; simp only [LL]; omega
theorem NN_div (k v : Nat → Nat) {i c : Nat} (h : i ≤ c) : NN k v c / 2 ^ (LL k c - LL k i) = NN k v i := by
  induction h with
  | refl => rw [Nat.sub_self, Nat.pow_zero, Nat.div_one]
  | step hic ih =>
    rename_i c
    have hm := LL_mono k hic
    have e : LL k (c + 1) - LL k i = k c + (LL k c - LL k i) := by simp only [LL]; omega
    rw [e, Nat.pow_add, ← Nat.div_div_eq_div_mul]
    have e2 : NN k v (c + 1) / 2 ^ k c = NN k v c := by
      simp only [NN]
      rw [Nat.mul_comm, Nat.mul_add_div (Nat.two_pow_pos _), Nat.div_eq_of_lt (Nat.mod_lt _ (Nat.two_pow_pos _)), Nat.add_zero]
    rw [e2, ih]
/-- What the i-th Get of a row that was put so answers. -/
theorem back_get (k v : Nat → Nat) {i c free : Nat} (h : i < c) :
    NN k v c * 2 ^ free % 2 ^ (LL k c + free - LL k i) / 2 ^ (LL k c + free - LL k i - k i) = v i % 2 ^ k i := by
  have h1 := LL_mono k (show i + 1 ≤ c from h)
  have hl : LL k (i + 1) = LL k i + k i := rfl
  have e0 : LL k c + free - LL k i - k i = LL k c - LL k (i + 1) + free := by omega
  have e1 : (2 : Nat) ^ (LL k c + free - LL k i) = 2 ^ (LL k c - LL k (i + 1) + free) * 2 ^ k i := by rw [← Nat.pow_add]; congr 1; omega
  rw [e0, e1, Nat.mod_mul_right_div_self]
  have e2 : NN k v c * 2 ^ free / 2 ^ (LL k c - LL k (i + 1) + free) = NN k v (i + 1) := by
    rw [Nat.pow_add, Nat.mul_comm (2 ^ (LL k c - LL k (i + 1))), ← Nat.div_div_eq_div_mul, Nat.mul_div_cancel _ (Nat.two_pow_pos _), NN_div k v h]
  rw [e2]
  simp only [NN]
  rw [Nat.mul_comm, Nat.mul_add_mod, Nat.mod_mod]
end Go.Proofs.Ytcbljeiceahimaa
