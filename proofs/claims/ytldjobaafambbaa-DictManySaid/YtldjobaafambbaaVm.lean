/- Numbers of any length: the mathematics. -/
import Derived.Test.YtldjobaafambbaaBitm
namespace Go.Proofs.Ytldjobaafambbaa

/-- The bytes of a number; the first argument bounds how many steps are taken. -/
def encF : Nat → Nat → List Nat
  | 0, u => [u]
  | f + 1, u => if u < 128 then [u] else (u % 128 + 128) :: encF f (u / 128)
def enc (u : Nat) : List Nat := encF u u
theorem encF_any : ∀ (f g u : Nat), u ≤ f → u ≤ g → encF f u = encF g u := by
  intro f
  induction f with
  | zero =>
    intro g u h1 h2
    obtain rfl : u = 0 := by omega
    cases g with
    | zero => rfl
    | succ g => rfl
  | succ f ih =>
    intro g u h1 h2
    cases g with
    | zero =>
      obtain rfl : u = 0 := by omega
      rfl
    | succ g =>
      simp only [encF]
      by_cases h : u < 128
      · rw [if_pos h, if_pos h]
      · rw [if_neg h, if_neg h, ih g (u / 128) (by omega) (by omega)]
theorem enc_lt {u : Nat} (h : u < 128) : enc u = [u] := by
  unfold enc
  cases u with
  | zero => rfl
  | succ u => simp only [encF]; rw [if_pos h]
theorem enc_ge {u : Nat} (h : ¬ u < 128) : enc u = (u % 128 + 128) :: enc (u / 128) := by
  unfold enc
  cases u with
  | zero => omega
  | succ u =>
    simp only [encF]
    rw [if_neg h, encF_any u ((u + 1) / 128) ((u + 1) / 128) (by omega) (Nat.le_refl _)]
theorem enc_256 (u : Nat) : lt256 (enc u) := by
  induction u using Nat.strongRecOn with
  | ind u ih =>
    by_cases h : u < 128
    · rw [enc_lt h]; intro b hb; simp at hb; omega
    · rw [enc_ge h]; intro b hb
      simp at hb
      rcases hb with rfl | hb
      · omega
      · exact ih (u / 128) (by omega) b hb
theorem enc_pos (u : Nat) : 0 < (enc u).length := by
  by_cases h : u < 128
  · rw [enc_lt h]; simp
  · rw [enc_ge h]; simp
theorem enc_len (k : Nat) : ∀ u : Nat, u < 2 ^ (7 * (k + 1)) → (enc u).length ≤ k + 1 := by
  induction k with
  | zero => intro u hu; rw [enc_lt (by simpa using hu)]; simp
  | succ k ih =>
    intro u hu
    by_cases h : u < 128
    · rw [enc_lt h]; simp
    · rw [enc_ge h]
      have : u / 128 < 2 ^ (7 * (k + 1)) := by
        rw [show 7 * (k + 1 + 1) = 7 * (k + 1) + 7 by omega, Nat.pow_add] at hu
        exact Nat.div_lt_of_lt_mul (by omega)
      have := ih _ this
      simp
      omega
theorem enc_len10 {u : Nat} (h : u < 18446744073709551616) : (enc u).length ≤ 10 := enc_len 9 u (by omega)

/-- What is read from the i-th byte on, acc behind. -/
def decF : Nat → Nat → List Nat → Nat × Nat
  | _, _, [] => (0, 0)
  | i, acc, x :: xs =>
    if 10 ≤ i then (0, 0)
    else if 128 ≤ x then decF (i + 1) (acc + (x - 128) * 2 ^ (7 * i)) xs
    else if (i = 9 ∧ 2 ≤ x) ∨ (x = 0 ∧ 0 < i) then (0, 0)
    else (acc + x * 2 ^ (7 * i), i + 1)
def dec (bs : List Nat) : Nat × Nat := decF 0 0 bs

theorem decF_ten (acc : Nat) (bs : List Nat) (i : Nat) (h : 10 ≤ i) : decF i acc bs = (0, 0) := by
  cases bs with
  | nil => rfl
  | cons x xs => simp only [decF]; rw [if_pos h]
theorem decF_more {i acc x : Nat} {xs : List Nat} (h : i < 10) (hx : 128 ≤ x) : decF i acc (x :: xs) = decF (i + 1) (acc + (x - 128) * 2 ^ (7 * i)) xs := by
  simp only [decF]; rw [if_neg (by omega), if_pos hx]
theorem decF_bad {i acc x : Nat} {xs : List Nat} (h : i < 10) (hx : x < 128) (hb : (i = 9 ∧ 2 ≤ x) ∨ (x = 0 ∧ 0 < i)) : decF i acc (x :: xs) = (0, 0) := by
  simp only [decF]; rw [if_neg (by omega), if_neg (by omega), if_pos hb]
theorem decF_end {i acc x : Nat} {xs : List Nat} (h : i < 10) (hx : x < 128) (hb : ¬ ((i = 9 ∧ 2 ≤ x) ∨ (x = 0 ∧ 0 < i))) : decF i acc (x :: xs) = (acc + x * 2 ^ (7 * i), i + 1) := by
  simp only [decF]; rw [if_neg (by omega), if_neg (by omega), if_neg hb]

theorem pow7 (i : Nat) : (2 : Nat) ^ (7 * (i + 1)) = 128 * 2 ^ (7 * i) := by rw [show 7 * (i + 1) = 7 + 7 * i by omega, Nat.pow_add]
theorem acc_more {i acc x : Nat} (h : acc < 2 ^ (7 * i)) (hx : 128 ≤ x) (hx2 : x < 256) : acc + (x - 128) * 2 ^ (7 * i) < 2 ^ (7 * (i + 1)) := by
  rw [pow7]
  have : (x - 128) * 2 ^ (7 * i) ≤ 127 * 2 ^ (7 * i) := Nat.mul_le_mul_right _ (by omega)
  omega

/-- What is told is read as it was, whatever stands behind. -/
theorem decF_enc (rest : List Nat) : ∀ (v i acc : Nat), i ≤ 9 → v * 2 ^ (7 * i) < 18446744073709551616 → (0 < i → 0 < v) → decF i acc (enc v ++ rest) = (acc + v * 2 ^ (7 * i), i + (enc v).length) := by
  intro v
  induction v using Nat.strongRecOn with
  | ind v ih =>
    intro i acc hi hv h0
    by_cases h : v < 128
    · rw [enc_lt h, List.cons_append, decF_end (by omega) h]
      · rfl
      · rintro (⟨rfl, h2⟩ | ⟨h1, h2⟩)
        · have : 2 * 2 ^ (7 * 9) ≤ v * 2 ^ (7 * 9) := Nat.mul_le_mul_right _ h2
          omega
        · have := h0 h2; omega
    · rw [enc_ge h, List.cons_append, decF_more (by omega) (by omega)]
      have hi9 : i + 1 ≤ 9 := by
        rcases Nat.lt_or_ge i 9 with h9 | h9
        · exact h9
        · obtain rfl : i = 9 := by omega
          have : 128 * 2 ^ (7 * 9) ≤ v * 2 ^ (7 * 9) := Nat.mul_le_mul_right _ (by omega)
          omega
      have hv2 : v / 128 * 2 ^ (7 * (i + 1)) ≤ v * 2 ^ (7 * i) := by
        rw [pow7, ← Nat.mul_assoc]
        exact Nat.mul_le_mul_right _ (Nat.div_mul_le_self v 128)
      rw [ih (v / 128) (by omega) (i + 1) _ hi9 (by omega) (fun _ => by omega)]
      have e : v % 128 + 128 - 128 = v % 128 := by omega
      rw [e]
      refine Prod.ext ?_ ?_
      · show acc + v % 128 * 2 ^ (7 * i) + v / 128 * 2 ^ (7 * (i + 1)) = acc + v * 2 ^ (7 * i)
        have e3 : v % 128 + v / 128 * 128 = v := by omega
        rw [pow7, ← Nat.mul_assoc, Nat.add_assoc, ← Nat.add_mul, e3]
      · show i + 1 + _ = i + (_ :: _ : List Nat).length
        rw [List.length_cons]; omega
theorem dec_enc (v : Nat) (h : v < 18446744073709551616) (rest : List Nat) : dec (enc v ++ rest) = (v, (enc v).length) := by
  unfold dec
  rw [decF_enc rest v 0 0 (by omega) (by simpa using h) (by omega)]
  simp

/-- What is read is told in just those bytes. -/
theorem decF_some : ∀ (bs : List Nat) (i acc x j : Nat), lt256 bs → decF i acc bs = (x, j) → 0 < j → ∃ v k, x = acc + v * 2 ^ (7 * i) ∧ j = i + k ∧ 0 < k ∧ k ≤ bs.length ∧ enc v = bs.take k ∧ (0 < i → 0 < v) := by
  intro bs
  induction bs with
  | nil => intro i acc x j _ h hj; simp only [decF, Prod.mk.injEq] at h; omega
  | cons b bs ih =>
    intro i acc x j hlt h hj
    rw [lt256_cons] at hlt
    rcases Nat.lt_or_ge i 10 with hi | hi
    · rcases Nat.lt_or_ge b 128 with hb | hb
      · by_cases hbad : (i = 9 ∧ 2 ≤ b) ∨ (b = 0 ∧ 0 < i)
        · rw [decF_bad hi hb hbad] at h
          simp only [Prod.mk.injEq] at h
          omega
        · rw [decF_end hi hb hbad] at h
          simp only [Prod.mk.injEq] at h
          refine ⟨b, 1, h.1.symm, h.2.symm, by omega, by simp, by rw [enc_lt hb]; rfl, fun h0 => ?_⟩
          rcases Nat.eq_zero_or_pos b with hb0 | hb0
          · exact absurd (Or.inr ⟨hb0, h0⟩) hbad
          · exact hb0
      · rw [decF_more hi hb] at h
        obtain ⟨v, k, h1, h2, h3, h4, h5, h6⟩ := ih _ _ _ _ hlt.2 h hj
        have hv := h6 (by omega)
        refine ⟨b - 128 + 128 * v, k + 1, ?_, by omega, by omega, by simp; omega, ?_, fun _ => by omega⟩
        · rw [h1, pow7, Nat.add_mul, Nat.mul_comm 128 v, Nat.mul_assoc]; omega
        · rw [enc_ge (by omega)]
          have e1 : (b - 128 + 128 * v) % 128 + 128 = b := by have := hlt.1; omega
          have e2 : (b - 128 + 128 * v) / 128 = v := by have := hlt.1; omega
          rw [e1, e2, h5]
          rfl
    · rw [decF_ten _ _ _ hi] at h
      simp only [Prod.mk.injEq] at h
      omega
theorem dec_some {bs : List Nat} (hlt : lt256 bs) (hj : 0 < (dec bs).2) : (dec bs).2 ≤ bs.length ∧ enc (dec bs).1 = bs.take (dec bs).2 := by
  obtain ⟨v, k, h1, h2, h3, h4, h5, h6⟩ := decF_some bs 0 0 (dec bs).1 (dec bs).2 hlt rfl hj
  have e1 : (dec bs).1 = v := by simpa using h1
  have e2 : (dec bs).2 = k := by omega
  rw [e1, e2]
  exact ⟨h4, h5⟩
theorem decF_none : ∀ (bs : List Nat) (i acc : Nat), (decF i acc bs).2 = 0 → (decF i acc bs).1 = 0 := by
  intro bs
  induction bs with
  | nil => intro i acc _; rfl
  | cons b bs ih =>
    intro i acc h
    rcases Nat.lt_or_ge i 10 with hi | hi
    · rcases Nat.lt_or_ge b 128 with hb | hb
      · by_cases hbad : (i = 9 ∧ 2 ≤ b) ∨ (b = 0 ∧ 0 < i)
        · rw [decF_bad hi hb hbad]
        · rw [decF_end hi hb hbad] at h
          simp at h
      · rw [decF_more hi hb] at h ⊢
        exact ih _ _ h
    · rw [decF_ten _ _ _ hi]
theorem dec_none {bs : List Nat} (h : (dec bs).2 = 0) : (dec bs).1 = 0 := decF_none bs 0 0 h

theorem decF_lt : ∀ (bs : List Nat) (i acc : Nat), lt256 bs → acc < 2 ^ (7 * i) → (decF i acc bs).1 < 18446744073709551616 := by
  intro bs
  induction bs with
  | nil => intro i acc _ _; simp [decF]
  | cons b bs ih =>
    intro i acc hlt ha
    rw [lt256_cons] at hlt
    rcases Nat.lt_or_ge i 10 with hi | hi
    · rcases Nat.lt_or_ge b 128 with hb | hb
      · by_cases hbad : (i = 9 ∧ 2 ≤ b) ∨ (b = 0 ∧ 0 < i)
        · rw [decF_bad hi hb hbad]; simp
        · rw [decF_end hi hb hbad]
          show acc + b * 2 ^ (7 * i) < _
          rcases Nat.lt_or_ge i 9 with h9 | h9
          · have h1 : b * 2 ^ (7 * i) ≤ 127 * 2 ^ (7 * i) := Nat.mul_le_mul_right _ (by omega)
            have h2 : (2 : Nat) ^ (7 * i) ≤ 2 ^ 56 := Nat.pow_le_pow_right (by omega) (by omega)
            omega
          · obtain rfl : i = 9 := by omega
            have : b ≤ 1 := by
              rcases Nat.lt_or_ge b 2 with h | h
              · omega
              · exact absurd (Or.inl ⟨rfl, h⟩) hbad
            have h1 : b * 2 ^ (7 * 9) ≤ 1 * 2 ^ (7 * 9) := Nat.mul_le_mul_right _ this
            omega
      · rw [decF_more hi hb]
        exact ih _ _ hlt.2 (acc_more ha hb hlt.1)
    · rw [decF_ten _ _ _ hi]; simp
theorem dec_lt {bs : List Nat} (h : lt256 bs) : (dec bs).1 < 18446744073709551616 := decF_lt bs 0 0 h (by simp)
theorem decF_le : ∀ (bs : List Nat) (i acc : Nat), (decF i acc bs).2 ≤ 10 := by
  intro bs
  induction bs with
  | nil => intro i acc; simp [decF]
  | cons b bs ih =>
    intro i acc
    simp only [decF]
    split
    · simp
    · split
      · exact ih _ _
      · split
        · simp
        · simp; omega
theorem dec_le (bs : List Nat) : (dec bs).2 ≤ 10 := decF_le bs 0 0

/-- A number with a sign, without one; and back. -/
def zig (n : Int) : Int := if n < 0 then -2 * n - 1 else 2 * n
def zag (u : Int) : Int := if u % 2 = 1 then -(u / 2) - 1 else u / 2
theorem zag_zig (n : Int) : zag (zig n) = n := by unfold zag zig; split <;> split <;> omega
theorem zig_zag (u : Int) (h : 0 ≤ u) : zig (zag u) = u := by unfold zag zig; split <;> split <;> omega
theorem zig_fit {n : Int} (h1 : -9223372036854775808 ≤ n) (h2 : n ≤ 9223372036854775807) : 0 ≤ zig n ∧ zig n < 18446744073709551616 := by unfold zig; split <;> omega
theorem zag_fit {u : Int} (h1 : 0 ≤ u) (h2 : u < 18446744073709551616) : -9223372036854775808 ≤ zag u ∧ zag u ≤ 9223372036854775807 := by unfold zag; split <;> omega
theorem zig_up {n m : Int} (h : 0 ≤ n) (hm : n < m) : zig n < zig m := by unfold zig; split <;> split <;> omega
theorem zig_down {n m : Int} (h : n < 0) (hm : m < n) : zig n < zig m := by unfold zig; split <;> split <;> omega
end Go.Proofs.Ytldjobaafambbaa
