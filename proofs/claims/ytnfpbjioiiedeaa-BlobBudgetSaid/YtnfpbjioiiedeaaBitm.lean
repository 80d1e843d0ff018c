/- Plain mathematics of bits: a row of bytes as a number. -/
import Derived.Test.YtnfpbjioiiedeaaHd
namespace Go.Proofs.Ytnfpbjioiiedeaa

def val (bs : List Nat) : Nat := bs.foldl (fun a b => a * 256 + b) 0
theorem val_nil : val [] = 0 := rfl
theorem val_snoc (bs : List Nat) (b : Nat) : val (bs ++ [b]) = val bs * 256 + b := by simp [val]
def lt256 (bs : List Nat) : Prop := ∀ b ∈ bs, b < 256
theorem lt256_snoc {bs : List Nat} {b : Nat} : lt256 (bs ++ [b]) ↔ lt256 bs ∧ b < 256 := by
  simp only [lt256, List.mem_append, List.mem_singleton]
  constructor
  · exact fun h => ⟨fun x hx => h x (.inl hx), h b (.inr rfl)⟩
  · rintro ⟨h1, h2⟩ x (hx | rfl)
    · exact h1 x hx
    · exact h2
theorem lt256_nil : lt256 [] := fun _ h => by cases h

theorem snoc_of_ne {bs : List Nat} (h : bs ≠ []) : ∃ as' b, bs = as' ++ [b] := ⟨bs.dropLast, bs.getLast h, (List.dropLast_concat_getLast h).symm⟩

/-- Two rows of bytes, as long as each other, of the same number, are one. -/
theorem val_inj : ∀ (n : Nat) (as' bs : List Nat), as'.length = n → bs.length = n → lt256 as' → lt256 bs → val as' = val bs → as' = bs := by
  intro n
  induction n with
  | zero =>
    intro as' bs ha hb _ _ _
    rw [List.eq_nil_of_length_eq_zero ha, List.eq_nil_of_length_eq_zero hb]
  | succ n ih =>
    intro as' bs ha hb h1 h2 hv
    obtain ⟨as', a, rfl⟩ := snoc_of_ne (bs := as') (by rintro rfl; simp at ha)
    obtain ⟨bs', b, rfl⟩ := snoc_of_ne (bs := bs) (by rintro rfl; simp at hb)
    rw [lt256_snoc] at h1 h2
    rw [val_snoc, val_snoc] at hv
    have e1 : val as' = val bs' := by have := h1.2; have := h2.2; omega
    have e2 : a = b := by have := h1.2; have := h2.2; omega
    rw [ih as' bs' (by simpa using ha) (by simpa using hb) h1.1 h2.1 e1, e2]

/-- k bits more behind the number N of u's upper bits. -/
theorem bits_more (u l k : Nat) (hk : k ≤ l) : u / 2 ^ (l - k) = u / 2 ^ l * 2 ^ k + u / 2 ^ (l - k) % 2 ^ k := by
  have h1 : u / 2 ^ l = u / 2 ^ (l - k) / 2 ^ k := by rw [Nat.div_div_eq_div_mul, ← Nat.pow_add]; congr 2; omega
  rw [h1]
  have := Nat.div_add_mod (u / 2 ^ (l - k)) (2 ^ k)
  rw [Nat.mul_comm]
  omega

theorem mod_div_mod (v n l k : Nat) (h : l + k ≤ n) : v % 2 ^ n / 2 ^ l % 2 ^ k = v / 2 ^ l % 2 ^ k := by
  have e : (2 : Nat) ^ n = 2 ^ l * 2 ^ (n - l) := by rw [← Nat.pow_add]; congr 1; omega
  rw [e, Nat.mod_mul_right_div_self]
  exact Nat.mod_mod_of_dvd _ (Nat.pow_dvd_pow 2 (by omega))

/-- A step of Put: of the last byte, which has 'free' 0s at its end, k are filled. -/
theorem last_step (bs : List Nat) (b N free k x : Nat) (hb : b < 256) (hf : free ≤ 8) (hk : k ≤ free) (hx : x < 2 ^ k) (hv : val (bs ++ [b]) = N * 2 ^ free) :
    b ||| x * 2 ^ (free - k) = b + x * 2 ^ (free - k) ∧ b + x * 2 ^ (free - k) < 256 ∧ val (bs ++ [b + x * 2 ^ (free - k)]) = (N * 2 ^ k + x) * 2 ^ (free - k) := by
  have ep : (2 : Nat) ^ free = 2 ^ (free - k) * 2 ^ k := by rw [← Nat.pow_add]; congr 1; omega
  have e8 : (256 : Nat) = 2 ^ free * 2 ^ (8 - free) := by rw [← Nat.pow_add, show free + (8 - free) = 8 by omega]
  have hlow : b % 2 ^ free = 0 := by
    rw [val_snoc, e8] at hv
    have : (val bs * (2 ^ free * 2 ^ (8 - free)) + b) % 2 ^ free = 0 := by rw [hv]; exact Nat.mul_mod_left _ _
    rwa [Nat.mul_left_comm, Nat.mul_add_mod] at this
  have hxl : x * 2 ^ (free - k) < 2 ^ free := by rw [ep, Nat.mul_comm]; exact Nat.mul_lt_mul_of_pos_left hx (Nat.two_pow_pos _)
  refine ⟨Go.nat_join free b _ hlow hxl, ?_, ?_⟩
  · obtain ⟨q, hq⟩ := Nat.dvd_of_mod_eq_zero hlow
    have hq' : q < 2 ^ (8 - free) := by
      rw [hq, e8] at hb
      exact Nat.lt_of_mul_lt_mul_left hb
    calc b + x * 2 ^ (free - k) < 2 ^ free * q + 2 ^ free := by omega
      _ = 2 ^ free * (q + 1) := by rw [Nat.mul_add, Nat.mul_one]
      _ ≤ 2 ^ free * 2 ^ (8 - free) := Nat.mul_le_mul_left _ hq'
      _ = 256 := e8.symm
  · rw [val_snoc] at hv ⊢
    rw [← Nat.add_assoc, hv, ep, Nat.add_mul, Nat.mul_assoc, Nat.mul_comm (2 ^ k)]

theorem pow_256 (n : Nat) : (256 : Nat) ^ n = 2 ^ (8 * n) := by rw [Nat.pow_mul]
theorem val_lt {bs : List Nat} (h : lt256 bs) : val bs < 2 ^ (8 * bs.length) := by
  rw [← pow_256]
  induction hn : bs.length generalizing bs with
  | zero => rw [List.eq_nil_of_length_eq_zero hn, val_nil]; omega
  | succ n ih =>
    obtain ⟨as', b, rfl⟩ := snoc_of_ne (bs := bs) (by rintro rfl; simp at hn)
    rw [lt256_snoc] at h
    have := ih h.1 (by simpa using hn)
    rw [val_snoc, Nat.pow_succ]
    have := h.2
    omega
theorem val_cons (b : Nat) (bs : List Nat) : val (b :: bs) = b * 256 ^ bs.length + val bs := by
  have h : ∀ (bs : List Nat) (a : Nat), bs.foldl (fun a b => a * 256 + b) a = a * 256 ^ bs.length + val bs := by
    intro bs
    induction bs with
    | nil => intro a; simp [val]
    | cons c cs ih =>
      intro a
      have h0 := ih c
      have h1 := ih (a * 256 + c)
      simp only [val, List.foldl_cons, List.length_cons, Nat.zero_mul, Nat.zero_add] at *
      rw [h1, h0, Nat.pow_succ, Nat.add_mul, Nat.mul_assoc, Nat.mul_comm 256]
      omega
  have := h bs b
  simp only [val, List.foldl_cons, Nat.zero_mul, Nat.zero_add] at *
  exact this
theorem lt256_cons {bs : List Nat} {b : Nat} : lt256 (b :: bs) ↔ b < 256 ∧ lt256 bs := by simp [lt256]

/-- The m bits that a reader takes of its first byte, of which 'used' are read. -/
theorem take_bits (b : Nat) (bs : List Nat) (used m rem : Nat) (h : lt256 (b :: bs)) (hm : used + m ≤ 8) (hr : rem + used = 8 * (bs.length + 1)) :
    b / 2 ^ (8 - used - m) % 2 ^ m = val (b :: bs) % 2 ^ rem / 2 ^ (rem - m) := by
  rw [lt256_cons] at h
  have hv := val_lt h.2
  have e1 : (2 : Nat) ^ rem = 2 ^ (rem - m) * 2 ^ m := by rw [← Nat.pow_add]; congr 1; omega
  have e2 : (2 : Nat) ^ (rem - m) = 2 ^ (8 * bs.length) * 2 ^ (8 - used - m) := by rw [← Nat.pow_add]; congr 1; omega
  rw [e1, Nat.mod_mul_right_div_self, e2, ← Nat.div_div_eq_div_mul, val_cons, pow_256]
  congr 2
  rw [Nat.mul_comm, Nat.mul_add_div (Nat.two_pow_pos _), Nat.div_eq_of_lt hv, Nat.add_zero]

theorem rest_bits (V rem m : Nat) (h : m ≤ rem) : V % 2 ^ rem % 2 ^ (rem - m) = V % 2 ^ (rem - m) := Nat.mod_mod_of_dvd _ (Nat.pow_dvd_pow 2 (by omega))
theorem drop_byte (b : Nat) (bs : List Nat) : val (b :: bs) % 2 ^ (8 * bs.length) = val bs % 2 ^ (8 * bs.length) := by
  rw [val_cons, pow_256, Nat.mul_comm, Nat.mul_add_mod]
/-- What has been read, and m bits more. -/
theorem read_more (R a m : Nat) (h : m ≤ a) : R / 2 ^ (a - m) = R / 2 ^ a * 2 ^ m + R % 2 ^ a / 2 ^ (a - m) := by
  have h1 := bits_more R a m h
  have h2 : R % 2 ^ a / 2 ^ (a - m) = R / 2 ^ (a - m) % 2 ^ m := by
    have e : (2 : Nat) ^ a = 2 ^ (a - m) * 2 ^ m := by rw [← Nat.pow_add]; congr 1; omega
    rw [e, Nat.mod_mul_right_div_self]
  rw [h2]
  exact h1
end Go.Proofs.Ytnfpbjioiiedeaa
