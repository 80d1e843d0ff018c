/- The texts Bitm, Td, Pk, Vm, Dm, Refm, one behind the other. -/
import Derived.Laws.BitsAllLaws
/- Plain mathematics of bits: a row of bytes as a number. -/
namespace Go.Proofs.Ytldjobaafambbaa

def val (bs : List Nat) : Nat := bs.foldl (fun a b => a * 256 + b) 0
theorem val_nil : val [] = 0 := rfl
theorem val_snoc (bs : List Nat) (b : Nat) : val (bs ++ [b]) = val bs * 256 + b := by simp [val]
def lt256 (bs : List Nat) : Prop := ∀ b ∈ bs, b < 256
theorem lt256_snoc {bs : List Nat} {b : Nat} : lt256 (bs ++ [b]) ↔ lt256 bs ∧ b < 256 := by
  simp only [lt256, List.mem_append, List.mem_singleton]
  constructor
  · exact fun h => ⟨fun x hx => h x (.inl hx), h b (.inr rfl)⟩
  · rintro ⟨h1, h2⟩ x (hx | rfl)
    · exact h1 x hx
    · exact h2
theorem lt256_nil : lt256 [] := fun _ h => by cases h

theorem snoc_of_ne {bs : List Nat} (h : bs ≠ []) : ∃ as' b, bs = as' ++ [b] := ⟨bs.dropLast, bs.getLast h, (List.dropLast_concat_getLast h).symm⟩

/-- Two rows of bytes, as long as each other, of the same number, are one. -/
theorem val_inj : ∀ (n : Nat) (as' bs : List Nat), as'.length = n → bs.length = n → lt256 as' → lt256 bs → val as' = val bs → as' = bs := by
  intro n
  induction n with
  | zero =>
    intro as' bs ha hb _ _ _
    rw [List.eq_nil_of_length_eq_zero ha, List.eq_nil_of_length_eq_zero hb]
  | succ n ih =>
    intro as' bs ha hb h1 h2 hv
    obtain ⟨as', a, rfl⟩ := snoc_of_ne (bs := as') (by rintro rfl; simp at ha)
    obtain ⟨bs', b, rfl⟩ := snoc_of_ne (bs := bs) (by rintro rfl; simp at hb)
    rw [lt256_snoc] at h1 h2
    rw [val_snoc, val_snoc] at hv
    have e1 : val as' = val bs' := by have := h1.2; have := h2.2; omega
    have e2 : a = b := by have := h1.2; have := h2.2; omega
    rw [ih as' bs' (by simpa using ha) (by simpa using hb) h1.1 h2.1 e1, e2]

/-- k bits more behind the number N of u's upper bits. -/
theorem bits_more (u l k : Nat) (hk : k ≤ l) : u / 2 ^ (l - k) = u / 2 ^ l * 2 ^ k + u / 2 ^ (l - k) % 2 ^ k := by
  have h1 : u / 2 ^ l = u / 2 ^ (l - k) / 2 ^ k := by rw [Nat.div_div_eq_div_mul, ← Nat.pow_add]; congr 2; omega
  rw [h1]
  have := Nat.div_add_mod (u / 2 ^ (l - k)) (2 ^ k)
  rw [Nat.mul_comm]
  omega

theorem mod_div_mod (v n l k : Nat) (h : l + k ≤ n) : v % 2 ^ n / 2 ^ l % 2 ^ k = v / 2 ^ l % 2 ^ k := by
  have e : (2 : Nat) ^ n = 2 ^ l * 2 ^ (n - l) := by rw [← Nat.pow_add]; congr 1; omega
  rw [e, Nat.mod_mul_right_div_self]
  exact Nat.mod_mod_of_dvd _ (Nat.pow_dvd_pow 2 (by omega))

/-- A step of Put: of the last byte, which has 'free' 0s at its end, k are filled. -/
theorem last_step (bs : List Nat) (b N free k x : Nat) (hb : b < 256) (hf : free ≤ 8) (hk : k ≤ free) (hx : x < 2 ^ k) (hv : val (bs ++ [b]) = N * 2 ^ free) :
    b ||| x * 2 ^ (free - k) = b + x * 2 ^ (free - k) ∧ b + x * 2 ^ (free - k) < 256 ∧ val (bs ++ [b + x * 2 ^ (free - k)]) = (N * 2 ^ k + x) * 2 ^ (free - k) := by
  have ep : (2 : Nat) ^ free = 2 ^ (free - k) * 2 ^ k := by rw [← Nat.pow_add]; congr 1; omega
  have e8 : (256 : Nat) = 2 ^ free * 2 ^ (8 - free) := by rw [← Nat.pow_add, show free + (8 - free) = 8 by omega]
  have hlow : b % 2 ^ free = 0 := by
    rw [val_snoc, e8] at hv
    have : (val bs * (2 ^ free * 2 ^ (8 - free)) + b) % 2 ^ free = 0 := by rw [hv]; exact Nat.mul_mod_left _ _
    rwa [Nat.mul_left_comm, Nat.mul_add_mod] at this
  have hxl : x * 2 ^ (free - k) < 2 ^ free := by rw [ep, Nat.mul_comm]; exact Nat.mul_lt_mul_of_pos_left hx (Nat.two_pow_pos _)
  refine ⟨Go.nat_join free b _ hlow hxl, ?_, ?_⟩
  · obtain ⟨q, hq⟩ := Nat.dvd_of_mod_eq_zero hlow
    have hq' : q < 2 ^ (8 - free) := by
      rw [hq, e8] at hb
      exact Nat.lt_of_mul_lt_mul_left hb
    calc b + x * 2 ^ (free - k) < 2 ^ free * q + 2 ^ free := by omega
      _ = 2 ^ free * (q + 1) := by rw [Nat.mul_add, Nat.mul_one]
      _ ≤ 2 ^ free * 2 ^ (8 - free) := Nat.mul_le_mul_left _ hq'
      _ = 256 := e8.symm
  · rw [val_snoc] at hv ⊢
    rw [← Nat.add_assoc, hv, ep, Nat.add_mul, Nat.mul_assoc, Nat.mul_comm (2 ^ k)]

theorem pow_256 (n : Nat) : (256 : Nat) ^ n = 2 ^ (8 * n) := by rw [Nat.pow_mul]
theorem val_lt {bs : List Nat} (h : lt256 bs) : val bs < 2 ^ (8 * bs.length) := by
  rw [← pow_256]
  induction hn : bs.length generalizing bs with
  | zero => rw [List.eq_nil_of_length_eq_zero hn, val_nil]; omega
  | succ n ih =>
    obtain ⟨as', b, rfl⟩ := snoc_of_ne (bs := bs) (by rintro rfl; simp at hn)
    rw [lt256_snoc] at h
    have := ih h.1 (by simpa using hn)
    rw [val_snoc, Nat.pow_succ]
    have := h.2
    omega
theorem val_cons (b : Nat) (bs : List Nat) : val (b :: bs) = b * 256 ^ bs.length + val bs := by
  have h : ∀ (bs : List Nat) (a : Nat), bs.foldl (fun a b => a * 256 + b) a = a * 256 ^ bs.length + val bs := by
    intro bs
    induction bs with
    | nil => intro a; simp [val]
    | cons c cs ih =>
      intro a
      have h0 := ih c
      have h1 := ih (a * 256 + c)
      simp only [val, List.foldl_cons, List.length_cons, Nat.zero_mul, Nat.zero_add] at *
      rw [h1, h0, Nat.pow_succ, Nat.add_mul, Nat.mul_assoc, Nat.mul_comm 256]
      omega
  have := h bs b
  simp only [val, List.foldl_cons, Nat.zero_mul, Nat.zero_add] at *
  exact this
theorem lt256_cons {bs : List Nat} {b : Nat} : lt256 (b :: bs) ↔ b < 256 ∧ lt256 bs := by simp [lt256]

/-- The m bits that a reader takes of its first byte, of which 'used' are read. -/
theorem take_bits (b : Nat) (bs : List Nat) (used m rem : Nat) (h : lt256 (b :: bs)) (hm : used + m ≤ 8) (hr : rem + used = 8 * (bs.length + 1)) :
    b / 2 ^ (8 - used - m) % 2 ^ m = val (b :: bs) % 2 ^ rem / 2 ^ (rem - m) := by
  rw [lt256_cons] at h
  have hv := val_lt h.2
  have e1 : (2 : Nat) ^ rem = 2 ^ (rem - m) * 2 ^ m := by rw [← Nat.pow_add]; congr 1; omega
  have e2 : (2 : Nat) ^ (rem - m) = 2 ^ (8 * bs.length) * 2 ^ (8 - used - m) := by rw [← Nat.pow_add]; congr 1; omega
  rw [e1, Nat.mod_mul_right_div_self, e2, ← Nat.div_div_eq_div_mul, val_cons, pow_256]
  congr 2
  rw [Nat.mul_comm, Nat.mul_add_div (Nat.two_pow_pos _), Nat.div_eq_of_lt hv, Nat.add_zero]

theorem rest_bits (V rem m : Nat) (h : m ≤ rem) : V % 2 ^ rem % 2 ^ (rem - m) = V % 2 ^ (rem - m) := Nat.mod_mod_of_dvd _ (Nat.pow_dvd_pow 2 (by omega))
theorem drop_byte (b : Nat) (bs : List Nat) : val (b :: bs) % 2 ^ (8 * bs.length) = val bs % 2 ^ (8 * bs.length) := by
  rw [val_cons, pow_256, Nat.mul_comm, Nat.mul_add_mod]
/-- What has been read, and m bits more. -/
theorem read_more (R a m : Nat) (h : m ≤ a) : R / 2 ^ (a - m) = R / 2 ^ a * 2 ^ m + R % 2 ^ a / 2 ^ (a - m) := by
  have h1 := bits_more R a m h
  have h2 : R % 2 ^ a / 2 ^ (a - m) = R / 2 ^ (a - m) % 2 ^ m := by
    have e : (2 : Nat) ^ a = 2 ^ (a - m) * 2 ^ m := by rw [← Nat.pow_add]; congr 1; omega
    rw [e, Nat.mod_mul_right_div_self]
  rw [h2]
  exact h1
end Go.Proofs.Ytldjobaafambbaa

/- Plain mathematics of times by their differences: what a reader's bits are, and that they are what was told. -/
namespace Go.Proofs.Ytldjobaafambbaa

def M64 : Nat := 18446744073709551616
def H63 : Nat := 9223372036854775808
theorem M64_eq : M64 = 2 * H63 := rfl
theorem H63_pos : 0 < H63 := by decide
theorem M64_pow : M64 = 2 ^ 64 := by decide
theorem H63_pow : H63 = 2 ^ 63 := by decide
/-- A number of 64 bits, as one with a sign; and back. -/
def sg (u : Nat) : Int := if u < H63 then (u : Int) else (u : Int) - (M64 : Int)
def un (x : Int) : Nat := (x % (M64 : Int)).toNat
def Fits (x : Int) : Prop := -(H63 : Int) ≤ x ∧ x < (H63 : Int)
theorem un_lt (x : Int) : un x < M64 := by
  have h1 := Int.emod_nonneg x (show (M64 : Int) ≠ 0 by decide)
  have h2 := Int.emod_lt_of_pos x (show (0 : Int) < (M64 : Int) by decide)
  unfold un
  omega
theorem sg_fits {u : Nat} (h : u < M64) : Fits (sg u) := by
  have := M64_eq
  unfold sg Fits
  split <;> omega
theorem un_sg {u : Nat} (h : u < M64) : un (sg u) = u := by
  have e := M64_eq
  have hp := H63_pos
  unfold sg un
  split
  · rw [Int.emod_eq_of_lt (by omega) (by omega)]
    omega
  · have : ((u : Int) - (M64 : Int)) % (M64 : Int) = (u : Int) := by
      rw [Int.sub_emod, Int.emod_self, Int.sub_zero, Int.emod_emod, Int.emod_eq_of_lt (by omega) (by omega)]
    rw [this]
    omega
theorem sg_un {x : Int} (h : Fits x) : sg (un x) = x := by
  have e := M64_eq
  obtain ⟨h1, h2⟩ := h
  rcases Int.lt_or_le x 0 with h0 | h0
  · have : x % (M64 : Int) = x + (M64 : Int) := by
      rw [← Int.add_emod_right, Int.emod_eq_of_lt (by omega) (by omega)]
    unfold sg un
    rw [this]
    rw [if_neg (by omega)]
    omega
  · have : x % (M64 : Int) = x := Int.emod_eq_of_lt (by omega) (by omega)
    unfold sg un
    rw [this]
    rw [if_pos (by omega)]
    omega
theorem un_nat {u : Nat} (h : u < M64) : un (u : Int) = u := by
  unfold un
  rw [Int.emod_eq_of_lt (by omega) (by omega)]
  omega

/-- How many bits a difference has; its head, and how many bits that has. -/
def kindN (d : Int) : Nat := if d = 0 then 0 else if -64 ≤ d ∧ d < 64 then 7 else if -256 ≤ d ∧ d < 256 then 9 else if -2048 ≤ d ∧ d < 2048 then 12 else 64
def headN (d : Int) : Nat := if d = 0 then 0 else if -64 ≤ d ∧ d < 64 then 2 else if -256 ≤ d ∧ d < 256 then 6 else if -2048 ≤ d ∧ d < 2048 then 14 else 15
def longN (d : Int) : Nat := if d = 0 then 1 else if -64 ≤ d ∧ d < 64 then 2 else if -256 ≤ d ∧ d < 256 then 3 else 4
/-- The same by how many 1s the head has. -/
def sz (h : Nat) : Nat := if h = 0 then 0 else if h = 1 then 7 else if h = 2 then 9 else if h = 3 then 12 else 64

/-- k bits off what a reader has left. -/
def takeB (k R rem : Nat) : Option (Nat × Nat × Nat) := if k ≤ rem then some (R / 2 ^ (rem - k), R % 2 ^ (rem - k), rem - k) else none
def rdHead : Nat → Nat → Nat → Nat → Option (Nat × Nat × Nat)
  | 0, h, R, rem => some (h, R, rem)
  | f + 1, h, R, rem =>
    match takeB 1 R rem with
    | none => none
    | some (b, R1, rem1) => if b = 1 then rdHead f (h + 1) R1 rem1 else some (h, R1, rem1)
/-- The lowest n bits of a number, as one with a sign. -/
def sgn (n u : Nat) : Int := if n = 64 then sg u else if 0 < n ∧ u / 2 ^ (n - 1) % 2 = 1 then (u : Int) - (2 : Int) ^ n else (u : Int)
def rdDiff (R rem : Nat) : Option (Int × Nat × Nat) :=
  match rdHead 4 0 R rem with
  | none => none
  | some (h, R1, rem1) =>
    match takeB (sz h) R1 rem1 with
    | none => none
    | some (u, R2, rem2) => if kindN (sgn (sz h) u) = sz h then some (sgn (sz h) u, R2, rem2) else none
def nextL (last : Nat) (d : Int) : Nat := (last + un d) % M64
def nextX (prev : Int) (last : Nat) : Int := sg ((un prev + last) % M64)
/-- k times more, behind 'prev' and its difference 'last'. -/
def rdTimes : Nat → Int → Nat → Nat → Nat → Option (List Int × Nat × Nat)
  | 0, _, _, R, rem => some ([], R, rem)
  | k + 1, prev, last, R, rem =>
    match rdDiff R rem with
    | none => none
    | some (d, R1, rem1) => (rdTimes k (nextX prev (nextL last d)) (nextL last d) R1 rem1).map fun p => (nextX prev (nextL last d) :: p.1, p.2)
def rdRow : Nat → Nat → Nat → Option (List Int × Nat × Nat)
  | 0, R, rem => some ([], R, rem)
  | n + 1, R, rem =>
    match takeB 64 R rem with
    | none => none
    | some (u, R1, rem1) => (rdTimes n (sg u) 0 R1 rem1).map fun p => (sg u :: p.1, p.2)

/-- Fields: numbers, and in how many bits. -/
def flen : List (Nat × Nat) → Nat
  | [] => 0
  | (_, w) :: fs => w + flen fs
def fnum : List (Nat × Nat) → Nat
  | [] => 0
  | (v, w) :: fs => v % 2 ^ w * 2 ^ flen fs + fnum fs
theorem fnum_lt (fs : List (Nat × Nat)) : fnum fs < 2 ^ flen fs := by
  induction fs with
  | nil => show 0 < 1; omega
  | cons f fs ih =>
    obtain ⟨v, w⟩ := f
    show v % 2 ^ w * 2 ^ flen fs + fnum fs < 2 ^ (w + flen fs)
    have h1 : v % 2 ^ w + 1 ≤ 2 ^ w := Nat.mod_lt _ (Nat.two_pow_pos w)
    have h2 := Nat.mul_le_mul_right (2 ^ flen fs) h1
    rw [Nat.pow_add]
    rw [Nat.add_mul, Nat.one_mul] at h2
    omega
theorem flen_app (as' bs : List (Nat × Nat)) : flen (as' ++ bs) = flen as' + flen bs := by
  induction as' with
  | nil => show flen bs = 0 + flen bs; omega
  | cons a as' ih => show a.2 + flen (as' ++ bs) = a.2 + flen as' + flen bs; omega
theorem fnum_app (as' bs : List (Nat × Nat)) : fnum (as' ++ bs) = fnum as' * 2 ^ flen bs + fnum bs := by
  induction as' with
  | nil => show fnum bs = 0 * _ + fnum bs; omega
  | cons a as' ih =>
    show a.1 % 2 ^ a.2 * 2 ^ flen (as' ++ bs) + fnum (as' ++ bs) = (a.1 % 2 ^ a.2 * 2 ^ flen as' + fnum as') * 2 ^ flen bs + fnum bs
    rw [ih, flen_app, Nat.pow_add, Nat.add_mul, Nat.mul_assoc, Nat.add_assoc]
/-- What lies ahead is taken off. -/
theorem takeB_of {k v X r rem : Nat} (_hv : v < 2 ^ k) (hX : X < 2 ^ r) (hr : rem = k + r) : takeB k (v * 2 ^ r + X) rem = some (v, X, r) := by
  subst hr
  unfold takeB
  rw [if_pos (by omega), Nat.add_sub_cancel_left, Nat.mul_comm v, Nat.mul_add_div (Nat.two_pow_pos r), Nat.div_eq_of_lt hX, Nat.mul_add_mod, Nat.mod_eq_of_lt hX, Nat.add_zero]
theorem takeB_field {v w X r rem : Nat} {fs : List (Nat × Nat)} (hX : X < 2 ^ r) (hr : rem = w + flen fs + r) : takeB w (fnum ((v, w) :: fs) * 2 ^ r + X) rem = some (v % 2 ^ w, fnum fs * 2 ^ r + X, flen fs + r) := by
  have h2 := fnum_lt fs
  have h3 : fnum fs * 2 ^ r + X < 2 ^ (flen fs + r) := by
    have h4 : (fnum fs + 1) * 2 ^ r ≤ 2 ^ flen fs * 2 ^ r := Nat.mul_le_mul_right _ h2
    rw [Nat.pow_add]
    rw [Nat.add_mul, Nat.one_mul] at h4
    omega
  have e : fnum ((v, w) :: fs) * 2 ^ r + X = v % 2 ^ w * 2 ^ (flen fs + r) + (fnum fs * 2 ^ r + X) := by
    show (v % 2 ^ w * 2 ^ flen fs + fnum fs) * 2 ^ r + X = _
    rw [Nat.add_mul, Nat.mul_assoc, ← Nat.pow_add, Nat.add_assoc]
  rw [e]
  exact takeB_of (Nat.mod_lt _ (Nat.two_pow_pos w)) h3 (by omega)

/-- The five heads. -/
def hv (h : Nat) : Nat := if h = 0 then 0 else if h = 1 then 2 else if h = 2 then 6 else if h = 3 then 14 else 15
def hw (h : Nat) : Nat := if h = 0 then 1 else if h = 1 then 2 else if h = 2 then 3 else 4
theorem rdHead_of {h X r rem : Nat} (hh : h ≤ 4) (hX : X < 2 ^ r) (hr : rem = hw h + r) : rdHead 4 0 (hv h * 2 ^ r + X) rem = some (h, X, r) := by
  subst hr
  have p1 : 2 ^ (1 + r) = 2 * 2 ^ r := by rw [Nat.pow_add]
  have p2 : 2 ^ (2 + r) = 4 * 2 ^ r := by rw [Nat.pow_add]
  have p3 : 2 ^ (3 + r) = 8 * 2 ^ r := by rw [Nat.pow_add]
  have hh' : h = 0 ∨ h = 1 ∨ h = 2 ∨ h = 3 ∨ h = 4 := by omega
  rcases hh' with rfl | rfl | rfl | rfl | rfl
  · have e : takeB 1 (0 * 2 ^ r + X) (1 + r) = some (0, X, r) := takeB_of (by decide) hX rfl
    show (match takeB 1 (0 * 2 ^ r + X) (1 + r) with | none => none | some (b, R1, rem1) => if b = 1 then rdHead 3 1 R1 rem1 else some (0, R1, rem1)) = _
    rw [e]; rfl
  · have e1 : takeB 1 (2 * 2 ^ r + X) (2 + r) = some (1, X, 1 + r) := by
      have := takeB_of (k := 1) (v := 1) (X := X) (r := 1 + r) (rem := 2 + r) (by decide) (by omega) (by omega)
      rwa [p1, Nat.one_mul] at this
    have e2 : takeB 1 X (1 + r) = some (0, X, r) := by
      have := takeB_of (k := 1) (v := 0) (X := X) (r := r) (rem := 1 + r) (by decide) hX rfl
      rwa [Nat.zero_mul, Nat.zero_add] at this
    show (match takeB 1 (2 * 2 ^ r + X) (2 + r) with | none => none | some (b, R1, rem1) => if b = 1 then rdHead 3 1 R1 rem1 else some (0, R1, rem1)) = _
    rw [e1]
    show (match takeB 1 X (1 + r) with | none => none | some (b, R1, rem1) => if b = 1 then rdHead 2 2 R1 rem1 else some (1, R1, rem1)) = _
    rw [e2]; rfl
  · have e1 : takeB 1 (6 * 2 ^ r + X) (3 + r) = some (1, 2 * 2 ^ r + X, 2 + r) := by
      have := takeB_of (k := 1) (v := 1) (X := 2 * 2 ^ r + X) (r := 2 + r) (rem := 3 + r) (by decide) (by omega) (by omega)
      rw [← this, p2]
      congr 1
      omega
    have e2 : takeB 1 (2 * 2 ^ r + X) (2 + r) = some (1, X, 1 + r) := by
      have := takeB_of (k := 1) (v := 1) (X := X) (r := 1 + r) (rem := 2 + r) (by decide) (by omega) (by omega)
      rwa [p1, Nat.one_mul] at this
    have e3 : takeB 1 X (1 + r) = some (0, X, r) := by
      have := takeB_of (k := 1) (v := 0) (X := X) (r := r) (rem := 1 + r) (by decide) hX rfl
      rwa [Nat.zero_mul, Nat.zero_add] at this
    show (match takeB 1 (6 * 2 ^ r + X) (3 + r) with | none => none | some (b, R1, rem1) => if b = 1 then rdHead 3 1 R1 rem1 else some (0, R1, rem1)) = _
    rw [e1]
    show (match takeB 1 (2 * 2 ^ r + X) (2 + r) with | none => none | some (b, R1, rem1) => if b = 1 then rdHead 2 2 R1 rem1 else some (1, R1, rem1)) = _
    rw [e2]
    show (match takeB 1 X (1 + r) with | none => none | some (b, R1, rem1) => if b = 1 then rdHead 1 3 R1 rem1 else some (2, R1, rem1)) = _
    rw [e3]; rfl
  · have e1 : takeB 1 (14 * 2 ^ r + X) (4 + r) = some (1, 6 * 2 ^ r + X, 3 + r) := by
      have := takeB_of (k := 1) (v := 1) (X := 6 * 2 ^ r + X) (r := 3 + r) (rem := 4 + r) (by decide) (by omega) (by omega)
      rw [← this, p3]
      congr 1
      omega
    have e2 : takeB 1 (6 * 2 ^ r + X) (3 + r) = some (1, 2 * 2 ^ r + X, 2 + r) := by
      have := takeB_of (k := 1) (v := 1) (X := 2 * 2 ^ r + X) (r := 2 + r) (rem := 3 + r) (by decide) (by omega) (by omega)
      rw [← this, p2]
      congr 1
      omega
    have e3 : takeB 1 (2 * 2 ^ r + X) (2 + r) = some (1, X, 1 + r) := by
      have := takeB_of (k := 1) (v := 1) (X := X) (r := 1 + r) (rem := 2 + r) (by decide) (by omega) (by omega)
      rwa [p1, Nat.one_mul] at this
    have e4 : takeB 1 X (1 + r) = some (0, X, r) := by
      have := takeB_of (k := 1) (v := 0) (X := X) (r := r) (rem := 1 + r) (by decide) hX rfl
      rwa [Nat.zero_mul, Nat.zero_add] at this
    show (match takeB 1 (14 * 2 ^ r + X) (4 + r) with | none => none | some (b, R1, rem1) => if b = 1 then rdHead 3 1 R1 rem1 else some (0, R1, rem1)) = _
    rw [e1]
    show (match takeB 1 (6 * 2 ^ r + X) (3 + r) with | none => none | some (b, R1, rem1) => if b = 1 then rdHead 2 2 R1 rem1 else some (1, R1, rem1)) = _
    rw [e2]
    show (match takeB 1 (2 * 2 ^ r + X) (2 + r) with | none => none | some (b, R1, rem1) => if b = 1 then rdHead 1 3 R1 rem1 else some (2, R1, rem1)) = _
    rw [e3]
    show (match takeB 1 X (1 + r) with | none => none | some (b, R1, rem1) => if b = 1 then rdHead 0 4 R1 rem1 else some (3, R1, rem1)) = _
    rw [e4]; rfl
  · have e1 : takeB 1 (15 * 2 ^ r + X) (4 + r) = some (1, 7 * 2 ^ r + X, 3 + r) := by
      have := takeB_of (k := 1) (v := 1) (X := 7 * 2 ^ r + X) (r := 3 + r) (rem := 4 + r) (by decide) (by omega) (by omega)
      rw [← this, p3]
      congr 1
      omega
    have e2 : takeB 1 (7 * 2 ^ r + X) (3 + r) = some (1, 3 * 2 ^ r + X, 2 + r) := by
      have := takeB_of (k := 1) (v := 1) (X := 3 * 2 ^ r + X) (r := 2 + r) (rem := 3 + r) (by decide) (by omega) (by omega)
      rw [← this, p2]
      congr 1
      omega
    have e3 : takeB 1 (3 * 2 ^ r + X) (2 + r) = some (1, 1 * 2 ^ r + X, 1 + r) := by
      have := takeB_of (k := 1) (v := 1) (X := 1 * 2 ^ r + X) (r := 1 + r) (rem := 2 + r) (by decide) (by omega) (by omega)
      rw [← this, p1]
      congr 1
      omega
    have e4 : takeB 1 (1 * 2 ^ r + X) (1 + r) = some (1, X, r) := takeB_of (by decide) hX rfl
    show (match takeB 1 (15 * 2 ^ r + X) (4 + r) with | none => none | some (b, R1, rem1) => if b = 1 then rdHead 3 1 R1 rem1 else some (0, R1, rem1)) = _
    rw [e1]
    show (match takeB 1 (7 * 2 ^ r + X) (3 + r) with | none => none | some (b, R1, rem1) => if b = 1 then rdHead 2 2 R1 rem1 else some (1, R1, rem1)) = _
    rw [e2]
    show (match takeB 1 (3 * 2 ^ r + X) (2 + r) with | none => none | some (b, R1, rem1) => if b = 1 then rdHead 1 3 R1 rem1 else some (2, R1, rem1)) = _
    rw [e3]
    show (match takeB 1 (1 * 2 ^ r + X) (1 + r) with | none => none | some (b, R1, rem1) => if b = 1 then rdHead 0 4 R1 rem1 else some (3, R1, rem1)) = _
    rw [e4]; rfl

/-- Which head a difference has. -/
def hd (d : Int) : Nat := if d = 0 then 0 else if -64 ≤ d ∧ d < 64 then 1 else if -256 ≤ d ∧ d < 256 then 2 else if -2048 ≤ d ∧ d < 2048 then 3 else 4
theorem hd_le (d : Int) : hd d ≤ 4 := by
  unfold hd
  by_cases h0 : d = 0
  · rw [if_pos h0]; omega
  · rw [if_neg h0]
    by_cases h1 : -64 ≤ d ∧ d < 64
    · rw [if_pos h1]; omega
    · rw [if_neg h1]
      by_cases h2 : -256 ≤ d ∧ d < 256
      · rw [if_pos h2]; omega
      · rw [if_neg h2]
        split <;> omega
theorem kind_hd (d : Int) : kindN d = sz (hd d) := by
  unfold kindN hd
  by_cases h0 : d = 0
  · rw [if_pos h0, if_pos h0]; rfl
  · rw [if_neg h0, if_neg h0]
    by_cases h1 : -64 ≤ d ∧ d < 64
    · rw [if_pos h1, if_pos h1]; rfl
    · rw [if_neg h1, if_neg h1]
      by_cases h2 : -256 ≤ d ∧ d < 256
      · rw [if_pos h2, if_pos h2]; rfl
      · rw [if_neg h2, if_neg h2]
        by_cases h3 : -2048 ≤ d ∧ d < 2048
        · rw [if_pos h3, if_pos h3]; rfl
        · rw [if_neg h3, if_neg h3]; rfl
/-- A number with a sign comes back out of its lowest bits. -/
theorem sgn_un {n : Nat} {d : Int} (hn : 0 < n) (hn64 : n < 64) (h1 : -((2 : Int) ^ (n - 1)) ≤ d) (h2 : d < (2 : Int) ^ (n - 1)) : sgn n (un d % 2 ^ n) = d := by
  obtain ⟨m, rfl⟩ : ∃ m, n = m + 1 := ⟨n - 1, by omega⟩
  rw [Nat.add_sub_cancel] at h1 h2
  have hp : (2 : Int) ^ (m + 1) = 2 * (2 : Int) ^ m := by rw [Int.pow_succ, Int.mul_comm]
  have hpn : (2 : Nat) ^ (m + 1) = 2 * 2 ^ m := by rw [Nat.pow_succ, Nat.mul_comm]
  have hc : (2 : Int) ^ m = ((2 ^ m : Nat) : Int) := by simp
  have hpos : 0 < (2 : Nat) ^ m := Nat.two_pow_pos m
  have hdvd : ((2 ^ (m + 1) : Nat) : Int) ∣ (M64 : Int) := by
    rw [M64_pow]
    exact Int.natCast_dvd_natCast.2 (Nat.pow_dvd_pow 2 (by omega))
  have e : (((un d % 2 ^ (m + 1) : Nat)) : Int) = d % ((2 ^ (m + 1) : Nat) : Int) := by
    have h3 := Int.emod_nonneg d (show (M64 : Int) ≠ 0 by decide)
    unfold un
    rw [Int.natCast_emod, Int.toNat_of_nonneg h3]
    exact Int.emod_emod_of_dvd d hdvd
  unfold sgn
  rw [if_neg (by omega), Nat.add_sub_cancel]
  generalize un d % 2 ^ (m + 1) = u at *
  rw [hp, hc]
  rw [hc] at h1 h2
  rw [hpn] at e
  generalize (2 : Nat) ^ m = y at *
  rcases Int.lt_or_le d 0 with h0 | h0
  · have e2 : d % ((2 * y : Nat) : Int) = d + 2 * (y : Int) := by
      rw [← Int.add_emod_right, Int.emod_eq_of_lt (by omega) (by omega)]
      omega
    rw [e2] at e
    have hu : u / y = 1 := by
      have h5 : y ≤ u := by omega
      have h6 : u < 2 * y := by omega
      exact Nat.div_eq_of_lt_le (by omega) (by omega)
    rw [hu, if_pos ⟨by omega, rfl⟩]
    omega
  · have e2 : d % ((2 * y : Nat) : Int) = d := Int.emod_eq_of_lt h0 (by omega)
    rw [e2] at e
    have hu : u / y = 0 := Nat.div_eq_of_lt (by omega)
    rw [hu, if_neg (by omega)]
    omega
theorem sgn_64 {d : Int} (h : Fits d) : sgn 64 (un d % 2 ^ 64) = d := by
  unfold sgn
  rw [if_pos rfl, Nat.mod_eq_of_lt (by rw [← M64_pow]; exact un_lt d), sg_un h]
theorem sgn_hd {d : Int} (h : Fits d) : sgn (sz (hd d)) (un d % 2 ^ sz (hd d)) = d := by
  unfold hd
  by_cases h0 : d = 0
  · rw [if_pos h0]
    subst h0
    rfl
  · rw [if_neg h0]
    by_cases h1 : -64 ≤ d ∧ d < 64
    · rw [if_pos h1]; exact sgn_un (n := 7) (by decide) (by decide) (by omega) (by omega)
    · rw [if_neg h1]
      by_cases h2 : -256 ≤ d ∧ d < 256
      · rw [if_pos h2]; exact sgn_un (n := 9) (by decide) (by decide) (by omega) (by omega)
      · rw [if_neg h2]
        by_cases h3 : -2048 ≤ d ∧ d < 2048
        · rw [if_pos h3]; exact sgn_un (n := 12) (by decide) (by decide) (by omega) (by omega)
        · rw [if_neg h3]; exact sgn_64 h

/-- What Encode puts of one difference; of times behind 'prev' and 'last'; of a row. -/
def fieldsD (d : Int) : List (Nat × Nat) := [(headN d, longN d), (un d, kindN d)]
def stepOf (prev x : Int) : Nat := un (x - prev)
def diffOf (prev : Int) (last : Nat) (x : Int) : Int := sg (un ((stepOf prev x : Int) - (last : Int)))
def encT : Int → Nat → List Int → List (Nat × Nat)
  | _, _, [] => []
  | prev, last, x :: xs => fieldsD (diffOf prev last x) ++ encT x (stepOf prev x) xs
def encRow : List Int → List (Nat × Nat)
  | [] => []
  | x :: xs => (un x, 64) :: encT x 0 xs
theorem headN_hd (d : Int) : headN d = hv (hd d) ∧ longN d = hw (hd d) := by
  unfold headN longN hd
  by_cases h0 : d = 0
  · simp [h0, hv, hw]
  · by_cases h1 : -64 ≤ d ∧ d < 64
    · simp [h0, h1, hv, hw]
    · by_cases h2 : -256 ≤ d ∧ d < 256
      · rw [if_neg h0, if_neg h1, if_pos h2, if_neg h0, if_neg h1, if_pos h2, if_neg h0, if_neg h1, if_pos h2]; exact ⟨rfl, rfl⟩
      · by_cases h3 : -2048 ≤ d ∧ d < 2048
        · rw [if_neg h0, if_neg h1, if_neg h2, if_pos h3, if_neg h0, if_neg h1, if_neg h2, if_neg h0, if_neg h1, if_neg h2, if_pos h3]; exact ⟨rfl, rfl⟩
        · rw [if_neg h0, if_neg h1, if_neg h2, if_neg h3, if_neg h0, if_neg h1, if_neg h2, if_neg h0, if_neg h1, if_neg h2, if_neg h3]; exact ⟨rfl, rfl⟩
theorem hv_lt {h : Nat} (hh : h ≤ 4) : hv h < 2 ^ hw h := by
  have hh' : h = 0 ∨ h = 1 ∨ h = 2 ∨ h = 3 ∨ h = 4 := by omega
  rcases hh' with rfl | rfl | rfl | rfl | rfl <;> decide
/-- A difference is read as it was told, in the length that it was told in, if that is the shortest. -/
theorem rdDiff_of {h v X r rem : Nat} {fs : List (Nat × Nat)} (hh : h ≤ 4) (hX : X < 2 ^ r) (hr : rem = hw h + sz h + flen fs + r) :
    rdDiff (fnum ((hv h, hw h) :: (v, sz h) :: fs) * 2 ^ r + X) rem = if kindN (sgn (sz h) (v % 2 ^ sz h)) = sz h then some (sgn (sz h) (v % 2 ^ sz h), fnum fs * 2 ^ r + X, flen fs + r) else none := by
  have h2 := fnum_lt ((v, sz h) :: fs)
  have h3 : fnum ((v, sz h) :: fs) * 2 ^ r + X < 2 ^ (flen ((v, sz h) :: fs) + r) := by
    have h4 : (fnum ((v, sz h) :: fs) + 1) * 2 ^ r ≤ 2 ^ flen ((v, sz h) :: fs) * 2 ^ r := Nat.mul_le_mul_right _ h2
    rw [Nat.pow_add]
    rw [Nat.add_mul, Nat.one_mul] at h4
    omega
  have e : fnum ((hv h, hw h) :: (v, sz h) :: fs) * 2 ^ r + X = hv h * 2 ^ (flen ((v, sz h) :: fs) + r) + (fnum ((v, sz h) :: fs) * 2 ^ r + X) := by
    show (hv h % 2 ^ hw h * 2 ^ flen ((v, sz h) :: fs) + fnum ((v, sz h) :: fs)) * 2 ^ r + X = _
    rw [Nat.mod_eq_of_lt (hv_lt hh), Nat.add_mul, Nat.mul_assoc, ← Nat.pow_add, Nat.add_assoc]
  have hl : flen ((v, sz h) :: fs) = sz h + flen fs := rfl
  have e1 := rdHead_of (rem := rem) hh h3 (by omega)
  unfold rdDiff
  rw [e, e1]
  show (match takeB (sz h) (fnum ((v, sz h) :: fs) * 2 ^ r + X) (flen ((v, sz h) :: fs) + r) with | none => none | some (u, R2, rem2) => if kindN (sgn (sz h) u) = sz h then some (sgn (sz h) u, R2, rem2) else none) = _
  rw [takeB_field hX (by omega)]
theorem next_of {prev x : Int} {last : Nat} (hx : Fits x) : Fits (diffOf prev last x) ∧ nextL last (diffOf prev last x) = stepOf prev x ∧ nextX prev (stepOf prev x) = x := by
  have hm : (0 : Int) < (M64 : Int) := by decide
  refine ⟨sg_fits (un_lt _), ?_, ?_⟩
  · unfold nextL diffOf
    rw [un_sg (un_lt _)]
    unfold stepOf
    have h1 := Int.emod_nonneg (x - prev) (Int.ne_of_gt hm)
    have h2 := Int.emod_lt_of_pos (x - prev) hm
    have h3 : (un (x - prev) : Int) = (x - prev) % (M64 : Int) := by unfold un; omega
    have h4 : (un ((un (x - prev) : Int) - (last : Int)) : Int) = ((un (x - prev) : Int) - (last : Int)) % (M64 : Int) := by
      have := Int.emod_nonneg ((un (x - prev) : Int) - (last : Int)) (Int.ne_of_gt hm)
      show (((((un (x - prev) : Int) - (last : Int)) % (M64 : Int)).toNat : Nat) : Int) = _
      omega
    have h5 : (((last + un ((un (x - prev) : Int) - (last : Int))) % M64 : Nat) : Int) = (un (x - prev) : Int) := by
      rw [Int.natCast_emod, Int.natCast_add, h4, Int.add_emod_emod]
      rw [show (last : Int) + ((un (x - prev) : Int) - (last : Int)) = (un (x - prev) : Int) by omega, h3, Int.emod_emod]
    omega
  · unfold nextX stepOf
    have h5 : (un prev + un (x - prev)) % M64 = un x := by
      have h1 := Int.emod_nonneg (x - prev) (Int.ne_of_gt hm)
      have h2 := Int.emod_nonneg prev (Int.ne_of_gt hm)
      have h3 := Int.emod_nonneg x (Int.ne_of_gt hm)
      have e : (((un prev + un (x - prev)) % M64 : Nat) : Int) = (un x : Int) := by
        rw [Int.natCast_emod, Int.natCast_add]
        unfold un
        rw [Int.toNat_of_nonneg h1, Int.toNat_of_nonneg h2, Int.toNat_of_nonneg h3, ← Int.add_emod]
        congr 1
        omega
      omega
    rw [h5, sg_un hx]
theorem rdTimes_of (xs : List Int) (hxs : ∀ x ∈ xs, Fits x) (prev : Int) (last : Nat) {X r rem : Nat} (hX : X < 2 ^ r) (hr : rem = flen (encT prev last xs) + r) :
    rdTimes xs.length prev last (fnum (encT prev last xs) * 2 ^ r + X) rem = some (xs, X, r) := by
  induction xs generalizing prev last rem with
  | nil =>
    subst hr
    show some (([] : List Int), 0 * 2 ^ r + X, 0 + r) = _
    rw [Nat.zero_mul, Nat.zero_add, Nat.zero_add]
  | cons x xs ih =>
    have hx := hxs x (by simp)
    obtain ⟨h1, h2, h3⟩ := next_of (prev := prev) (last := last) hx
    obtain ⟨e1, e2⟩ := headN_hd (diffOf prev last x)
    have ek := kind_hd (diffOf prev last x)
    have ef : encT prev last (x :: xs) = (hv (hd (diffOf prev last x)), hw (hd (diffOf prev last x))) :: (un (diffOf prev last x), sz (hd (diffOf prev last x))) :: encT x (stepOf prev x) xs := by
      show [(headN _, longN _), (un _, kindN _)] ++ _ = _
      rw [e1, e2, ek]
      rfl
    rw [ef] at hr ⊢
    have hrd := rdDiff_of (v := un (diffOf prev last x)) (fs := encT x (stepOf prev x) xs) (rem := rem) (hd_le (diffOf prev last x)) hX (by rw [hr]; show hw _ + (sz _ + flen _) + r = _; omega)
    rw [sgn_hd h1, ek, if_pos rfl] at hrd
    show (match rdDiff _ rem with | none => none | some (d, R1, rem1) => (rdTimes xs.length (nextX prev (nextL last d)) (nextL last d) R1 rem1).map fun (p : List Int × Nat × Nat) => (nextX prev (nextL last d) :: p.1, p.2)) = _
    rw [hrd]
    show (rdTimes xs.length (nextX prev (nextL last (diffOf prev last x))) (nextL last (diffOf prev last x)) _ _).map _ = _
    rw [h2, h3, ih (fun y hy => hxs y (by simp [hy])) x (stepOf prev x) rfl]
    rfl
/-- A row of times is read as it was told. -/
theorem rdRow_of (xs : List Int) (hxs : ∀ x ∈ xs, Fits x) {X r rem : Nat} (hX : X < 2 ^ r) (hr : rem = flen (encRow xs) + r) : rdRow xs.length (fnum (encRow xs) * 2 ^ r + X) rem = some (xs, X, r) := by
  cases xs with
  | nil =>
    subst hr
    show some (([] : List Int), 0 * 2 ^ r + X, 0 + r) = _
    rw [Nat.zero_mul, Nat.zero_add, Nat.zero_add]
  | cons x xs =>
    have hx := hxs x (by simp)
    have ht := takeB_field (v := un x) (w := 64) (fs := encT x 0 xs) (rem := rem) hX (by rw [hr]; rfl)
    rw [Nat.mod_eq_of_lt (by rw [← M64_pow]; exact un_lt x)] at ht
    show (match takeB 64 (fnum ((un x, 64) :: encT x 0 xs) * 2 ^ r + X) rem with | none => none | some (u, R1, rem1) => (rdTimes xs.length (sg u) 0 R1 rem1).map fun (p : List Int × Nat × Nat) => (sg u :: p.1, p.2)) = _
    rw [ht]
    show (rdTimes xs.length (sg (un x)) 0 _ _).map _ = _
    rw [sg_un hx, rdTimes_of xs (fun y hy => hxs y (by simp [hy])) x 0 hX rfl]
    rfl
end Go.Proofs.Ytldjobaafambbaa

/- Plain mathematics of numbers of so many bits each in bytes: what is packed, and that it is read back; how many bits a number has. -/
namespace Go.Proofs.Ytldjobaafambbaa

/-- k bytes of a number, the greatest first. -/
def byts : Nat → Nat → List Nat
  | 0, _ => []
  | k + 1, N => byts k (N / 256) ++ [N % 256]
theorem byts_len (k : Nat) : ∀ N, (byts k N).length = k := by
  induction k with
  | zero => intro N; rfl
  | succ k ih => intro N; show (byts k (N / 256) ++ [N % 256]).length = _; rw [List.length_append, ih]; rfl
theorem byts_256 (k : Nat) : ∀ N, lt256 (byts k N) := by
  induction k with
  | zero => intro N; exact lt256_nil
  | succ k ih => intro N; exact lt256_snoc.2 ⟨ih _, Nat.mod_lt _ (by decide)⟩
theorem byts_val (k : Nat) : ∀ N, N < 2 ^ (8 * k) → val (byts k N) = N := by
  induction k with
  | zero => intro N h; have : N = 0 := by simpa using h
            subst this; rfl
  | succ k ih =>
    intro N h
    show val (byts k (N / 256) ++ [N % 256]) = N
    rw [val_snoc, ih (N / 256) (by
      rw [show 8 * (k + 1) = 8 * k + 8 by omega, Nat.pow_add] at h
      exact Nat.div_lt_of_lt_mul (by omega))]
    omega
/-- The bytes of L bits, the last one filled with 0s. -/
def packB (N L : Nat) : List Nat := byts ((L + 7) / 8) (N * 2 ^ (8 * ((L + 7) / 8) - L))
theorem packB_len (N L : Nat) : (packB N L).length = (L + 7) / 8 := byts_len _ _
theorem packB_256 (N L : Nat) : lt256 (packB N L) := byts_256 _ _
theorem packB_val {N L : Nat} (h : N < 2 ^ L) : val (packB N L) = N * 2 ^ (8 * ((L + 7) / 8) - L) := by
  unfold packB
  refine byts_val _ _ ?_
  have e : 8 * ((L + 7) / 8) = L + (8 * ((L + 7) / 8) - L) := by omega
  conv => rhs; rw [e, Nat.pow_add]
  exact Nat.mul_lt_mul_of_pos_right h (Nat.two_pow_pos _)
/-- What is packed has one form. -/
theorem packB_one {bs : List Nat} {N L free : Nat} (h : N < 2 ^ L) (hlt : lt256 bs) (hf : free < 8) (hl : L + free = 8 * bs.length) (hv : val bs = N * 2 ^ free) : bs = packB N L := by
  have e1 : bs.length = (L + 7) / 8 := by omega
  refine val_inj bs.length bs _ rfl (by rw [packB_len, e1]) hlt (packB_256 _ _) ?_
  rw [packB_val h, hv]
  congr 2
  omega

/-- Fields of one width. -/
def flds (w : Nat) (l : List Nat) : List (Nat × Nat) := l.map fun x => (x, w)
theorem flds_len (w : Nat) (l : List Nat) : flen (flds w l) = w * l.length := by
  induction l with
  | nil => rfl
  | cons x l ih => show w + flen (flds w l) = w * (l.length + 1); rw [ih, Nat.mul_add]; omega
theorem flds_app (w : Nat) (l m : List Nat) : flds w (l ++ m) = flds w l ++ flds w m := by simp [flds]
/-- The bytes of numbers of w bits each. -/
def packW (w : Nat) (l : List Nat) : List Nat := packB (fnum (flds w l)) (flen (flds w l))
theorem packW_len (w : Nat) (l : List Nat) : (packW w l).length = (w * l.length + 7) / 8 := by unfold packW; rw [packB_len, flds_len]
theorem packW_256 (w : Nat) (l : List Nat) : lt256 (packW w l) := packB_256 _ _
theorem packW_one {bs : List Nat} {w free : Nat} {l : List Nat} (hlt : lt256 bs) (hf : free < 8) (hl : flen (flds w l) + free = 8 * bs.length) (hv : val bs = fnum (flds w l) * 2 ^ free) : bs = packW w l :=
  packB_one (fnum_lt _) hlt hf hl hv

/-- One read of a reader's state: the number, and what is left; 0 and nothing where there are too few bits. -/
def rd1 (k : Nat) : Option (Nat × Nat) → Nat × Option (Nat × Nat)
  | some (R, rem) => match takeB k R rem with
    | some (x, R1, rem1) => (x, some (R1, rem1))
    | none => (0, none)
  | none => (0, none)
/-- n reads of w bits each. -/
def rdW (w : Nat) : Nat → Option (Nat × Nat) → List Nat
  | 0, _ => []
  | n + 1, s => (rd1 w s).1 :: rdW w n (rd1 w s).2
/-- What is left behind n reads. -/
def lfW (w : Nat) : Nat → Option (Nat × Nat) → Option (Nat × Nat)
  | 0, s => s
  | n + 1, s => lfW w n (rd1 w s).2
theorem rdW_len (w n : Nat) : ∀ s, (rdW w n s).length = n := by
  induction n with
  | zero => intro s; rfl
  | succ n ih => intro s; show (rdW w n _).length + 1 = _; rw [ih]
theorem rdW_snoc (w n : Nat) : ∀ s, rdW w (n + 1) s = rdW w n s ++ [(rd1 w (lfW w n s)).1] := by
  induction n with
  | zero => intro s; rfl
  | succ n ih =>
    intro s
    show (rd1 w s).1 :: rdW w (n + 1) (rd1 w s).2 = ((rd1 w s).1 :: rdW w n (rd1 w s).2) ++ [(rd1 w (lfW w n (rd1 w s).2)).1]
    rw [ih]
    rfl
theorem lfW_succ (w n : Nat) : ∀ s, lfW w (n + 1) s = (rd1 w (lfW w n s)).2 := by
  induction n with
  | zero => intro s; rfl
  | succ n ih => intro s; show lfW w (n + 1) (rd1 w s).2 = _; rw [ih]; rfl
theorem rd1_lt {w R rem : Nat} (h : R < 2 ^ rem) : (rd1 w (some (R, rem))).1 < 2 ^ w := by
  unfold rd1 takeB
  by_cases hk : w ≤ rem
  · simp only [hk, if_true]
    rw [Nat.div_lt_iff_lt_mul (Nat.two_pow_pos _), ← Nat.pow_add, show w + (rem - w) = rem by omega]
    exact h
  · simp only [hk, if_false]
    exact Nat.two_pow_pos w
/-- What was laid is read. -/
theorem rdW_flds {w r X : Nat} (hX : X < 2 ^ r) : ∀ (l : List Nat) (rem : Nat), (∀ x ∈ l, x < 2 ^ w) → rem = flen (flds w l) + r → rdW w l.length (some (fnum (flds w l) * 2 ^ r + X, rem)) = l ∧ lfW w l.length (some (fnum (flds w l) * 2 ^ r + X, rem)) = some (X, r) := by
  intro l
  induction l with
  | nil =>
    intro rem _ hr
    refine ⟨rfl, ?_⟩
    show some (0 * 2 ^ r + X, rem) = _
    rw [hr, Nat.zero_mul, Nat.zero_add]
    show some (X, 0 + r) = _
    rw [Nat.zero_add]
  | cons x l ih =>
    intro rem hl hr
    have hx := hl x (by simp)
    have ht := takeB_field (v := x) (w := w) (fs := flds w l) hX (rem := rem) (by rw [hr]; rfl)
    have e : flds w (x :: l) = (x, w) :: flds w l := rfl
    have h1 : rd1 w (some (fnum (flds w (x :: l)) * 2 ^ r + X, rem)) = (x, some (fnum (flds w l) * 2 ^ r + X, flen (flds w l) + r)) := by
      rw [e]
      unfold rd1
      simp only [ht]
      rw [Nat.mod_eq_of_lt hx]
    obtain ⟨a1, a2⟩ := ih (flen (flds w l) + r) (fun y hy => hl y (by simp [hy])) rfl
    refine ⟨?_, ?_⟩
    · show (rd1 w _).1 :: rdW w l.length (rd1 w _).2 = _
      rw [h1]
      show x :: rdW w l.length _ = _
      rw [a1]
    · show lfW w l.length (rd1 w _).2 = _
      rw [h1]
      exact a2
/-- What is packed is read back. -/
theorem rdW_packW {w : Nat} {l : List Nat} (h : ∀ x ∈ l, x < 2 ^ w) : rdW w l.length (some (val (packW w l), 8 * (packW w l).length)) = l := by
  have hv : val (packW w l) = fnum (flds w l) * 2 ^ (8 * ((flen (flds w l) + 7) / 8) - flen (flds w l)) := packB_val (fnum_lt _)
  have hn : (packW w l).length = (flen (flds w l) + 7) / 8 := packB_len _ _
  rw [hv, hn]
  have := (rdW_flds (w := w) (X := 0) (r := 8 * ((flen (flds w l) + 7) / 8) - flen (flds w l)) (Nat.two_pow_pos _) l (8 * ((flen (flds w l) + 7) / 8)) h (by omega)).1
  rw [Nat.add_zero] at this
  exact this

/-- How many bits a number has. -/
def widF : Nat → Nat → Nat → Nat
  | 0, n, _ => n
  | f + 1, n, u => if u < 2 ^ n then n else widF f (n + 1) u
def wid (u : Nat) : Nat := widF 64 0 u
theorem widF_spec (f : Nat) : ∀ (n u : Nat), n ≤ widF f n u ∧ widF f n u ≤ n + f ∧ (∀ j, n ≤ j → j < widF f n u → ¬ u < 2 ^ j) ∧ (u < 2 ^ (n + f) → u < 2 ^ widF f n u) := by
  induction f with
  | zero => intro n u; exact ⟨Nat.le_refl _, Nat.le_refl _, fun j h1 h2 => by have h3 : j < n := h2; omega, fun h => h⟩
  | succ f ih =>
    intro n u
    have e : widF (f + 1) n u = if u < 2 ^ n then n else widF f (n + 1) u := rfl
    rw [e]
    by_cases h : u < 2 ^ n
    · rw [if_pos h]
      exact ⟨Nat.le_refl _, by omega, fun j h1 h2 => by omega, fun _ => h⟩
    · rw [if_neg h]
      obtain ⟨a1, a2, a3, a4⟩ := ih (n + 1) u
      refine ⟨by omega, by omega, fun j h1 h2 => ?_, fun h2 => a4 (by rw [show n + 1 + f = n + (f + 1) by omega]; exact h2)⟩
      by_cases hj : j = n
      · subst hj; exact h
      · exact a3 j (by omega) h2
theorem wid_le (u : Nat) : wid u ≤ 64 := by have := (widF_spec 64 0 u).2.1; unfold wid; omega
theorem wid_lt {u : Nat} (h : u < 2 ^ 64) : u < 2 ^ wid u := (widF_spec 64 0 u).2.2.2 (by simpa using h)
theorem wid_least {u j : Nat} (h : j < wid u) : ¬ u < 2 ^ j := (widF_spec 64 0 u).2.2.1 j (Nat.zero_le _) h
/-- Where j bits serve and none fewer, it has j. -/
theorem wid_is {u j : Nat} (h : u < 2 ^ j) (hl : ∀ i, i < j → ¬ u < 2 ^ i) (hj : j ≤ 64) : wid u = j := by
  rcases Nat.lt_trichotomy (wid u) j with h1 | h1 | h1
  · exact absurd (wid_lt (Nat.lt_of_lt_of_le h (Nat.pow_le_pow_right (by omega) hj))) (hl _ h1)
  · exact h1
  · exact absurd h (wid_least h1)
theorem wid_mono {u v : Nat} (h : u ≤ v) (hv : v < 2 ^ 64) : u < 2 ^ wid v := Nat.lt_of_le_of_lt h (wid_lt hv)
theorem take_succ_of {us : List Nat} {i x : Nat} (h : us[i]? = some x) : us.take (i + 1) = us.take i ++ [x] := by
  rw [List.take_add_one, h]; rfl
end Go.Proofs.Ytldjobaafambbaa

/- Numbers of any length: the mathematics. -/
namespace Go.Proofs.Ytldjobaafambbaa

/-- The bytes of a number; the first argument bounds how many steps are taken. -/
def encF : Nat → Nat → List Nat
  | 0, u => [u]
  | f + 1, u => if u < 128 then [u] else (u % 128 + 128) :: encF f (u / 128)
def enc (u : Nat) : List Nat := encF u u
theorem encF_any : ∀ (f g u : Nat), u ≤ f → u ≤ g → encF f u = encF g u := by
  intro f
  induction f with
  | zero =>
    intro g u h1 h2
    obtain rfl : u = 0 := by omega
    cases g with
    | zero => rfl
    | succ g => rfl
  | succ f ih =>
    intro g u h1 h2
    cases g with
    | zero =>
      obtain rfl : u = 0 := by omega
      rfl
    | succ g =>
      simp only [encF]
      by_cases h : u < 128
      · rw [if_pos h, if_pos h]
      · rw [if_neg h, if_neg h, ih g (u / 128) (by omega) (by omega)]
theorem enc_lt {u : Nat} (h : u < 128) : enc u = [u] := by
  unfold enc
  cases u with
  | zero => rfl
  | succ u => simp only [encF]; rw [if_pos h]
theorem enc_ge {u : Nat} (h : ¬ u < 128) : enc u = (u % 128 + 128) :: enc (u / 128) := by
  unfold enc
  cases u with
  | zero => omega
  | succ u =>
    simp only [encF]
    rw [if_neg h, encF_any u ((u + 1) / 128) ((u + 1) / 128) (by omega) (Nat.le_refl _)]
theorem enc_256 (u : Nat) : lt256 (enc u) := by
  induction u using Nat.strongRecOn with
  | ind u ih =>
    by_cases h : u < 128
    · rw [enc_lt h]; intro b hb; simp at hb; omega
    · rw [enc_ge h]; intro b hb
      simp at hb
      rcases hb with rfl | hb
      · omega
      · exact ih (u / 128) (by omega) b hb
theorem enc_pos (u : Nat) : 0 < (enc u).length := by
  by_cases h : u < 128
  · rw [enc_lt h]; simp
  · rw [enc_ge h]; simp
theorem enc_len (k : Nat) : ∀ u : Nat, u < 2 ^ (7 * (k + 1)) → (enc u).length ≤ k + 1 := by
  induction k with
  | zero => intro u hu; rw [enc_lt (by simpa using hu)]; simp
  | succ k ih =>
    intro u hu
    by_cases h : u < 128
    · rw [enc_lt h]; simp
    · rw [enc_ge h]
      have : u / 128 < 2 ^ (7 * (k + 1)) := by
        rw [show 7 * (k + 1 + 1) = 7 * (k + 1) + 7 by omega, Nat.pow_add] at hu
        exact Nat.div_lt_of_lt_mul (by omega)
      have := ih _ this
      simp
      omega
theorem enc_len10 {u : Nat} (h : u < 18446744073709551616) : (enc u).length ≤ 10 := enc_len 9 u (by omega)

/-- What is read from the i-th byte on, acc behind. -/
def decF : Nat → Nat → List Nat → Nat × Nat
  | _, _, [] => (0, 0)
  | i, acc, x :: xs =>
    if 10 ≤ i then (0, 0)
    else if 128 ≤ x then decF (i + 1) (acc + (x - 128) * 2 ^ (7 * i)) xs
    else if (i = 9 ∧ 2 ≤ x) ∨ (x = 0 ∧ 0 < i) then (0, 0)
    else (acc + x * 2 ^ (7 * i), i + 1)
def dec (bs : List Nat) : Nat × Nat := decF 0 0 bs

theorem decF_ten (acc : Nat) (bs : List Nat) (i : Nat) (h : 10 ≤ i) : decF i acc bs = (0, 0) := by
  cases bs with
  | nil => rfl
  | cons x xs => simp only [decF]; rw [if_pos h]
theorem decF_more {i acc x : Nat} {xs : List Nat} (h : i < 10) (hx : 128 ≤ x) : decF i acc (x :: xs) = decF (i + 1) (acc + (x - 128) * 2 ^ (7 * i)) xs := by
  simp only [decF]; rw [if_neg (by omega), if_pos hx]
theorem decF_bad {i acc x : Nat} {xs : List Nat} (h : i < 10) (hx : x < 128) (hb : (i = 9 ∧ 2 ≤ x) ∨ (x = 0 ∧ 0 < i)) : decF i acc (x :: xs) = (0, 0) := by
  simp only [decF]; rw [if_neg (by omega), if_neg (by omega), if_pos hb]
theorem decF_end {i acc x : Nat} {xs : List Nat} (h : i < 10) (hx : x < 128) (hb : ¬ ((i = 9 ∧ 2 ≤ x) ∨ (x = 0 ∧ 0 < i))) : decF i acc (x :: xs) = (acc + x * 2 ^ (7 * i), i + 1) := by
  simp only [decF]; rw [if_neg (by omega), if_neg (by omega), if_neg hb]

theorem pow7 (i : Nat) : (2 : Nat) ^ (7 * (i + 1)) = 128 * 2 ^ (7 * i) := by rw [show 7 * (i + 1) = 7 + 7 * i by omega, Nat.pow_add]
theorem acc_more {i acc x : Nat} (h : acc < 2 ^ (7 * i)) (hx : 128 ≤ x) (hx2 : x < 256) : acc + (x - 128) * 2 ^ (7 * i) < 2 ^ (7 * (i + 1)) := by
  rw [pow7]
  have : (x - 128) * 2 ^ (7 * i) ≤ 127 * 2 ^ (7 * i) := Nat.mul_le_mul_right _ (by omega)
  omega

/-- What is told is read as it was, whatever stands behind. -/
theorem decF_enc (rest : List Nat) : ∀ (v i acc : Nat), i ≤ 9 → v * 2 ^ (7 * i) < 18446744073709551616 → (0 < i → 0 < v) → decF i acc (enc v ++ rest) = (acc + v * 2 ^ (7 * i), i + (enc v).length) := by
  intro v
  induction v using Nat.strongRecOn with
  | ind v ih =>
    intro i acc hi hv h0
    by_cases h : v < 128
    · rw [enc_lt h, List.cons_append, decF_end (by omega) h]
      · rfl
      · rintro (⟨rfl, h2⟩ | ⟨h1, h2⟩)
        · have : 2 * 2 ^ (7 * 9) ≤ v * 2 ^ (7 * 9) := Nat.mul_le_mul_right _ h2
          omega
        · have := h0 h2; omega
    · rw [enc_ge h, List.cons_append, decF_more (by omega) (by omega)]
      have hi9 : i + 1 ≤ 9 := by
        rcases Nat.lt_or_ge i 9 with h9 | h9
        · exact h9
        · obtain rfl : i = 9 := by omega
          have : 128 * 2 ^ (7 * 9) ≤ v * 2 ^ (7 * 9) := Nat.mul_le_mul_right _ (by omega)
          omega
      have hv2 : v / 128 * 2 ^ (7 * (i + 1)) ≤ v * 2 ^ (7 * i) := by
        rw [pow7, ← Nat.mul_assoc]
        exact Nat.mul_le_mul_right _ (Nat.div_mul_le_self v 128)
      rw [ih (v / 128) (by omega) (i + 1) _ hi9 (by omega) (fun _ => by omega)]
      have e : v % 128 + 128 - 128 = v % 128 := by omega
      rw [e]
      refine Prod.ext ?_ ?_
      · show acc + v % 128 * 2 ^ (7 * i) + v / 128 * 2 ^ (7 * (i + 1)) = acc + v * 2 ^ (7 * i)
        have e3 : v % 128 + v / 128 * 128 = v := by omega
        rw [pow7, ← Nat.mul_assoc, Nat.add_assoc, ← Nat.add_mul, e3]
      · show i + 1 + _ = i + (_ :: _ : List Nat).length
        rw [List.length_cons]; omega
theorem dec_enc (v : Nat) (h : v < 18446744073709551616) (rest : List Nat) : dec (enc v ++ rest) = (v, (enc v).length) := by
  unfold dec
  rw [decF_enc rest v 0 0 (by omega) (by simpa using h) (by omega)]
  simp

/-- What is read is told in just those bytes. -/
theorem decF_some : ∀ (bs : List Nat) (i acc x j : Nat), lt256 bs → decF i acc bs = (x, j) → 0 < j → ∃ v k, x = acc + v * 2 ^ (7 * i) ∧ j = i + k ∧ 0 < k ∧ k ≤ bs.length ∧ enc v = bs.take k ∧ (0 < i → 0 < v) := by
  intro bs
  induction bs with
  | nil => intro i acc x j _ h hj; simp only [decF, Prod.mk.injEq] at h; omega
  | cons b bs ih =>
    intro i acc x j hlt h hj
    rw [lt256_cons] at hlt
    rcases Nat.lt_or_ge i 10 with hi | hi
    · rcases Nat.lt_or_ge b 128 with hb | hb
      · by_cases hbad : (i = 9 ∧ 2 ≤ b) ∨ (b = 0 ∧ 0 < i)
        · rw [decF_bad hi hb hbad] at h
          simp only [Prod.mk.injEq] at h
          omega
        · rw [decF_end hi hb hbad] at h
          simp only [Prod.mk.injEq] at h
          refine ⟨b, 1, h.1.symm, h.2.symm, by omega, by simp, by rw [enc_lt hb]; rfl, fun h0 => ?_⟩
          rcases Nat.eq_zero_or_pos b with hb0 | hb0
          · exact absurd (Or.inr ⟨hb0, h0⟩) hbad
          · exact hb0
      · rw [decF_more hi hb] at h
        obtain ⟨v, k, h1, h2, h3, h4, h5, h6⟩ := ih _ _ _ _ hlt.2 h hj
        have hv := h6 (by omega)
        refine ⟨b - 128 + 128 * v, k + 1, ?_, by omega, by omega, by simp; omega, ?_, fun _ => by omega⟩
        · rw [h1, pow7, Nat.add_mul, Nat.mul_comm 128 v, Nat.mul_assoc]; omega
        · rw [enc_ge (by omega)]
          have e1 : (b - 128 + 128 * v) % 128 + 128 = b := by have := hlt.1; omega
          have e2 : (b - 128 + 128 * v) / 128 = v := by have := hlt.1; omega
          rw [e1, e2, h5]
          rfl
    · rw [decF_ten _ _ _ hi] at h
      simp only [Prod.mk.injEq] at h
      omega
theorem dec_some {bs : List Nat} (hlt : lt256 bs) (hj : 0 < (dec bs).2) : (dec bs).2 ≤ bs.length ∧ enc (dec bs).1 = bs.take (dec bs).2 := by
  obtain ⟨v, k, h1, h2, h3, h4, h5, h6⟩ := decF_some bs 0 0 (dec bs).1 (dec bs).2 hlt rfl hj
  have e1 : (dec bs).1 = v := by simpa using h1
  have e2 : (dec bs).2 = k := by omega
  rw [e1, e2]
  exact ⟨h4, h5⟩
theorem decF_none : ∀ (bs : List Nat) (i acc : Nat), (decF i acc bs).2 = 0 → (decF i acc bs).1 = 0 := by
  intro bs
  induction bs with
  | nil => intro i acc _; rfl
  | cons b bs ih =>
    intro i acc h
    rcases Nat.lt_or_ge i 10 with hi | hi
    · rcases Nat.lt_or_ge b 128 with hb | hb
      · by_cases hbad : (i = 9 ∧ 2 ≤ b) ∨ (b = 0 ∧ 0 < i)
        · rw [decF_bad hi hb hbad]
        · rw [decF_end hi hb hbad] at h
          simp at h
      · rw [decF_more hi hb] at h ⊢
        exact ih _ _ h
    · rw [decF_ten _ _ _ hi]
theorem dec_none {bs : List Nat} (h : (dec bs).2 = 0) : (dec bs).1 = 0 := decF_none bs 0 0 h

theorem decF_lt : ∀ (bs : List Nat) (i acc : Nat), lt256 bs → acc < 2 ^ (7 * i) → (decF i acc bs).1 < 18446744073709551616 := by
  intro bs
  induction bs with
  | nil => intro i acc _ _; simp [decF]
  | cons b bs ih =>
    intro i acc hlt ha
    rw [lt256_cons] at hlt
    rcases Nat.lt_or_ge i 10 with hi | hi
    · rcases Nat.lt_or_ge b 128 with hb | hb
      · by_cases hbad : (i = 9 ∧ 2 ≤ b) ∨ (b = 0 ∧ 0 < i)
        · rw [decF_bad hi hb hbad]; simp
        · rw [decF_end hi hb hbad]
          show acc + b * 2 ^ (7 * i) < _
          rcases Nat.lt_or_ge i 9 with h9 | h9
          · have h1 : b * 2 ^ (7 * i) ≤ 127 * 2 ^ (7 * i) := Nat.mul_le_mul_right _ (by omega)
            have h2 : (2 : Nat) ^ (7 * i) ≤ 2 ^ 56 := Nat.pow_le_pow_right (by omega) (by omega)
            omega
          · obtain rfl : i = 9 := by omega
            have : b ≤ 1 := by
              rcases Nat.lt_or_ge b 2 with h | h
              · omega
              · exact absurd (Or.inl ⟨rfl, h⟩) hbad
            have h1 : b * 2 ^ (7 * 9) ≤ 1 * 2 ^ (7 * 9) := Nat.mul_le_mul_right _ this
            omega
      · rw [decF_more hi hb]
        exact ih _ _ hlt.2 (acc_more ha hb hlt.1)
    · rw [decF_ten _ _ _ hi]; simp
theorem dec_lt {bs : List Nat} (h : lt256 bs) : (dec bs).1 < 18446744073709551616 := decF_lt bs 0 0 h (by simp)
theorem decF_le : ∀ (bs : List Nat) (i acc : Nat), (decF i acc bs).2 ≤ 10 := by
  intro bs
  induction bs with
  | nil => intro i acc; simp [decF]
  | cons b bs ih =>
    intro i acc
    simp only [decF]
    split
    · simp
    · split
      · exact ih _ _
      · split
        · simp
        · simp; omega
theorem dec_le (bs : List Nat) : (dec bs).2 ≤ 10 := decF_le bs 0 0

/-- A number with a sign, without one; and back. -/
def zig (n : Int) : Int := if n < 0 then -2 * n - 1 else 2 * n
def zag (u : Int) : Int := if u % 2 = 1 then -(u / 2) - 1 else u / 2
theorem zag_zig (n : Int) : zag (zig n) = n := by unfold zag zig; split <;> split <;> omega
theorem zig_zag (u : Int) (h : 0 ≤ u) : zig (zag u) = u := by unfold zag zig; split <;> split <;> omega
theorem zig_fit {n : Int} (h1 : -9223372036854775808 ≤ n) (h2 : n ≤ 9223372036854775807) : 0 ≤ zig n ∧ zig n < 18446744073709551616 := by unfold zig; split <;> omega
theorem zag_fit {u : Int} (h1 : 0 ≤ u) (h2 : u < 18446744073709551616) : -9223372036854775808 ≤ zag u ∧ zag u ≤ 9223372036854775807 := by unfold zag; split <;> omega
theorem zig_up {n m : Int} (h : 0 ≤ n) (hm : n < m) : zig n < zig m := by unfold zig; split <;> split <;> omega
theorem zig_down {n m : Int} (h : n < 0) (hm : m < n) : zig n < zig m := by unfold zig; split <;> split <;> omega
end Go.Proofs.Ytldjobaafambbaa

/- Plain mathematics of a dictionary: the values that are unlike, each value's place among them; what is told, and that it is read back, and nothing else is. -/
namespace Go.Proofs.Ytldjobaafambbaa

/-- The values that are unlike, in the order in which each comes first, behind those that are there. -/
def uniqF : List Nat → List Nat → List Nat
  | acc, [] => acc
  | acc, x :: xs => if x ∈ acc then uniqF acc xs else uniqF (acc ++ [x]) xs
def uniq (v : List Nat) : List Nat := uniqF [] v
theorem uniqF_pre (v : List Nat) : ∀ acc, ∃ t, uniqF acc v = acc ++ t := by
  induction v with
  | nil => intro acc; exact ⟨[], by simp [uniqF]⟩
  | cons x xs ih =>
    intro acc
    unfold uniqF
    by_cases h : x ∈ acc
    · rw [if_pos h]; exact ih acc
    · rw [if_neg h]
      obtain ⟨t, ht⟩ := ih (acc ++ [x])
      exact ⟨[x] ++ t, by rw [ht, List.append_assoc]⟩
theorem uniqF_has (v : List Nat) : ∀ acc x, x ∈ acc ∨ x ∈ v → x ∈ uniqF acc v := by
  induction v with
  | nil => intro acc x h; exact h.elim id (fun h => by cases h)
  | cons y ys ih =>
    intro acc x h
    unfold uniqF
    by_cases hy : y ∈ acc
    · rw [if_pos hy]
      refine ih acc x ?_
      rcases h with h | h
      · exact .inl h
      · rcases List.mem_cons.1 h with rfl | h
        · exact .inl hy
        · exact .inr h
    · rw [if_neg hy]
      refine ih _ x ?_
      rcases h with h | h
      · exact .inl (List.mem_append_left _ h)
      · rcases List.mem_cons.1 h with rfl | h
        · exact .inl (by simp)
        · exact .inr h
theorem uniqF_of (v : List Nat) : ∀ acc x, x ∈ uniqF acc v → x ∈ acc ∨ x ∈ v := by
  induction v with
  | nil => intro acc x h; exact .inl h
  | cons y ys ih =>
    intro acc x h
    unfold uniqF at h
    by_cases hy : y ∈ acc
    · rw [if_pos hy] at h
      exact (ih acc x h).imp id (fun h => by simp [h])
    · rw [if_neg hy] at h
      rcases ih _ x h with h | h
      · rw [List.mem_append, List.mem_singleton] at h
        rcases h with h | rfl
        · exact .inl h
        · exact .inr (by simp)
      · exact .inr (by simp [h])
theorem uniqF_len (v : List Nat) : ∀ acc, acc.length ≤ (uniqF acc v).length ∧ (uniqF acc v).length ≤ acc.length + v.length := by
  induction v with
  | nil => intro acc; exact ⟨Nat.le_refl _, Nat.le_refl _⟩
  | cons x xs ih =>
    intro acc
    unfold uniqF
    by_cases h : x ∈ acc
    · rw [if_pos h]
      have := ih acc
      exact ⟨this.1, by rw [List.length_cons]; omega⟩
    · rw [if_neg h]
      have := ih (acc ++ [x])
      rw [List.length_append, List.length_singleton] at this
      exact ⟨by omega, by rw [List.length_cons]; omega⟩
theorem uniq_mem {v : List Nat} {x : Nat} (h : x ∈ v) : x ∈ uniq v := uniqF_has v [] x (.inr h)
theorem uniq_of {v : List Nat} {x : Nat} (h : x ∈ uniq v) : x ∈ v := (uniqF_of v [] x h).elim (fun h => by cases h) id
theorem uniq_le (v : List Nat) : (uniq v).length ≤ v.length := by have := (uniqF_len v []).2; rw [List.length_nil, Nat.zero_add] at this; exact this
theorem uniq_pos {v : List Nat} (h : v ≠ []) : 1 ≤ (uniq v).length := by
  cases v with
  | nil => exact absurd rfl h
  | cons x xs => exact List.length_pos_of_mem (uniq_mem (x := x) (by simp))
/-- Step by step: what the first i values have. -/
theorem uniq_snoc (v : List Nat) (x : Nat) : uniq (v ++ [x]) = if x ∈ uniq v then uniq v else uniq v ++ [x] := by
  have h : ∀ (v : List Nat) (acc : List Nat), uniqF acc (v ++ [x]) = if x ∈ uniqF acc v then uniqF acc v else uniqF acc v ++ [x] := by
    intro v
    induction v with
    | nil => intro acc; show (if x ∈ acc then uniqF acc [] else uniqF (acc ++ [x]) []) = _; rfl
    | cons y ys ih =>
      intro acc
      show (if y ∈ acc then uniqF acc (ys ++ [x]) else uniqF (acc ++ [y]) (ys ++ [x])) = _
      by_cases hy : y ∈ acc
      · have e : uniqF acc (y :: ys) = uniqF acc ys := by show (if y ∈ acc then _ else _) = _; rw [if_pos hy]
        rw [if_pos hy, ih acc, e]
      · have e : uniqF acc (y :: ys) = uniqF (acc ++ [y]) ys := by show (if y ∈ acc then _ else _) = _; rw [if_neg hy]
        rw [if_neg hy, ih (acc ++ [y]), e]
  exact h v []
theorem uniq_app (v u : List Nat) : ∃ t, uniq (v ++ u) = uniq v ++ t := by
  have h : ∀ (v : List Nat) (acc : List Nat), uniqF acc (v ++ u) = uniqF (uniqF acc v) u := by
    intro v
    induction v with
    | nil => intro acc; rfl
    | cons y ys ih =>
      intro acc
      show (if y ∈ acc then uniqF acc (ys ++ u) else uniqF (acc ++ [y]) (ys ++ u)) = uniqF (if y ∈ acc then uniqF acc ys else uniqF (acc ++ [y]) ys) u
      by_cases hy : y ∈ acc
      · rw [if_pos hy, if_pos hy, ih]
      · rw [if_neg hy, if_neg hy, ih]
  obtain ⟨t, ht⟩ := uniqF_pre u (uniq v)
  exact ⟨t, (h v []).trans ht⟩
/-- Where a value stands; as long as the row, where nowhere. -/
def plc (x : Nat) : List Nat → Nat
  | [] => 0
  | y :: ys => if y = x then 0 else plc x ys + 1
theorem plc_le (x : Nat) (l : List Nat) : plc x l ≤ l.length := by
  induction l with
  | nil => exact Nat.le_refl _
  | cons y ys ih =>
    unfold plc
    split
    · omega
    · rw [List.length_cons]; omega
theorem plc_lt {x : Nat} {l : List Nat} (h : x ∈ l) : plc x l < l.length := by
  induction l with
  | nil => cases h
  | cons y ys ih =>
    unfold plc
    split
    · rw [List.length_cons]; omega
    · rename_i hy
      rcases List.mem_cons.1 h with rfl | h
      · exact absurd rfl hy
      · have := ih h
        rw [List.length_cons]
        omega
theorem plc_get {x : Nat} {l : List Nat} (h : x ∈ l) : l[plc x l]? = some x := by
  induction l with
  | nil => cases h
  | cons y ys ih =>
    unfold plc
    split
    · rename_i hy; subst hy; rfl
    · rename_i hy
      rcases List.mem_cons.1 h with rfl | h
      · exact absurd rfl hy
      · rw [List.getElem?_cons_succ]; exact ih h
theorem plc_first {x j : Nat} {l : List Nat} (h : j < plc x l) : l[j]? ≠ some x := by
  induction l generalizing j with
  | nil => exact absurd h (Nat.not_lt_zero _)
  | cons y ys ih =>
    unfold plc at h
    split at h
    · omega
    · rename_i hy
      cases j with
      | zero => rw [List.getElem?_cons_zero]; intro e; injection e with e; exact hy e
      | succ j => rw [List.getElem?_cons_succ]; exact ih (by omega)
/-- Where the j-th is the value and none ahead of it, it stands at j. -/
theorem plc_is {x j : Nat} {l : List Nat} (hj : l[j]? = some x) (hl : ∀ i, i < j → l[i]? ≠ some x) : plc x l = j := by
  rcases Nat.lt_trichotomy (plc x l) j with h | h | h
  · exact absurd (plc_get (List.mem_iff_getElem?.2 ⟨j, hj⟩)) (hl _ h)
  · exact h
  · exact absurd hj (plc_first h)
theorem plc_none {x : Nat} {l : List Nat} (h : x ∉ l) : plc x l = l.length := by
  induction l with
  | nil => rfl
  | cons y ys ih =>
    unfold plc
    rw [if_neg (fun e => h (by simp [e])), ih (fun h2 => h (by simp [h2])), List.length_cons]
theorem plc_app {x : Nat} {l : List Nat} (h : x ∈ l) (t : List Nat) : plc x (l ++ t) = plc x l := by
  induction l with
  | nil => cases h
  | cons y ys ih =>
    show (if y = x then 0 else plc x (ys ++ t) + 1) = if y = x then 0 else plc x ys + 1
    by_cases hy : y = x
    · rw [if_pos hy, if_pos hy]
    · rw [if_neg hy, if_neg hy]
      rcases List.mem_cons.1 h with rfl | h
      · exact absurd rfl hy
      · rw [ih h]
/-- Numbers one behind the other. -/
def encV : List Nat → List Nat
  | [] => []
  | x :: xs => enc x ++ encV xs
theorem encV_app (a b : List Nat) : encV (a ++ b) = encV a ++ encV b := by
  induction a with
  | nil => rfl
  | cons x xs ih => show enc x ++ encV (xs ++ b) = (enc x ++ encV xs) ++ encV b; rw [ih, List.append_assoc]
theorem encV_256 (l : List Nat) : lt256 (encV l) := by
  induction l with
  | nil => exact lt256_nil
  | cons x xs ih => intro b hb; exact (List.mem_append.1 hb).elim (enc_256 x b) (ih b)
theorem encV_len {l : List Nat} (h : ∀ x ∈ l, x < 2 ^ 64) : (encV l).length ≤ 10 * l.length := by
  induction l with
  | nil => exact Nat.le_refl _
  | cons x xs ih =>
    have h1 := enc_len10 (u := x) (h x (by simp))
    have h2 := ih (fun y hy => h y (by simp [hy]))
    show (enc x ++ encV xs).length ≤ 10 * (xs.length + 1)
    rw [List.length_append]
    omega
/-- k numbers off the beginning. -/
def rdV : Nat → List Nat → Option (List Nat × List Nat)
  | 0, b => some ([], b)
  | k + 1, b => if (dec b).2 = 0 then none else (rdV k (b.drop (dec b).2)).map fun p => ((dec b).1 :: p.1, p.2)
theorem rdV_enc (l rest : List Nat) (h : ∀ x ∈ l, x < 2 ^ 64) : rdV l.length (encV l ++ rest) = some (l, rest) := by
  induction l with
  | nil => rfl
  | cons x xs ih =>
    have hd := dec_enc x (h x (by simp)) (encV xs ++ rest)
    have e : encV (x :: xs) ++ rest = enc x ++ (encV xs ++ rest) := by show (enc x ++ encV xs) ++ rest = _; rw [List.append_assoc]
    rw [e]
    show (if (dec (enc x ++ (encV xs ++ rest))).2 = 0 then none else _) = _
    have hp := enc_pos x
    rw [hd]
    simp only
    rw [if_neg (by omega), List.drop_left, ih (fun y hy => h y (by simp [hy]))]
    rfl
theorem rdV_some (k : Nat) : ∀ (b l rest : List Nat), lt256 b → rdV k b = some (l, rest) → l.length = k ∧ (∀ x ∈ l, x < 2 ^ 64) ∧ lt256 rest ∧ b = encV l ++ rest := by
  induction k with
  | zero =>
    intro b l rest hlt h
    injection h with h
    injection h with h1 h2
    subst h1 h2
    exact ⟨rfl, (fun _ h => by cases h), hlt, rfl⟩
  | succ k ih =>
    intro b l rest hlt h
    have e : rdV (k + 1) b = if (dec b).2 = 0 then none else (rdV k (b.drop (dec b).2)).map fun p => ((dec b).1 :: p.1, p.2) := rfl
    rw [e] at h
    split at h
    · cases h
    · rename_i h0
      obtain ⟨⟨l', r'⟩, h1, h2⟩ := Option.map_eq_some_iff.1 h
      injection h2 with h2 h3
      subst h2 h3
      obtain ⟨a1, a2, a3, a4⟩ := ih _ _ _ (fun b hb => hlt b (List.mem_of_mem_drop hb)) h1
      have hs := dec_some hlt (by omega)
      refine ⟨by rw [List.length_cons, a1], fun x hx => ?_, a3, ?_⟩
      · rcases List.mem_cons.1 hx with rfl | hx
        · exact dec_lt hlt
        · exact a2 x hx
      · show b = (enc (dec b).1 ++ encV l') ++ r'
        rw [List.append_assoc, ← a4, hs.2, List.take_append_drop]
/-- Encode. -/
def atD (v : List Nat) : List Nat := v.map fun x => plc x (uniq v)
def encD (v : List Nat) : Option (List Nat) :=
  if 256 < (uniq v).length then none
  else if v = [] then some []
  else some (enc (uniq v).length ++ (encV (uniq v) ++ packW (wid ((uniq v).length - 1)) (atD v)))
theorem encD_nil : encD [] = some [] := rfl
theorem encD_many {v : List Nat} (h : 256 < (uniq v).length) : encD v = none := by unfold encD; rw [if_pos h]
theorem encD_cons {v : List Nat} (h : v ≠ []) (hu : ¬ 256 < (uniq v).length) : encD v = some (enc (uniq v).length ++ (encV (uniq v) ++ packW (wid ((uniq v).length - 1)) (atD v))) := by
  unfold encD
  rw [if_neg hu, if_neg h]
theorem atD_lt {v : List Nat} (hu : (uniq v).length ≤ 256) : ∀ x ∈ atD v, x < 2 ^ wid ((uniq v).length - 1) := by
  intro x hx
  obtain ⟨y, hy, rfl⟩ := List.mem_map.1 hx
  have := plc_lt (uniq_mem hy)
  exact wid_mono (by omega) (by omega)
theorem atD_len (v : List Nat) : (atD v).length = v.length := by simp [atD]
theorem encD_256 {v b : List Nat} (h : encD v = some b) : lt256 b := by
  unfold encD at h
  split at h
  · cases h
  · split at h
    · injection h with h; subst h; exact lt256_nil
    · injection h with h
      subst h
      intro x hx
      rw [List.mem_append, List.mem_append] at hx
      rcases hx with hx | hx | hx
      · exact enc_256 _ x hx
      · exact encV_256 _ x hx
      · exact packW_256 _ _ x hx
theorem encD_len {v b : List Nat} (hv : ∀ x ∈ v, x < 2 ^ 64) (h : encD v = some b) : b.length ≤ 2580 + 8 * v.length := by
  unfold encD at h
  split at h
  · cases h
  · rename_i hu
    split at h
    · injection h with h; subst h; exact Nat.zero_le _
    · injection h with h
      subst h
      rw [List.length_append, List.length_append, packW_len, atD_len]
      have h1 := enc_len10 (u := (uniq v).length) (by omega)
      have h2 := encV_len (l := uniq v) (fun x hx => hv x (uniq_of hx))
      have h3 := Nat.mul_le_mul_right v.length (wid_le ((uniq v).length - 1))
      omega
/-- What bytes are read as: words by their places. -/
def outD (words at_ : List Nat) : List Nat := at_.map fun j => words.getD j 0
def decD (n : Nat) (b : List Nat) : Option (List Nat) :=
  if n = 0 then (if b = [] then some [] else none)
  else if (dec b).2 = 0 ∨ (dec b).1 = 0 ∨ 256 < (dec b).1 then none
  else match rdV (dec b).1 (b.drop (dec b).2) with
    | none => none
    | some (words, rest) =>
      if ∃ j ∈ rdW (wid ((dec b).1 - 1)) n (some (val rest, 8 * rest.length)), (dec b).1 ≤ j then none
      else if encD (outD words (rdW (wid ((dec b).1 - 1)) n (some (val rest, 8 * rest.length)))) = some b then some (outD words (rdW (wid ((dec b).1 - 1)) n (some (val rest, 8 * rest.length))))
      else none
theorem outD_back {v : List Nat} : outD (uniq v) (atD v) = v := by
  unfold outD atD
  rw [List.map_map]
  conv => rhs; rw [← List.map_id v]
  apply List.map_congr_left
  intro x hx
  show (uniq v).getD (plc x (uniq v)) 0 = x
  rw [List.getD_eq_getElem?_getD, plc_get (uniq_mem hx)]
  rfl
theorem decD_of {v b : List Nat} (hv : ∀ x ∈ v, x < 2 ^ 64) (hb : encD v = some b) : decD v.length b = some v := by
  by_cases h : v = []
  · subst h
    rw [encD_nil] at hb
    injection hb with hb
    subst hb
    rfl
  · have hl : ¬ v.length = 0 := fun e => h (List.eq_nil_of_length_eq_zero e)
    have hu : ¬ 256 < (uniq v).length := by
      intro hu
      rw [encD_many hu] at hb
      cases hb
    have hb2 := hb
    rw [encD_cons h hu] at hb2
    injection hb2 with hb2
    have hp := uniq_pos h
    have hd := dec_enc (uniq v).length (by omega) (encV (uniq v) ++ packW (wid ((uniq v).length - 1)) (atD v))
    rw [hb2] at hd
    have hep := enc_pos (uniq v).length
    have hdr : b.drop (enc (uniq v).length).length = encV (uniq v) ++ packW (wid ((uniq v).length - 1)) (atD v) := by rw [← hb2, List.drop_left]
    have hrd := rdV_enc (uniq v) (packW (wid ((uniq v).length - 1)) (atD v)) (fun x hx => hv x (uniq_of hx))
    have hrw := rdW_packW (atD_lt (v := v) (by omega))
    rw [atD_len] at hrw
    unfold decD
    rw [if_neg hl, hd]
    simp only
    rw [if_neg (by rintro (e | e | e) <;> omega), hdr, hrd]
    simp only
    rw [hrw, if_neg, outD_back, if_pos hb]
    rintro ⟨j, hj, hj2⟩
    obtain ⟨x, hx, rfl⟩ := List.mem_map.1 hj
    have := plc_lt (uniq_mem hx)
    omega
theorem decD_some {n : Nat} {b v : List Nat} (hlt : lt256 b) (h : decD n b = some v) : v.length = n ∧ (∀ x ∈ v, x < 2 ^ 64) ∧ encD v = some b := by
  unfold decD at h
  split at h
  · rename_i hn
    split at h
    · rename_i hb
      injection h with h
      subst h hb hn
      exact ⟨rfl, (fun _ h => by cases h), rfl⟩
    · cases h
  · split at h
    · cases h
    · split at h
      · cases h
      · rename_i words rest hr
        obtain ⟨w1, w2, _, _⟩ := rdV_some _ _ _ _ (fun x hx => hlt x (List.mem_of_mem_drop hx)) hr
        split at h
        · cases h
        · rename_i hj
          split at h
          · rename_i he
            injection h with h
            subst h
            refine ⟨by unfold outD; rw [List.length_map, rdW_len], fun x hx => ?_, he⟩
            obtain ⟨j, hj1, rfl⟩ := List.mem_map.1 hx
            have hjl : j < words.length := by
              rcases Nat.lt_or_ge j words.length with h | h
              · exact h
              · exact absurd ⟨j, hj1, by omega⟩ hj
            show words.getD j 0 < 2 ^ 64
            rw [List.getD_eq_getElem?_getD, List.getElem?_eq_getElem hjl]
            exact w2 _ (List.getElem_mem hjl)
          · cases h
theorem decD_iff {n : Nat} {b v : List Nat} (hlt : lt256 b) : decD n b = some v ↔ v.length = n ∧ (∀ x ∈ v, x < 2 ^ 64) ∧ encD v = some b := by
  refine ⟨decD_some hlt, ?_⟩
  rintro ⟨rfl, h2, h3⟩
  exact decD_of h2 h3
/-- What is there already adds nothing. -/
theorem uniqF_in (u : List Nat) : ∀ acc, (∀ x ∈ u, x ∈ acc) → uniqF acc u = acc := by
  induction u with
  | nil => intro acc _; rfl
  | cons y ys ih =>
    intro acc h
    show (if y ∈ acc then uniqF acc ys else _) = acc
    rw [if_pos (h y (by simp))]
    exact ih acc (fun x hx => h x (by simp [hx]))
theorem uniqF_app (v u : List Nat) : ∀ acc, uniqF acc (v ++ u) = uniqF (uniqF acc v) u := by
  induction v with
  | nil => intro acc; rfl
  | cons y ys ih =>
    intro acc
    show (if y ∈ acc then uniqF acc (ys ++ u) else uniqF (acc ++ [y]) (ys ++ u)) = uniqF (if y ∈ acc then uniqF acc ys else uniqF (acc ++ [y]) ys) u
    by_cases hy : y ∈ acc
    · rw [if_pos hy, if_pos hy, ih]
    · rw [if_neg hy, if_neg hy, ih]
/-- Values of which each is another are their own list. -/
theorem uniqF_apart (v : List Nat) : ∀ acc, (∀ x ∈ v, x ∉ acc) → v.Nodup → uniqF acc v = acc ++ v := by
  induction v with
  | nil => intro acc _ _; show acc = acc ++ []; rw [List.append_nil]
  | cons y ys ih =>
    intro acc h hn
    obtain ⟨h1, h2⟩ := List.nodup_cons.1 hn
    show (if y ∈ acc then _ else uniqF (acc ++ [y]) ys) = _
    rw [if_neg (h y (by simp)), ih (acc ++ [y]) (fun x hx hm => ?_) h2, List.append_assoc]
    · rfl
    · rw [List.mem_append, List.mem_singleton] at hm
      rcases hm with hm | rfl
      · exact h x (by simp [hx]) hm
      · exact h1 hx
/-- A row again and again: DictMany's. -/
def rowM (n : Nat) : List Nat := (List.range n).map fun i => i * 3
def manyM (n t : Nat) : List Nat := (List.replicate t (rowM n)).flatten
theorem rowM_len (n : Nat) : (rowM n).length = n := by simp [rowM]
theorem rowM_snoc (n : Nat) : rowM (n + 1) = rowM n ++ [n * 3] := by simp [rowM, List.range_succ]
theorem rowM_lt {n x : Nat} (h : x ∈ rowM n) : x < 3 * n := by
  obtain ⟨i, hi, rfl⟩ := List.mem_map.1 h
  rw [List.mem_range] at hi
  omega
theorem rowM_nodup (n : Nat) : (rowM n).Nodup := by
  induction n with
  | zero => exact List.nodup_nil
  | succ n ih =>
    rw [rowM_snoc, List.nodup_append]
    refine ⟨ih, by simp, fun a ha b hb => ?_⟩
    rw [List.mem_singleton] at hb
    have := rowM_lt ha
    omega
theorem manyM_zero (n : Nat) : manyM n 0 = [] := rfl
theorem manyM_succ (n t : Nat) : manyM n (t + 1) = manyM n t ++ rowM n := by
  unfold manyM
  rw [List.replicate_succ', List.flatten_append]
  simp
theorem manyM_len (n t : Nat) : (manyM n t).length = t * n := by
  induction t with
  | zero => simp [manyM]
  | succ t ih => rw [manyM_succ, List.length_append, ih, rowM_len, Nat.succ_mul]
theorem manyM_lt {n t x : Nat} (h : x ∈ manyM n t) : x < 3 * n := by
  induction t with
  | zero => cases h
  | succ t ih =>
    rw [manyM_succ] at h
    exact (List.mem_append.1 h).elim ih rowM_lt
theorem uniq_many (n t : Nat) (ht : 1 ≤ t) : uniq (manyM n t) = rowM n := by
  induction t with
  | zero => omega
  | succ t ih =>
    rw [manyM_succ]
    show uniqF [] (manyM n t ++ rowM n) = _
    rw [uniqF_app]
    rcases Nat.eq_zero_or_pos t with h0 | h0
    · subst h0
      show uniqF [] (rowM n) = _
      rw [uniqF_apart _ _ (fun _ _ h => by cases h) (rowM_nodup n)]
      rfl
    · have e : uniqF [] (manyM n t) = rowM n := ih h0
      rw [e]
      exact uniqF_in _ _ (fun _ h => h)
/-- What DictMany's rows are told in. -/
theorem encD_manyM {n t : Nat} (hn : 1 ≤ n) (h : n ≤ 256) (ht : 1 ≤ t) : encD (manyM n t) = some ((enc n ++ encV (rowM n)) ++ packW (wid (n - 1)) (atD (manyM n t))) := by
  have hne : manyM n t ≠ [] := by
    intro e
    have := manyM_len n t
    rw [e] at this
    have h2 : 1 ≤ t * n := Nat.mul_le_mul ht hn
    have h3 : 0 = t * n := this
    omega
  rw [encD_cons hne (by rw [uniq_many n t ht, rowM_len]; omega), uniq_many n t ht, rowM_len, List.append_assoc]
theorem encD_manyM_none {n t : Nat} (h : 256 < n) (ht : 1 ≤ t) : encD (manyM n t) = none := encD_many (by rw [uniq_many n t ht, rowM_len]; exact h)
theorem manyM_packed (n t : Nat) (w : Nat) : (packW w (atD (manyM n t))).length = (w * (manyM n t).length + 7) / 8 := by rw [packW_len, atD_len]
end Go.Proofs.Ytldjobaafambbaa

namespace Go.Proofs.Ytldjobaafambbaa

theorem val_append (as' bs : List Nat) : val (as' ++ bs) = val as' * 256 ^ bs.length + val bs := by
  induction as' with
  | nil => simp [val]
  | cons a as' ih =>
    rw [List.cons_append, val_cons, val_cons, ih, List.length_append, Nat.pow_add, Nat.add_mul, Nat.mul_assoc]
    omega
/-- The bit of a row of bytes that has r bits from it on. -/
theorem bit_at (bs : List Nat) (n a r b : Nat) (hn : bs.length = n) (hr : 0 < r) (ha : a + r = 8 * n) (hlt : lt256 bs) (hb : bs[a / 8]? = some b) :
    val bs % 2 ^ r / 2 ^ (r - 1) = b / 2 ^ (7 - a % 8) % 2 := by
  have hj : a / 8 < bs.length := (List.getElem?_eq_some_iff.1 hb).1
  have e0 : bs = bs.take (a / 8) ++ b :: bs.drop (a / 8 + 1) := by
    rw [← (List.getElem?_eq_some_iff.1 hb).2, List.getElem_cons_drop, List.take_append_drop]
  have hl : (bs.drop (a / 8 + 1)).length = n - (a / 8 + 1) := by rw [List.length_drop, hn]
  have hlt2 : lt256 (bs.drop (a / 8 + 1)) := fun x hx => hlt x (List.mem_of_mem_drop hx)
  have hv := val_lt hlt2
  have e1 : (2 : Nat) ^ r = 2 ^ (r - 1) * 2 ^ 1 := by rw [← Nat.pow_add]; congr 1; omega
  have e2 : (2 : Nat) ^ (r - 1) = 2 ^ (8 * (bs.drop (a / 8 + 1)).length) * 2 ^ (7 - a % 8) := by rw [← Nat.pow_add]; congr 1; rw [hl]; omega
  rw [e1, Nat.mod_mul_right_div_self, Nat.pow_one, e2, ← Nat.div_div_eq_div_mul]
  generalize hpre : bs.take (a / 8) = pre at *
  generalize hpost : bs.drop (a / 8 + 1) = post at *
  rw [e0, val_append, val_cons, List.length_cons, pow_256, pow_256]
  have e3 : (val pre * 2 ^ (8 * (post.length + 1)) + (b * 2 ^ (8 * post.length) + val post)) / 2 ^ (8 * post.length) = val pre * 256 + b := by
    rw [show (2 : Nat) ^ (8 * (post.length + 1)) = 256 * 2 ^ (8 * post.length) by rw [Nat.mul_add, Nat.pow_add, Nat.mul_comm], ← Nat.mul_assoc, ← Nat.add_assoc, ← Nat.add_mul, Nat.mul_comm, Nat.mul_add_div (Nat.two_pow_pos _), Nat.div_eq_of_lt hv, Nat.add_zero]
  rw [e3]
  have e4 : (256 : Nat) = 2 ^ (7 - a % 8) * (2 ^ (a % 8) * 2) := by rw [← Nat.pow_succ, ← Nat.pow_add, show 7 - a % 8 + (a % 8).succ = 8 by omega]
  rw [e4, Nat.mul_left_comm, Nat.mul_add_div (Nat.two_pow_pos _), ← Nat.mul_assoc, Nat.mul_comm _ 2, Nat.mul_add_mod]
end Go.Proofs.Ytldjobaafambbaa
