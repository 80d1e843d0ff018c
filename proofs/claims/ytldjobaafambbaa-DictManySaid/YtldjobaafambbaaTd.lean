/- Plain mathematics of times by their differences: what a reader's bits are, and that they are what was told. -/
import Derived.Test.YtldjobaafambbaaBitm
namespace Go.Proofs.Ytldjobaafambbaa

def M64 : Nat := 18446744073709551616
def H63 : Nat := 9223372036854775808
theorem M64_eq : M64 = 2 * H63 := rfl
theorem H63_pos : 0 < H63 := by decide
theorem M64_pow : M64 = 2 ^ 64 := by decide
theorem H63_pow : H63 = 2 ^ 63 := by decide
/-- A number of 64 bits, as one with a sign; and back. -/
def sg (u : Nat) : Int := if u < H63 then (u : Int) else (u : Int) - (M64 : Int)
def un (x : Int) : Nat := (x % (M64 : Int)).toNat
def Fits (x : Int) : Prop := -(H63 : Int) ≤ x ∧ x < (H63 : Int)
theorem un_lt (x : Int) : un x < M64 := by
  have h1 := Int.emod_nonneg x (show (M64 : Int) ≠ 0 by decide)
  have h2 := Int.emod_lt_of_pos x (show (0 : Int) < (M64 : Int) by decide)
  unfold un
  omega
theorem sg_fits {u : Nat} (h : u < M64) : Fits (sg u) := by
  have := M64_eq
  unfold sg Fits
  split <;> omega
theorem un_sg {u : Nat} (h : u < M64) : un (sg u) = u := by
  have e := M64_eq
  have hp := H63_pos
  unfold sg un
  split
  · rw [Int.emod_eq_of_lt (by omega) (by omega)]
    omega
  · have : ((u : Int) - (M64 : Int)) % (M64 : Int) = (u : Int) := by
      rw [Int.sub_emod, Int.emod_self, Int.sub_zero, Int.emod_emod, Int.emod_eq_of_lt (by omega) (by omega)]
    rw [this]
    omega
theorem sg_un {x : Int} (h : Fits x) : sg (un x) = x := by
  have e := M64_eq
  obtain ⟨h1, h2⟩ := h
  rcases Int.lt_or_le x 0 with h0 | h0
  · have : x % (M64 : Int) = x + (M64 : Int) := by
      rw [← Int.add_emod_right, Int.emod_eq_of_lt (by omega) (by omega)]
    unfold sg un
    rw [this]
    rw [if_neg (by omega)]
    omega
  · have : x % (M64 : Int) = x := Int.emod_eq_of_lt (by omega) (by omega)
    unfold sg un
    rw [this]
    rw [if_pos (by omega)]
    omega
theorem un_nat {u : Nat} (h : u < M64) : un (u : Int) = u := by
  unfold un
  rw [Int.emod_eq_of_lt (by omega) (by omega)]
  omega

/-- How many bits a difference has; its head, and how many bits that has. -/
def kindN (d : Int) : Nat := if d = 0 then 0 else if -64 ≤ d ∧ d < 64 then 7 else if -256 ≤ d ∧ d < 256 then 9 else if -2048 ≤ d ∧ d < 2048 then 12 else 64
def headN (d : Int) : Nat := if d = 0 then 0 else if -64 ≤ d ∧ d < 64 then 2 else if -256 ≤ d ∧ d < 256 then 6 else if -2048 ≤ d ∧ d < 2048 then 14 else 15
def longN (d : Int) : Nat := if d = 0 then 1 else if -64 ≤ d ∧ d < 64 then 2 else if -256 ≤ d ∧ d < 256 then 3 else 4
/-- The same by how many 1s the head has. -/
def sz (h : Nat) : Nat := if h = 0 then 0 else if h = 1 then 7 else if h = 2 then 9 else if h = 3 then 12 else 64

/-- k bits off what a reader has left. -/
def takeB (k R rem : Nat) : Option (Nat × Nat × Nat) := if k ≤ rem then some (R / 2 ^ (rem - k), R % 2 ^ (rem - k), rem - k) else none
def rdHead : Nat → Nat → Nat → Nat → Option (Nat × Nat × Nat)
  | 0, h, R, rem => some (h, R, rem)
  | f + 1, h, R, rem =>
    match takeB 1 R rem with
    | none => none
    | some (b, R1, rem1) => if b = 1 then rdHead f (h + 1) R1 rem1 else some (h, R1, rem1)
/-- The lowest n bits of a number, as one with a sign. -/
def sgn (n u : Nat) : Int := if n = 64 then sg u else if 0 < n ∧ u / 2 ^ (n - 1) % 2 = 1 then (u : Int) - (2 : Int) ^ n else (u : Int)
def rdDiff (R rem : Nat) : Option (Int × Nat × Nat) :=
  match rdHead 4 0 R rem with
  | none => none
  | some (h, R1, rem1) =>
    match takeB (sz h) R1 rem1 with
    | none => none
    | some (u, R2, rem2) => if kindN (sgn (sz h) u) = sz h then some (sgn (sz h) u, R2, rem2) else none
def nextL (last : Nat) (d : Int) : Nat := (last + un d) % M64
def nextX (prev : Int) (last : Nat) : Int := sg ((un prev + last) % M64)
/-- k times more, behind 'prev' and its difference 'last'. -/
def rdTimes : Nat → Int → Nat → Nat → Nat → Option (List Int × Nat × Nat)
  | 0, _, _, R, rem => some ([], R, rem)
  | k + 1, prev, last, R, rem =>
    match rdDiff R rem with
    | none => none
    | some (d, R1, rem1) => (rdTimes k (nextX prev (nextL last d)) (nextL last d) R1 rem1).map fun p => (nextX prev (nextL last d) :: p.1, p.2)
def rdRow : Nat → Nat → Nat → Option (List Int × Nat × Nat)
  | 0, R, rem => some ([], R, rem)
  | n + 1, R, rem =>
    match takeB 64 R rem with
    | none => none
    | some (u, R1, rem1) => (rdTimes n (sg u) 0 R1 rem1).map fun p => (sg u :: p.1, p.2)

/-- Fields: numbers, and in how many bits. -/
def flen : List (Nat × Nat) → Nat
  | [] => 0
  | (_, w) :: fs => w + flen fs
def fnum : List (Nat × Nat) → Nat
  | [] => 0
  | (v, w) :: fs => v % 2 ^ w * 2 ^ flen fs + fnum fs
theorem fnum_lt (fs : List (Nat × Nat)) : fnum fs < 2 ^ flen fs := by
  induction fs with
  | nil => show 0 < 1; omega
  | cons f fs ih =>
    obtain ⟨v, w⟩ := f
    show v % 2 ^ w * 2 ^ flen fs + fnum fs < 2 ^ (w + flen fs)
    have h1 : v % 2 ^ w + 1 ≤ 2 ^ w := Nat.mod_lt _ (Nat.two_pow_pos w)
    have h2 := Nat.mul_le_mul_right (2 ^ flen fs) h1
    rw [Nat.pow_add]
    rw [Nat.add_mul, Nat.one_mul] at h2
    omega
theorem flen_app (as' bs : List (Nat × Nat)) : flen (as' ++ bs) = flen as' + flen bs := by
  induction as' with
  | nil => show flen bs = 0 + flen bs; omega
  | cons a as' ih => show a.2 + flen (as' ++ bs) = a.2 + flen as' + flen bs; omega
theorem fnum_app (as' bs : List (Nat × Nat)) : fnum (as' ++ bs) = fnum as' * 2 ^ flen bs + fnum bs := by
  induction as' with
  | nil => show fnum bs = 0 * _ + fnum bs; omega
  | cons a as' ih =>
    show a.1 % 2 ^ a.2 * 2 ^ flen (as' ++ bs) + fnum (as' ++ bs) = (a.1 % 2 ^ a.2 * 2 ^ flen as' + fnum as') * 2 ^ flen bs + fnum bs
    rw [ih, flen_app, Nat.pow_add, Nat.add_mul, Nat.mul_assoc, Nat.add_assoc]
/-- What lies ahead is taken off. -/
theorem takeB_of {k v X r rem : Nat} (_hv : v < 2 ^ k) (hX : X < 2 ^ r) (hr : rem = k + r) : takeB k (v * 2 ^ r + X) rem = some (v, X, r) := by
  subst hr
  unfold takeB
  rw [if_pos (by omega), Nat.add_sub_cancel_left, Nat.mul_comm v, Nat.mul_add_div (Nat.two_pow_pos r), Nat.div_eq_of_lt hX, Nat.mul_add_mod, Nat.mod_eq_of_lt hX, Nat.add_zero]
theorem takeB_field {v w X r rem : Nat} {fs : List (Nat × Nat)} (hX : X < 2 ^ r) (hr : rem = w + flen fs + r) : takeB w (fnum ((v, w) :: fs) * 2 ^ r + X) rem = some (v % 2 ^ w, fnum fs * 2 ^ r + X, flen fs + r) := by
  have h2 := fnum_lt fs
  have h3 : fnum fs * 2 ^ r + X < 2 ^ (flen fs + r) := by
    have h4 : (fnum fs + 1) * 2 ^ r ≤ 2 ^ flen fs * 2 ^ r := Nat.mul_le_mul_right _ h2
    rw [Nat.pow_add]
    rw [Nat.add_mul, Nat.one_mul] at h4
    omega
  have e : fnum ((v, w) :: fs) * 2 ^ r + X = v % 2 ^ w * 2 ^ (flen fs + r) + (fnum fs * 2 ^ r + X) := by
    show (v % 2 ^ w * 2 ^ flen fs + fnum fs) * 2 ^ r + X = _
    rw [Nat.add_mul, Nat.mul_assoc, ← Nat.pow_add, Nat.add_assoc]
  rw [e]
  exact takeB_of (Nat.mod_lt _ (Nat.two_pow_pos w)) h3 (by omega)

/-- The five heads. -/
def hv (h : Nat) : Nat := if h = 0 then 0 else if h = 1 then 2 else if h = 2 then 6 else if h = 3 then 14 else 15
def hw (h : Nat) : Nat := if h = 0 then 1 else if h = 1 then 2 else if h = 2 then 3 else 4
theorem rdHead_of {h X r rem : Nat} (hh : h ≤ 4) (hX : X < 2 ^ r) (hr : rem = hw h + r) : rdHead 4 0 (hv h * 2 ^ r + X) rem = some (h, X, r) := by
  subst hr
  have p1 : 2 ^ (1 + r) = 2 * 2 ^ r := by rw [Nat.pow_add]
  have p2 : 2 ^ (2 + r) = 4 * 2 ^ r := by rw [Nat.pow_add]
  have p3 : 2 ^ (3 + r) = 8 * 2 ^ r := by rw [Nat.pow_add]
  have hh' : h = 0 ∨ h = 1 ∨ h = 2 ∨ h = 3 ∨ h = 4 := by omega
  rcases hh' with rfl | rfl | rfl | rfl | rfl
  · have e : takeB 1 (0 * 2 ^ r + X) (1 + r) = some (0, X, r) := takeB_of (by decide) hX rfl
    show (match takeB 1 (0 * 2 ^ r + X) (1 + r) with | none => none | some (b, R1, rem1) => if b = 1 then rdHead 3 1 R1 rem1 else some (0, R1, rem1)) = _
    rw [e]; rfl
  · have e1 : takeB 1 (2 * 2 ^ r + X) (2 + r) = some (1, X, 1 + r) := by
      have := takeB_of (k := 1) (v := 1) (X := X) (r := 1 + r) (rem := 2 + r) (by decide) (by omega) (by omega)
      rwa [p1, Nat.one_mul] at this
    have e2 : takeB 1 X (1 + r) = some (0, X, r) := by
      have := takeB_of (k := 1) (v := 0) (X := X) (r := r) (rem := 1 + r) (by decide) hX rfl
      rwa [Nat.zero_mul, Nat.zero_add] at this
    show (match takeB 1 (2 * 2 ^ r + X) (2 + r) with | none => none | some (b, R1, rem1) => if b = 1 then rdHead 3 1 R1 rem1 else some (0, R1, rem1)) = _
    rw [e1]
    show (match takeB 1 X (1 + r) with | none => none | some (b, R1, rem1) => if b = 1 then rdHead 2 2 R1 rem1 else some (1, R1, rem1)) = _
    rw [e2]; rfl
  · have e1 : takeB 1 (6 * 2 ^ r + X) (3 + r) = some (1, 2 * 2 ^ r + X, 2 + r) := by
      have := takeB_of (k := 1) (v := 1) (X := 2 * 2 ^ r + X) (r := 2 + r) (rem := 3 + r) (by decide) (by omega) (by omega)
      rw [← this, p2]
      congr 1
      omega
    have e2 : takeB 1 (2 * 2 ^ r + X) (2 + r) = some (1, X, 1 + r) := by
      have := takeB_of (k := 1) (v := 1) (X := X) (r := 1 + r) (rem := 2 + r) (by decide) (by omega) (by omega)
      rwa [p1, Nat.one_mul] at this
    have e3 : takeB 1 X (1 + r) = some (0, X, r) := by
      have := takeB_of (k := 1) (v := 0) (X := X) (r := r) (rem := 1 + r) (by decide) hX rfl
      rwa [Nat.zero_mul, Nat.zero_add] at this
    show (match takeB 1 (6 * 2 ^ r + X) (3 + r) with | none => none | some (b, R1, rem1) => if b = 1 then rdHead 3 1 R1 rem1 else some (0, R1, rem1)) = _
    rw [e1]
    show (match takeB 1 (2 * 2 ^ r + X) (2 + r) with | none => none | some (b, R1, rem1) => if b = 1 then rdHead 2 2 R1 rem1 else some (1, R1, rem1)) = _
    rw [e2]
    show (match takeB 1 X (1 + r) with | none => none | some (b, R1, rem1) => if b = 1 then rdHead 1 3 R1 rem1 else some (2, R1, rem1)) = _
    rw [e3]; rfl
  · have e1 : takeB 1 (14 * 2 ^ r + X) (4 + r) = some (1, 6 * 2 ^ r + X, 3 + r) := by
      have := takeB_of (k := 1) (v := 1) (X := 6 * 2 ^ r + X) (r := 3 + r) (rem := 4 + r) (by decide) (by omega) (by omega)
      rw [← this, p3]
      congr 1
      omega
    have e2 : takeB 1 (6 * 2 ^ r + X) (3 + r) = some (1, 2 * 2 ^ r + X, 2 + r) := by
      have := takeB_of (k := 1) (v := 1) (X := 2 * 2 ^ r + X) (r := 2 + r) (rem := 3 + r) (by decide) (by omega) (by omega)
      rw [← this, p2]
      congr 1
      omega
    have e3 : takeB 1 (2 * 2 ^ r + X) (2 + r) = some (1, X, 1 + r) := by
      have := takeB_of (k := 1) (v := 1) (X := X) (r := 1 + r) (rem := 2 + r) (by decide) (by omega) (by omega)
      rwa [p1, Nat.one_mul] at this
    have e4 : takeB 1 X (1 + r) = some (0, X, r) := by
      have := takeB_of (k := 1) (v := 0) (X := X) (r := r) (rem := 1 + r) (by decide) hX rfl
      rwa [Nat.zero_mul, Nat.zero_add] at this
    show (match takeB 1 (14 * 2 ^ r + X) (4 + r) with | none => none | some (b, R1, rem1) => if b = 1 then rdHead 3 1 R1 rem1 else some (0, R1, rem1)) = _
    rw [e1]
    show (match takeB 1 (6 * 2 ^ r + X) (3 + r) with | none => none | some (b, R1, rem1) => if b = 1 then rdHead 2 2 R1 rem1 else some (1, R1, rem1)) = _
    rw [e2]
    show (match takeB 1 (2 * 2 ^ r + X) (2 + r) with | none => none | some (b, R1, rem1) => if b = 1 then rdHead 1 3 R1 rem1 else some (2, R1, rem1)) = _
    rw [e3]
    show (match takeB 1 X (1 + r) with | none => none | some (b, R1, rem1) => if b = 1 then rdHead 0 4 R1 rem1 else some (3, R1, rem1)) = _
    rw [e4]; rfl
  · have e1 : takeB 1 (15 * 2 ^ r + X) (4 + r) = some (1, 7 * 2 ^ r + X, 3 + r) := by
      have := takeB_of (k := 1) (v := 1) (X := 7 * 2 ^ r + X) (r := 3 + r) (rem := 4 + r) (by decide) (by omega) (by omega)
      rw [← this, p3]
      congr 1
      omega
    have e2 : takeB 1 (7 * 2 ^ r + X) (3 + r) = some (1, 3 * 2 ^ r + X, 2 + r) := by
      have := takeB_of (k := 1) (v := 1) (X := 3 * 2 ^ r + X) (r := 2 + r) (rem := 3 + r) (by decide) (by omega) (by omega)
      rw [← this, p2]
      congr 1
      omega
    have e3 : takeB 1 (3 * 2 ^ r + X) (2 + r) = some (1, 1 * 2 ^ r + X, 1 + r) := by
      have := takeB_of (k := 1) (v := 1) (X := 1 * 2 ^ r + X) (r := 1 + r) (rem := 2 + r) (by decide) (by omega) (by omega)
      rw [← this, p1]
      congr 1
      omega
    have e4 : takeB 1 (1 * 2 ^ r + X) (1 + r) = some (1, X, r) := takeB_of (by decide) hX rfl
    show (match takeB 1 (15 * 2 ^ r + X) (4 + r) with | none => none | some (b, R1, rem1) => if b = 1 then rdHead 3 1 R1 rem1 else some (0, R1, rem1)) = _
    rw [e1]
    show (match takeB 1 (7 * 2 ^ r + X) (3 + r) with | none => none | some (b, R1, rem1) => if b = 1 then rdHead 2 2 R1 rem1 else some (1, R1, rem1)) = _
    rw [e2]
    show (match takeB 1 (3 * 2 ^ r + X) (2 + r) with | none => none | some (b, R1, rem1) => if b = 1 then rdHead 1 3 R1 rem1 else some (2, R1, rem1)) = _
    rw [e3]
    show (match takeB 1 (1 * 2 ^ r + X) (1 + r) with | none => none | some (b, R1, rem1) => if b = 1 then rdHead 0 4 R1 rem1 else some (3, R1, rem1)) = _
    rw [e4]; rfl

/-- Which head a difference has. -/
def hd (d : Int) : Nat := if d = 0 then 0 else if -64 ≤ d ∧ d < 64 then 1 else if -256 ≤ d ∧ d < 256 then 2 else if -2048 ≤ d ∧ d < 2048 then 3 else 4
theorem hd_le (d : Int) : hd d ≤ 4 := by
  unfold hd
  by_cases h0 : d = 0
  · rw [if_pos h0]; omega
  · rw [if_neg h0]
    by_cases h1 : -64 ≤ d ∧ d < 64
    · rw [if_pos h1]; omega
    · rw [if_neg h1]
      by_cases h2 : -256 ≤ d ∧ d < 256
      · rw [if_pos h2]; omega
      · rw [if_neg h2]
        split <;> omega
theorem kind_hd (d : Int) : kindN d = sz (hd d) := by
  unfold kindN hd
  by_cases h0 : d = 0
  · rw [if_pos h0, if_pos h0]; rfl
  · rw [if_neg h0, if_neg h0]
    by_cases h1 : -64 ≤ d ∧ d < 64
    · rw [if_pos h1, if_pos h1]; rfl
    · rw [if_neg h1, if_neg h1]
      by_cases h2 : -256 ≤ d ∧ d < 256
      · rw [if_pos h2, if_pos h2]; rfl
      · rw [if_neg h2, if_neg h2]
        by_cases h3 : -2048 ≤ d ∧ d < 2048
        · rw [if_pos h3, if_pos h3]; rfl
        · rw [if_neg h3, if_neg h3]; rfl
/-- A number with a sign comes back out of its lowest bits. -/
theorem sgn_un {n : Nat} {d : Int} (hn : 0 < n) (hn64 : n < 64) (h1 : -((2 : Int) ^ (n - 1)) ≤ d) (h2 : d < (2 : Int) ^ (n - 1)) : sgn n (un d % 2 ^ n) = d := by
  obtain ⟨m, rfl⟩ : ∃ m, n = m + 1 := ⟨n - 1, by omega⟩
  rw [Nat.add_sub_cancel] at h1 h2
  have hp : (2 : Int) ^ (m + 1) = 2 * (2 : Int) ^ m := by rw [Int.pow_succ, Int.mul_comm]
  have hpn : (2 : Nat) ^ (m + 1) = 2 * 2 ^ m := by rw [Nat.pow_succ, Nat.mul_comm]
  have hc : (2 : Int) ^ m = ((2 ^ m : Nat) : Int) := by simp
  have hpos : 0 < (2 : Nat) ^ m := Nat.two_pow_pos m
  have hdvd : ((2 ^ (m + 1) : Nat) : Int) ∣ (M64 : Int) := by
    rw [M64_pow]
    exact Int.natCast_dvd_natCast.2 (Nat.pow_dvd_pow 2 (by omega))
  have e : (((un d % 2 ^ (m + 1) : Nat)) : Int) = d % ((2 ^ (m + 1) : Nat) : Int) := by
    have h3 := Int.emod_nonneg d (show (M64 : Int) ≠ 0 by decide)
    unfold un
    rw [Int.natCast_emod, Int.toNat_of_nonneg h3]
    exact Int.emod_emod_of_dvd d hdvd
  unfold sgn
  rw [if_neg (by omega), Nat.add_sub_cancel]
  generalize un d % 2 ^ (m + 1) = u at *
  rw [hp, hc]
  rw [hc] at h1 h2
  rw [hpn] at e
  generalize (2 : Nat) ^ m = y at *
  rcases Int.lt_or_le d 0 with h0 | h0
  · have e2 : d % ((2 * y : Nat) : Int) = d + 2 * (y : Int) := by
      rw [← Int.add_emod_right, Int.emod_eq_of_lt (by omega) (by omega)]
      omega
    rw [e2] at e
    have hu : u / y = 1 := by
      have h5 : y ≤ u := by omega
      have h6 : u < 2 * y := by omega
      exact Nat.div_eq_of_lt_le (by omega) (by omega)
    rw [hu, if_pos ⟨by omega, rfl⟩]
    omega
  · have e2 : d % ((2 * y : Nat) : Int) = d := Int.emod_eq_of_lt h0 (by omega)
    rw [e2] at e
    have hu : u / y = 0 := Nat.div_eq_of_lt (by omega)
    rw [hu, if_neg (by omega)]
    omega
theorem sgn_64 {d : Int} (h : Fits d) : sgn 64 (un d % 2 ^ 64) = d := by
  unfold sgn
  rw [if_pos rfl, Nat.mod_eq_of_lt (by rw [← M64_pow]; exact un_lt d), sg_un h]
theorem sgn_hd {d : Int} (h : Fits d) : sgn (sz (hd d)) (un d % 2 ^ sz (hd d)) = d := by
  unfold hd
  by_cases h0 : d = 0
  · rw [if_pos h0]
    subst h0
    rfl
  · rw [if_neg h0]
    by_cases h1 : -64 ≤ d ∧ d < 64
    · rw [if_pos h1]; exact sgn_un (n := 7) (by decide) (by decide) (by omega) (by omega)
    · rw [if_neg h1]
      by_cases h2 : -256 ≤ d ∧ d < 256
      · rw [if_pos h2]; exact sgn_un (n := 9) (by decide) (by decide) (by omega) (by omega)
      · rw [if_neg h2]
        by_cases h3 : -2048 ≤ d ∧ d < 2048
        · rw [if_pos h3]; exact sgn_un (n := 12) (by decide) (by decide) (by omega) (by omega)
        · rw [if_neg h3]; exact sgn_64 h

/-- What Encode puts of one difference; of times behind 'prev' and 'last'; of a row. -/
def fieldsD (d : Int) : List (Nat × Nat) := [(headN d, longN d), (un d, kindN d)]
def stepOf (prev x : Int) : Nat := un (x - prev)
def diffOf (prev : Int) (last : Nat) (x : Int) : Int := sg (un ((stepOf prev x : Int) - (last : Int)))
def encT : Int → Nat → List Int → List (Nat × Nat)
  | _, _, [] => []
  | prev, last, x :: xs => fieldsD (diffOf prev last x) ++ encT x (stepOf prev x) xs
def encRow : List Int → List (Nat × Nat)
  | [] => []
  | x :: xs => (un x, 64) :: encT x 0 xs
theorem headN_hd (d : Int) : headN d = hv (hd d) ∧ longN d = hw (hd d) := by
  unfold headN longN hd
  by_cases h0 : d = 0
  · simp [h0, hv, hw]
  · by_cases h1 : -64 ≤ d ∧ d < 64
    · simp [h0, h1, hv, hw]
    · by_cases h2 : -256 ≤ d ∧ d < 256
      · rw [if_neg h0, if_neg h1, if_pos h2, if_neg h0, if_neg h1, if_pos h2, if_neg h0, if_neg h1, if_pos h2]; exact ⟨rfl, rfl⟩
      · by_cases h3 : -2048 ≤ d ∧ d < 2048
        · rw [if_neg h0, if_neg h1, if_neg h2, if_pos h3, if_neg h0, if_neg h1, if_neg h2, if_neg h0, if_neg h1, if_neg h2, if_pos h3]; exact ⟨rfl, rfl⟩
        · rw [if_neg h0, if_neg h1, if_neg h2, if_neg h3, if_neg h0, if_neg h1, if_neg h2, if_neg h0, if_neg h1, if_neg h2, if_neg h3]; exact ⟨rfl, rfl⟩
theorem hv_lt {h : Nat} (hh : h ≤ 4) : hv h < 2 ^ hw h := by
  have hh' : h = 0 ∨ h = 1 ∨ h = 2 ∨ h = 3 ∨ h = 4 := by omega
  rcases hh' with rfl | rfl | rfl | rfl | rfl <;> decide
/-- A difference is read as it was told, in the length that it was told in, if that is the shortest. -/
theorem rdDiff_of {h v X r rem : Nat} {fs : List (Nat × Nat)} (hh : h ≤ 4) (hX : X < 2 ^ r) (hr : rem = hw h + sz h + flen fs + r) :
    rdDiff (fnum ((hv h, hw h) :: (v, sz h) :: fs) * 2 ^ r + X) rem = if kindN (sgn (sz h) (v % 2 ^ sz h)) = sz h then some (sgn (sz h) (v % 2 ^ sz h), fnum fs * 2 ^ r + X, flen fs + r) else none := by
  have h2 := fnum_lt ((v, sz h) :: fs)
  have h3 : fnum ((v, sz h) :: fs) * 2 ^ r + X < 2 ^ (flen ((v, sz h) :: fs) + r) := by
    have h4 : (fnum ((v, sz h) :: fs) + 1) * 2 ^ r ≤ 2 ^ flen ((v, sz h) :: fs) * 2 ^ r := Nat.mul_le_mul_right _ h2
    rw [Nat.pow_add]
    rw [Nat.add_mul, Nat.one_mul] at h4
    omega
  have e : fnum ((hv h, hw h) :: (v, sz h) :: fs) * 2 ^ r + X = hv h * 2 ^ (flen ((v, sz h) :: fs) + r) + (fnum ((v, sz h) :: fs) * 2 ^ r + X) := by
    show (hv h % 2 ^ hw h * 2 ^ flen ((v, sz h) :: fs) + fnum ((v, sz h) :: fs)) * 2 ^ r + X = _
    rw [Nat.mod_eq_of_lt (hv_lt hh), Nat.add_mul, Nat.mul_assoc, ← Nat.pow_add, Nat.add_assoc]
  have hl : flen ((v, sz h) :: fs) = sz h + flen fs := rfl
  have e1 := rdHead_of (rem := rem) hh h3 (by omega)
  unfold rdDiff
  rw [e, e1]
  show (match takeB (sz h) (fnum ((v, sz h) :: fs) * 2 ^ r + X) (flen ((v, sz h) :: fs) + r) with | none => none | some (u, R2, rem2) => if kindN (sgn (sz h) u) = sz h then some (sgn (sz h) u, R2, rem2) else none) = _
  rw [takeB_field hX (by omega)]
theorem next_of {prev x : Int} {last : Nat} (hx : Fits x) : Fits (diffOf prev last x) ∧ nextL last (diffOf prev last x) = stepOf prev x ∧ nextX prev (stepOf prev x) = x := by
  have hm : (0 : Int) < (M64 : Int) := by decide
  refine ⟨sg_fits (un_lt _), ?_, ?_⟩
  · unfold nextL diffOf
    rw [un_sg (un_lt _)]
    unfold stepOf
    have h1 := Int.emod_nonneg (x - prev) (Int.ne_of_gt hm)
    have h2 := Int.emod_lt_of_pos (x - prev) hm
    have h3 : (un (x - prev) : Int) = (x - prev) % (M64 : Int) := by unfold un; omega
    have h4 : (un ((un (x - prev) : Int) - (last : Int)) : Int) = ((un (x - prev) : Int) - (last : Int)) % (M64 : Int) := by
      have := Int.emod_nonneg ((un (x - prev) : Int) - (last : Int)) (Int.ne_of_gt hm)
      show (((((un (x - prev) : Int) - (last : Int)) % (M64 : Int)).toNat : Nat) : Int) = _
      omega
    have h5 : (((last + un ((un (x - prev) : Int) - (last : Int))) % M64 : Nat) : Int) = (un (x - prev) : Int) := by
      rw [Int.natCast_emod, Int.natCast_add, h4, Int.add_emod_emod]
      rw [show (last : Int) + ((un (x - prev) : Int) - (last : Int)) = (un (x - prev) : Int) by omega, h3, Int.emod_emod]
    omega
  · unfold nextX stepOf
    have h5 : (un prev + un (x - prev)) % M64 = un x := by
      have h1 := Int.emod_nonneg (x - prev) (Int.ne_of_gt hm)
      have h2 := Int.emod_nonneg prev (Int.ne_of_gt hm)
      have h3 := Int.emod_nonneg x (Int.ne_of_gt hm)
      have e : (((un prev + un (x - prev)) % M64 : Nat) : Int) = (un x : Int) := by
        rw [Int.natCast_emod, Int.natCast_add]
        unfold un
        rw [Int.toNat_of_nonneg h1, Int.toNat_of_nonneg h2, Int.toNat_of_nonneg h3, ← Int.add_emod]
        congr 1
        omega
      omega
    rw [h5, sg_un hx]
theorem rdTimes_of (xs : List Int) (hxs : ∀ x ∈ xs, Fits x) (prev : Int) (last : Nat) {X r rem : Nat} (hX : X < 2 ^ r) (hr : rem = flen (encT prev last xs) + r) :
    rdTimes xs.length prev last (fnum (encT prev last xs) * 2 ^ r + X) rem = some (xs, X, r) := by
  induction xs generalizing prev last rem with
  | nil =>
    subst hr
    show some (([] : List Int), 0 * 2 ^ r + X, 0 + r) = _
    rw [Nat.zero_mul, Nat.zero_add, Nat.zero_add]
  | cons x xs ih =>
    have hx := hxs x (by simp)
    obtain ⟨h1, h2, h3⟩ := next_of (prev := prev) (last := last) hx
    obtain ⟨e1, e2⟩ := headN_hd (diffOf prev last x)
    have ek := kind_hd (diffOf prev last x)
    have ef : encT prev last (x :: xs) = (hv (hd (diffOf prev last x)), hw (hd (diffOf prev last x))) :: (un (diffOf prev last x), sz (hd (diffOf prev last x))) :: encT x (stepOf prev x) xs := by
      show [(headN _, longN _), (un _, kindN _)] ++ _ = _
      rw [e1, e2, ek]
      rfl
    rw [ef] at hr ⊢
    have hrd := rdDiff_of (v := un (diffOf prev last x)) (fs := encT x (stepOf prev x) xs) (rem := rem) (hd_le (diffOf prev last x)) hX (by rw [hr]; show hw _ + (sz _ + flen _) + r = _; omega)
    rw [sgn_hd h1, ek, if_pos rfl] at hrd
    show (match rdDiff _ rem with | none => none | some (d, R1, rem1) => (rdTimes xs.length (nextX prev (nextL last d)) (nextL last d) R1 rem1).map fun (p : List Int × Nat × Nat) => (nextX prev (nextL last d) :: p.1, p.2)) = _
    rw [hrd]
    show (rdTimes xs.length (nextX prev (nextL last (diffOf prev last x))) (nextL last (diffOf prev last x)) _ _).map _ = _
    rw [h2, h3, ih (fun y hy => hxs y (by simp [hy])) x (stepOf prev x) rfl]
    rfl
/-- A row of times is read as it was told. -/
theorem rdRow_of (xs : List Int) (hxs : ∀ x ∈ xs, Fits x) {X r rem : Nat} (hX : X < 2 ^ r) (hr : rem = flen (encRow xs) + r) : rdRow xs.length (fnum (encRow xs) * 2 ^ r + X) rem = some (xs, X, r) := by
  cases xs with
  | nil =>
    subst hr
    show some (([] : List Int), 0 * 2 ^ r + X, 0 + r) = _
    rw [Nat.zero_mul, Nat.zero_add, Nat.zero_add]
  | cons x xs =>
    have hx := hxs x (by simp)
    have ht := takeB_field (v := un x) (w := 64) (fs := encT x 0 xs) (rem := rem) hX (by rw [hr]; rfl)
    rw [Nat.mod_eq_of_lt (by rw [← M64_pow]; exact un_lt x)] at ht
    show (match takeB 64 (fnum ((un x, 64) :: encT x 0 xs) * 2 ^ r + X) rem with | none => none | some (u, R1, rem1) => (rdTimes xs.length (sg u) 0 R1 rem1).map fun (p : List Int × Nat × Nat) => (sg u :: p.1, p.2)) = _
    rw [ht]
    show (rdTimes xs.length (sg (un x)) 0 _ _).map _ = _
    rw [sg_un hx, rdTimes_of xs (fun y hy => hxs y (by simp [hy])) x 0 hX rfl]
    rfl
end Go.Proofs.Ytldjobaafambbaa
