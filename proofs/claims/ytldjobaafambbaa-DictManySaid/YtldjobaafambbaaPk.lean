/- Plain mathematics of numbers of so many bits each in bytes: what is packed, and that it is read back; how many bits a number has. -/
import Derived.Test.YtldjobaafambbaaTd
namespace Go.Proofs.Ytldjobaafambbaa

/-- k bytes of a number, the greatest first. -/
def byts : Nat → Nat → List Nat
  | 0, _ => []
  | k + 1, N => byts k (N / 256) ++ [N % 256]
theorem byts_len (k : Nat) : ∀ N, (byts k N).length = k := by
  induction k with
  | zero => intro N; rfl
  | succ k ih => intro N; show (byts k (N / 256) ++ [N % 256]).length = _; rw [List.length_append, ih]; rfl
theorem byts_256 (k : Nat) : ∀ N, lt256 (byts k N) := by
  induction k with
  | zero => intro N; exact lt256_nil
  | succ k ih => intro N; exact lt256_snoc.2 ⟨ih _, Nat.mod_lt _ (by decide)⟩
theorem byts_val (k : Nat) : ∀ N, N < 2 ^ (8 * k) → val (byts k N) = N := by
  induction k with
  | zero => intro N h; have : N = 0 := by simpa using h
            subst this; rfl
  | succ k ih =>
    intro N h
    show val (byts k (N / 256) ++ [N % 256]) = N
    rw [val_snoc, ih (N / 256) (by
      rw [show 8 * (k + 1) = 8 * k + 8 by omega, Nat.pow_add] at h
      exact Nat.div_lt_of_lt_mul (by omega))]
    omega
/-- The bytes of L bits, the last one filled with 0s. -/
def packB (N L : Nat) : List Nat := byts ((L + 7) / 8) (N * 2 ^ (8 * ((L + 7) / 8) - L))
theorem packB_len (N L : Nat) : (packB N L).length = (L + 7) / 8 := byts_len _ _
theorem packB_256 (N L : Nat) : lt256 (packB N L) := byts_256 _ _
theorem packB_val {N L : Nat} (h : N < 2 ^ L) : val (packB N L) = N * 2 ^ (8 * ((L + 7) / 8) - L) := by
  unfold packB
  refine byts_val _ _ ?_
  have e : 8 * ((L + 7) / 8) = L + (8 * ((L + 7) / 8) - L) := by omega
  conv => rhs; rw [e, Nat.pow_add]
  exact Nat.mul_lt_mul_of_pos_right h (Nat.two_pow_pos _)
/-- What is packed has one form. -/
theorem packB_one {bs : List Nat} {N L free : Nat} (h : N < 2 ^ L) (hlt : lt256 bs) (hf : free < 8) (hl : L + free = 8 * bs.length) (hv : val bs = N * 2 ^ free) : bs = packB N L := by
  have e1 : bs.length = (L + 7) / 8 := by omega
  refine val_inj bs.length bs _ rfl (by rw [packB_len, e1]) hlt (packB_256 _ _) ?_
  rw [packB_val h, hv]
  congr 2
  omega

/-- Fields of one width. -/
def flds (w : Nat) (l : List Nat) : List (Nat × Nat) := l.map fun x => (x, w)
theorem flds_len (w : Nat) (l : List Nat) : flen (flds w l) = w * l.length := by
  induction l with
  | nil => rfl
  | cons x l ih => show w + flen (flds w l) = w * (l.length + 1); rw [ih, Nat.mul_add]; omega
theorem flds_app (w : Nat) (l m : List Nat) : flds w (l ++ m) = flds w l ++ flds w m := by simp [flds]
/-- The bytes of numbers of w bits each. -/
def packW (w : Nat) (l : List Nat) : List Nat := packB (fnum (flds w l)) (flen (flds w l))
theorem packW_len (w : Nat) (l : List Nat) : (packW w l).length = (w * l.length + 7) / 8 := by unfold packW; rw [packB_len, flds_len]
theorem packW_256 (w : Nat) (l : List Nat) : lt256 (packW w l) := packB_256 _ _
theorem packW_one {bs : List Nat} {w free : Nat} {l : List Nat} (hlt : lt256 bs) (hf : free < 8) (hl : flen (flds w l) + free = 8 * bs.length) (hv : val bs = fnum (flds w l) * 2 ^ free) : bs = packW w l :=
  packB_one (fnum_lt _) hlt hf hl hv

/-- One read of a reader's state: the number, and what is left; 0 and nothing where there are too few bits. -/
def rd1 (k : Nat) : Option (Nat × Nat) → Nat × Option (Nat × Nat)
  | some (R, rem) => match takeB k R rem with
    | some (x, R1, rem1) => (x, some (R1, rem1))
    | none => (0, none)
  | none => (0, none)
/-- n reads of w bits each. -/
def rdW (w : Nat) : Nat → Option (Nat × Nat) → List Nat
  | 0, _ => []
  | n + 1, s => (rd1 w s).1 :: rdW w n (rd1 w s).2
/-- What is left behind n reads. -/
def lfW (w : Nat) : Nat → Option (Nat × Nat) → Option (Nat × Nat)
  | 0, s => s
  | n + 1, s => lfW w n (rd1 w s).2
theorem rdW_len (w n : Nat) : ∀ s, (rdW w n s).length = n := by
  induction n with
  | zero => intro s; rfl
  | succ n ih => intro s; show (rdW w n _).length + 1 = _; rw [ih]
theorem rdW_snoc (w n : Nat) : ∀ s, rdW w (n + 1) s = rdW w n s ++ [(rd1 w (lfW w n s)).1] := by
  induction n with
  | zero => intro s; rfl
  | succ n ih =>
    intro s
    show (rd1 w s).1 :: rdW w (n + 1) (rd1 w s).2 = ((rd1 w s).1 :: rdW w n (rd1 w s).2) ++ [(rd1 w (lfW w n (rd1 w s).2)).1]
    rw [ih]
    rfl
theorem lfW_succ (w n : Nat) : ∀ s, lfW w (n + 1) s = (rd1 w (lfW w n s)).2 := by
  induction n with
  | zero => intro s; rfl
  | succ n ih => intro s; show lfW w (n + 1) (rd1 w s).2 = _; rw [ih]; rfl
theorem rd1_lt {w R rem : Nat} (h : R < 2 ^ rem) : (rd1 w (some (R, rem))).1 < 2 ^ w := by
  unfold rd1 takeB
  by_cases hk : w ≤ rem
  · simp only [hk, if_true]
    rw [Nat.div_lt_iff_lt_mul (Nat.two_pow_pos _), ← Nat.pow_add, show w + (rem - w) = rem by omega]
    exact h
  · simp only [hk, if_false]
    exact Nat.two_pow_pos w
/-- What was laid is read. -/
theorem rdW_flds {w r X : Nat} (hX : X < 2 ^ r) : ∀ (l : List Nat) (rem : Nat), (∀ x ∈ l, x < 2 ^ w) → rem = flen (flds w l) + r → rdW w l.length (some (fnum (flds w l) * 2 ^ r + X, rem)) = l ∧ lfW w l.length (some (fnum (flds w l) * 2 ^ r + X, rem)) = some (X, r) := by
  intro l
  induction l with
  | nil =>
    intro rem _ hr
    refine ⟨rfl, ?_⟩
    show some (0 * 2 ^ r + X, rem) = _
    rw [hr, Nat.zero_mul, Nat.zero_add]
    show some (X, 0 + r) = _
    rw [Nat.zero_add]
  | cons x l ih =>
    intro rem hl hr
    have hx := hl x (by simp)
    have ht := takeB_field (v := x) (w := w) (fs := flds w l) hX (rem := rem) (by rw [hr]; rfl)
    have e : flds w (x :: l) = (x, w) :: flds w l := rfl
    have h1 : rd1 w (some (fnum (flds w (x :: l)) * 2 ^ r + X, rem)) = (x, some (fnum (flds w l) * 2 ^ r + X, flen (flds w l) + r)) := by
      rw [e]
      unfold rd1
      simp only [ht]
      rw [Nat.mod_eq_of_lt hx]
    obtain ⟨a1, a2⟩ := ih (flen (flds w l) + r) (fun y hy => hl y (by simp [hy])) rfl
    refine ⟨?_, ?_⟩
    · show (rd1 w _).1 :: rdW w l.length (rd1 w _).2 = _
      rw [h1]
      show x :: rdW w l.length _ = _
      rw [a1]
    · show lfW w l.length (rd1 w _).2 = _
      rw [h1]
      exact a2
/-- What is packed is read back. -/
theorem rdW_packW {w : Nat} {l : List Nat} (h : ∀ x ∈ l, x < 2 ^ w) : rdW w l.length (some (val (packW w l), 8 * (packW w l).length)) = l := by
  have hv : val (packW w l) = fnum (flds w l) * 2 ^ (8 * ((flen (flds w l) + 7) / 8) - flen (flds w l)) := packB_val (fnum_lt _)
  have hn : (packW w l).length = (flen (flds w l) + 7) / 8 := packB_len _ _
  rw [hv, hn]
  have := (rdW_flds (w := w) (X := 0) (r := 8 * ((flen (flds w l) + 7) / 8) - flen (flds w l)) (Nat.two_pow_pos _) l (8 * ((flen (flds w l) + 7) / 8)) h (by omega)).1
  rw [Nat.add_zero] at this
  exact this

/-- How many bits a number has. -/
def widF : Nat → Nat → Nat → Nat
  | 0, n, _ => n
  | f + 1, n, u => if u < 2 ^ n then n else widF f (n + 1) u
def wid (u : Nat) : Nat := widF 64 0 u
theorem widF_spec (f : Nat) : ∀ (n u : Nat), n ≤ widF f n u ∧ widF f n u ≤ n + f ∧ (∀ j, n ≤ j → j < widF f n u → ¬ u < 2 ^ j) ∧ (u < 2 ^ (n + f) → u < 2 ^ widF f n u) := by
  induction f with
  | zero => intro n u; exact ⟨Nat.le_refl _, Nat.le_refl _, fun j h1 h2 => by have h3 : j < n := h2; omega, fun h => h⟩
  | succ f ih =>
    intro n u
    have e : widF (f + 1) n u = if u < 2 ^ n then n else widF f (n + 1) u := rfl
    rw [e]
    by_cases h : u < 2 ^ n
    · rw [if_pos h]
      exact ⟨Nat.le_refl _, by omega, fun j h1 h2 => by omega, fun _ => h⟩
    · rw [if_neg h]
      obtain ⟨a1, a2, a3, a4⟩ := ih (n + 1) u
      refine ⟨by omega, by omega, fun j h1 h2 => ?_, fun h2 => a4 (by rw [show n + 1 + f = n + (f + 1) by omega]; exact h2)⟩
      by_cases hj : j = n
      · subst hj; exact h
      · exact a3 j (by omega) h2
theorem wid_le (u : Nat) : wid u ≤ 64 := by have := (widF_spec 64 0 u).2.1; unfold wid; omega
theorem wid_lt {u : Nat} (h : u < 2 ^ 64) : u < 2 ^ wid u := (widF_spec 64 0 u).2.2.2 (by simpa using h)
theorem wid_least {u j : Nat} (h : j < wid u) : ¬ u < 2 ^ j := (widF_spec 64 0 u).2.2.1 j (Nat.zero_le _) h
/-- Where j bits serve and none fewer, it has j. -/
theorem wid_is {u j : Nat} (h : u < 2 ^ j) (hl : ∀ i, i < j → ¬ u < 2 ^ i) (hj : j ≤ 64) : wid u = j := by
  rcases Nat.lt_trichotomy (wid u) j with h1 | h1 | h1
  · exact absurd (wid_lt (Nat.lt_of_lt_of_le h (Nat.pow_le_pow_right (by omega) hj))) (hl _ h1)
  · exact h1
  · exact absurd h (wid_least h1)
theorem wid_mono {u v : Nat} (h : u ≤ v) (hv : v < 2 ^ 64) : u < 2 ^ wid v := Nat.lt_of_le_of_lt h (wid_lt hv)
theorem take_succ_of {us : List Nat} {i x : Nat} (h : us[i]? = some x) : us.take (i + 1) = us.take i ++ [x] := by
  rw [List.take_add_one, h]; rfl
end Go.Proofs.Ytldjobaafambbaa
