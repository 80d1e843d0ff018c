/- Plain mathematics of values by what turns: how many 0s a number has ahead and behind; what is told, and that it is read back. -/
import Derived.Test.YtdlkjfnifjlbhaaDoorTd
namespace Go.Proofs.YtdlkjfnifjlbhaaDoor

/-- 0s ahead, 31 at most; 0s behind. -/
def ahd : Nat → Nat → Nat → Nat
  | 0, n, _ => n
  | f + 1, n, x => if x / 2 ^ (63 - n) = 0 then ahd f (n + 1) x else n
def aheadN (x : Nat) : Nat := ahd 31 0 x
def bhd : Nat → Nat → Nat → Nat
  | 0, n, _ => n
  | f + 1, n, x => if x / 2 ^ n % 2 = 0 then bhd f (n + 1) x else n
def behindN (x : Nat) : Nat := bhd 64 0 x
theorem ahd_spec (f n x : Nat) (hf : n + f ≤ 63) (hx : x < 2 ^ (64 - n)) : n ≤ ahd f n x ∧ ahd f n x ≤ n + f ∧ x < 2 ^ (64 - ahd f n x) ∧ (ahd f n x < n + f → 2 ^ (63 - ahd f n x) ≤ x) := by
  induction f generalizing n with
  | zero => exact ⟨Nat.le_refl _, Nat.le_refl _, hx, fun h => absurd h (Nat.lt_irrefl _)⟩
  | succ f ih =>
    have e : ahd (f + 1) n x = if x / 2 ^ (63 - n) = 0 then ahd f (n + 1) x else n := rfl
    rw [e]
    by_cases h : x / 2 ^ (63 - n) = 0
    · rw [if_pos h]
      have hx2 : x < 2 ^ (64 - (n + 1)) := by
        rcases (Nat.div_eq_zero_iff).1 h with h1 | h1
        · exact absurd h1 (Nat.ne_of_gt (Nat.two_pow_pos _))
        · rwa [show 64 - (n + 1) = 63 - n by omega]
      obtain ⟨a1, a2, a3, a4⟩ := ih (n + 1) (by omega) hx2
      exact ⟨by omega, by omega, a3, fun h => a4 (by omega)⟩
    · rw [if_neg h]
      refine ⟨Nat.le_refl _, by omega, hx, fun _ => ?_⟩
      rcases Nat.lt_or_ge x (2 ^ (63 - n)) with h1 | h1
      · exact absurd (Nat.div_eq_of_lt h1) h
      · exact h1
theorem ahead_spec {x : Nat} (hx : x < 2 ^ 64) : aheadN x ≤ 31 ∧ x < 2 ^ (64 - aheadN x) ∧ (aheadN x < 31 → 2 ^ (63 - aheadN x) ≤ x) := by
  obtain ⟨_, a2, a3, a4⟩ := ahd_spec 31 0 x (by omega) hx
  exact ⟨by unfold aheadN; omega, a3, fun h => a4 (by unfold aheadN at h; omega)⟩
theorem bhd_spec (f n x : Nat) (h0 : 0 < x) (hd : 2 ^ n ∣ x) (hx : x < 2 ^ (n + f)) : n ≤ bhd f n x ∧ 2 ^ bhd f n x ∣ x ∧ x / 2 ^ bhd f n x % 2 = 1 := by
  induction f generalizing n with
  | zero =>
    exact absurd (Nat.le_of_dvd h0 hd) (by rw [Nat.add_zero] at hx; omega)
  | succ f ih =>
    have e : bhd (f + 1) n x = if x / 2 ^ n % 2 = 0 then bhd f (n + 1) x else n := rfl
    rw [e]
    by_cases h : x / 2 ^ n % 2 = 0
    · rw [if_pos h]
      have hd2 : 2 ^ (n + 1) ∣ x := by
        obtain ⟨y, hy⟩ := hd
        have : x / 2 ^ n = y := by rw [hy, Nat.mul_div_cancel_left _ (Nat.two_pow_pos n)]
        rw [this] at h
        obtain ⟨z, hz⟩ := Nat.dvd_of_mod_eq_zero h
        exact ⟨z, by rw [hy, hz, Nat.pow_succ, Nat.mul_assoc]⟩
      obtain ⟨a1, a2⟩ := ih (n + 1) hd2 (by rw [show n + 1 + f = n + (f + 1) by omega]; exact hx)
      exact ⟨by omega, a2⟩
    · rw [if_neg h]
      exact ⟨Nat.le_refl _, hd, by omega⟩
theorem behind_spec {x : Nat} (h0 : 0 < x) (hx : x < 2 ^ 64) : 2 ^ behindN x ∣ x ∧ x / 2 ^ behindN x % 2 = 1 := by
  obtain ⟨_, a2⟩ := bhd_spec 64 0 x h0 (by simp) (by simpa using hx)
  exact a2
theorem sum_le {x : Nat} (h0 : 0 < x) (hx : x < 2 ^ 64) : aheadN x + behindN x ≤ 63 := by
  obtain ⟨a1, a2, _⟩ := ahead_spec hx
  obtain ⟨b1, _⟩ := behind_spec h0 hx
  have h1 := Nat.le_of_dvd h0 b1
  have h2 : 2 ^ behindN x < 2 ^ (64 - aheadN x) := by omega
  have := (Nat.pow_lt_pow_iff_right (by omega : 1 < 2)).1 h2
  omega
/-- A window: how many 0s ahead, and behind. -/
def WinOk : Option (Nat × Nat) → Prop
  | none => True
  | some (a, b) => a ≤ 31 ∧ a + b ≤ 63
def freshX (x : Nat) : List (Nat × Nat) := [(1, 1), (1, 1), (aheadN x, 5), (63 - aheadN x - behindN x, 6), (x / 2 ^ behindN x, 64 - aheadN x - behindN x)]
def fitsX : Option (Nat × Nat) → Nat → Bool
  | none, _ => false
  | some (a, b), x => decide (a ≤ aheadN x ∧ b ≤ behindN x)
def insideX : Option (Nat × Nat) → Nat → List (Nat × Nat)
  | none, _ => []
  | some (a, b), x => [(1, 1), (0, 1), (x / 2 ^ b, 64 - a - b)]
def fieldsX (win : Option (Nat × Nat)) (x : Nat) : List (Nat × Nat) := if x = 0 then [(0, 1)] else if fitsX win x = true then insideX win x else freshX x
def winX (win : Option (Nat × Nat)) (x : Nat) : Option (Nat × Nat) := if x = 0 then win else if fitsX win x = true then win else some (aheadN x, behindN x)
theorem winX_ok {win : Option (Nat × Nat)} {x : Nat} (hw : WinOk win) (hx : x < 2 ^ 64) : WinOk (winX win x) := by
  unfold winX
  by_cases h0 : x = 0
  · rw [if_pos h0]; exact hw
  · rw [if_neg h0]
    by_cases h1 : fitsX win x = true
    · rw [if_pos h1]; exact hw
    · rw [if_neg h1]
      exact ⟨(ahead_spec hx).1, sum_le (by omega) hx⟩
def encX : Option (Nat × Nat) → Nat → List Nat → List (Nat × Nat)
  | _, _, [] => []
  | win, prev, v :: vs => fieldsX win (v ^^^ prev) ++ encX (winX win (v ^^^ prev)) v vs
def encVals : List Nat → List (Nat × Nat)
  | [] => []
  | v :: vs => (v, 64) :: encX none v vs

/-- One value's turn is read. -/
def rdX (win : Option (Nat × Nat)) (R rem : Nat) : Option (Nat × Option (Nat × Nat) × Nat × Nat) :=
  match takeB 1 R rem with
  | none => none
  | some (c0, R1, rem1) =>
    if c0 = 0 then some (0, win, R1, rem1) else
    match takeB 1 R1 rem1 with
    | none => none
    | some (c1, R2, rem2) =>
      if c1 = 0 then
        match win with
        | none => none
        | some (a, b) =>
          match takeB (64 - a - b) R2 rem2 with
          | none => none
          | some (y, R3, rem3) => some (y * 2 ^ b, win, R3, rem3)
      else
        match takeB 5 R2 rem2 with
        | none => none
        | some (a, R3, rem3) =>
          match takeB 6 R3 rem3 with
          | none => none
          | some (m, R4, rem4) =>
            if 64 < a + (m + 1) then none else
            match takeB (m + 1) R4 rem4 with
            | none => none
            | some (y, R5, rem5) => some (y * 2 ^ (64 - a - (m + 1)), some (a, 64 - a - (m + 1)), R5, rem5)
theorem fnum_tail {X r : Nat} (fs : List (Nat × Nat)) (hX : X < 2 ^ r) : fnum fs * 2 ^ r + X < 2 ^ (flen fs + r) := by
  have h2 := fnum_lt fs
  have h4 : (fnum fs + 1) * 2 ^ r ≤ 2 ^ flen fs * 2 ^ r := Nat.mul_le_mul_right _ h2
  rw [Nat.pow_add]
  rw [Nat.add_mul, Nat.one_mul] at h4
  omega
theorem take_f {v w X r rem : Nat} {fs : List (Nat × Nat)} (hX : X < 2 ^ r) (hr : rem = flen ((v, w) :: fs) + r) (hv : v < 2 ^ w) : takeB w (fnum ((v, w) :: fs) * 2 ^ r + X) rem = some (v, fnum fs * 2 ^ r + X, flen fs + r) := by
  have h := takeB_field (v := v) (w := w) (fs := fs) (rem := rem) hX hr
  rwa [Nat.mod_eq_of_lt hv] at h
theorem rdX_of {win : Option (Nat × Nat)} {x X r rem : Nat} (hw : WinOk win) (hx : x < 2 ^ 64) (fs : List (Nat × Nat)) (hX : X < 2 ^ r) (hr : rem = flen (fieldsX win x ++ fs) + r) :
    rdX win (fnum (fieldsX win x ++ fs) * 2 ^ r + X) rem = some (x, winX win x, fnum fs * 2 ^ r + X, flen fs + r) := by
  unfold fieldsX winX at *
  by_cases h0 : x = 0
  · rw [if_pos h0] at hr ⊢
    rw [if_pos h0]
    have h1 := take_f (v := 0) (w := 1) (fs := fs) hX hr (by decide)
    unfold rdX
    rw [show [(0, 1)] ++ fs = (0, 1) :: fs from rfl, h1, h0]
    rfl
  · rw [if_neg h0] at hr ⊢
    rw [if_neg h0]
    have hpos : 0 < x := by omega
    by_cases hf : fitsX win x = true
    · rw [if_pos hf] at hr ⊢
      rw [if_pos hf]
      cases win with
      | none => cases hf
      | some p =>
        obtain ⟨a, b⟩ := p
        obtain ⟨ha, hb⟩ := of_decide_eq_true hf
        obtain ⟨w1, w2⟩ := hw
        obtain ⟨_, a2, _⟩ := ahead_spec hx
        have hdv : 2 ^ b ∣ x := Nat.dvd_trans (Nat.pow_dvd_pow 2 hb) (behind_spec hpos hx).1
        have hy : x / 2 ^ b < 2 ^ (64 - a - b) := by
          rw [Nat.div_lt_iff_lt_mul (Nat.two_pow_pos _), ← Nat.pow_add, show 64 - a - b + b = 64 - a by omega]
          exact Nat.lt_of_lt_of_le a2 (Nat.pow_le_pow_right (by omega) (by omega))
        have e : insideX (some (a, b)) x ++ fs = (1, 1) :: (0, 1) :: (x / 2 ^ b, 64 - a - b) :: fs := rfl
        rw [e] at hr ⊢
        have h1 := take_f (v := 1) (w := 1) (fs := (0, 1) :: (x / 2 ^ b, 64 - a - b) :: fs) hX hr (by decide)
        have h2 := take_f (v := 0) (w := 1) (fs := (x / 2 ^ b, 64 - a - b) :: fs) (rem := flen ((0, 1) :: (x / 2 ^ b, 64 - a - b) :: fs) + r) hX rfl (by decide)
        have h3 := take_f (v := x / 2 ^ b) (w := 64 - a - b) (fs := fs) (rem := flen ((x / 2 ^ b, 64 - a - b) :: fs) + r) hX rfl hy
        unfold rdX
        rw [h1]
        simp only [show ¬ (1 : Nat) = 0 by decide, if_false]
        rw [h2]
        simp only [if_true]
        rw [h3]
        show some (x / 2 ^ b * 2 ^ b, _, _, _) = _
        rw [Nat.div_mul_cancel hdv]
    · rw [if_neg hf] at hr ⊢
      rw [if_neg hf]
      obtain ⟨a1, a2, _⟩ := ahead_spec hx
      have hs := sum_le hpos hx
      have hdv := (behind_spec hpos hx).1
      unfold freshX at *
      generalize aheadN x = a at *
      generalize behindN x = b at *
      have hy : x / 2 ^ b < 2 ^ (64 - a - b) := by
        rw [Nat.div_lt_iff_lt_mul (Nat.two_pow_pos _), ← Nat.pow_add, show 64 - a - b + b = 64 - a by omega]
        exact a2
      have e : [(1, 1), (1, 1), (a, 5), (63 - a - b, 6), (x / 2 ^ b, 64 - a - b)] ++ fs = (1, 1) :: (1, 1) :: (a, 5) :: (63 - a - b, 6) :: (x / 2 ^ b, 64 - a - b) :: fs := rfl
      rw [e] at hr ⊢
      have h1 := take_f (v := 1) (w := 1) (fs := (1, 1) :: (a, 5) :: (63 - a - b, 6) :: (x / 2 ^ b, 64 - a - b) :: fs) hX hr (by decide)
      have h2 := take_f (v := 1) (w := 1) (fs := (a, 5) :: (63 - a - b, 6) :: (x / 2 ^ b, 64 - a - b) :: fs) hX rfl (by decide)
      have h3 := take_f (v := a) (w := 5) (fs := (63 - a - b, 6) :: (x / 2 ^ b, 64 - a - b) :: fs) hX rfl (show a < 2 ^ 5 by omega)
      have h4 := take_f (v := 63 - a - b) (w := 6) (fs := (x / 2 ^ b, 64 - a - b) :: fs) hX rfl (show 63 - a - b < 2 ^ 6 by omega)
      have h5 := take_f (v := x / 2 ^ b) (w := 64 - a - b) (fs := fs) hX rfl hy
      have e6 : 63 - a - b + 1 = 64 - a - b := by omega
      unfold rdX
      rw [h1]
      simp only [show ¬ (1 : Nat) = 0 by decide, if_false]
      rw [h2]
      simp only [show ¬ (1 : Nat) = 0 by decide, if_false]
      rw [h3]
      simp only
      rw [h4]
      simp only [e6]
      rw [if_neg (show ¬ 64 < a + (64 - a - b) by omega), h5]
      show some (x / 2 ^ b * 2 ^ (64 - a - (64 - a - b)), some (a, 64 - a - (64 - a - b)), _, _) = _
      rw [show 64 - a - (64 - a - b) = b by omega, Nat.div_mul_cancel hdv]
/-- k values more, behind prev. -/
def rdXs : Nat → Option (Nat × Nat) → Nat → Nat → Nat → Option (List Nat × Nat × Nat)
  | 0, _, _, R, rem => some ([], R, rem)
  | k + 1, win, prev, R, rem =>
    match rdX win R rem with
    | none => none
    | some (x, win', R1, rem1) => (rdXs k win' (prev ^^^ x) R1 rem1).map fun p => ((prev ^^^ x) :: p.1, p.2)
def rdVals : Nat → Nat → Nat → Option (List Nat × Nat × Nat)
  | 0, R, rem => some ([], R, rem)
  | n + 1, R, rem =>
    match takeB 64 R rem with
    | none => none
    | some (u, R1, rem1) => (rdXs n none u R1 rem1).map fun p => (u :: p.1, p.2)
theorem xor_back (prev v : Nat) : prev ^^^ (v ^^^ prev) = v := by rw [Nat.xor_comm v, ← Nat.xor_assoc, Nat.xor_self, Nat.zero_xor]
theorem rdXs_of (vs : List Nat) (hvs : ∀ v ∈ vs, v < 2 ^ 64) (win : Option (Nat × Nat)) (hw : WinOk win) (prev : Nat) (hp : prev < 2 ^ 64) {X r rem : Nat} (hX : X < 2 ^ r) (hr : rem = flen (encX win prev vs) + r) :
    rdXs vs.length win prev (fnum (encX win prev vs) * 2 ^ r + X) rem = some (vs, X, r) := by
  induction vs generalizing win prev rem with
  | nil =>
    subst hr
    show some (([] : List Nat), 0 * 2 ^ r + X, 0 + r) = _
    rw [Nat.zero_mul, Nat.zero_add, Nat.zero_add]
  | cons v vs ih =>
    have hv := hvs v (by simp)
    have hx : v ^^^ prev < 2 ^ 64 := Nat.xor_lt_two_pow hv hp
    have h := rdX_of (rem := rem) hw hx (encX (winX win (v ^^^ prev)) v vs) hX hr
    show (match rdX win (fnum (fieldsX win (v ^^^ prev) ++ encX (winX win (v ^^^ prev)) v vs) * 2 ^ r + X) rem with | none => none | some (x, win', R1, rem1) => (rdXs vs.length win' (prev ^^^ x) R1 rem1).map fun (p : List Nat × Nat × Nat) => ((prev ^^^ x) :: p.1, p.2)) = _
    rw [h]
    show (rdXs vs.length (winX win (v ^^^ prev)) (prev ^^^ (v ^^^ prev)) _ _).map _ = _
    rw [xor_back, ih (fun y hy => hvs y (by simp [hy])) (winX win (v ^^^ prev)) (winX_ok hw hx) v hv rfl]
    rfl
/-- Values are read as they were told. -/
theorem rdVals_of (vs : List Nat) (hvs : ∀ v ∈ vs, v < 2 ^ 64) {X r rem : Nat} (hX : X < 2 ^ r) (hr : rem = flen (encVals vs) + r) : rdVals vs.length (fnum (encVals vs) * 2 ^ r + X) rem = some (vs, X, r) := by
  cases vs with
  | nil =>
    subst hr
    show some (([] : List Nat), 0 * 2 ^ r + X, 0 + r) = _
    rw [Nat.zero_mul, Nat.zero_add, Nat.zero_add]
  | cons v vs =>
    have hv := hvs v (by simp)
    have ht := take_f (v := v) (w := 64) (fs := encX none v vs) (rem := rem) hX hr hv
    show (match takeB 64 (fnum ((v, 64) :: encX none v vs) * 2 ^ r + X) rem with | none => none | some (u, R1, rem1) => (rdXs vs.length none u R1 rem1).map fun (p : List Nat × Nat × Nat) => (u :: p.1, p.2)) = _
    rw [ht]
    show (rdXs vs.length none v _ _).map _ = _
    rw [rdXs_of vs (fun y hy => hvs y (by simp [hy])) none trivial v hv hX rfl]
    rfl
/-- What a row of n values is that bits begin with: read, and told again it is these bits. -/
def valRow (n R rem : Nat) : Option (List Nat × Nat × Nat) :=
  match rdVals n R rem with
  | none => none
  | some (vs, R', rem') => if flen (encVals vs) + rem' = rem ∧ fnum (encVals vs) = R / 2 ^ rem' then some (vs, R', rem') else none
theorem valRow_of (vs : List Nat) (hvs : ∀ v ∈ vs, v < 2 ^ 64) {X r rem : Nat} (hX : X < 2 ^ r) (hr : rem = flen (encVals vs) + r) : valRow vs.length (fnum (encVals vs) * 2 ^ r + X) rem = some (vs, X, r) := by
  have h := rdVals_of vs hvs hX hr
  unfold valRow
  rw [h]
  show (if flen (encVals vs) + r = rem ∧ fnum (encVals vs) = (fnum (encVals vs) * 2 ^ r + X) / 2 ^ r then some (vs, X, r) else none) = _
  rw [if_pos]
  refine ⟨hr.symm, ?_⟩
  rw [Nat.mul_comm, Nat.mul_add_div (Nat.two_pow_pos r), Nat.div_eq_of_lt hX, Nat.add_zero]
/-- How long a field's row is. -/
theorem fieldsX_len {win : Option (Nat × Nat)} {x : Nat} : (x = 0 → flen (fieldsX win x) = 1) ∧ (x ≠ 0 → WinOk win → 3 ≤ flen (fieldsX win x)) ∧ flen (fieldsX win x) ≤ 77 := by
  refine ⟨fun h => ?_, fun h hw => ?_, ?_⟩
  · unfold fieldsX; rw [if_pos h]; rfl
  · unfold fieldsX
    rw [if_neg h]
    split
    · rename_i hf
      cases win with
      | none => cases hf
      | some p =>
        obtain ⟨a, b⟩ := p
        obtain ⟨w1, w2⟩ := hw
        show 3 ≤ 1 + (1 + ((64 - a - b) + 0))
        omega
    · show 3 ≤ 1 + (1 + (5 + (6 + _)))
      omega
  · unfold fieldsX
    split
    · show 1 + 0 ≤ 77; omega
    · split
      · cases win with
        | none => show 0 ≤ 77; omega
        | some p =>
          obtain ⟨a, b⟩ := p
          show 1 + (1 + ((64 - a - b) + 0)) ≤ 77
          omega
      · show 1 + (1 + (5 + (6 + ((64 - aheadN x - behindN x) + 0)))) ≤ 77
        omega
end Go.Proofs.YtdlkjfnifjlbhaaDoor
