/- A turn is read, as states of a reader: loosely, and as it is told; what values cost. -/
import Derived.Test.YtdlkjfnifjlbhaaDoorXs
namespace Go.Proofs.YtdlkjfnifjlbhaaDoor

def SmallO (s : Option (Nat × Nat)) : Prop := ∀ R rem, s = some (R, rem) → R < 2 ^ rem
theorem getO_some {k R1 rem1 : Nat} {s : Option (Nat × Nat)} (h : (getO k s).2 = some (R1, rem1)) : ∃ R rem, s = some (R, rem) ∧ takeB k R rem = some ((getO k s).1, R1, rem1) := by
  cases s with
  | none => cases h
  | some p =>
    obtain ⟨R, rem⟩ := p
    refine ⟨R, rem, rfl, ?_⟩
    rw [getO_take] at h ⊢
    cases ht : takeB k R rem with
    | none => rw [ht] at h; cases h
    | some q =>
      obtain ⟨v, R2, rem2⟩ := q
      rw [ht] at h
      have h2 : some (R2, rem2) = some (R1, rem1) := h
      injection h2 with h2
      injection h2 with e1 e2
      subst e1 e2
      rfl
theorem getO_bad {k R rem : Nat} (h : (getO k (some (R, rem))).2 = none) : takeB k R rem = none := by
  rw [getO_take] at h
  cases ht : takeB k R rem with
  | none => rfl
  | some q => rw [ht] at h; cases h
theorem getO_bad0 {k : Nat} {s : Option (Nat × Nat)} (h : (getO k s).2 = none) : (getO k s).1 = 0 := by
  cases s with
  | none => rfl
  | some p =>
    obtain ⟨R, rem⟩ := p
    have := getO_bad h
    rw [getO_take, this]
theorem SmallO.get {s : Option (Nat × Nat)} (h : SmallO s) (k : Nat) : SmallO (getO k s).2 := by
  intro R1 rem1 h1
  obtain ⟨R, rem, rfl, ht⟩ := getO_some h1
  exact (took_take ht (h _ _ rfl)).1.2.1
theorem SmallO.lt {s : Option (Nat × Nat)} (h : SmallO s) (k : Nat) : (getO k s).1 < 2 ^ k := by
  cases s with
  | none => exact Nat.two_pow_pos k
  | some p => exact getO_lt (h _ _ rfl) k
theorem SmallO.bit {s : Option (Nat × Nat)} (h : SmallO s) : (getO 1 s).1 = 0 ∨ (getO 1 s).1 = 1 := by
  have := h.lt 1
  omega
def rdO (win : Option (Nat × Nat)) : Option (Nat × Nat) → Option (Nat × Option (Nat × Nat) × Nat × Nat)
  | none => none
  | some (R, rem) => rdX win R rem
def stO (win : Option (Nat × Nat)) : Option (Nat × Nat) → Option (Nat × Option (Nat × Nat) × Nat × Nat)
  | none => none
  | some (R, rem) => stX win R rem
/-- Fields were taken off a state. -/
def TookO (fs : List (Nat × Nat)) (s : Option (Nat × Nat)) (R1 rem1 : Nat) : Prop := ∃ R rem, s = some (R, rem) ∧ Took fs R rem R1 rem1
theorem tookO_get {k R1 rem1 : Nat} {s : Option (Nat × Nat)} (hs : SmallO s) (h : (getO k s).2 = some (R1, rem1)) : TookO [((getO k s).1, k)] s R1 rem1 := by
  obtain ⟨R, rem, e, ht⟩ := getO_some h
  exact ⟨R, rem, e, (took_take ht (hs _ _ e)).1⟩
theorem TookO.snoc {k R1 rem1 : Nat} {fs : List (Nat × Nat)} {s s' : Option (Nat × Nat)} (h : (getO k s').2 = some (R1, rem1)) (h0 : ∀ R2 rem2, s' = some (R2, rem2) → TookO fs s R2 rem2) : TookO (fs ++ [((getO k s').1, k)]) s R1 rem1 := by
  obtain ⟨R2, rem2, e, ht⟩ := getO_some h
  obtain ⟨R, rem, e0, ht0⟩ := h0 R2 rem2 e
  exact ⟨R, rem, e0, ht0.snoc ht⟩
theorem stO_of {win win' : Option (Nat × Nat)} {s : Option (Nat × Nat)} {x R1 rem1 : Nat} {fs : List (Nat × Nat)} (hr : rdO win s = some (x, win', R1, rem1)) (ht : TookO fs s R1 rem1) :
    stO win s = if flen (fieldsX win x) = flen fs ∧ fnum (fieldsX win x) = fnum fs then some (x, winX win x, R1, rem1) else none := by
  obtain ⟨R, rem, rfl, h⟩ := ht
  have hr' : rdX win R rem = some (x, win', R1, rem1) := hr
  show stX win R rem = _
  unfold stX
  rw [hr']
  simp only
  by_cases hc : flen (fieldsX win x) = flen fs ∧ fnum (fieldsX win x) = fnum fs
  · rw [if_pos hc, if_pos (h.same.2 hc)]
  · rw [if_neg hc, if_neg (fun h2 => hc (h.same.1 h2))]
theorem stO_none {win : Option (Nat × Nat)} {s : Option (Nat × Nat)} (hr : rdO win s = none) : stO win s = none := by
  cases s with
  | none => rfl
  | some p =>
    obtain ⟨R, rem⟩ := p
    have hr' : rdX win R rem = none := hr
    show stX win R rem = none
    unfold stX
    rw [hr']
section
variable {win : Option (Nat × Nat)} {s : Option (Nat × Nat)}
theorem rdO_zero (h : (getO 1 s).1 = 0) : rdO win s = (getO 1 s).2.map fun p => (0, win, p.1, p.2) := by
  cases s with
  | none => rfl
  | some p =>
    obtain ⟨R, rem⟩ := p
    show rdX win R rem = _
    unfold rdX
    rw [getO_take] at h ⊢
    cases ht : takeB 1 R rem with
    | none => rfl
    | some q =>
      obtain ⟨v, R1, rem1⟩ := q
      rw [ht] at h
      have h' : v = 0 := h
      subst h'
      rfl
theorem rdO_one (h0 : (getO 1 s).1 ≠ 0) : ∃ R rem R1 rem1, s = some (R, rem) ∧ takeB 1 R rem = some ((getO 1 s).1, R1, rem1) ∧ (getO 1 s).2 = some (R1, rem1) := by
  cases h : (getO 1 s).2 with
  | none => exact absurd (getO_bad0 h) h0
  | some p =>
    obtain ⟨R, rem, e, ht⟩ := getO_some (R1 := p.1) (rem1 := p.2) h
    exact ⟨R, rem, _, _, e, ht, rfl⟩
theorem rdO_in_none (h0 : (getO 1 s).1 ≠ 0) (h1 : (getO 1 (getO 1 s).2).1 = 0) : rdO none s = none := by
  obtain ⟨R, rem, R1, rem1, rfl, ht, e1⟩ := rdO_one h0
  rw [e1, getO_take] at h1
  show rdX none R rem = none
  unfold rdX
  rw [ht]
  simp only
  rw [if_neg h0]
  cases ht1 : takeB 1 R1 rem1 with
  | none => rfl
  | some q =>
    rw [ht1] at h1
    have h1' : q.1 = 0 := h1
    simp only [h1', if_true]
theorem rdO_in {a b : Nat} (h0 : (getO 1 s).1 ≠ 0) (h1 : (getO 1 (getO 1 s).2).1 = 0) :
    rdO (some (a, b)) s = (getO (64 - a - b) (getO 1 (getO 1 s).2).2).2.map fun p => ((getO (64 - a - b) (getO 1 (getO 1 s).2).2).1 * 2 ^ b, some (a, b), p.1, p.2) := by
  obtain ⟨R, rem, R1, rem1, rfl, ht, e1⟩ := rdO_one h0
  rw [e1] at h1 ⊢
  rw [getO_take] at h1 ⊢
  show rdX (some (a, b)) R rem = _
  unfold rdX
  rw [ht]
  simp only
  rw [if_neg h0]
  cases ht1 : takeB 1 R1 rem1 with
  | none => rfl
  | some q =>
    obtain ⟨v, R2, rem2⟩ := q
    rw [ht1] at h1
    have h1' : v = 0 := h1
    subst h1'
    simp only [if_true]
    rw [getO_take]
    cases takeB (64 - a - b) R2 rem2 <;> rfl
theorem rdO_far (h0 : (getO 1 s).1 ≠ 0) (h1 : (getO 1 (getO 1 s).2).1 ≠ 0)
    (hf : 64 < (getO 5 (getO 1 (getO 1 s).2).2).1 + ((getO 6 (getO 5 (getO 1 (getO 1 s).2).2).2).1 + 1)) : rdO win s = none := by
  obtain ⟨R, rem, R1, rem1, rfl, ht, e1⟩ := rdO_one h0
  rw [e1] at h1 hf
  obtain ⟨R1', rem1', R2, rem2, e1', ht1, e2⟩ := rdO_one h1
  injection e1' with e1'
  injection e1' with x1 x2
  subst x1 x2
  rw [e2] at hf
  show rdX win R rem = none
  unfold rdX
  rw [ht]
  simp only
  rw [if_neg h0, ht1]
  simp only
  rw [if_neg h1]
  rw [getO_take] at hf
  cases ht2 : takeB 5 R2 rem2 with
  | none => rfl
  | some q =>
    obtain ⟨a, R3, rem3⟩ := q
    rw [ht2] at hf
    simp only at hf ⊢
    rw [getO_take] at hf
    cases ht3 : takeB 6 R3 rem3 with
    | none => rfl
    | some q =>
      obtain ⟨m, R4, rem4⟩ := q
      rw [ht3] at hf
      simp only at hf ⊢
      rw [if_pos hf]
theorem rdO_fresh {a m : Nat} (h0 : (getO 1 s).1 ≠ 0) (h1 : (getO 1 (getO 1 s).2).1 ≠ 0) (ha : a = (getO 5 (getO 1 (getO 1 s).2).2).1) (hm : m = (getO 6 (getO 5 (getO 1 (getO 1 s).2).2).2).1) (hf : ¬ 64 < a + (m + 1)) :
    rdO win s = (getO (m + 1) (getO 6 (getO 5 (getO 1 (getO 1 s).2).2).2).2).2.map fun p => ((getO (m + 1) (getO 6 (getO 5 (getO 1 (getO 1 s).2).2).2).2).1 * 2 ^ (64 - a - (m + 1)), some (a, 64 - a - (m + 1)), p.1, p.2) := by
  obtain ⟨R, rem, R1, rem1, rfl, ht, e1⟩ := rdO_one h0
  rw [e1] at h1 ha hm ⊢
  obtain ⟨R1', rem1', R2, rem2, e1', ht1, e2⟩ := rdO_one h1
  injection e1' with e1'
  injection e1' with x1 x2
  subst x1 x2
  rw [e2] at ha hm ⊢
  show rdX win R rem = _
  unfold rdX
  rw [ht]
  simp only
  rw [if_neg h0, ht1]
  simp only
  rw [if_neg h1]
  rw [getO_take] at ha hm ⊢
  cases ht2 : takeB 5 R2 rem2 with
  | none => rfl
  | some q =>
    obtain ⟨a', R3, rem3⟩ := q
    rw [ht2] at ha hm
    simp only at ha hm ⊢
    subst ha
    rw [getO_take] at hm ⊢
    cases ht3 : takeB 6 R3 rem3 with
    | none => rfl
    | some q =>
      obtain ⟨m', R4, rem4⟩ := q
      rw [ht3] at hm
      simp only at hm ⊢
      subst hm
      rw [if_neg hf, getO_take]
      cases takeB (m + 1) R4 rem4 <;> rfl
/-- The same, as it is told. -/
theorem stO_zero (hs : SmallO s) (h : (getO 1 s).1 = 0) : stO win s = (getO 1 s).2.map fun p => (0, win, p.1, p.2) := by
  have hr := rdO_zero (win := win) h
  cases h1 : (getO 1 s).2 with
  | none => rw [h1] at hr; exact stO_none hr
  | some p =>
    obtain ⟨R1, rem1⟩ := p
    rw [h1] at hr
    have ht := tookO_get hs h1
    rw [h] at ht
    rw [stO_of hr ht]
    exact if_pos ⟨rfl, rfl⟩
theorem stO_in_none (h0 : (getO 1 s).1 ≠ 0) (h1 : (getO 1 (getO 1 s).2).1 = 0) : stO none s = none := stO_none (rdO_in_none h0 h1)
theorem stO_in {a b x : Nat} {s3 : Option (Nat × Nat)} (hs : SmallO s) (hw : WinOk (some (a, b))) (h0 : (getO 1 s).1 ≠ 0) (h1 : (getO 1 (getO 1 s).2).1 = 0)
    (hx : x = (getO (64 - a - b) (getO 1 (getO 1 s).2).2).1 * 2 ^ b) (h3 : s3 = (getO (64 - a - b) (getO 1 (getO 1 s).2).2).2) :
    stO (some (a, b)) s = (if x = 0 then none else s3.map fun p => (x, some (a, b), p.1, p.2)) ∧ x < 2 ^ 64 ∧ (x ≠ 0 → winX (some (a, b)) x = some (a, b)) := by
  have hr := rdO_in (a := a) (b := b) h0 h1
  rw [← hx, ← h3] at hr
  obtain ⟨w1, w2⟩ := hw
  have hy := ((hs.get 1).get 1).lt (64 - a - b)
  have hx64 : x < 2 ^ 64 := by
    rw [hx]
    have := Nat.mul_lt_mul_of_pos_right hy (Nat.two_pow_pos b)
    rw [← Nat.pow_add] at this
    exact Nat.lt_of_lt_of_le this (Nat.pow_le_pow_right (by omega) (by omega))
  have hfit : x ≠ 0 → fitsX (some (a, b)) x = true := fun h => by rw [hx] at h ⊢; exact (fits_of w1 (by omega) hy h).1
  refine ⟨?_, hx64, fun h => by unfold winX; rw [if_neg h, if_pos (hfit h)]⟩
  cases s3 with
  | none =>
    rw [stO_none hr]
    by_cases hx0 : x = 0
    · rw [if_pos hx0]
    · rw [if_neg hx0]; rfl
  | some p =>
    obtain ⟨R3, rem3⟩ := p
    have ht := TookO.snoc h3.symm fun R2 rem2 h2 => TookO.snoc h2 fun R1 rem1 h1 => tookO_get hs h1
    have hc0 : (getO 1 s).1 = 1 := hs.bit.resolve_left h0
    rw [hc0, h1] at ht
    rw [stO_of hr ht]
    by_cases hx0 : x = 0
    · refine (if_neg ?_).trans (if_pos hx0).symm
      rintro ⟨e, _⟩
      subst hx0
      have : flen (fieldsX (some (a, b)) 0) = 1 := rfl
      rw [this] at e
      have e2 : 1 = 1 + (1 + ((64 - a - b) + 0)) := e
      omega
    · have hf := hfit hx0
      have e1 : fieldsX (some (a, b)) x = [(1, 1), (0, 1), (x / 2 ^ b, 64 - a - b)] := by unfold fieldsX; rw [if_neg hx0, if_pos hf]; rfl
      have e2 : x / 2 ^ b = (getO (64 - a - b) (getO 1 (getO 1 s).2).2).1 := by rw [hx, Nat.mul_div_cancel _ (Nat.two_pow_pos _)]
      have e3 : winX (some (a, b)) x = some (a, b) := by unfold winX; rw [if_neg hx0, if_pos hf]
      rw [e1, e2, e3]
      exact (if_pos ⟨rfl, rfl⟩).trans (if_neg hx0).symm
theorem stO_far (h0 : (getO 1 s).1 ≠ 0) (h1 : (getO 1 (getO 1 s).2).1 ≠ 0)
    (hf : 64 < (getO 5 (getO 1 (getO 1 s).2).2).1 + ((getO 6 (getO 5 (getO 1 (getO 1 s).2).2).2).1 + 1)) : stO win s = none := stO_none (rdO_far h0 h1 hf)
theorem stO_fresh {a m x : Nat} {s5 : Option (Nat × Nat)} (hs : SmallO s) (hw : WinOk win) (h0 : (getO 1 s).1 ≠ 0) (h1 : (getO 1 (getO 1 s).2).1 ≠ 0) (ha : a = (getO 5 (getO 1 (getO 1 s).2).2).1) (hm : m = (getO 6 (getO 5 (getO 1 (getO 1 s).2).2).2).1) (hf : ¬ 64 < a + (m + 1))
    (hx : x = (getO (m + 1) (getO 6 (getO 5 (getO 1 (getO 1 s).2).2).2).2).1 * 2 ^ (64 - a - (m + 1))) (h5 : s5 = (getO (m + 1) (getO 6 (getO 5 (getO 1 (getO 1 s).2).2).2).2).2) :
    stO win s = (if x = 0 ∨ winX win x ≠ some (a, 64 - a - (m + 1)) ∨ win = some (a, 64 - a - (m + 1)) then none else s5.map fun p => (x, some (a, 64 - a - (m + 1)), p.1, p.2)) ∧ x < 2 ^ 64 := by
  have hr := rdO_fresh (win := win) h0 h1 ha hm hf
  rw [← hx, ← h5] at hr
  have hy := ((((hs.get 1).get 1).get 5).get 6).lt (m + 1)
  have hal : a < 2 ^ 5 := ha ▸ ((hs.get 1).get 1).lt 5
  have hx64 : x < 2 ^ 64 := by
    rw [hx]
    have := Nat.mul_lt_mul_of_pos_right hy (Nat.two_pow_pos (64 - a - (m + 1)))
    rw [← Nat.pow_add] at this
    exact Nat.lt_of_lt_of_le this (Nat.pow_le_pow_right (by omega) (by omega))
  refine ⟨?_, hx64⟩
  cases s5 with
  | none =>
    rw [stO_none hr]
    by_cases hx0 : x = 0 ∨ winX win x ≠ some (a, 64 - a - (m + 1)) ∨ win = some (a, 64 - a - (m + 1))
    · rw [if_pos hx0]
    · rw [if_neg hx0]; rfl
  | some p =>
    obtain ⟨R5, rem5⟩ := p
    have ht := TookO.snoc h5.symm fun R4 rem4 h4 => TookO.snoc h4 fun R3 rem3 h3 => TookO.snoc h3 fun R2 rem2 h2 => TookO.snoc h2 fun R1 rem1 h1 => tookO_get hs h1
    have hc0 : (getO 1 s).1 = 1 := hs.bit.resolve_left h0
    have hc1 : (getO 1 (getO 1 s).2).1 = 1 := (hs.get 1).bit.resolve_left h1
    rw [hc0, hc1, ← ha, ← hm] at ht
    obtain ⟨y, hyv⟩ : ∃ y, y = (getO (m + 1) (getO 6 (getO 5 (getO 1 (getO 1 s).2).2).2).2).1 := ⟨_, rfl⟩
    rw [← hyv] at ht hx hy
    rw [stO_of hr ht]
    obtain ⟨b, hb⟩ : ∃ b, b = 64 - a - (m + 1) := ⟨_, rfl⟩
    rw [← hb] at hx ⊢
    have hR : (((([(1, 1)] ++ [(1, 1)]) ++ [(a, 5)]) ++ [(m, 6)]) ++ [(y, m + 1)] : List (Nat × Nat)) = [(1, 1), (1, 1), (a, 5), (m, 6), (y, m + 1)] := rfl
    rw [hR] at ht ⊢
    by_cases hx0 : x = 0
    · refine (if_neg ?_).trans (if_pos (Or.inl hx0)).symm
      rintro ⟨e, _⟩
      subst hx0
      have : flen (fieldsX win 0) = 1 := rfl
      rw [this] at e
      have e2 : 1 = 1 + (1 + (5 + (6 + ((m + 1) + 0)))) := e
      omega
    · have hpos : 0 < x := by omega
      -- told so: it is no window told last, and what would be told is this one
      have hno : flen (fieldsX win x) = flen [(1, 1), (1, 1), (a, 5), (m, 6), (y, m + 1)] ∧ fnum (fieldsX win x) = fnum [(1, 1), (1, 1), (a, 5), (m, 6), (y, m + 1)] → fitsX win x = true → False := by
        rintro ⟨e1, e2⟩ hf2
        cases win with
        | none => cases hf2
        | some q =>
          obtain ⟨a', b'⟩ := q
          have e3 : fieldsX (some (a', b')) x = [(1, 1), (0, 1), (x / 2 ^ b', 64 - a' - b')] := by unfold fieldsX; rw [if_neg hx0, if_pos hf2]; rfl
          rw [e3] at e1 e2
          have f1 : 1 + (1 + ((64 - a' - b') + 0)) = 1 + (1 + (5 + (6 + ((m + 1) + 0)))) := e1
          obtain ⟨t, htt⟩ : ∃ t, t = 64 - a' - b' := ⟨_, rfl⟩
          rw [← htt] at e2 f1
          have f2 : 1 % 2 ^ 1 * 2 ^ (1 + (t + 0)) + (0 % 2 ^ 1 * 2 ^ (t + 0) + (x / 2 ^ b' % 2 ^ t * 2 ^ 0 + 0)) = 1 % 2 ^ 1 * 2 ^ (1 + (5 + (6 + ((m + 1) + 0)))) + (1 % 2 ^ 1 * 2 ^ (5 + (6 + ((m + 1) + 0))) + fnum [(a, 5), (m, 6), (y, m + 1)]) := e2
          have f3 : 5 + (6 + ((m + 1) + 0)) = t := by omega
          rw [f3, Nat.add_zero, Nat.pow_add, Nat.pow_one] at f2
          have f4 : x / 2 ^ b' % 2 ^ t < 2 ^ t := Nat.mod_lt _ (Nat.two_pow_pos _)
          generalize x / 2 ^ b' % 2 ^ t = q at *
          generalize fnum [(a, 5), (m, 6), (y, m + 1)] = r at *
          generalize (2 : Nat) ^ t = P at *
          omega
      by_cases hcond : winX win x ≠ some (a, b) ∨ win = some (a, b)
      · refine (if_neg ?_).trans (if_pos (Or.inr hcond)).symm
        intro htold
        have ht2 := ht
        obtain ⟨R, rem, rfl, hT⟩ := ht2
        have hT2 := hT.to htold.1 htold.2
        have h6 := stX_of (win := win) (x := x) (X := R5) (r := rem5) (rem := flen (fieldsX win x ++ []) + rem5) hw hx64 [] hT2.2.1 rfl
        have h7 := rdX_of (win := win) (x := x) (X := R5) (r := rem5) (rem := flen (fieldsX win x ++ []) + rem5) hw hx64 [] hT2.2.1 rfl
        rw [List.append_nil, ← hT2.1, ← hT2.2.2] at h7
        have h8 : rdX win R rem = some (x, some (a, 64 - a - (m + 1)), R5, rem5) := hr
        rw [h8] at h7
        injection h7 with h7
        injection h7 with _ h7
        injection h7 with h7 _
        rw [← hb] at h7
        rcases hcond with hc | hc
        · exact hc h7.symm
        · refine hno htold ?_
          rw [hc, hx]
          exact (fits_of (y := y) (by omega) (by omega) (by rw [show 64 - a - b = m + 1 by omega]; exact hy) (by rw [← hx]; exact hx0)).1
      · have hw1 : winX win x = some (a, b) := Classical.byContradiction fun h => hcond (.inl h)
        have hw2 : win ≠ some (a, b) := fun h => hcond (.inr h)
        have hnf : ¬ fitsX win x = true := by
          intro hf2
          unfold winX at hw1
          rw [if_neg hx0, if_pos hf2] at hw1
          exact hw2 hw1
        have e4 : aheadN x = a ∧ behindN x = b := by
          unfold winX at hw1
          rw [if_neg hx0, if_neg hnf] at hw1
          injection hw1 with hw1
          injection hw1 with x1 x2
          exact ⟨x1, x2⟩
        have e5 : fieldsX win x = [(1, 1), (1, 1), (a, 5), (m, 6), (y, m + 1)] := by
          unfold fieldsX freshX
          rw [if_neg hx0, if_neg hnf, e4.1, e4.2, show 63 - a - b = m by omega, show 64 - a - b = m + 1 by omega, hx, Nat.mul_div_cancel _ (Nat.two_pow_pos _)]
        rw [e5, hw1]
        exact (if_pos ⟨rfl, rfl⟩).trans (if_neg (fun h : x = 0 ∨ (some (a, b) ≠ some (a, b) ∨ win = some (a, b)) => h.elim hx0 (fun h => h.elim (fun h => h rfl) hw2))).symm
end
/-- What values cost. -/
theorem encX_cost : ∀ (zs : List Nat) (win : Option (Nat × Nat)) (prev i v u : Nat), WinOk win → prev < 2 ^ 64 → (∀ z ∈ zs, z < 2 ^ 64) → zs[i]? = some v → (prev :: zs)[i]? = some u →
    ∃ win', WinOk win' ∧ flen (encX win prev (zs.take (i + 1))) = flen (encX win prev (zs.take i)) + flen (fieldsX win' (v ^^^ u))
  | [], _, _, _, _, _, _, _, _, h, _ => by simp at h
  | z :: zs, win, prev, 0, v, u, hw, hp, hz, hv, hu => by
    have e1 : z = v := by simpa using hv
    have e2 : prev = u := by simpa using hu
    subst e1 e2
    exact ⟨win, hw, by show flen (fieldsX win (z ^^^ prev) ++ []) = 0 + _; rw [List.append_nil, Nat.zero_add]⟩
  | z :: zs, win, prev, i + 1, v, u, hw, hp, hz, hv, hu => by
    have hzz := hz z (by simp)
    obtain ⟨win', h1, h2⟩ := encX_cost zs (winX win (z ^^^ prev)) z i v u (winX_ok hw (Nat.xor_lt_two_pow hzz hp)) hzz (fun y hy => hz y (by simp [hy])) (by simpa using hv) (by simpa using hu)
    refine ⟨win', h1, ?_⟩
    show flen (fieldsX win (z ^^^ prev) ++ encX _ z (zs.take (i + 1))) = flen (fieldsX win (z ^^^ prev) ++ encX _ z (zs.take i)) + _
    rw [flen_app, flen_app, h2, Nat.add_assoc]
theorem encVals_cost {zs : List Nat} {i v u : Nat} (hz : ∀ z ∈ zs, z < 2 ^ 64) (hv : zs[i + 1]? = some v) (hu : zs[i]? = some u) :
    ∃ win', WinOk win' ∧ flen (encVals (zs.take (i + 2))) = flen (encVals (zs.take (i + 1))) + flen (fieldsX win' (v ^^^ u)) := by
  cases zs with
  | nil => simp at hv
  | cons z zs =>
    have hzz := hz z (by simp)
    obtain ⟨win', h1, h2⟩ := encX_cost zs none z i v u trivial hzz (fun y hy => hz y (by simp [hy])) (by simpa using hv) hu
    refine ⟨win', h1, ?_⟩
    show 64 + flen (encX none z (zs.take (i + 1))) = 64 + flen (encX none z (zs.take i)) + _
    rw [h2, Nat.add_assoc]
theorem encX_len : ∀ (zs : List Nat) (win : Option (Nat × Nat)) (prev : Nat), flen (encX win prev zs) ≤ 77 * zs.length
  | [], _, _ => Nat.zero_le _
  | z :: zs, win, prev => by
    have := encX_len zs (winX win (z ^^^ prev)) z
    have := (fieldsX_len (win := win) (x := z ^^^ prev)).2.2
    show flen (fieldsX win (z ^^^ prev) ++ encX _ z zs) ≤ _
    rw [flen_app, List.length_cons]
    omega
theorem encVals_len (zs : List Nat) : flen (encVals zs) ≤ 64 + 77 * zs.length := by
  cases zs with
  | nil => exact Nat.zero_le _
  | cons z zs =>
    have := encX_len zs none z
    show 64 + _ ≤ _
    rw [List.length_cons]
    omega
theorem encX_same (m : Nat) : ∀ n, flen (encX none m (List.replicate n m)) = n
  | 0 => rfl
  | n + 1 => by
    have h := encX_same m n
    show flen (fieldsX none (m ^^^ m) ++ encX (winX none (m ^^^ m)) m (List.replicate n m)) = _
    rw [Nat.xor_self]
    show flen ((0, 1) :: encX none m (List.replicate n m)) = _
    show 1 + flen (encX none m (List.replicate n m)) = _
    omega
theorem encVals_same (m n : Nat) : flen (encVals (List.replicate (n + 1) m)) = 64 + n := by
  show 64 + flen (encX none m (List.replicate n m)) = _
  rw [encX_same]
end Go.Proofs.YtdlkjfnifjlbhaaDoor
