/- Plain mathematics of values by what turns, the second part: a row that is read step by step, and told again, is the same row. -/
import Derived.Test.YtdlkjfnifjlbhaaDoorXm
import Derived.Test.YtdlkjfnifjlbhaaDoorGo
import Derived.Test.YtdlkjfnifjlbhaaDoorTd2
namespace Go.Proofs.YtdlkjfnifjlbhaaDoor

/-- Fields were taken off what a reader had. -/
def Took (fs : List (Nat × Nat)) (R rem R1 rem1 : Nat) : Prop := R = fnum fs * 2 ^ rem1 + R1 ∧ R1 < 2 ^ rem1 ∧ rem = flen fs + rem1
theorem Took.nil {R rem : Nat} (h : R < 2 ^ rem) : Took [] R rem R rem := ⟨by show R = 0 * _ + R; omega, h, by show rem = 0 + rem; omega⟩
theorem Took.app {fs gs : List (Nat × Nat)} {R rem R1 rem1 R2 rem2 : Nat} (h : Took fs R rem R1 rem1) (h2 : Took gs R1 rem1 R2 rem2) : Took (fs ++ gs) R rem R2 rem2 := by
  obtain ⟨a1, _, a3⟩ := h
  obtain ⟨b1, b2, b3⟩ := h2
  refine ⟨?_, b2, by rw [flen_app, a3, b3, Nat.add_assoc]⟩
  rw [a1, b1, b3, fnum_app, Nat.pow_add, Nat.add_mul, Nat.mul_assoc, Nat.add_assoc]
theorem took_take {k R rem v R1 rem1 : Nat} (h : takeB k R rem = some (v, R1, rem1)) (hR : R < 2 ^ rem) : Took [(v, k)] R rem R1 rem1 ∧ v < 2 ^ k := by
  obtain ⟨h1, h2, h3⟩ := takeB_some h hR
  unfold takeB at h
  split at h
  · rename_i hk
    injection h with h
    injection h with e1 h
    injection h with e2 e3
    subst e3
    have hv : v < 2 ^ k := h1
    refine ⟨⟨?_, h2, by show rem = (k + 0) + (rem - k); omega⟩, hv⟩
    show R = (v % 2 ^ k * 2 ^ 0 + 0) * 2 ^ (rem - k) + R1
    rw [Nat.mod_eq_of_lt hv, Nat.pow_zero, Nat.mul_one, Nat.add_zero, ← e1, ← e2, Nat.mul_comm, Nat.div_add_mod]
  · cases h
theorem Took.snoc {fs : List (Nat × Nat)} {R rem R1 rem1 k v R2 rem2 : Nat} (h : Took fs R rem R1 rem1) (ht : takeB k R1 rem1 = some (v, R2, rem2)) : Took (fs ++ [(v, k)]) R rem R2 rem2 := h.app (took_take ht h.2.1).1
theorem Took.same {fs gs : List (Nat × Nat)} {R rem R1 rem1 : Nat} (h : Took fs R rem R1 rem1) : (flen gs + rem1 = rem ∧ fnum gs = R / 2 ^ rem1) ↔ (flen gs = flen fs ∧ fnum gs = fnum fs) := by
  obtain ⟨a1, a2, a3⟩ := h
  have e : R / 2 ^ rem1 = fnum fs := by rw [a1, Nat.mul_comm, Nat.mul_add_div (Nat.two_pow_pos _), Nat.div_eq_of_lt a2, Nat.add_zero]
  rw [e]
  constructor
  · rintro ⟨h1, h2⟩; exact ⟨by omega, h2⟩
  · rintro ⟨h1, h2⟩; exact ⟨by omega, h2⟩
theorem Took.to {fs gs : List (Nat × Nat)} {R rem R1 rem1 : Nat} (h : Took fs R rem R1 rem1) (h1 : flen gs = flen fs) (h2 : fnum gs = fnum fs) : Took gs R rem R1 rem1 := ⟨by rw [h2]; exact h.1, h.2.1, by rw [h1]; exact h.2.2⟩

theorem behind_le {x b : Nat} (h0 : 0 < x) (hx : x < 2 ^ 64) (hd : 2 ^ b ∣ x) : b ≤ behindN x := by
  obtain ⟨_, h2⟩ := behind_spec h0 hx
  rcases Nat.lt_or_ge (behindN x) b with h | h
  · exfalso
    obtain ⟨z, hz⟩ := Nat.dvd_trans (Nat.pow_dvd_pow 2 h) hd
    have e : x / 2 ^ behindN x = 2 * z := by
      have h3 : x = 2 ^ behindN x * (2 * z) := by rw [← Nat.mul_assoc, ← Nat.pow_succ]; exact hz
      exact Nat.div_eq_of_eq_mul_right (Nat.two_pow_pos _) h3
    omega
  · exact h
theorem ahead_ge {x a : Nat} (hx : x < 2 ^ (64 - a)) (ha : a ≤ 31) : a ≤ aheadN x := by
  have hx64 : x < 2 ^ 64 := Nat.lt_of_lt_of_le hx (Nat.pow_le_pow_right (by omega) (by omega))
  obtain ⟨h1, h2, h3⟩ := ahead_spec hx64
  rcases Nat.lt_or_ge (aheadN x) a with h | h
  · exfalso
    have h4 := h3 (by omega)
    have h5 : 2 ^ (63 - aheadN x) < 2 ^ (64 - a) := by omega
    have := (Nat.pow_lt_pow_iff_right (by omega : 1 < 2)).1 h5
    omega
  · exact h
theorem fits_of {a b y : Nat} (ha : a ≤ 31) (hab : a + b ≤ 64) (hy : y < 2 ^ (64 - a - b)) (h0 : y * 2 ^ b ≠ 0) : fitsX (some (a, b)) (y * 2 ^ b) = true ∧ y * 2 ^ b < 2 ^ (64 - a) := by
  have hx : y * 2 ^ b < 2 ^ (64 - a) := by
    have := Nat.mul_lt_mul_of_pos_right hy (Nat.two_pow_pos b)
    rwa [← Nat.pow_add, show 64 - a - b + b = 64 - a by omega] at this
  have hx64 : y * 2 ^ b < 2 ^ 64 := Nat.lt_of_lt_of_le hx (Nat.pow_le_pow_right (by omega) (by omega))
  exact ⟨decide_eq_true ⟨ahead_ge hx ha, behind_le (by omega) hx64 (Nat.dvd_mul_left _ _)⟩, hx⟩

/-- What a turn's fields were. -/
def Shape (win : Option (Nat × Nat)) (x : Nat) (win' : Option (Nat × Nat)) (fs : List (Nat × Nat)) : Prop :=
  (fs = [(0, 1)] ∧ x = 0 ∧ win' = win) ∨
  (∃ a b y, win = some (a, b) ∧ fs = [(1, 1), (0, 1), (y, 64 - a - b)] ∧ y < 2 ^ (64 - a - b) ∧ x = y * 2 ^ b ∧ win' = win) ∨
  (∃ a m y, a < 32 ∧ m < 64 ∧ a + (m + 1) ≤ 64 ∧ fs = [(1, 1), (1, 1), (a, 5), (m, 6), (y, m + 1)] ∧ y < 2 ^ (m + 1) ∧ x = y * 2 ^ (64 - a - (m + 1)) ∧ win' = some (a, 64 - a - (m + 1)))
theorem rdX_shape {win win' : Option (Nat × Nat)} {R rem x R1 rem1 : Nat} (h : rdX win R rem = some (x, win', R1, rem1)) (hR : R < 2 ^ rem) : ∃ fs, Took fs R rem R1 rem1 ∧ Shape win x win' fs := by
  unfold rdX at h
  cases h0 : takeB 1 R rem with
  | none => rw [h0] at h; cases h
  | some p0 =>
    obtain ⟨c0, Ra, rema⟩ := p0
    rw [h0] at h
    obtain ⟨t0, l0⟩ := took_take h0 hR
    simp only at h
    by_cases hc0 : c0 = 0
    · rw [if_pos hc0] at h
      injection h with h
      injection h with e1 h
      injection h with e2 h
      injection h with e3 e4
      subst e1 e2 e3 e4 hc0
      exact ⟨_, t0, .inl ⟨rfl, rfl, rfl⟩⟩
    · rw [if_neg hc0] at h
      obtain rfl : c0 = 1 := by omega
      cases h1 : takeB 1 Ra rema with
      | none => rw [h1] at h; cases h
      | some p1 =>
        obtain ⟨c1, Rb, remb⟩ := p1
        rw [h1] at h
        obtain ⟨_, l1⟩ := took_take h1 t0.2.1
        have t1 := t0.snoc h1
        simp only at h
        by_cases hc1 : c1 = 0
        · rw [if_pos hc1] at h
          subst hc1
          cases win with
          | none => cases h
          | some p =>
            obtain ⟨a, b⟩ := p
            simp only at h
            cases h2 : takeB (64 - a - b) Rb remb with
            | none => rw [h2] at h; cases h
            | some p2 =>
              obtain ⟨y, Rc, remc⟩ := p2
              rw [h2] at h
              obtain ⟨_, l2⟩ := took_take h2 t1.2.1
              have t2 := t1.snoc h2
              injection h with h
              injection h with e1 h
              injection h with e2 h
              injection h with e3 e4
              subst e3 e4
              exact ⟨_, t2, .inr (.inl ⟨a, b, y, rfl, rfl, l2, e1.symm, e2.symm⟩)⟩
        · rw [if_neg hc1] at h
          obtain rfl : c1 = 1 := by omega
          cases h2 : takeB 5 Rb remb with
          | none => rw [h2] at h; cases h
          | some p2 =>
            obtain ⟨a, Rc, remc⟩ := p2
            rw [h2] at h
            obtain ⟨_, l2⟩ := took_take h2 t1.2.1
            have t2 := t1.snoc h2
            simp only at h
            cases h3 : takeB 6 Rc remc with
            | none => rw [h3] at h; cases h
            | some p3 =>
              obtain ⟨m, Rd, remd⟩ := p3
              rw [h3] at h
              obtain ⟨_, l3⟩ := took_take h3 t2.2.1
              have t3 := t2.snoc h3
              simp only at h
              by_cases hb : 64 < a + (m + 1)
              · rw [if_pos hb] at h; cases h
              · rw [if_neg hb] at h
                cases h4 : takeB (m + 1) Rd remd with
                | none => rw [h4] at h; cases h
                | some p4 =>
                  obtain ⟨y, Re, reme⟩ := p4
                  rw [h4] at h
                  obtain ⟨_, l4⟩ := took_take h4 t3.2.1
                  have t4 := t3.snoc h4
                  injection h with h
                  injection h with e1 h
                  injection h with e2 h
                  injection h with e3 e4
                  subst e3 e4
                  exact ⟨_, t4, .inr (.inr ⟨a, m, y, l2, l3, by omega, rfl, l4, e1.symm, e2.symm⟩)⟩
theorem Shape.lt {win win' : Option (Nat × Nat)} {x : Nat} {fs : List (Nat × Nat)} (h : Shape win x win' fs) (hw : WinOk win) : x < 2 ^ 64 := by
  rcases h with ⟨_, rfl, _⟩ | ⟨a, b, y, rfl, _, hy, rfl, _⟩ | ⟨a, m, y, ha, hm, hab, _, hy, rfl, _⟩
  · decide
  · obtain ⟨w1, w2⟩ := hw
    have := Nat.mul_lt_mul_of_pos_right hy (Nat.two_pow_pos b)
    rw [← Nat.pow_add] at this
    exact Nat.lt_of_lt_of_le this (Nat.pow_le_pow_right (by omega) (by omega))
  · have := Nat.mul_lt_mul_of_pos_right hy (Nat.two_pow_pos (64 - a - (m + 1)))
    rw [← Nat.pow_add] at this
    exact Nat.lt_of_lt_of_le this (Nat.pow_le_pow_right (by omega) (by omega))
theorem Shape.ok {win win' : Option (Nat × Nat)} {x : Nat} {fs : List (Nat × Nat)} (h : Shape win x win' fs) (hw : WinOk win) : WinOk win' := by
  rcases h with ⟨_, _, rfl⟩ | ⟨a, b, y, _, _, _, _, rfl⟩ | ⟨a, m, y, ha, hm, hab, _, _, _, rfl⟩
  · exact hw
  · exact hw
  · exact ⟨by omega, by omega⟩
theorem Shape.pos {win win' : Option (Nat × Nat)} {x : Nat} {fs : List (Nat × Nat)} (h : Shape win x win' fs) : 1 ≤ flen fs := by
  rcases h with ⟨rfl, _, _⟩ | ⟨a, b, y, _, rfl, _, _, _⟩ | ⟨a, m, y, ha, hm, hab, rfl, _, _, _⟩
  · exact Nat.le_refl _
  · show 1 ≤ 1 + _; omega
  · show 1 ≤ 1 + _; omega

/-- A turn is read, and told again in these bits. -/
def stX (win : Option (Nat × Nat)) (R rem : Nat) : Option (Nat × Option (Nat × Nat) × Nat × Nat) :=
  match rdX win R rem with
  | none => none
  | some (x, _, R1, rem1) => if flen (fieldsX win x) + rem1 = rem ∧ fnum (fieldsX win x) = R / 2 ^ rem1 then some (x, winX win x, R1, rem1) else none
theorem stX_took {win win' : Option (Nat × Nat)} {R rem x R1 rem1 : Nat} (h : stX win R rem = some (x, win', R1, rem1)) (hR : R < 2 ^ rem) (hw : WinOk win) : Took (fieldsX win x) R rem R1 rem1 ∧ win' = winX win x ∧ x < 2 ^ 64 := by
  unfold stX at h
  cases h0 : rdX win R rem with
  | none => rw [h0] at h; cases h
  | some p =>
    obtain ⟨x', w2, R2, rem2⟩ := p
    rw [h0] at h
    simp only at h
    obtain ⟨fs, ht, hs⟩ := rdX_shape h0 hR
    split at h
    · rename_i hc
      injection h with h
      injection h with e1 h
      injection h with e2 h
      injection h with e3 e4
      subst e1 e3 e4
      obtain ⟨c1, c2⟩ := ht.same.1 hc
      exact ⟨ht.to c1 c2, e2.symm, hs.lt hw⟩
    · cases h
theorem stX_of {win : Option (Nat × Nat)} {x X r rem : Nat} (hw : WinOk win) (hx : x < 2 ^ 64) (fs : List (Nat × Nat)) (hX : X < 2 ^ r) (hr : rem = flen (fieldsX win x ++ fs) + r) :
    stX win (fnum (fieldsX win x ++ fs) * 2 ^ r + X) rem = some (x, winX win x, fnum fs * 2 ^ r + X, flen fs + r) := by
  have h := rdX_of hw hx fs hX hr
  unfold stX
  rw [h]
  simp only
  rw [if_pos]
  refine ⟨by rw [hr, flen_app]; omega, ?_⟩
  have h2 := fnum_tail fs hX
  rw [fnum_app, Nat.add_mul, Nat.mul_assoc, ← Nat.pow_add, Nat.add_assoc, Nat.mul_comm, Nat.mul_add_div (Nat.two_pow_pos _), Nat.div_eq_of_lt h2, Nat.add_zero]
def stXs : Nat → Option (Nat × Nat) → Nat → Nat → Nat → Option (List Nat × Nat × Nat)
  | 0, _, _, R, rem => some ([], R, rem)
  | k + 1, win, prev, R, rem =>
    match stX win R rem with
    | none => none
    | some (x, win', R1, rem1) => (stXs k win' (prev ^^^ x) R1 rem1).map fun p => ((prev ^^^ x) :: p.1, p.2)
def stVals : Nat → Nat → Nat → Option (List Nat × Nat × Nat)
  | 0, R, rem => some ([], R, rem)
  | n + 1, R, rem =>
    match takeB 64 R rem with
    | none => none
    | some (u, R1, rem1) => (stXs n none u R1 rem1).map fun p => (u :: p.1, p.2)
theorem xor_forth (prev x : Nat) : (prev ^^^ x) ^^^ prev = x := by rw [Nat.xor_comm, ← Nat.xor_assoc, Nat.xor_self, Nat.zero_xor]
theorem stXs_took {k : Nat} {win : Option (Nat × Nat)} {prev R rem : Nat} {vs : List Nat} {R1 rem1 : Nat} (h : stXs k win prev R rem = some (vs, R1, rem1)) (hR : R < 2 ^ rem) (hw : WinOk win) (hp : prev < 2 ^ 64) :
    Took (encX win prev vs) R rem R1 rem1 ∧ vs.length = k ∧ ∀ v ∈ vs, v < 2 ^ 64 := by
  induction k generalizing win prev R rem vs with
  | zero =>
    injection h with h
    injection h with e1 h
    injection h with e2 e3
    subst e1 e2 e3
    exact ⟨Took.nil hR, rfl, fun _ h => by cases h⟩
  | succ k ih =>
    have e : stXs (k + 1) win prev R rem = match stX win R rem with | none => none | some (x, win', R1, rem1) => (stXs k win' (prev ^^^ x) R1 rem1).map fun (p : List Nat × Nat × Nat) => ((prev ^^^ x) :: p.1, p.2) := rfl
    rw [e] at h
    cases h0 : stX win R rem with
    | none => rw [h0] at h; cases h
    | some q =>
      obtain ⟨x, win', R2, rem2⟩ := q
      rw [h0] at h
      obtain ⟨t1, t2, t3⟩ := stX_took h0 hR hw
      obtain ⟨p, hp1, hp2⟩ := Option.map_eq_some_iff.1 h
      obtain ⟨us, R3, rem3⟩ := p
      injection hp2 with e1 e2
      injection e2 with e2 e3
      subst e1 e2 e3
      have hv : prev ^^^ x < 2 ^ 64 := Nat.xor_lt_two_pow hp t3
      subst t2
      obtain ⟨i1, i2, i3⟩ := ih hp1 t1.2.1 (winX_ok hw t3) hv
      refine ⟨?_, by simp [i2], fun v hv' => ?_⟩
      · show Took (fieldsX win ((prev ^^^ x) ^^^ prev) ++ encX (winX win ((prev ^^^ x) ^^^ prev)) (prev ^^^ x) us) R rem R3 rem3
        rw [xor_forth]
        exact t1.app i1
      · rcases List.mem_cons.1 hv' with rfl | hm
        · exact hv
        · exact i3 v hm
theorem stVals_took {n R rem : Nat} {vs : List Nat} {R1 rem1 : Nat} (h : stVals n R rem = some (vs, R1, rem1)) (hR : R < 2 ^ rem) : Took (encVals vs) R rem R1 rem1 ∧ vs.length = n ∧ ∀ v ∈ vs, v < 2 ^ 64 := by
  cases n with
  | zero =>
    injection h with h
    injection h with e1 h
    injection h with e2 e3
    subst e1 e2 e3
    exact ⟨Took.nil hR, rfl, fun _ h => by cases h⟩
  | succ n =>
    have e : stVals (n + 1) R rem = match takeB 64 R rem with | none => none | some (u, R1, rem1) => (stXs n none u R1 rem1).map fun (p : List Nat × Nat × Nat) => (u :: p.1, p.2) := rfl
    rw [e] at h
    cases h0 : takeB 64 R rem with
    | none => rw [h0] at h; cases h
    | some q =>
      obtain ⟨u, R2, rem2⟩ := q
      rw [h0] at h
      obtain ⟨t1, hu⟩ := took_take h0 hR
      obtain ⟨p, hp1, hp2⟩ := Option.map_eq_some_iff.1 h
      obtain ⟨us, R3, rem3⟩ := p
      injection hp2 with e1 e2
      injection e2 with e2 e3
      subst e1 e2 e3
      obtain ⟨i1, i2, i3⟩ := stXs_took hp1 t1.2.1 trivial hu
      refine ⟨t1.app i1, by simp [i2], fun v hv' => ?_⟩
      rcases List.mem_cons.1 hv' with rfl | hm
      · exact hu
      · exact i3 v hm
theorem stXs_of (vs : List Nat) (hvs : ∀ v ∈ vs, v < 2 ^ 64) (win : Option (Nat × Nat)) (hw : WinOk win) (prev : Nat) (hp : prev < 2 ^ 64) {X r rem : Nat} (hX : X < 2 ^ r) (hr : rem = flen (encX win prev vs) + r) :
    stXs vs.length win prev (fnum (encX win prev vs) * 2 ^ r + X) rem = some (vs, X, r) := by
  induction vs generalizing win prev rem with
  | nil =>
    subst hr
    show some (([] : List Nat), 0 * 2 ^ r + X, 0 + r) = _
    rw [Nat.zero_mul, Nat.zero_add, Nat.zero_add]
  | cons v vs ih =>
    have hv := hvs v (by simp)
    have hx : v ^^^ prev < 2 ^ 64 := Nat.xor_lt_two_pow hv hp
    have h := stX_of (rem := rem) hw hx (encX (winX win (v ^^^ prev)) v vs) hX hr
    show (match stX win (fnum (fieldsX win (v ^^^ prev) ++ encX (winX win (v ^^^ prev)) v vs) * 2 ^ r + X) rem with | none => none | some (x, win', R1, rem1) => (stXs vs.length win' (prev ^^^ x) R1 rem1).map fun (p : List Nat × Nat × Nat) => ((prev ^^^ x) :: p.1, p.2)) = _
    rw [h]
    show (stXs vs.length (winX win (v ^^^ prev)) (prev ^^^ (v ^^^ prev)) _ _).map _ = _
    rw [xor_back, ih (fun y hy => hvs y (by simp [hy])) (winX win (v ^^^ prev)) (winX_ok hw hx) v hv rfl]
    rfl
theorem stVals_of (vs : List Nat) (hvs : ∀ v ∈ vs, v < 2 ^ 64) {X r rem : Nat} (hX : X < 2 ^ r) (hr : rem = flen (encVals vs) + r) : stVals vs.length (fnum (encVals vs) * 2 ^ r + X) rem = some (vs, X, r) := by
  cases vs with
  | nil =>
    subst hr
    show some (([] : List Nat), 0 * 2 ^ r + X, 0 + r) = _
    rw [Nat.zero_mul, Nat.zero_add, Nat.zero_add]
  | cons v vs =>
    have hv := hvs v (by simp)
    have ht := take_f (v := v) (w := 64) (fs := encX none v vs) (rem := rem) hX hr hv
    show (match takeB 64 (fnum ((v, 64) :: encX none v vs) * 2 ^ r + X) rem with | none => none | some (u, R1, rem1) => (stXs vs.length none u R1 rem1).map fun (p : List Nat × Nat × Nat) => (u :: p.1, p.2)) = _
    rw [ht]
    show (stXs vs.length none v _ _).map _ = _
    rw [stXs_of vs (fun y hy => hvs y (by simp [hy])) none trivial v hv hX rfl]
    rfl
/-- What is read loosely: how many, which, and how much is left. -/
theorem rdXs_some {k : Nat} {win : Option (Nat × Nat)} {prev R rem : Nat} {vs : List Nat} {R1 rem1 : Nat} (h : rdXs k win prev R rem = some (vs, R1, rem1)) (hR : R < 2 ^ rem) (hw : WinOk win) (hp : prev < 2 ^ 64) :
    (∃ fs, Took fs R rem R1 rem1 ∧ k ≤ flen fs) ∧ vs.length = k ∧ ∀ v ∈ vs, v < 2 ^ 64 := by
  induction k generalizing win prev R rem vs with
  | zero =>
    injection h with h
    injection h with e1 h
    injection h with e2 e3
    subst e1 e2 e3
    exact ⟨⟨_, Took.nil hR, Nat.zero_le _⟩, rfl, fun _ h => by cases h⟩
  | succ k ih =>
    have e : rdXs (k + 1) win prev R rem = match rdX win R rem with | none => none | some (x, win', R1, rem1) => (rdXs k win' (prev ^^^ x) R1 rem1).map fun (p : List Nat × Nat × Nat) => ((prev ^^^ x) :: p.1, p.2) := rfl
    rw [e] at h
    cases h0 : rdX win R rem with
    | none => rw [h0] at h; cases h
    | some q =>
      obtain ⟨x, win', R2, rem2⟩ := q
      rw [h0] at h
      obtain ⟨fs, t1, hs⟩ := rdX_shape h0 hR
      obtain ⟨p, hp1, hp2⟩ := Option.map_eq_some_iff.1 h
      obtain ⟨us, R3, rem3⟩ := p
      injection hp2 with e1 e2
      injection e2 with e2 e3
      subst e1 e2 e3
      have hv : prev ^^^ x < 2 ^ 64 := Nat.xor_lt_two_pow hp (hs.lt hw)
      obtain ⟨⟨gs, i1, i0⟩, i2, i3⟩ := ih hp1 t1.2.1 (hs.ok hw) hv
      refine ⟨⟨_, t1.app i1, ?_⟩, by simp [i2], fun v hv' => ?_⟩
      · have := hs.pos
        rw [flen_app]; omega
      · rcases List.mem_cons.1 hv' with rfl | hm
        · exact hv
        · exact i3 v hm
theorem rdVals_some {n R rem : Nat} {vs : List Nat} {R1 rem1 : Nat} (h : rdVals n R rem = some (vs, R1, rem1)) (hR : R < 2 ^ rem) : (∃ fs, Took fs R rem R1 rem1) ∧ vs.length = n ∧ ∀ v ∈ vs, v < 2 ^ 64 := by
  cases n with
  | zero =>
    injection h with h
    injection h with e1 h
    injection h with e2 e3
    subst e1 e2 e3
    exact ⟨⟨_, Took.nil hR⟩, rfl, fun _ h => by cases h⟩
  | succ n =>
    have e : rdVals (n + 1) R rem = match takeB 64 R rem with | none => none | some (u, R1, rem1) => (rdXs n none u R1 rem1).map fun (p : List Nat × Nat × Nat) => (u :: p.1, p.2) := rfl
    rw [e] at h
    cases h0 : takeB 64 R rem with
    | none => rw [h0] at h; cases h
    | some q =>
      obtain ⟨u, R2, rem2⟩ := q
      rw [h0] at h
      obtain ⟨t1, hu⟩ := took_take h0 hR
      obtain ⟨p, hp1, hp2⟩ := Option.map_eq_some_iff.1 h
      obtain ⟨us, R3, rem3⟩ := p
      injection hp2 with e1 e2
      injection e2 with e2 e3
      subst e1 e2 e3
      obtain ⟨⟨gs, i1, _⟩, i2, i3⟩ := rdXs_some hp1 t1.2.1 trivial hu
      refine ⟨⟨_, t1.app i1⟩, by simp [i2], fun v hv' => ?_⟩
      rcases List.mem_cons.1 hv' with rfl | hm
      · exact hu
      · exact i3 v hm
/-- Step by step, or told again as a whole: one row. -/
theorem stVals_eq {n R rem : Nat} (hR : R < 2 ^ rem) : stVals n R rem = valRow n R rem := by
  cases h : stVals n R rem with
  | some p =>
    obtain ⟨vs, R1, rem1⟩ := p
    obtain ⟨⟨t1, t2, t3⟩, hl, hv⟩ := stVals_took h hR
    have := valRow_of vs hv t2 t3
    rw [hl, ← t1] at this
    exact this.symm
  | none =>
    cases h2 : valRow n R rem with
    | none => rfl
    | some p =>
      exfalso
      unfold valRow at h2
      cases h3 : rdVals n R rem with
      | none => rw [h3] at h2; cases h2
      | some q =>
        obtain ⟨vs, R1, rem1⟩ := q
        rw [h3] at h2
        simp only at h2
        split at h2
        · rename_i hc
          obtain ⟨⟨fs, ht⟩, hl, hv⟩ := rdVals_some h3 hR
          obtain ⟨c1, c2⟩ := ht.same.1 hc
          obtain ⟨t1, t2, t3⟩ := ht.to c1 c2
          have := stVals_of vs hv t2 t3
          rw [hl, ← t1, h] at this
          cases this
        · cases h2
end Go.Proofs.YtdlkjfnifjlbhaaDoor
