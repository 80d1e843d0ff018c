/- More of times: a difference told in any length; what a row has; how long it is. -/
import Derived.Test.YtdlkjfnifjlbhaaDoorTd
namespace Go.Proofs.YtdlkjfnifjlbhaaDoor

theorem hd_small {d : Int} {k : Nat} (h : hd d ≤ k) : (k = 0 → d = 0) ∧ (k = 1 → -64 ≤ d ∧ d < 64) ∧ (k = 2 → -256 ≤ d ∧ d < 256) ∧ (k = 3 → -2048 ≤ d ∧ d < 2048) := by
  unfold hd at h
  by_cases h0 : d = 0
  · subst h0
    exact ⟨fun _ => rfl, fun _ => by omega, fun _ => by omega, fun _ => by omega⟩
  · rw [if_neg h0] at h
    by_cases h1 : -64 ≤ d ∧ d < 64
    · rw [if_pos h1] at h
      exact ⟨fun e => by omega, fun _ => h1, fun _ => by omega, fun _ => by omega⟩
    · rw [if_neg h1] at h
      by_cases h2 : -256 ≤ d ∧ d < 256
      · rw [if_pos h2] at h
        exact ⟨fun e => by omega, fun e => by omega, fun _ => h2, fun _ => by omega⟩
      · rw [if_neg h2] at h
        by_cases h3 : -2048 ≤ d ∧ d < 2048
        · rw [if_pos h3] at h
          exact ⟨fun e => by omega, fun e => by omega, fun e => by omega, fun _ => h3⟩
        · rw [if_neg h3] at h
          exact ⟨fun e => by omega, fun e => by omega, fun e => by omega, fun e => by omega⟩
/-- In any length that it fits in a difference is read as what it is. -/
theorem sgn_in {d : Int} {k : Nat} (hk : k ≤ 4) (h : hd d ≤ k) (hf : Fits d) : sgn (sz k) (un d % 2 ^ sz k) = d := by
  obtain ⟨h0, h1, h2, h3⟩ := hd_small h
  have hk' : k = 0 ∨ k = 1 ∨ k = 2 ∨ k = 3 ∨ k = 4 := by omega
  rcases hk' with rfl | rfl | rfl | rfl | rfl
  · rw [h0 rfl]; rfl
  · have := h1 rfl; exact sgn_un (n := 7) (by decide) (by decide) (by omega) (by omega)
  · have := h2 rfl; exact sgn_un (n := 9) (by decide) (by decide) (by omega) (by omega)
  · have := h3 rfl; exact sgn_un (n := 12) (by decide) (by decide) (by omega) (by omega)
  · exact sgn_64 hf
theorem sz_inj {h k : Nat} (hh : h ≤ 4) (hk : k ≤ 4) (e : sz h = sz k) : h = k := by
  have hh' : h = 0 ∨ h = 1 ∨ h = 2 ∨ h = 3 ∨ h = 4 := by omega
  have hk' : k = 0 ∨ k = 1 ∨ k = 2 ∨ k = 3 ∨ k = 4 := by omega
  rcases hh' with rfl | rfl | rfl | rfl | rfl <;> rcases hk' with rfl | rfl | rfl | rfl | rfl <;> first | rfl | (exfalso; revert e; decide)
/-- Two times, the second's difference told behind head k. -/
theorem rdRow_long {x d : Int} {k X r rem : Nat} (hk : k ≤ 4) (h : hd d ≤ k) (hx : Fits x) (hf : Fits d) (hX : X < 2 ^ r) (hr : rem = 64 + hw k + sz k + r) :
    rdRow 2 (fnum [(un x, 64), (hv k, hw k), (un d, sz k)] * 2 ^ r + X) rem = if k = hd d then some ([x, sg ((un x + un d) % M64)], X, r) else none := by
  have ht := takeB_field (v := un x) (w := 64) (fs := [(hv k, hw k), (un d, sz k)]) (rem := rem) hX (by rw [hr]; show _ = 64 + (hw k + (sz k + 0)) + r; omega)
  rw [Nat.mod_eq_of_lt (by rw [← M64_pow]; exact un_lt x)] at ht
  have hdf := rdDiff_of (v := un d) (fs := []) (rem := flen [(hv k, hw k), (un d, sz k)] + r) hk hX (by show hw k + (sz k + 0) + r = hw k + sz k + 0 + r; omega)
  rw [sgn_in hk h hf] at hdf
  have e0 : fnum [] * 2 ^ r + X = X := by show 0 * 2 ^ r + X = X; omega
  have e1 : flen [] + r = r := by show 0 + r = r; omega
  rw [e0, e1] at hdf
  show (match takeB 64 (fnum [(un x, 64), (hv k, hw k), (un d, sz k)] * 2 ^ r + X) rem with | none => none | some (u, R1, rem1) => (rdTimes 1 (sg u) 0 R1 rem1).map fun (p : List Int × Nat × Nat) => (sg u :: p.1, p.2)) = _
  rw [ht]
  show (rdTimes 1 (sg (un x)) 0 _ _).map _ = _
  rw [sg_un hx]
  show (match rdDiff (fnum [(hv k, hw k), (un d, sz k)] * 2 ^ r + X) (flen [(hv k, hw k), (un d, sz k)] + r) with | none => none | some (d', R1, rem1) => (rdTimes 0 (nextX x (nextL 0 d')) (nextL 0 d') R1 rem1).map fun (p : List Int × Nat × Nat) => (nextX x (nextL 0 d') :: p.1, p.2)).map _ = _
  rw [hdf, kind_hd d]
  by_cases e : k = hd d
  · rw [if_pos e, if_pos (by rw [e])]
    show some ([x, nextX x (nextL 0 d)], X, r) = _
    have hl : nextL 0 d = un d := by
      unfold nextL
      rw [Nat.zero_add, Nat.mod_eq_of_lt (un_lt d)]
    rw [hl]
    rfl
  · rw [if_neg e, if_neg (fun h2 => e (sz_inj (hd_le d) hk h2).symm)]
    rfl

/-- What a row that is read has. -/
theorem takeB_some {k R rem : Nat} {p : Nat × Nat × Nat} (h : takeB k R rem = some p) (hR : R < 2 ^ rem) : p.1 < 2 ^ k ∧ p.2.1 < 2 ^ p.2.2 ∧ p.2.2 + k = rem := by
  unfold takeB at h
  split at h
  · rename_i hk
    injection h with h
    subst h
    refine ⟨?_, Nat.mod_lt _ (Nat.two_pow_pos _), (by show rem - k + k = rem; omega)⟩
    rw [Nat.div_lt_iff_lt_mul (Nat.two_pow_pos _), ← Nat.pow_add]
    rwa [show k + (rem - k) = rem by omega]
  · cases h
theorem rdHead_some {f h R rem : Nat} {p : Nat × Nat × Nat} (hp : rdHead f h R rem = some p) (hR : R < 2 ^ rem) : h ≤ p.1 ∧ p.1 ≤ h + f ∧ p.2.1 < 2 ^ p.2.2 ∧ p.2.2 ≤ rem := by
  induction f generalizing h R rem with
  | zero =>
    injection hp with hp
    subst hp
    exact ⟨Nat.le_refl _, Nat.le_refl _, hR, Nat.le_refl _⟩
  | succ f ih =>
    have hp' : (match takeB 1 R rem with | none => none | some (b, R1, rem1) => if b = 1 then rdHead f (h + 1) R1 rem1 else some (h, R1, rem1)) = some p := hp
    cases ht : takeB 1 R rem with
    | none => rw [ht] at hp'; cases hp'
    | some q =>
      obtain ⟨b, R1, rem1⟩ := q
      have hq := takeB_some ht hR
      rw [ht] at hp'
      by_cases hb : b = 1
      · have := ih (h := h + 1) (R := R1) (rem := rem1) (by simpa [hb] using hp') hq.2.1
        have := hq.2.2
        simp only at *
        exact ⟨by omega, by omega, by omega, by omega⟩
      · have e : some (h, R1, rem1) = some p := by simpa [hb] using hp'
        injection e with e
        subst e
        have := hq.2.2
        exact ⟨Nat.le_refl _, by omega, hq.2.1, by simp only at *; omega⟩
theorem rdDiff_some {R rem : Nat} {p : Int × Nat × Nat} (hp : rdDiff R rem = some p) (hR : R < 2 ^ rem) : p.2.1 < 2 ^ p.2.2 ∧ p.2.2 ≤ rem := by
  unfold rdDiff at hp
  cases h1 : rdHead 4 0 R rem with
  | none => rw [h1] at hp; cases hp
  | some q =>
    obtain ⟨h, R1, rem1⟩ := q
    have hq := rdHead_some h1 hR
    rw [h1] at hp
    have hp' : (match takeB (sz h) R1 rem1 with | none => none | some (u, R2, rem2) => if kindN (sgn (sz h) u) = sz h then some (sgn (sz h) u, R2, rem2) else none) = some p := hp
    cases h2 : takeB (sz h) R1 rem1 with
    | none => rw [h2] at hp'; cases hp'
    | some q2 =>
      obtain ⟨u, R2, rem2⟩ := q2
      have hq2 := takeB_some h2 hq.2.2.1
      rw [h2] at hp'
      by_cases hk : kindN (sgn (sz h) u) = sz h
      · have e : some (sgn (sz h) u, R2, rem2) = some p := by simpa [hk] using hp'
        injection e with e
        subst e
        have := hq2.2.2
        have := hq.2.2.2
        exact ⟨hq2.2.1, by simp only at *; omega⟩
      · simp [hk] at hp'
theorem nextX_fits (prev : Int) (last : Nat) : Fits (nextX prev last) := sg_fits (Nat.mod_lt _ (by decide))
theorem rdTimes_some {k : Nat} {prev : Int} {last R rem : Nat} {p : List Int × Nat × Nat} (hp : rdTimes k prev last R rem = some p) (hR : R < 2 ^ rem) : p.1.length = k ∧ (∀ x ∈ p.1, Fits x) ∧ p.2.1 < 2 ^ p.2.2 ∧ p.2.2 ≤ rem := by
  induction k generalizing prev last R rem p with
  | zero =>
    injection hp with hp
    subst hp
    exact ⟨rfl, (fun _ h => by cases h), hR, Nat.le_refl _⟩
  | succ k ih =>
    have hp' : (match rdDiff R rem with | none => none | some (d, R1, rem1) => (rdTimes k (nextX prev (nextL last d)) (nextL last d) R1 rem1).map fun (p : List Int × Nat × Nat) => (nextX prev (nextL last d) :: p.1, p.2)) = some p := hp
    cases h1 : rdDiff R rem with
    | none => rw [h1] at hp'; cases hp'
    | some q =>
      obtain ⟨d, R1, rem1⟩ := q
      have hq := rdDiff_some h1 hR
      rw [h1] at hp'
      cases h2 : rdTimes k (nextX prev (nextL last d)) (nextL last d) R1 rem1 with
      | none =>
        simp [h2] at hp'
      | some q2 =>
        have e : some (nextX prev (nextL last d) :: q2.1, q2.2) = some p := by simpa [h2] using hp'
        injection e with e
        subst e
        obtain ⟨a1, a2, a3, a4⟩ := ih h2 hq.1
        refine ⟨by simp [a1], ?_, a3, by have := hq.2; simp only at *; omega⟩
        intro x hx
        rw [List.mem_cons] at hx
        rcases hx with rfl | hx
        · exact nextX_fits _ _
        · exact a2 x hx
theorem rdRow_some {n R rem : Nat} {p : List Int × Nat × Nat} (hp : rdRow n R rem = some p) (hR : R < 2 ^ rem) : p.1.length = n ∧ (∀ x ∈ p.1, Fits x) ∧ p.2.1 < 2 ^ p.2.2 ∧ p.2.2 ≤ rem := by
  cases n with
  | zero =>
    injection hp with hp
    subst hp
    exact ⟨rfl, (fun _ h => by cases h), hR, Nat.le_refl _⟩
  | succ n =>
    have hp' : (match takeB 64 R rem with | none => none | some (u, R1, rem1) => (rdTimes n (sg u) 0 R1 rem1).map fun (p : List Int × Nat × Nat) => (sg u :: p.1, p.2)) = some p := hp
    cases h1 : takeB 64 R rem with
    | none => rw [h1] at hp'; cases hp'
    | some q =>
      obtain ⟨u, R1, rem1⟩ := q
      have hq := takeB_some h1 hR
      rw [h1] at hp'
      cases h2 : rdTimes n (sg u) 0 R1 rem1 with
      | none =>
        simp [h2] at hp'
      | some q2 =>
        have e : some (sg u :: q2.1, q2.2) = some p := by simpa [h2] using hp'
        injection e with e
        subst e
        obtain ⟨a1, a2, a3, a4⟩ := rdTimes_some h2 hq.2.1
        refine ⟨by simp [a1], ?_, a3, by have := hq.2.2; simp only at *; omega⟩
        intro x hx
        rw [List.mem_cons] at hx
        rcases hx with rfl | hx
        · exact sg_fits (by rw [M64_pow]; exact hq.1)
        · exact a2 x hx
/-- No row takes more bits than these. -/
theorem kind_long (d : Int) : longN d + kindN d ≤ 68 := by
  rw [kind_hd, (headN_hd d).2]
  have := hd_le d
  have hh' : hd d = 0 ∨ hd d = 1 ∨ hd d = 2 ∨ hd d = 3 ∨ hd d = 4 := by omega
  rcases hh' with h | h | h | h | h <;> rw [h] <;> decide
theorem encT_len (xs : List Int) (prev : Int) (last : Nat) : flen (encT prev last xs) ≤ 68 * xs.length := by
  induction xs generalizing prev last with
  | nil => exact Nat.le_refl _
  | cons x xs ih =>
    have h1 := kind_long (diffOf prev last x)
    have h2 := ih x (stepOf prev x)
    show flen (fieldsD (diffOf prev last x) ++ encT x (stepOf prev x) xs) ≤ 68 * (xs.length + 1)
    rw [flen_app]
    show longN _ + (kindN _ + 0) + _ ≤ _
    omega
theorem encRow_len (xs : List Int) : flen (encRow xs) ≤ 64 + 68 * xs.length := by
  cases xs with
  | nil => exact Nat.zero_le _
  | cons x xs =>
    have := encT_len xs x 0
    show 64 + flen (encT x 0 xs) ≤ 64 + 68 * (xs.length + 1)
    omega
end Go.Proofs.YtdlkjfnifjlbhaaDoor
