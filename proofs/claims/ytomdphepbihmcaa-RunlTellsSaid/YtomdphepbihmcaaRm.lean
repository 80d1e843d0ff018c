/- Plain mathematics of runs: what bytes are told of a row of values; what bytes are read as; that one is the other's way back, and the only one. -/
import Derived.Test.YtomdphepbihmcaaVm
namespace Go.Proofs.Ytomdphepbihmcaa

/-- How many of the first are x. -/
def lead (x : Nat) : List Nat → Nat
  | [] => 0
  | y :: ys => if y = x then lead x ys + 1 else 0
theorem lead_le (x : Nat) (u : List Nat) : lead x u ≤ u.length := by
  induction u with
  | nil => exact Nat.le_refl _
  | cons y ys ih =>
    simp only [lead, List.length_cons]
    split <;> omega
theorem lead_take (x : Nat) (u : List Nat) : u.take (lead x u) = List.replicate (lead x u) x := by
  induction u with
  | nil => rfl
  | cons y ys ih =>
    simp only [lead]
    split
    · rename_i h
      subst h
      rw [List.take_succ_cons, List.replicate_succ, ih]
    · rfl
/-- Behind the run another value stands, or none. -/
theorem lead_next {x y : Nat} {u : List Nat} (h : u[lead x u]? = some y) : y ≠ x := by
  induction u with
  | nil => cases h
  | cons z zs ih =>
    simp only [lead] at h
    split at h
    · rw [List.getElem?_cons_succ] at h
      exact ih h
    · rename_i hz
      rw [List.getElem?_cons_zero] at h
      injection h with h
      subst h
      exact hz
theorem lead_at {x j : Nat} {u : List Nat} (h : j < lead x u) : u[j]? = some x := by
  have h1 := lead_take x u
  have h2 : (u.take (lead x u))[j]? = some x := by rw [h1, List.getElem?_replicate, if_pos h]
  rwa [List.getElem?_take, if_pos h] at h2
/-- A run of just k values, and then others. -/
theorem lead_rep (x k : Nat) (w : List Nat) (h : ∀ y, w[0]? = some y → y ≠ x) : lead x (List.replicate k x ++ w) = k := by
  induction k with
  | zero =>
    cases w with
    | nil => rfl
    | cons y ys =>
      show (if y = x then _ else 0) = 0
      rw [if_neg (h y rfl)]
  | succ k ih =>
    rw [List.replicate_succ, List.cons_append]
    show (if x = x then _ else 0) = _
    rw [if_pos rfl, ih]
/-- Where j have been counted and the next is another one, or there is none, the run is j long. -/
theorem lead_is {x j : Nat} {u : List Nat} (hj : ∀ i, i < j → u[i]? = some x) (hn : ∀ y, u[j]? = some y → y ≠ x) : lead x u = j := by
  have hle : j ≤ u.length := by
    rcases Nat.eq_zero_or_pos j with h | h
    · omega
    · have := (List.getElem?_eq_some_iff.1 (hj (j - 1) (by omega))).1
      omega
  have e : u = List.replicate j x ++ u.drop j := by
    apply List.ext_getElem?
    intro i
    rcases Nat.lt_or_ge i j with h | h
    · rw [hj i h, List.getElem?_append_left (by simpa using h), List.getElem?_replicate, if_pos h]
    · rw [List.getElem?_append_right (by simpa using h), List.length_replicate, List.getElem?_drop]
      congr 1
      omega
  rw [e]
  exact lead_rep x j _ fun y hy => hn y (by rw [List.getElem?_drop] at hy; simpa using hy)
/-- Encode; f is a bound. -/
def encRF : Nat → List Nat → List Nat
  | 0, _ => []
  | _ + 1, [] => []
  | f + 1, x :: xs => enc (lead x (x :: xs)) ++ (enc x ++ encRF f ((x :: xs).drop (lead x (x :: xs))))
def encR (u : List Nat) : List Nat := encRF u.length u
theorem lead_pos (x : Nat) (xs : List Nat) : 1 ≤ lead x (x :: xs) := by
  show 1 ≤ if x = x then _ else 0
  rw [if_pos rfl]
  omega
theorem encRF_any (f : Nat) : ∀ (g : Nat) (u : List Nat), u.length ≤ f → u.length ≤ g → encRF f u = encRF g u := by
  induction f with
  | zero =>
    intro g u h _
    have : u = [] := List.eq_nil_of_length_eq_zero (by omega)
    subst this
    cases g <;> rfl
  | succ f ih =>
    intro g u h1 h2
    cases u with
    | nil => cases g <;> rfl
    | cons x xs =>
      rw [List.length_cons] at h1 h2
      obtain ⟨g', rfl⟩ : ∃ g', g = g' + 1 := ⟨g - 1, by omega⟩
      have hp := lead_pos x xs
      have hl : ((x :: xs).drop (lead x (x :: xs))).length ≤ xs.length := by rw [List.length_drop, List.length_cons]; omega
      show _ ++ (_ ++ encRF f _) = _ ++ (_ ++ encRF g' _)
      rw [ih g' _ (by omega) (by omega)]
theorem encR_nil : encR [] = [] := rfl
theorem encR_step (x : Nat) (xs : List Nat) : encR (x :: xs) = enc (lead x (x :: xs)) ++ (enc x ++ encR ((x :: xs).drop (lead x (x :: xs)))) := by
  have hp := lead_pos x xs
  unfold encR
  show _ ++ (_ ++ encRF xs.length _) = _
  rw [encRF_any xs.length _ _ (by rw [List.length_drop, List.length_cons]; omega) (Nat.le_refl _)]
/-- The step where the walk stands at i. -/
theorem encR_at {u : List Nat} {i x : Nat} (hx : u[i]? = some x) : encR (u.drop i) = enc (lead x (u.drop i)) ++ (enc x ++ encR (u.drop (i + lead x (u.drop i)))) := by
  obtain ⟨hi, rfl⟩ := List.getElem?_eq_some_iff.1 hx
  have e : u.drop i = u[i] :: u.drop (i + 1) := List.drop_eq_getElem_cons hi
  rw [← List.drop_drop, e, encR_step]
theorem encR_256 (n : Nat) : ∀ u : List Nat, u.length = n → lt256 (encR u) := by
  induction n using Nat.strongRecOn with
  | ind n ih =>
    intro u hn
    cases u with
    | nil => exact lt256_nil
    | cons x xs =>
      have hp := lead_pos x xs
      rw [encR_step]
      intro b hb
      rw [List.mem_append, List.mem_append] at hb
      rcases hb with hb | hb | hb
      · exact enc_256 _ b hb
      · exact enc_256 _ b hb
      · exact ih ((x :: xs).drop (lead x (x :: xs))).length (by rw [List.length_drop, ← hn, List.length_cons]; omega) _ rfl b hb
/-- No more than twenty bytes a value. -/
theorem encR_len (n : Nat) : ∀ u : List Nat, u.length = n → n < 18446744073709551616 → (∀ x ∈ u, x < 18446744073709551616) → (encR u).length ≤ 20 * n := by
  induction n using Nat.strongRecOn with
  | ind n ih =>
    intro u hn h64 hu
    cases u with
    | nil => exact Nat.zero_le _
    | cons x xs =>
      have hp := lead_pos x xs
      have hle := lead_le x (x :: xs)
      rw [encR_step, List.length_append, List.length_append]
      have h1 := enc_len10 (u := lead x (x :: xs)) (by omega)
      have h2 := enc_len10 (hu x (by simp))
      have hd : ((x :: xs).drop (lead x (x :: xs))).length = n - lead x (x :: xs) := by rw [List.length_drop, hn]
      have h3 := ih (n - lead x (x :: xs)) (by rw [List.length_cons] at hn; omega) _ hd (by omega) (fun y hy => hu y (List.mem_of_mem_drop hy))
      have h4 : 20 * n = 20 * (n - lead x (x :: xs)) + 20 * lead x (x :: xs) := by omega
      omega

/-- What bytes are read as: r values are still wanted, the last one was p. f is a bound. -/
def getR : Nat → Nat → Option Nat → List Nat → Option (List Nat)
  | _, r, _, [] => if r = 0 then some [] else none
  | 0, _, _, _ :: _ => none
  | f + 1, r, p, b :: bs =>
    let k := dec (b :: bs)
    let v := dec ((b :: bs).drop k.2)
    if k.2 = 0 ∨ v.2 = 0 ∨ k.1 = 0 ∨ r < k.1 ∨ p = some v.1 then none else (getR f (r - k.1) (some v.1) (((b :: bs).drop k.2).drop v.2)).map fun us => List.replicate k.1 v.1 ++ us
def decR (n : Nat) (bs : List Nat) : Option (List Nat) := getR bs.length n none bs
theorem getR_nil (f r : Nat) (p : Option Nat) : getR f r p [] = if r = 0 then some [] else none := by cases f <;> rfl
theorem getR_step (f r : Nat) (p : Option Nat) {bs : List Nat} (h : bs ≠ []) : getR (f + 1) r p bs =
    if (dec bs).2 = 0 ∨ (dec (bs.drop (dec bs).2)).2 = 0 ∨ (dec bs).1 = 0 ∨ r < (dec bs).1 ∨ p = some (dec (bs.drop (dec bs).2)).1 then none
    else (getR f (r - (dec bs).1) (some (dec (bs.drop (dec bs).2)).1) ((bs.drop (dec bs).2).drop (dec (bs.drop (dec bs).2)).2)).map fun us => List.replicate (dec bs).1 (dec (bs.drop (dec bs).2)).1 ++ us := by
  cases bs with
  | nil => exact absurd rfl h
  | cons b bs => rfl
theorem getR_any (f : Nat) : ∀ (g r : Nat) (p : Option Nat) (bs : List Nat), bs.length ≤ f → bs.length ≤ g → getR f r p bs = getR g r p bs := by
  induction f with
  | zero =>
    intro g r p bs h _
    have : bs = [] := List.eq_nil_of_length_eq_zero (by omega)
    subst this
    rw [getR_nil, getR_nil]
  | succ f ih =>
    intro g r p bs h1 h2
    by_cases hb : bs = []
    · subst hb
      rw [getR_nil, getR_nil]
    · have hl : 0 < bs.length := List.length_pos_iff.2 hb
      obtain ⟨g', rfl⟩ : ∃ g', g = g' + 1 := ⟨g - 1, by omega⟩
      rw [getR_step f r p hb, getR_step g' r p hb]
      by_cases hc : (dec bs).2 = 0 ∨ (dec (bs.drop (dec bs).2)).2 = 0 ∨ (dec bs).1 = 0 ∨ r < (dec bs).1 ∨ p = some (dec (bs.drop (dec bs).2)).1
      · rw [if_pos hc, if_pos hc]
      · rw [if_neg hc, if_neg hc]
        have hd : ((bs.drop (dec bs).2).drop (dec (bs.drop (dec bs).2)).2).length ≤ bs.length - 1 := by
          rw [List.length_drop, List.length_drop]
          omega
        rw [ih g' _ _ _ (by omega) (by omega)]
/-- What is told is read. -/
theorem getR_enc (n : Nat) : ∀ (u : List Nat) (f : Nat) (p : Option Nat), u.length = n → n < 18446744073709551616 → (∀ x ∈ u, x < 18446744073709551616) → (encR u).length ≤ f → (∀ x, u[0]? = some x → p ≠ some x) → getR f n p (encR u) = some u := by
  induction n using Nat.strongRecOn with
  | ind n ih =>
    intro u f p hn h64 hu hf hp
    cases u with
    | nil =>
      have hn0 : n = 0 := hn.symm
      rw [encR_nil, getR_nil, if_pos hn0]
    | cons x xs =>
      have hlp := lead_pos x xs
      have hle := lead_le x (x :: xs)
      have hlt := lead_take x (x :: xs)
      have hx64 := hu x (by simp)
      have hnx : ∀ y, ((x :: xs).drop (lead x (x :: xs)))[0]? = some y → (some x : Option Nat) ≠ some y := by
        intro y hy e
        rw [List.getElem?_drop] at hy
        injection e with e
        exact lead_next (by simpa using hy) e.symm
      obtain ⟨k, hk⟩ : ∃ k, k = lead x (x :: xs) := ⟨_, rfl⟩
      rw [encR_step] at hf ⊢
      rw [← hk] at hlp hle hlt hf hnx ⊢
      obtain ⟨tl, htl⟩ : ∃ tl, tl = encR ((x :: xs).drop k) := ⟨_, rfl⟩
      rw [← htl] at hf ⊢
      have hpk := enc_pos k
      have hpx := enc_pos x
      have hne : enc k ++ (enc x ++ tl) ≠ [] := by
        intro e
        have h := congrArg List.length e
        rw [List.length_append, List.length_nil] at h
        omega
      rw [List.length_append, List.length_append] at hf
      obtain ⟨f', rfl⟩ : ∃ f', f = f' + 1 := ⟨f - 1, by omega⟩
      have hd1 := dec_enc k (by omega) (enc x ++ tl)
      have hd2 := dec_enc x hx64 tl
      rw [getR_step f' n p hne, hd1]
      simp only
      rw [List.drop_left, hd2]
      simp only
      rw [List.drop_left, if_neg (by
        rintro (h | h | h | h | h)
        · omega
        · omega
        · omega
        · omega
        · exact hp x rfl h)]
      have hdl : ((x :: xs).drop k).length = n - k := by rw [List.length_drop, hn]
      have h2 := ih (n - k) (by omega) ((x :: xs).drop k) f' (some x) hdl (by omega) (fun y hy => hu y (List.mem_of_mem_drop hy)) (by rw [← htl]; omega) hnx
      rw [← htl] at h2
      rw [h2]
      show some (List.replicate k x ++ (x :: xs).drop k) = _
      rw [← hlt, List.take_append_drop]
/-- What is read is told in just those bytes. -/
theorem getR_some (f : Nat) : ∀ (r : Nat) (p : Option Nat) (bs u : List Nat), lt256 bs → getR f r p bs = some u → u.length = r ∧ (∀ x ∈ u, x < 18446744073709551616) ∧ encR u = bs ∧ ∀ x, u[0]? = some x → p ≠ some x := by
  induction f with
  | zero =>
    intro r p bs u hlt h
    cases bs with
    | nil =>
      rw [getR_nil] at h
      split at h
      · rename_i hr
        injection h with h
        subst h
        exact ⟨hr.symm, (fun _ h => by cases h), rfl, fun _ h => by cases h⟩
      · cases h
    | cons b bs => cases h
  | succ f ih =>
    intro r p bs u hlt h
    by_cases hb : bs = []
    · subst hb
      rw [getR_nil] at h
      split at h
      · rename_i hr
        injection h with h
        subst h
        exact ⟨hr.symm, (fun _ h => by cases h), rfl, fun _ h => by cases h⟩
      · cases h
    · rw [getR_step f r p hb] at h
      split at h
      · cases h
      · rename_i hc
        obtain ⟨us, hus, rfl⟩ := Option.map_eq_some_iff.1 h
        obtain ⟨k, hk⟩ : ∃ k, k = dec bs := ⟨_, rfl⟩
        rw [← hk] at hc hus ⊢
        obtain ⟨v, hv⟩ : ∃ v, v = dec (bs.drop k.2) := ⟨_, rfl⟩
        rw [← hv] at hc hus ⊢
        have hlt2 : lt256 (bs.drop k.2) := fun b hb => hlt b (List.mem_of_mem_drop hb)
        have hlt3 : lt256 ((bs.drop k.2).drop v.2) := fun b hb => hlt2 b (List.mem_of_mem_drop hb)
        obtain ⟨a1, a2, a3, a4⟩ := ih _ _ _ _ hlt3 hus
        have h1 := dec_some hlt (by rw [← hk]; omega)
        have h2 := dec_some hlt2 (by rw [← hv]; omega)
        rw [← hk] at h1
        rw [← hv] at h2
        have hv64 : v.1 < 18446744073709551616 := by rw [hv]; exact dec_lt hlt2
        have hne : ∀ y, us[0]? = some y → y ≠ v.1 := fun y hy e => a4 y hy (by rw [e])
        have hlead := lead_rep v.1 k.1 us hne
        obtain ⟨j, hj⟩ : ∃ j, k.1 = j + 1 := ⟨k.1 - 1, by omega⟩
        refine ⟨by rw [List.length_append, List.length_replicate, a1]; omega, ?_, ?_, ?_⟩
        · intro x hx
          rcases List.mem_append.1 hx with hx | hx
          · rw [List.eq_of_mem_replicate hx]; exact hv64
          · exact a2 x hx
        · have e : List.replicate k.1 v.1 ++ us = v.1 :: (List.replicate j v.1 ++ us) := by rw [hj, List.replicate_succ]; rfl
          have hst := encR_step v.1 (List.replicate j v.1 ++ us)
          rw [← e, hlead] at hst
          rw [hst, List.drop_left' (by simp), a3, h1.2, h2.2, List.take_append_drop, List.take_append_drop]
        · intro x hx
          rw [hj, List.replicate_succ] at hx
          have hx2 : v.1 = x := by simpa using hx
          subst hx2
          intro hpe
          exact hc (.inr (.inr (.inr (.inr hpe))))
theorem decR_of {u : List Nat} (h64 : u.length < 18446744073709551616) (hu : ∀ x ∈ u, x < 18446744073709551616) : decR u.length (encR u) = some u := getR_enc _ u _ none rfl h64 hu (Nat.le_refl _) (fun _ _ h => by cases h)
theorem decR_some {n : Nat} {bs u : List Nat} (hlt : lt256 bs) (h : decR n bs = some u) : u.length = n ∧ (∀ x ∈ u, x < 18446744073709551616) ∧ encR u = bs := by
  obtain ⟨a, b, c, _⟩ := getR_some _ _ _ _ _ hlt h
  exact ⟨a, b, c⟩
/-- Of other bytes, or another number of them, nothing is told. -/
theorem getR_same (f : Nat) : ∀ (r r' : Nat) (p : Option Nat) (bs u u' : List Nat), getR f r p bs = some u → getR f r' p bs = some u' → u = u' := by
  induction f with
  | zero =>
    intro r r' p bs u u' h h'
    cases bs with
    | nil =>
      rw [getR_nil] at h h'
      split at h
      · split at h'
        · injection h with h
          injection h' with h'
          rw [← h, ← h']
        · cases h'
      · cases h
    | cons b bs => cases h
  | succ f ih =>
    intro r r' p bs u u' h h'
    by_cases hb : bs = []
    · subst hb
      rw [getR_nil] at h h'
      split at h
      · split at h'
        · injection h with h
          injection h' with h'
          rw [← h, ← h']
        · cases h'
      · cases h
    · rw [getR_step f r p hb] at h
      rw [getR_step f r' p hb] at h'
      split at h
      · cases h
      · split at h'
        · cases h'
        · obtain ⟨us, hus, rfl⟩ := Option.map_eq_some_iff.1 h
          obtain ⟨us', hus', rfl⟩ := Option.map_eq_some_iff.1 h'
          rw [ih _ _ _ _ _ _ hus hus']
/-- With one more, or one less, they are not. -/
theorem decR_other {u : List Nat} {n : Nat} (h64 : u.length < 18446744073709551616) (hu : ∀ x ∈ u, x < 18446744073709551616) (hn : n ≠ u.length) : decR n (encR u) = none := by
  cases hd : decR n (encR u) with
  | none => rfl
  | some v =>
    exfalso
    have h1 := decR_of h64 hu
    have h2 := getR_same _ _ _ _ _ _ _ h1 hd
    have h3 := (decR_some (encR_256 _ u rfl) hd).1
    rw [← h2] at h3
    exact hn h3.symm
/-- Read by its own way back: a row is what these bytes are read as just where they are told of it. -/
theorem decR_iff {n : Nat} {bs u : List Nat} (hlt : lt256 bs) (hn : n < 18446744073709551616) : decR n bs = some u ↔ u.length = n ∧ (∀ x ∈ u, x < 18446744073709551616) ∧ encR u = bs := by
  refine ⟨decR_some hlt, ?_⟩
  rintro ⟨rfl, h2, rfl⟩
  exact decR_of hn h2
end Go.Proofs.Ytomdphepbihmcaa
