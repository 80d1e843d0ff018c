/- Plain mathematics of a frame of reference: values by their least; what is told, and that it is read back, and nothing else is. -/
import Derived.Test.YtliaehfknppnaaaPk
import Derived.Test.YtliaehfknppnaaaVm
namespace Go.Proofs.Ytliaehfknppnaaa

theorem foldl_min (l : List Nat) : ∀ a, l.foldl min a ≤ a ∧ (∀ x ∈ l, l.foldl min a ≤ x) ∧ (l.foldl min a = a ∨ l.foldl min a ∈ l) := by
  induction l with
  | nil => intro a; exact ⟨Nat.le_refl _, (fun _ h => by cases h), .inl rfl⟩
  | cons y l ih =>
    intro a
    obtain ⟨h1, h2, h3⟩ := ih (min a y)
    show l.foldl min (min a y) ≤ a ∧ (∀ x ∈ y :: l, l.foldl min (min a y) ≤ x) ∧ (l.foldl min (min a y) = a ∨ l.foldl min (min a y) ∈ y :: l)
    refine ⟨by omega, fun x hx => ?_, ?_⟩
    · rcases List.mem_cons.1 hx with rfl | hx
      · omega
      · exact h2 x hx
    · rcases h3 with h3 | h3
      · rw [h3]
        rcases Nat.le_total a y with h | h
        · exact .inl (Nat.min_eq_left h)
        · exact .inr (by rw [Nat.min_eq_right h]; simp)
      · exact .inr (List.mem_cons_of_mem _ h3)
theorem foldl_max (l : List Nat) : ∀ a, a ≤ l.foldl max a ∧ (∀ x ∈ l, x ≤ l.foldl max a) ∧ (l.foldl max a = a ∨ l.foldl max a ∈ l) := by
  induction l with
  | nil => intro a; exact ⟨Nat.le_refl _, (fun _ h => by cases h), .inl rfl⟩
  | cons y l ih =>
    intro a
    obtain ⟨h1, h2, h3⟩ := ih (max a y)
    show a ≤ l.foldl max (max a y) ∧ (∀ x ∈ y :: l, x ≤ l.foldl max (max a y)) ∧ (l.foldl max (max a y) = a ∨ l.foldl max (max a y) ∈ y :: l)
    refine ⟨by omega, fun x hx => ?_, ?_⟩
    · rcases List.mem_cons.1 hx with rfl | hx
      · omega
      · exact h2 x hx
    · rcases h3 with h3 | h3
      · rw [h3]
        rcases Nat.le_total a y with h | h
        · exact .inr (by rw [Nat.max_eq_right h]; simp)
        · exact .inl (Nat.max_eq_left h)
      · exact .inr (List.mem_cons_of_mem _ h3)
/-- The least and the greatest. -/
def loV (v : List Nat) : Nat := v.foldl min (v.getD 0 0)
def hiV (v : List Nat) : Nat := v.foldl max (v.getD 0 0)
theorem getD_mem {v : List Nat} (h : v ≠ []) : v.getD 0 0 ∈ v := by
  cases v with
  | nil => exact absurd rfl h
  | cons x xs => simp
theorem loV_le {v : List Nat} {x : Nat} (h : x ∈ v) : loV v ≤ x := (foldl_min v _).2.1 x h
theorem loV_mem {v : List Nat} (h : v ≠ []) : loV v ∈ v := by
  rcases (foldl_min v (v.getD 0 0)).2.2 with e | e
  · unfold loV; rw [e]; exact getD_mem h
  · exact e
theorem hiV_ge {v : List Nat} {x : Nat} (h : x ∈ v) : x ≤ hiV v := (foldl_max v _).2.1 x h
theorem hiV_mem {v : List Nat} (h : v ≠ []) : hiV v ∈ v := by
  rcases (foldl_max v (v.getD 0 0)).2.2 with e | e
  · unfold hiV; rw [e]; exact getD_mem h
  · exact e
theorem loV_is {v : List Nat} {m : Nat} (hm : m ∈ v) (hl : ∀ x ∈ v, m ≤ x) : loV v = m := Nat.le_antisymm (loV_le hm) (hl _ (loV_mem (fun e => by rw [e] at hm; cases hm)))
theorem hiV_is {v : List Nat} {m : Nat} (hm : m ∈ v) (hl : ∀ x ∈ v, x ≤ m) : hiV v = m := Nat.le_antisymm (hl _ (hiV_mem (fun e => by rw [e] at hm; cases hm))) (hiV_ge hm)
/-- Encode. -/
def widV (v : List Nat) : Nat := wid (hiV v - loV v)
def difV (v : List Nat) : List Nat := v.map fun x => x - loV v
def encP (v : List Nat) : List Nat := if v = [] then [] else enc (loV v) ++ (widV v :: packW (widV v) (difV v))
theorem encP_nil : encP [] = [] := rfl
theorem encP_cons {v : List Nat} (h : v ≠ []) : encP v = enc (loV v) ++ (widV v :: packW (widV v) (difV v)) := by
  unfold encP
  rw [if_neg h]
theorem widV_le (v : List Nat) : widV v ≤ 64 := wid_le _
theorem difV_lt {v : List Nat} (hv : ∀ x ∈ v, x < 2 ^ 64) : ∀ x ∈ difV v, x < 2 ^ widV v := by
  intro x hx
  obtain ⟨y, hy, rfl⟩ := List.mem_map.1 hx
  have h1 := hiV_ge hy
  have h2 := hv _ (hiV_mem (fun e => by rw [e] at hy; cases hy))
  exact wid_mono (by omega) (by omega)
theorem difV_len (v : List Nat) : (difV v).length = v.length := by simp [difV]
theorem encP_256 (v : List Nat) : lt256 (encP v) := by
  by_cases h : v = []
  · subst h; exact lt256_nil
  · rw [encP_cons h]
    intro b hb
    rw [List.mem_append, List.mem_cons] at hb
    rcases hb with hb | rfl | hb
    · exact enc_256 _ b hb
    · have := widV_le v; omega
    · exact packW_256 _ _ b hb
theorem encP_len {v : List Nat} (hv : ∀ x ∈ v, x < 2 ^ 64) : (encP v).length ≤ 12 + 8 * v.length := by
  by_cases h : v = []
  · subst h; simp [encP]
  · rw [encP_cons h, List.length_append, List.length_cons, packW_len, difV_len]
    have h1 := enc_len10 (u := loV v) (hv _ (loV_mem h))
    have h2 := Nat.mul_le_mul_right v.length (widV_le v)
    omega
/-- What bytes are read as. -/
def outP (n : Nat) (b : List Nat) : List Nat := (rdW (b.getD (dec b).2 0) n (some (val (b.drop ((dec b).2 + 1)), 8 * (b.drop ((dec b).2 + 1)).length))).map fun x => (x + (dec b).1) % 2 ^ 64
def decP (n : Nat) (b : List Nat) : Option (List Nat) :=
  if n = 0 then (if b = [] then some [] else none)
  else if (dec b).2 = 0 ∨ b.length ≤ (dec b).2 ∨ 64 < b.getD (dec b).2 0 then none
  else if encP (outP n b) = b then some (outP n b) else none
theorem outP_len (n : Nat) (b : List Nat) : (outP n b).length = n := by unfold outP; rw [List.length_map, rdW_len]
theorem outP_lt (n : Nat) (b : List Nat) : ∀ x ∈ outP n b, x < 2 ^ 64 := by
  intro x hx
  obtain ⟨y, _, rfl⟩ := List.mem_map.1 hx
  exact Nat.mod_lt _ (Nat.two_pow_pos 64)
/-- What the bytes of a row tell of themselves. -/
theorem encP_parts {v : List Nat} (h : v ≠ []) (hv : ∀ x ∈ v, x < 2 ^ 64) : dec (encP v) = (loV v, (enc (loV v)).length) ∧ (encP v).getD (enc (loV v)).length 0 = widV v ∧ (encP v).drop ((enc (loV v)).length + 1) = packW (widV v) (difV v) ∧ (enc (loV v)).length < (encP v).length := by
  rw [encP_cons h]
  refine ⟨dec_enc _ (hv _ (loV_mem h)) _, ?_, ?_, ?_⟩
  · rw [List.getD_eq_getElem?_getD, List.getElem?_append_right (Nat.le_refl _), Nat.sub_self]
    rfl
  · rw [← List.drop_drop, List.drop_left]
    rfl
  · rw [List.length_append, List.length_cons]
    omega
theorem outP_enc {v : List Nat} (h : v ≠ []) (hv : ∀ x ∈ v, x < 2 ^ 64) : outP v.length (encP v) = v := by
  obtain ⟨h1, h2, h3, _⟩ := encP_parts h hv
  unfold outP
  rw [h1]
  simp only
  rw [h2, h3]
  have hr := rdW_packW (difV_lt hv)
  rw [difV_len] at hr
  rw [hr]
  unfold difV
  rw [List.map_map]
  conv => rhs; rw [← List.map_id v]
  apply List.map_congr_left
  intro x hx
  have := loV_le hx
  have := hv x hx
  show (x - loV v + loV v) % 2 ^ 64 = x
  rw [Nat.sub_add_cancel (loV_le hx), Nat.mod_eq_of_lt (hv x hx)]
theorem decP_of {v : List Nat} (hv : ∀ x ∈ v, x < 2 ^ 64) : decP v.length (encP v) = some v := by
  by_cases h : v = []
  · subst h; rfl
  · have hl : ¬ v.length = 0 := fun e => h (List.eq_nil_of_length_eq_zero e)
    obtain ⟨h1, h2, _, h4⟩ := encP_parts h hv
    unfold decP
    rw [if_neg hl, outP_enc h hv, h1]
    simp only
    have hp := enc_pos (loV v)
    have hw := widV_le v
    rw [if_neg (by rintro (e | e | e); omega; omega; (rw [h2] at e; omega)), if_pos trivial]
theorem decP_some {n : Nat} {b v : List Nat} (h : decP n b = some v) : v.length = n ∧ (∀ x ∈ v, x < 2 ^ 64) ∧ encP v = b := by
  unfold decP at h
  split at h
  · rename_i hn
    split at h
    · rename_i hb
      injection h with h
      subst h hb hn
      exact ⟨rfl, (fun _ h => by cases h), rfl⟩
    · cases h
  · split at h
    · cases h
    · split at h
      · rename_i he
        injection h with h
        subst h
        exact ⟨outP_len _ _, outP_lt _ _, he⟩
      · cases h
theorem decP_iff {n : Nat} {b v : List Nat} : decP n b = some v ↔ v.length = n ∧ (∀ x ∈ v, x < 2 ^ 64) ∧ encP v = b := by
  refine ⟨decP_some, ?_⟩
  rintro ⟨rfl, h2, rfl⟩
  exact decP_of h2
theorem decP_none {n : Nat} {b : List Nat} (h : ∀ v, v.length = n → (∀ x ∈ v, x < 2 ^ 64) → encP v ≠ b) : decP n b = none := by
  cases hd : decP n b with
  | none => rfl
  | some v =>
    obtain ⟨h1, h2, h3⟩ := decP_some hd
    exact absurd h3 (h v h1 h2)
/-- Moved by one number: behind the least one all stays. -/
theorem encP_shift {v : List Nat} (d : Nat) (h : v ≠ []) : loV (v.map (· + d)) = loV v + d ∧ widV (v.map (· + d)) = widV v ∧ difV (v.map (· + d)) = difV v := by
  have h1 : loV (v.map (· + d)) = loV v + d := loV_is (List.mem_map.2 ⟨_, loV_mem h, rfl⟩) (fun x hx => by
    obtain ⟨y, hy, rfl⟩ := List.mem_map.1 hx
    have := loV_le hy
    show loV v + d ≤ y + d
    omega)
  have h2 : hiV (v.map (· + d)) = hiV v + d := hiV_is (List.mem_map.2 ⟨_, hiV_mem h, rfl⟩) (fun x hx => by
    obtain ⟨y, hy, rfl⟩ := List.mem_map.1 hx
    have := hiV_ge hy
    show y + d ≤ hiV v + d
    omega)
  refine ⟨h1, by unfold widV; rw [h1, h2]; congr 1; omega, ?_⟩
  unfold difV
  rw [h1, List.map_map]
  apply List.map_congr_left
  intro x _
  show x + d - (loV v + d) = x - loV v
  omega
end Go.Proofs.Ytliaehfknppnaaa
