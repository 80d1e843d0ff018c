/- Chunks that are kept: the mathematics of the store, as chapter 17 tells it. -/
import Derived.Test.YtnfpbjioiiedeaaHd
namespace Go.Proofs.Ytnfpbjioiiedeaa

/-- A number, its bytes, how often they are held. -/
structure RowB where
  id : Nat
  bs : List Nat
  n : Nat
deriving DecidableEq, Repr
structure BloN where
  budget : Int
  charged : Int
  next : Nat
  rows : List RowB
deriving DecidableEq, Repr
def newB (budget : Int) : BloN := ⟨min (max budget 0) 1073741824, 0, 0, []⟩
def lenB (rows : List RowB) : Nat := (rows.map fun r => r.bs.length).sum
def usedB (s : BloN) : Int := s.charged + lenB s.rows
def atB (s : BloN) (id : Int) : Option RowB := s.rows.find? fun r => (r.id : Int) == id
def addB (s : BloN) (b : List Nat) : BloN × Option Nat :=
  if usedB s + b.length ≤ s.budget then ({ s with next := s.next + 1, rows := s.rows ++ [⟨s.next + 1, b, 1⟩] }, some (s.next + 1)) else (s, none)
def turnB (rows : List RowB) (id : Int) (f : Nat → Nat) : List RowB := rows.map fun r => if (r.id : Int) = id then { r with n := f r.n } else r
def holdB (s : BloN) (id : Int) : BloN × Bool := match atB s id with
  | none => (s, false)
  | some _ => ({ s with rows := turnB s.rows id (· + 1) }, true)
def leaveB (s : BloN) (id : Int) : BloN × Bool := match atB s id with
  | none => (s, false)
  | some r => if r.n ≤ 1 then ({ s with rows := s.rows.filter fun r => (r.id : Int) != id }, true) else ({ s with rows := turnB s.rows id (· - 1) }, true)
def chargeB (s : BloN) (n : Int) : BloN × Bool := if 0 < n ∧ s.budget < usedB s + n then (s, false) else ({ s with charged := max (s.charged + n) 0 }, true)
def holdsB (s : BloN) (id : Int) : Nat := match atB s id with
  | none => 0
  | some r => r.n
structure GoodB (s : BloN) : Prop where
  budget : 0 ≤ s.budget ∧ s.budget ≤ 1073741824
  charged : 0 ≤ s.charged
  used : usedB s ≤ s.budget
  ids : (s.rows.map (·.id)).Nodup
  low : ∀ r ∈ s.rows, 1 ≤ r.id ∧ r.id ≤ s.next
  held : ∀ r ∈ s.rows, 1 ≤ r.n
theorem good_newB (budget : Int) : GoodB (newB budget) := by
  refine ⟨?_, Int.le_refl _, ?_, List.nodup_nil, (fun r h => by cases h), (fun r h => by cases h)⟩
  · show 0 ≤ min (max budget 0) 1073741824 ∧ min (max budget 0) 1073741824 ≤ 1073741824; omega
  · show (0 : Int) + ((0 : Nat) : Int) ≤ min (max budget 0) 1073741824; omega
section
variable {s : BloN} {id : Int} {r : RowB}
theorem atB_some (h : atB s id = some r) : r ∈ s.rows ∧ (r.id : Int) = id := by
  unfold atB at h
  exact ⟨List.mem_of_find?_eq_some h, by simpa using List.find?_some h⟩
theorem atB_none (h : atB s id = none) : ∀ r ∈ s.rows, (r.id : Int) ≠ id := by
  unfold atB at h
  rw [List.find?_eq_none] at h
  intro r hr
  simpa using h r hr
theorem uniq_row {rows : List RowB} (hn : (rows.map (·.id)).Nodup) {a b : RowB} (ha : a ∈ rows) (hb : b ∈ rows) (e : a.id = b.id) : a = b := by
  induction rows with
  | nil => cases ha
  | cons x rows ih =>
    rw [List.map_cons, List.nodup_cons] at hn
    rcases List.mem_cons.1 ha with rfl | ha
    · rcases List.mem_cons.1 hb with rfl | hb
      · rfl
      · exact absurd (List.mem_map.2 ⟨b, hb, e.symm⟩) hn.1
    · rcases List.mem_cons.1 hb with hb | hb
      · exact absurd (List.mem_map.2 ⟨a, ha, by rw [e, hb]⟩) hn.1
      · exact ih hn.2 ha hb
theorem atB_of (h : GoodB s) (hr : r ∈ s.rows) (e : (r.id : Int) = id) : atB s id = some r := by
  cases hf : atB s id with
  | none => exact absurd e (atB_none hf r hr)
  | some q =>
    obtain ⟨h1, h2⟩ := atB_some hf
    rw [uniq_row h.ids h1 hr (by omega)]
theorem len_app (a b : List RowB) : lenB (a ++ b) = lenB a + lenB b := by simp [lenB]
theorem len_cons (r : RowB) (a : List RowB) : lenB (r :: a) = r.bs.length + lenB a := by simp [lenB]
theorem turn_len (rows : List RowB) (id : Int) (f : Nat → Nat) : lenB (turnB rows id f) = lenB rows := by
  unfold lenB turnB
  rw [List.map_map]
  congr 1
  refine List.map_congr_left fun r _ => ?_
  simp only [Function.comp]
  split <;> rfl
theorem turn_ids (rows : List RowB) (id : Int) (f : Nat → Nat) : (turnB rows id f).map (·.id) = rows.map (·.id) := by
  unfold turnB
  rw [List.map_map]
  refine List.map_congr_left fun r _ => ?_
  simp only [Function.comp]
  split <;> rfl
theorem turn_mem {rows : List RowB} {f : Nat → Nat} (h : r ∈ turnB rows id f) : ∃ q ∈ rows, r.id = q.id ∧ r.bs = q.bs ∧ r.n = if (q.id : Int) = id then f q.n else q.n := by
  obtain ⟨q, hq, e⟩ := List.mem_map.1 h
  refine ⟨q, hq, ?_⟩
  by_cases hi : (q.id : Int) = id
  · rw [if_pos hi] at e ⊢
    subst e
    exact ⟨rfl, rfl, rfl⟩
  · rw [if_neg hi] at e ⊢
    subst e
    exact ⟨rfl, rfl, rfl⟩
theorem mem_turn {rows : List RowB} {f : Nat → Nat} (h : r ∈ rows) : (if (r.id : Int) = id then { r with n := f r.n } else r) ∈ turnB rows id f := List.mem_map.2 ⟨r, h, rfl⟩
/-- What leaves gives its room back. -/
theorem gone_len {rows : List RowB} (hn : (rows.map (·.id)).Nodup) (hr : r ∈ rows) : lenB (rows.filter fun q => (q.id : Int) != (r.id : Int)) + r.bs.length = lenB rows := by
  induction rows with
  | nil => cases hr
  | cons x rows ih =>
    rw [List.map_cons, List.nodup_cons] at hn
    rcases List.mem_cons.1 hr with rfl | hr
    · have : rows.filter (fun q => (q.id : Int) != (r.id : Int)) = rows := by
        refine List.filter_eq_self.2 fun q hq => ?_
        have : q.id ≠ r.id := fun e => hn.1 (List.mem_map.2 ⟨q, hq, e⟩)
        have : ¬ (q.id : Int) = r.id := by omega
        simpa using this
      rw [List.filter_cons_of_neg (by simp), this, len_cons]
      omega
    · have hne : x.id ≠ r.id := fun e => hn.1 (List.mem_map.2 ⟨r, hr, e.symm⟩)
      have hne : ¬ (x.id : Int) = r.id := by omega
      rw [List.filter_cons_of_pos (by simpa using hne), len_cons, len_cons, ← ih hn.2 hr]
      omega
theorem good_add (h : GoodB s) (b : List Nat) : GoodB (addB s b).1 ∧ (addB s b).1.budget = s.budget := by
  unfold addB
  by_cases e : usedB s + b.length ≤ s.budget
  · rw [if_pos e]
    refine ⟨⟨h.budget, h.charged, ?_, ?_, ?_, ?_⟩, rfl⟩
    · show s.charged + ((lenB (s.rows ++ [_]) : Nat) : Int) ≤ s.budget
      rw [len_app, len_cons]
      unfold usedB at e
      simp only [lenB, List.map_nil, List.sum_nil] at e ⊢
      omega
    · show ((s.rows ++ [(⟨s.next + 1, b, 1⟩ : RowB)]).map (·.id)).Nodup
      rw [List.map_append, List.nodup_append]
      refine ⟨h.ids, by simp, fun a ha b hb => ?_⟩
      obtain ⟨q, hq, rfl⟩ := List.mem_map.1 ha
      simp only [List.map_cons, List.map_nil, List.mem_singleton] at hb
      have := (h.low q hq).2
      omega
    · intro r hr
      show 1 ≤ r.id ∧ r.id ≤ s.next + 1
      rcases List.mem_append.1 hr with hr | hr
      · have := h.low r hr; omega
      · rw [List.mem_singleton] at hr
        subst hr
        show 1 ≤ s.next + 1 ∧ s.next + 1 ≤ s.next + 1
        omega
    · intro r hr
      rcases List.mem_append.1 hr with hr | hr
      · exact h.held r hr
      · rw [List.mem_singleton] at hr
        subst hr
        exact Nat.le_refl 1
  · rw [if_neg e]
    exact ⟨h, rfl⟩
theorem good_turn (h : GoodB s) (id : Int) (f : Nat → Nat) (hf : ∀ r ∈ s.rows, (r.id : Int) = id → 1 ≤ f r.n) : GoodB { s with rows := turnB s.rows id f } := by
  refine ⟨h.budget, h.charged, ?_, ?_, ?_, ?_⟩
  · show s.charged + ((lenB (turnB s.rows id f) : Nat) : Int) ≤ s.budget
    rw [turn_len]
    exact h.used
  · show ((turnB s.rows id f).map (·.id)).Nodup
    rw [turn_ids]
    exact h.ids
  · intro r hr
    obtain ⟨q, hq, e, _⟩ := turn_mem hr
    rw [e]
    exact h.low q hq
  · intro r hr
    obtain ⟨q, hq, _, _, e⟩ := turn_mem hr
    rw [e]
    split
    · rename_i hi; exact hf q hq hi
    · exact h.held q hq
theorem good_hold (h : GoodB s) (id : Int) : GoodB (holdB s id).1 ∧ (holdB s id).1.budget = s.budget ∧ usedB (holdB s id).1 = usedB s := by
  unfold holdB
  cases atB s id with
  | none => exact ⟨h, rfl, rfl⟩
  | some r => exact ⟨good_turn h id _ (fun r _ _ => by omega), rfl, by unfold usedB; simp only [turn_len]⟩
theorem good_leave (h : GoodB s) (id : Int) : GoodB (leaveB s id).1 ∧ (leaveB s id).1.budget = s.budget ∧ usedB (leaveB s id).1 ≤ usedB s := by
  unfold leaveB
  cases hf : atB s id with
  | none => exact ⟨h, rfl, Int.le_refl _⟩
  | some r =>
    obtain ⟨hr, he⟩ := atB_some hf
    by_cases hn : r.n ≤ 1
    · simp only [if_pos hn]
      have hl := gone_len h.ids hr
      rw [he] at hl
      have hu : usedB { s with rows := s.rows.filter fun r => (r.id : Int) != id } ≤ usedB s := by
        show s.charged + ((lenB (s.rows.filter fun r => (r.id : Int) != id) : Nat) : Int) ≤ s.charged + ((lenB s.rows : Nat) : Int)
        omega
      refine ⟨⟨h.budget, h.charged, Int.le_trans hu h.used, ?_, fun q hq => h.low q (List.mem_filter.1 hq).1, fun q hq => h.held q (List.mem_filter.1 hq).1⟩, trivial, hu⟩
      exact h.ids.sublist ((List.filter_sublist).map _)
    · simp only [if_neg hn]
      refine ⟨good_turn h id _ fun q hq e => ?_, trivial, by unfold usedB; simp only [turn_len]; exact Int.le_refl _⟩
      rw [uniq_row h.ids hq hr (by omega)]
      omega
theorem good_charge (h : GoodB s) (n : Int) : GoodB (chargeB s n).1 ∧ (chargeB s n).1.budget = s.budget := by
  unfold chargeB
  have hu := h.used
  have hc := h.charged
  unfold usedB at hu
  by_cases e : 0 < n ∧ s.budget < usedB s + n
  · rw [if_pos e]; exact ⟨h, rfl⟩
  · rw [if_neg e]
    unfold usedB at e
    refine ⟨⟨h.budget, by show 0 ≤ max (s.charged + n) 0; omega, ?_, h.ids, h.low, h.held⟩, rfl⟩
    show max (s.charged + n) 0 + ((lenB s.rows : Nat) : Int) ≤ s.budget
    omega
/-! What is there behind each. -/
theorem at_add (h : GoodB s) {b : List Nat} (e : usedB s + b.length ≤ s.budget) : atB (addB s b).1 id = if id = (s.next : Int) + 1 then some ⟨s.next + 1, b, 1⟩ else atB s id := by
  unfold addB atB
  rw [if_pos e]
  show List.find? _ (s.rows ++ [_]) = _
  rw [List.find?_append]
  by_cases hi : id = (s.next : Int) + 1
  · rw [if_pos hi]
    have : s.rows.find? (fun r => (r.id : Int) == id) = none := by
      rw [List.find?_eq_none]
      intro r hr
      have := (h.low r hr).2
      have : ¬ (r.id : Int) = id := by omega
      simpa using this
    rw [this, hi]
    simp
  · rw [if_neg hi]
    have : ¬ (s.next : Int) + 1 = id := by omega
    cases s.rows.find? (fun r => (r.id : Int) == id) with
    | none => simp [this]
    | some r => simp
theorem at_turn (rows : List RowB) (k id : Int) (f : Nat → Nat) : (turnB rows k f).find? (fun r => (r.id : Int) == id) = (rows.find? fun r => (r.id : Int) == id).map fun r => if (r.id : Int) = k then { r with n := f r.n } else r := by
  unfold turnB
  rw [List.find?_map]
  congr 1
  congr 1
  funext r
  simp only [Function.comp]
  split <;> rfl
theorem at_hold (h : atB s id = some r) : atB (holdB s id).1 id = some { r with n := r.n + 1 } := by
  have he := (atB_some h).2
  unfold holdB
  rw [h]
  unfold atB at h ⊢
  simp only [at_turn]
  rw [h, Option.map_some, if_pos he]
theorem at_leave (h : atB s id = some r) : atB (leaveB s id).1 id = if r.n ≤ 1 then none else some { r with n := r.n - 1 } := by
  have he := (atB_some h).2
  unfold leaveB
  rw [h]
  by_cases hn : r.n ≤ 1
  · simp only [if_pos hn]
    unfold atB
    rw [List.find?_eq_none]
    intro q hq
    have := (List.mem_filter.1 hq).2
    simpa using this
  · simp only [if_neg hn]
    unfold atB at h ⊢
    simp only [at_turn]
    rw [h, Option.map_some, if_pos he]
theorem at_other {k : Int} (hk : id ≠ k) : atB (holdB s k).1 id = atB s id ∧ atB (leaveB s k).1 id = atB s id := by
  have ht : ∀ f, (turnB s.rows k f).find? (fun r => (r.id : Int) == id) = s.rows.find? fun r => (r.id : Int) == id := fun f => by
    rw [at_turn]
    cases hf : s.rows.find? (fun r => (r.id : Int) == id) with
    | none => rfl
    | some r =>
      have : (r.id : Int) = id := by simpa using List.find?_some hf
      rw [Option.map_some, if_neg (by omega)]
  constructor
  · unfold holdB
    cases atB s k with
    | none => rfl
    | some r => exact ht _
  · unfold leaveB
    cases atB s k with
    | none => rfl
    | some r =>
      by_cases hn : r.n ≤ 1
      · simp only [if_pos hn]
        unfold atB
        rw [List.find?_filter]
        congr 1
        funext q
        by_cases e : (q.id : Int) = id
        · simp [e, hk]
        · simp [e]
      · simp only [if_neg hn]
        exact ht (· - 1)
theorem holds_pos (h : GoodB s) : 0 < holdsB s id ↔ (atB s id).isSome = true := by
  unfold holdsB
  cases hf : atB s id with
  | none => simp
  | some r =>
    have := h.held r (atB_some hf).1
    simp only [Option.isSome_some, iff_true]
    omega
end
end Go.Proofs.Ytnfpbjioiiedeaa
