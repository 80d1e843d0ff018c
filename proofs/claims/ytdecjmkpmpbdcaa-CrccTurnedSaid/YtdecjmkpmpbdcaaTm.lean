/- Plain mathematics of bytes of which some were turned. -/
import Derived.Test.YtdecjmkpmpbdcaaCm
namespace Go.Proofs.Ytdecjmkpmpbdcaa

/-- Bytes of which the j-th was turned by e j. -/
def tl (bs : List Nat) (e : Nat → Nat) : List Nat := (List.range bs.length).map fun j => bs.getD j 0 ^^^ e j
theorem tl_length (bs : List Nat) (e : Nat → Nat) : (tl bs e).length = bs.length := by simp [tl]
theorem tl_get {bs : List Nat} (e : Nat → Nat) {j x : Nat} (h : bs[j]? = some x) : (tl bs e)[j]? = some (x ^^^ e j) := by
  have hj := (List.getElem?_eq_some_iff.1 h).1
  simp only [tl, List.getElem?_map, List.getElem?_range hj, Option.map_some, List.getD_eq_getElem?_getD, h, Option.getD_some]
theorem tl_lt {bs : List Nat} {e : Nat → Nat} (h : lt256 bs) (he : ∀ j, e j < 256) : lt256 (tl bs e) := by
  intro b hb
  obtain ⟨j, hj, rfl⟩ := List.getElem_of_mem hb
  rw [tl_length] at hj
  have := tl_get e (List.getElem?_eq_getElem hj)
  rw [List.getElem?_eq_getElem (by rw [tl_length]; exact hj)] at this
  rw [Option.some.inj this]
  exact xor_lt8 (h _ (List.getElem_mem hj)) (he j)
theorem tl_ext {bs : List Nat} {e e' : Nat → Nat} (h : ∀ j, j < bs.length → e j = e' j) : tl bs e = tl bs e' := by
  unfold tl
  apply List.map_congr_left
  intro j hj
  rw [h j (by simpa using hj)]
theorem tl_none {bs : List Nat} {e : Nat → Nat} (h : ∀ j, j < bs.length → e j = 0) : tl bs e = bs := by
  apply List.ext_getElem?
  intro j
  rcases Nat.lt_or_ge j bs.length with hj | hj
  · rw [tl_get e (List.getElem?_eq_getElem hj), h j hj, Nat.xor_zero, List.getElem?_eq_getElem hj]
  · rw [List.getElem?_eq_none (by rw [tl_length]; exact hj), List.getElem?_eq_none hj]
theorem tl_set {bs : List Nat} {e : Nat → Nat} {q x c : Nat} (h : bs[q]? = some x) : (tl bs e).set q (x ^^^ c) = tl bs (fun j => if j = q then c else e j) := by
  apply List.ext_getElem?
  intro j
  rw [List.getElem?_set]
  rcases Nat.lt_or_ge j bs.length with hj | hj
  · rw [tl_get (fun j => if j = q then c else e j) (List.getElem?_eq_getElem hj)]
    by_cases hq : q = j
    · subst hq
      rw [if_pos rfl, if_pos (by rw [tl_length]; exact hj)]
      simp only [if_true]
      rw [List.getElem?_eq_getElem hj] at h
      rw [Option.some.inj h]
    · have hq' : ¬ j = q := fun h => hq h.symm
      rw [if_neg hq, tl_get e (List.getElem?_eq_getElem hj)]
      simp only [if_neg hq']
  · have hq := (List.getElem?_eq_some_iff.1 h).1
    rw [if_neg (by omega), List.getElem?_eq_none (by rw [tl_length]; exact hj), List.getElem?_eq_none (by rw [tl_length]; exact hj)]
theorem sum_tl {bs : List Nat} {e : Nat → Nat} {p : Nat} (hb : lt256 bs) (he : ∀ j, e j < 256) (hp : p ≤ bs.length) (h0 : ∀ j, j < p → e j = 0) (h4 : ∀ j, p + 4 ≤ j → e j = 0) : (sumN ent (tl bs e) = sumN ent bs ↔ ∀ j, j < bs.length → e j = 0) := by
  refine sum_turned (tl bs e) bs e p (tl_lt hb he) hb he (tl_length bs e) hp h0 h4 ?_
  intro j a b ha hbj
  rw [tl_get e hbj] at ha
  exact (Option.some.inj ha).symm

/-- One byte, at p. -/
def eOne (p m : Nat) : Nat → Nat := fun j => if j = p then m else 0
/-- i bytes, from p on. -/
def eTo (p : Nat) (cs : Nat → Nat) (i : Nat) : Nat → Nat := fun j => if p ≤ j ∧ j < p + i then cs (j - p) else 0
theorem eOne_lt {p m : Nat} (hm : m < 256) (j : Nat) : eOne p m j < 256 := by unfold eOne; split <;> omega
theorem eTo_lt {p : Nat} {cs : Nat → Nat} (hc : ∀ j, cs j < 256) (i j : Nat) : eTo p cs i j < 256 := by
  unfold eTo
  split
  · exact hc _
  · omega
theorem tl_one {bs : List Nat} {p x m : Nat} (h : bs[p]? = some x) : bs.set p (x ^^^ m) = tl bs (eOne p m) := by
  have := tl_set (e := fun _ => 0) (c := m) h
  rw [tl_none (fun _ _ => rfl)] at this
  exact this
theorem tl_to {bs : List Nat} {p i x : Nat} {cs : Nat → Nat} (h : bs[p + i]? = some x) : (tl bs (eTo p cs i)).set (p + i) (x ^^^ cs i) = tl bs (eTo p cs (i + 1)) := by
  rw [tl_set h]
  apply tl_ext
  intro j _
  unfold eTo
  by_cases h1 : j = p + i
  · subst h1
    rw [if_pos rfl, if_pos (by omega), Nat.add_sub_cancel_left]
  · rw [if_neg h1]
    by_cases h2 : p ≤ j ∧ j < p + i
    · rw [if_pos h2, if_pos (by omega)]
    · rw [if_neg h2, if_neg (by omega)]
theorem eTo_at (p : Nat) (cs : Nat → Nat) (i : Nat) : eTo p cs i (p + i) = 0 := if_neg (by omega)
theorem one_turned {bs : List Nat} {p m : Nat} (hb : lt256 bs) (hp : p < bs.length) (hm : m < 256) (hm0 : 0 < m) : sumN ent (tl bs (eOne p m)) ≠ sumN ent bs := by
  intro h
  have := (sum_tl hb (eOne_lt hm) (Nat.le_of_lt hp) (fun j hj => if_neg (by omega)) (fun j hj => if_neg (by omega))).1 h p hp
  unfold eOne at this
  rw [if_pos rfl] at this
  omega
/-- Whether one of the first i was turned. -/
def tb (cs : Nat → Nat) : Nat → Bool
  | 0 => false
  | i + 1 => tb cs i || decide (cs i ≠ 0)
theorem tb_false {cs : Nat → Nat} {i : Nat} : tb cs i = false ↔ ∀ j, j < i → cs j = 0 := by
  induction i with
  | zero => exact ⟨fun _ j hj => by omega, fun _ => rfl⟩
  | succ i ih =>
    show (tb cs i || decide (cs i ≠ 0)) = false ↔ _
    rw [Bool.or_eq_false_iff, ih, decide_eq_false_iff_not, Decidable.not_not]
    constructor
    · rintro ⟨h1, h2⟩ j hj
      rcases Nat.lt_or_ge j i with h | h
      · exact h1 j h
      · have : j = i := by omega
        rw [this]; exact h2
    · exact fun h => ⟨fun j hj => h j (by omega), h i (by omega)⟩
theorem to_turned {bs : List Nat} {p i : Nat} {cs : Nat → Nat} (hb : lt256 bs) (hc : ∀ j, cs j < 256) (hi : i ≤ 4) (hp : p + i ≤ bs.length) : (sumN ent (tl bs (eTo p cs i)) = sumN ent bs ↔ tb cs i = false) := by
  rw [sum_tl (p := p) hb (eTo_lt hc i) (by omega) (fun j hj => if_neg (by omega)) (fun j hj => if_neg (by omega)), tb_false]
  constructor
  · intro h j hj
    have := h (p + j) (by omega)
    unfold eTo at this
    rw [if_pos (by omega), Nat.add_sub_cancel_left] at this
    exact this
  · intro h j hj
    unfold eTo
    split
    · exact h _ (by omega)
    · rfl
end Go.Proofs.Ytdecjmkpmpbdcaa
