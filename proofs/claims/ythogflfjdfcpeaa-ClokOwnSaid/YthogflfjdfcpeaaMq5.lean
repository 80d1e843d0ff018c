/- The texts Qsx, Lg, Us, Sk, Sf, Sp, Ea, Se, Dk, Lm, Du, Le, Mu, Su, Sq, Sd, Dg, Lp, Ld, Gr, Yrd, Qw, Rph, Rpi, Slm, one behind the other. -/
import Derived.Test.YthogflfjdfcpeaaMq1
import Derived.Test.YthogflfjdfcpeaaMq2
/- A struct of six, of seven cells of the call's own, written whole. -/
namespace Go.Proofs.Ythogflfjdfcpeaa
open Go.RowKit

theorem Blk.six {w : World} {g : Nat} {t : TypeId} {c0 c1 c2 c3 c4 c5 : Value} (h : Blk w g t #[c0, c1, c2, c3, c4, c5]) (a b c d e f : Value) :
    ((((((w.setCell ⟨g, 0, none⟩ a).setCell ⟨g, 1, none⟩ b).setCell ⟨g, 2, none⟩ c).setCell ⟨g, 3, none⟩ d).setCell ⟨g, 4, none⟩ e).setCell ⟨g, 5, none⟩ f).cell? ⟨g, 0, none⟩ = some a ∧ ((((((w.setCell ⟨g, 0, none⟩ a).setCell ⟨g, 1, none⟩ b).setCell ⟨g, 2, none⟩ c).setCell ⟨g, 3, none⟩ d).setCell ⟨g, 4, none⟩ e).setCell ⟨g, 5, none⟩ f).cell? ⟨g, 1, none⟩ = some b ∧ ((((((w.setCell ⟨g, 0, none⟩ a).setCell ⟨g, 1, none⟩ b).setCell ⟨g, 2, none⟩ c).setCell ⟨g, 3, none⟩ d).setCell ⟨g, 4, none⟩ e).setCell ⟨g, 5, none⟩ f).cell? ⟨g, 2, none⟩ = some c ∧ ((((((w.setCell ⟨g, 0, none⟩ a).setCell ⟨g, 1, none⟩ b).setCell ⟨g, 2, none⟩ c).setCell ⟨g, 3, none⟩ d).setCell ⟨g, 4, none⟩ e).setCell ⟨g, 5, none⟩ f).cell? ⟨g, 3, none⟩ = some d ∧ ((((((w.setCell ⟨g, 0, none⟩ a).setCell ⟨g, 1, none⟩ b).setCell ⟨g, 2, none⟩ c).setCell ⟨g, 3, none⟩ d).setCell ⟨g, 4, none⟩ e).setCell ⟨g, 5, none⟩ f).cell? ⟨g, 4, none⟩ = some e ∧ ((((((w.setCell ⟨g, 0, none⟩ a).setCell ⟨g, 1, none⟩ b).setCell ⟨g, 2, none⟩ c).setCell ⟨g, 3, none⟩ d).setCell ⟨g, 4, none⟩ e).setCell ⟨g, 5, none⟩ f).cell? ⟨g, 5, none⟩ = some f ∧ Blk ((((((w.setCell ⟨g, 0, none⟩ a).setCell ⟨g, 1, none⟩ b).setCell ⟨g, 2, none⟩ c).setCell ⟨g, 3, none⟩ d).setCell ⟨g, 4, none⟩ e).setCell ⟨g, 5, none⟩ f) g t #[a, b, c, d, e, f] := by
  have h3 : Blk ((((((w.setCell ⟨g, 0, none⟩ a).setCell ⟨g, 1, none⟩ b).setCell ⟨g, 2, none⟩ c).setCell ⟨g, 3, none⟩ d).setCell ⟨g, 4, none⟩ e).setCell ⟨g, 5, none⟩ f) g t #[a, b, c, d, e, f] := by
    have := ((((((h.set_ 0 a).set_ 1 b).set_ 2 c).set_ 3 d).set_ 4 e).set_ 5 f)
    simpa using this
  refine ⟨?_, ?_, ?_, ?_, ?_, ?_, h3⟩
  · have := h3.cell 0; simpa using this
  · have := h3.cell 1; simpa using this
  · have := h3.cell 2; simpa using this
  · have := h3.cell 3; simpa using this
  · have := h3.cell 4; simpa using this
  · have := h3.cell 5; simpa using this
theorem Mod.six_one (w : World) (g : Nat) (a b c d e f : Value) : Mod (fun k => k = g) w ((((((w.setCell ⟨g, 0, none⟩ a).setCell ⟨g, 1, none⟩ b).setCell ⟨g, 2, none⟩ c).setCell ⟨g, 3, none⟩ d).setCell ⟨g, 4, none⟩ e).setCell ⟨g, 5, none⟩ f) :=
  (((((((Mod.refl (fun k => k = g) w).setCell (p := ⟨g, 0, none⟩) (fun _ => rfl) a).setCell (p := ⟨g, 1, none⟩) (fun _ => rfl) b).setCell (p := ⟨g, 2, none⟩) (fun _ => rfl) c).setCell (p := ⟨g, 3, none⟩) (fun _ => rfl) d).setCell (p := ⟨g, 4, none⟩) (fun _ => rfl) e).setCell (p := ⟨g, 5, none⟩) (fun _ => rfl) f)
theorem Mod.six_new {w w' : World} {g : Nat} (h : Mod (fun _ => False) w w') (hg : w.heap.size ≤ g) (a b c d e f : Value) : Mod (fun _ => False) w ((((((w'.setCell ⟨g, 0, none⟩ a).setCell ⟨g, 1, none⟩ b).setCell ⟨g, 2, none⟩ c).setCell ⟨g, 3, none⟩ d).setCell ⟨g, 4, none⟩ e).setCell ⟨g, 5, none⟩ f) :=
  h.trans (Mod.six_one w' g a b c d e f) (fun i hi e => by omega)
theorem Blk.seven {w : World} {g : Nat} {t : TypeId} {c0 c1 c2 c3 c4 c5 c6 : Value} (h : Blk w g t #[c0, c1, c2, c3, c4, c5, c6]) (a b c d e f q : Value) :
    (((((((w.setCell ⟨g, 0, none⟩ a).setCell ⟨g, 1, none⟩ b).setCell ⟨g, 2, none⟩ c).setCell ⟨g, 3, none⟩ d).setCell ⟨g, 4, none⟩ e).setCell ⟨g, 5, none⟩ f).setCell ⟨g, 6, none⟩ q).cell? ⟨g, 0, none⟩ = some a ∧ (((((((w.setCell ⟨g, 0, none⟩ a).setCell ⟨g, 1, none⟩ b).setCell ⟨g, 2, none⟩ c).setCell ⟨g, 3, none⟩ d).setCell ⟨g, 4, none⟩ e).setCell ⟨g, 5, none⟩ f).setCell ⟨g, 6, none⟩ q).cell? ⟨g, 1, none⟩ = some b ∧ (((((((w.setCell ⟨g, 0, none⟩ a).setCell ⟨g, 1, none⟩ b).setCell ⟨g, 2, none⟩ c).setCell ⟨g, 3, none⟩ d).setCell ⟨g, 4, none⟩ e).setCell ⟨g, 5, none⟩ f).setCell ⟨g, 6, none⟩ q).cell? ⟨g, 2, none⟩ = some c ∧ (((((((w.setCell ⟨g, 0, none⟩ a).setCell ⟨g, 1, none⟩ b).setCell ⟨g, 2, none⟩ c).setCell ⟨g, 3, none⟩ d).setCell ⟨g, 4, none⟩ e).setCell ⟨g, 5, none⟩ f).setCell ⟨g, 6, none⟩ q).cell? ⟨g, 3, none⟩ = some d ∧ (((((((w.setCell ⟨g, 0, none⟩ a).setCell ⟨g, 1, none⟩ b).setCell ⟨g, 2, none⟩ c).setCell ⟨g, 3, none⟩ d).setCell ⟨g, 4, none⟩ e).setCell ⟨g, 5, none⟩ f).setCell ⟨g, 6, none⟩ q).cell? ⟨g, 4, none⟩ = some e ∧ (((((((w.setCell ⟨g, 0, none⟩ a).setCell ⟨g, 1, none⟩ b).setCell ⟨g, 2, none⟩ c).setCell ⟨g, 3, none⟩ d).setCell ⟨g, 4, none⟩ e).setCell ⟨g, 5, none⟩ f).setCell ⟨g, 6, none⟩ q).cell? ⟨g, 5, none⟩ = some f ∧ (((((((w.setCell ⟨g, 0, none⟩ a).setCell ⟨g, 1, none⟩ b).setCell ⟨g, 2, none⟩ c).setCell ⟨g, 3, none⟩ d).setCell ⟨g, 4, none⟩ e).setCell ⟨g, 5, none⟩ f).setCell ⟨g, 6, none⟩ q).cell? ⟨g, 6, none⟩ = some q ∧ Blk (((((((w.setCell ⟨g, 0, none⟩ a).setCell ⟨g, 1, none⟩ b).setCell ⟨g, 2, none⟩ c).setCell ⟨g, 3, none⟩ d).setCell ⟨g, 4, none⟩ e).setCell ⟨g, 5, none⟩ f).setCell ⟨g, 6, none⟩ q) g t #[a, b, c, d, e, f, q] := by
  have h3 : Blk (((((((w.setCell ⟨g, 0, none⟩ a).setCell ⟨g, 1, none⟩ b).setCell ⟨g, 2, none⟩ c).setCell ⟨g, 3, none⟩ d).setCell ⟨g, 4, none⟩ e).setCell ⟨g, 5, none⟩ f).setCell ⟨g, 6, none⟩ q) g t #[a, b, c, d, e, f, q] := by
    have := (((((((h.set_ 0 a).set_ 1 b).set_ 2 c).set_ 3 d).set_ 4 e).set_ 5 f).set_ 6 q)
    simpa using this
  refine ⟨?_, ?_, ?_, ?_, ?_, ?_, ?_, h3⟩
  · have := h3.cell 0; simpa using this
  · have := h3.cell 1; simpa using this
  · have := h3.cell 2; simpa using this
  · have := h3.cell 3; simpa using this
  · have := h3.cell 4; simpa using this
  · have := h3.cell 5; simpa using this
  · have := h3.cell 6; simpa using this
theorem Mod.seven_one (w : World) (g : Nat) (a b c d e f q : Value) : Mod (fun k => k = g) w (((((((w.setCell ⟨g, 0, none⟩ a).setCell ⟨g, 1, none⟩ b).setCell ⟨g, 2, none⟩ c).setCell ⟨g, 3, none⟩ d).setCell ⟨g, 4, none⟩ e).setCell ⟨g, 5, none⟩ f).setCell ⟨g, 6, none⟩ q) :=
  ((((((((Mod.refl (fun k => k = g) w).setCell (p := ⟨g, 0, none⟩) (fun _ => rfl) a).setCell (p := ⟨g, 1, none⟩) (fun _ => rfl) b).setCell (p := ⟨g, 2, none⟩) (fun _ => rfl) c).setCell (p := ⟨g, 3, none⟩) (fun _ => rfl) d).setCell (p := ⟨g, 4, none⟩) (fun _ => rfl) e).setCell (p := ⟨g, 5, none⟩) (fun _ => rfl) f).setCell (p := ⟨g, 6, none⟩) (fun _ => rfl) q)
theorem Mod.seven_new {w w' : World} {g : Nat} (h : Mod (fun _ => False) w w') (hg : w.heap.size ≤ g) (a b c d e f q : Value) : Mod (fun _ => False) w (((((((w'.setCell ⟨g, 0, none⟩ a).setCell ⟨g, 1, none⟩ b).setCell ⟨g, 2, none⟩ c).setCell ⟨g, 3, none⟩ d).setCell ⟨g, 4, none⟩ e).setCell ⟨g, 5, none⟩ f).setCell ⟨g, 6, none⟩ q) :=
  h.trans (Mod.seven_one w' g a b c d e f q) (fun i hi e => by omega)
theorem Mod.three_at (w : World) (g : Nat) (a b c : Value) : Mod (fun k => k = g) w (((w.setCell ⟨g, 0, none⟩ a).setCell ⟨g, 1, none⟩ b).setCell ⟨g, 2, none⟩ c) :=
  (((Mod.refl (fun k => k = g) w).setCell (p := ⟨g, 0, none⟩) (fun _ => rfl) a).setCell (p := ⟨g, 1, none⟩) (fun _ => rfl) b).setCell (p := ⟨g, 2, none⟩) (fun _ => rfl) c
end Go.Proofs.Ythogflfjdfcpeaa

/- A run is read: get; it is held against what was read: fits. -/
namespace Go.Proofs.Ythogflfjdfcpeaa
open Go.RowKit

end Go.Proofs.Ythogflfjdfcpeaa

/- Rows of words held beside each other; the statements' own rows of values. -/
namespace Go.Proofs.Ythogflfjdfcpeaa
open Go.RowKit

end Go.Proofs.Ythogflfjdfcpeaa

/- The kinds of words where their variable lies; may: whether the next numbers may stand in a word of a kind. -/
namespace Go.Proofs.Ythogflfjdfcpeaa
open Go.RowKit

/-- What the loop has seen. -/
def Seen (us : List Nat) (s j : Nat) : Prop := ∀ x ∈ us.take j, x < 2 ^ s
theorem Seen.more {us : List Nat} {s j x : Nat} (h : Seen us s j) (hx : us[j]? = some x) (hb : x < 2 ^ s) : Seen us s (j + 1) := by
  intro y hy
  rw [List.getElem?_eq_some_iff] at hx
  obtain ⟨hj, rfl⟩ := hx
  rw [List.take_succ_eq_append_getElem hj, List.mem_append, List.mem_singleton] at hy
  rcases hy with hy | rfl
  · exact h y hy
  · exact hb
end Go.Proofs.Ythogflfjdfcpeaa

/- The first kind that may be: first. -/
namespace Go.Proofs.Ythogflfjdfcpeaa
open Go.RowKit

end Go.Proofs.Ythogflfjdfcpeaa

/- A word is laid of numbers: pack. -/
namespace Go.Proofs.Ythogflfjdfcpeaa
open Go.RowKit

end Go.Proofs.Ythogflfjdfcpeaa

/- What a function answers that tells a row of values of 64 bits, or nil and false. -/
namespace Go.Proofs.Ythogflfjdfcpeaa
open Go.RowKit

end Go.Proofs.Ythogflfjdfcpeaa

/- Rows of small numbers are told: Encode. -/
namespace Go.Proofs.Ythogflfjdfcpeaa
open Go.RowKit

end Go.Proofs.Ythogflfjdfcpeaa

/- What a dictionary's map says of a list of values; a list of numbers read step by step; what the code and the document ask of bytes, in these words. -/
namespace Go.Proofs.Ythogflfjdfcpeaa
open Go.RowKit Go.Maps

/-- The map says of each value on the list where it stands, and of no other. -/
def Plcs (D : DataW Unit) (l : List Nat) : Prop := IsMap D ∧ (∀ x : Nat, Maps.has D (.int .u64 (x : Int)) = decide (x ∈ l)) ∧ ∀ x : Nat, x ∈ l → D.atKey (.int .u64 (x : Int)) (.lit (.int .u64 0)) = .lit (.int .u64 (plc x l : Int))
theorem Plcs.nil : Plcs (.map []) [] := ⟨isMap_empty, (fun _ => rfl), fun _ h => by cases h⟩
theorem Plcs.put {D : DataW Unit} {l : List Nat} {x : Nat} (h : Plcs D l) (hx : x ∉ l) : Plcs (D.put (.int .u64 (x : Int)) (.lit (.int .u64 (l.length : Int)))) (l ++ [x]) := by
  obtain ⟨h1, h2, h3⟩ := h
  have hk : WideAt.IsKeyLit (.int .u64 (x : Int)) := trivial
  have hne : ∀ y : Nat, y ≠ x → Lit.int .u64 (y : Int) ≠ Lit.int .u64 (x : Int) := fun y hy e => by
    injection e with _ e
    exact hy (by omega)
  refine ⟨h1.put _ _, fun y => ?_, fun y hy => ?_⟩
  · by_cases e : y = x
    · subst e
      rw [has_put_same h1 hk, decide_eq_true (by simp)]
    · rw [has_put_other (hne y e), h2 y]
      simp [e]
  · by_cases e : y = x
    · subst e
      rw [atKey_put_same h1 hk]
      have e2 : plc y (l ++ [y]) = l.length := by
        refine plc_is (by simp) fun i hi => ?_
        rw [List.getElem?_append_left hi]
        intro e3
        exact hx (List.mem_of_getElem? e3)
      rw [e2]
    · have hy' : y ∈ l := by
        rcases List.mem_append.1 hy with hy | hy
        · exact hy
        · exact absurd (List.mem_singleton.1 hy) e
      rw [atKey_put_other (hne y e), h3 y hy', plc_app hy']
/-- What a look-up tells. -/
theorem Plcs.look {D : DataW Unit} {l : List Nat} {x : Nat} {c : Int} (h : Plcs D l) (hx : x ∈ l) (hc : D.atKey (.int .u64 (x : Int)) (.lit (.int .u64 0)) = .lit (.int .u64 c)) : c = (plc x l : Int) := by
  rw [h.2.2 x hx] at hc
  injection hc with hc
  injection hc with _ hc
  exact hc.symm
/-- A row of bytes and true, or nil and false. -/
def EncB (w w' : World) (o : Option (List Nat)) (e : Ending) : Prop :=
  match o with
  | some bs => ∃ v, e = .returned (.tuple #[v, .bool true]) ∧ Own w.heap.size w' 5 v (cells8 bs) ∧ Mod (fun _ => False) w w'
  | none => e = .returned (.tuple #[.slice none 0 0, .bool false]) ∧ Mod (fun _ => False) w w'
theorem EncB.some_ {w w' : World} {o : Option (List Nat)} {bs : List Nat} {e : Ending} (h : EncB w w' o e) (ho : o = some bs) : ∃ v, e = .returned (.tuple #[v, .bool true]) ∧ Own w.heap.size w' 5 v (cells8 bs) ∧ Mod (fun _ => False) w w' := by
  rw [ho] at h
  exact h
theorem EncB.none_ {w w' : World} {o : Option (List Nat)} {e : Ending} (h : EncB w w' o e) (ho : o = none) : e = .returned (.tuple #[.slice none 0 0, .bool false]) ∧ Mod (fun _ => False) w w' := by
  rw [ho] at h
  exact h
/-- An answer as a row: none is nil. -/
theorem EncB.any {w w' : World} {o : Option (List Nat)} {e : Ending} (h : EncB w w' o e) : ∃ (A : Option Addr) (c : Nat), e = .returned (.tuple #[.slice A (o.getD []).length c, .bool o.isSome]) ∧ (o.getD []).length ≤ c ∧ c ≤ maxLen ∧ Rds w' w'.heap.size A (o.getD []).length (cells8 (o.getD [])) ∧ Mod (fun _ => False) w w' := by
  cases o with
  | none =>
    obtain ⟨rfl, hm⟩ := h.none_ rfl
    exact ⟨none, 0, rfl, Nat.le_refl _, Nat.zero_le _, Rds.nil _ _ _, hm⟩
  | some ws =>
    obtain ⟨v, rfl, ho, hm⟩ := h.some_ rfl
    obtain ⟨A, c, rfl, hc, hcm, hr⟩ := own_form8 ho
    exact ⟨A, c, rfl, hc, hcm, hr, hm⟩
end Go.Proofs.Ythogflfjdfcpeaa

/- How many bits a number has: math/bits.Len64 and the document's width tell wid. -/
namespace Go.Proofs.Ythogflfjdfcpeaa
open Go.RowKit

end Go.Proofs.Ythogflfjdfcpeaa

/- A dictionary's list: how many bits a place has; the values that are unlike, and where each stands. -/
namespace Go.Proofs.Ythogflfjdfcpeaa
open Go.RowKit Go.Maps

end Go.Proofs.Ythogflfjdfcpeaa

/- A row of values is told by its runs: Encode. -/
namespace Go.Proofs.Ythogflfjdfcpeaa
open Go.RowKit

end Go.Proofs.Ythogflfjdfcpeaa

/- The least and the greatest of a row of values of 64 bits: slices.Min, slices.Max; min and max as rules for whatever world. -/
namespace Go.Proofs.Ythogflfjdfcpeaa
open Go.RowKit

end Go.Proofs.Ythogflfjdfcpeaa

/- The numbers of a word: unpack. -/
namespace Go.Proofs.Ythogflfjdfcpeaa
open Go.RowKit

end Go.Proofs.Ythogflfjdfcpeaa

/- Two rows of words compared, whatever they are: SameWords, slices.Equal. -/
namespace Go.Proofs.Ythogflfjdfcpeaa
open Go.RowKit

/-- The first i are alike. -/
def AlikeTo (xs ys : List Nat) (i : Nat) : Prop := ∀ j, j < i → xs[j]? = ys[j]?
theorem AlikeTo.more {xs ys : List Nat} {i x : Nat} (h : AlikeTo xs ys i) (hx : xs[i]? = some x) (hy : ys[i]? = some x) : AlikeTo xs ys (i + 1) := by
  intro j hj
  rcases Nat.lt_or_ge j i with h1 | h1
  · exact h j h1
  · obtain rfl : j = i := by omega
    rw [hx, hy]
theorem AlikeTo.all {xs ys : List Nat} {n : Nat} (h : AlikeTo xs ys n) (hx : xs.length = n) (hy : ys.length = n) : xs = ys := by
  apply List.ext_getElem?
  intro j
  rcases Nat.lt_or_ge j n with h1 | h1
  · exact h j h1
  · rw [List.getElem?_eq_none (by omega), List.getElem?_eq_none (by omega)]
end Go.Proofs.Ythogflfjdfcpeaa

/- Words are read: Decode. -/
namespace Go.Proofs.Ythogflfjdfcpeaa
open Go.RowKit

end Go.Proofs.Ythogflfjdfcpeaa

/- The list that bytes begin with: getList. -/
namespace Go.Proofs.Ythogflfjdfcpeaa
open Go.RowKit Go.Maps

end Go.Proofs.Ythogflfjdfcpeaa

/- slices.Repeat of a row of one value; bits.Mul where nothing goes over. -/
namespace Go.Proofs.Ythogflfjdfcpeaa
open Go.RowKit

end Go.Proofs.Ythogflfjdfcpeaa

/- Bytes are read as runs: Decode. -/
namespace Go.Proofs.Ythogflfjdfcpeaa
open Go.RowKit

end Go.Proofs.Ythogflfjdfcpeaa

/- append of one element, with what else turns: only the row's own block. -/
namespace Go.Proofs.Ythogflfjdfcpeaa
open Go.RowKit
section
variable {P : Program} {w : World}
end
/-- Two rows of the call's own that share nothing. -/
def Twain (v u : Value) : Prop := ∀ k, v.ownBlock = some k → u.ownBlock ≠ some k
theorem Twain.symm {v u : Value} (h : Twain v u) : Twain u v := fun k hk e => h k e hk
theorem Twain.step {B : Nat} {w : World} {e : TypeId} {v v' u : Value} {xs : List Value} (h : Twain v u) (ho : Own B w e u xs) (hv : v'.ownBlock = v.ownBlock ∨ ∃ k, v'.ownBlock = some k ∧ w.heap.size ≤ k) : Twain v' u := by
  intro k hk e'
  rcases hv with h1 | ⟨j, h1, h2⟩
  · exact h k (by rw [← h1]; exact hk) e'
  · rw [h1] at hk
    injection hk with hk
    have := (ho.block k e').2
    omega
end Go.Proofs.Ythogflfjdfcpeaa

/- The clock with pins: all that are resident get one; one loses them; what others keep. -/
namespace Go.Proofs.Ythogflfjdfcpeaa

def upP (p : PagN) : PagN := if p.resi then { p with pins := p.pins + 1 } else p
theorem up_key (p : PagN) : (upP p).key = p.key := by unfold upP; split <;> rfl
theorem up_resi (p : PagN) : (upP p).resi = p.resi := by unfold upP PagN.resi; split <;> rfl
theorem up_kind (p : PagN) : (upP p).kind = p.kind := by unfold upP; split <;> rfl
/-- The first i of them have one pin more. -/
def upTo (c : ClkN) (i : Nat) : ClkN := { c with ps := (c.ps.take i).map upP ++ c.ps.drop i }
theorem up_zero (c : ClkN) : upTo c 0 = c := by simp [upTo]
section
variable {c : ClkN} {i : Nat} {p : PagN}
theorem up_at (h : c.ps[i]? = some p) : (upTo c i).ps[i]? = some p := by
  have hi := (List.getElem?_eq_some_iff.1 h).1
  show ((c.ps.take i).map upP ++ c.ps.drop i)[i]? = _
  rw [List.getElem?_append_right (by simp; omega)]
  simp only [List.length_map, List.length_take, List.getElem?_drop]
  rw [show i + (i - min i c.ps.length) = i by omega, h]
theorem up_succ (h : c.ps[i]? = some p) : upTo c (i + 1) = { upTo c i with ps := (upTo c i).ps.set i (upP p) } := by
  obtain ⟨hi, e⟩ := List.getElem?_eq_some_iff.1 h
  unfold upTo
  simp only [ClkN.mk.injEq, true_and, and_true]
  rw [take_one h, List.map_append, List.map_singleton, List.append_assoc, List.set_append_right _ _ (by simp; omega)]
  have : (List.map upP (List.take i c.ps)).length = i := by simp; omega
  rw [this, Nat.sub_self, List.drop_eq_getElem_cons hi, List.set_cons_zero]
  rfl
theorem up_good (h : Good c) : ∀ i, i ≤ c.ps.length → Good (upTo c i) := by
  intro i
  induction i with
  | zero => intro _; rw [up_zero]; exact h
  | succ i ih =>
    intro hi
    have hp : c.ps[i]? = some c.ps[i] := List.getElem?_eq_getElem (by omega)
    rw [up_succ hp]
    have hok := h.base.ok_at hp
    refine (good_set (ih (by omega)) (up_at hp) (up_key _) (up_kind _) ?_).1
    unfold upP
    split
    · rename_i hr
      exact ⟨hok.1, by show 0 ≤ _ + 1; have := hok.2.1; omega, fun h3 => absurd h3 ((resi_of hok).1 hr)⟩
    · exact hok
/-- The i-th gets one. -/
theorem up_pin (h : Good c) (hp : c.ps[i]? = some p) (hr : p.resi = true) : pinK (upTo c i) p.key 1 = (upTo c (i + 1), true) := by
  have hi := (List.getElem?_eq_some_iff.1 hp).1
  have hg := up_good h i (by omega)
  unfold pinK
  rw [findK_at hg.base.pgs.2 (up_at hp) rfl]
  simp only [up_at hp]
  rw [if_pos hr, up_succ hp]
  have : max (p.pins + 1) 0 = p.pins + 1 := by have := (h.base.ok_at hp).2.1; omega
  unfold upP
  rw [if_pos hr, this]
theorem up_other (hp : c.ps[i]? = some p) (hr : p.resi = false) : upTo c (i + 1) = upTo c i := by
  rw [up_succ hp]
  have : upP p = p := by unfold upP; rw [hr]; rfl
  rw [this]
  obtain ⟨hi, e⟩ := List.getElem?_eq_some_iff.1 (up_at hp)
  have : (upTo c i).ps.set i p = (upTo c i).ps := by rw [← e]; exact List.set_getElem_self hi
  rw [this]
theorem up_all (h : Good c) : (upTo c c.ps.length).ps = c.ps.map upP ∧ (upTo c c.ps.length).ps.any isFree = false ∧ cntK 1 (upTo c c.ps.length).ps + cntK 2 (upTo c c.ps.length).ps = cntK 1 c.ps + cntK 2 c.ps := by
  have e : (upTo c c.ps.length).ps = c.ps.map upP := by simp [upTo]
  rw [e]
  refine ⟨rfl, ?_, ?_⟩
  · rw [List.any_eq_false]
    intro q hq
    obtain ⟨p, hp, rfl⟩ := List.mem_map.1 hq
    have := (h.base.pgs.1 p hp).2.1
    unfold isFree
    rw [up_resi]
    unfold upP
    by_cases hr : p.resi = true
    · rw [if_pos hr]
      have hne : ¬ p.pins + 1 = 0 := by omega
      simp [hne]
    · simp [hr]
  · unfold cntK
    simp only [List.countP_map]
    have : ∀ k : Int, ((fun p : PagN => p.kind == k) ∘ upP) = fun p => p.kind == k := fun k => by funext p; simp [up_kind]
    rw [this, this]
end
/-- How many are resident, counted from the front. -/
def resTo (ps : List PagN) (i : Nat) : Nat := (ps.take i).countP PagN.resi
theorem resTo_succ {ps : List PagN} {i : Nat} {p : PagN} (h : ps[i]? = some p) : resTo ps (i + 1) = resTo ps i + if p.resi then 1 else 0 := by
  unfold resTo
  rw [take_one h, List.countP_append, List.countP_singleton]
theorem resTo_all {ps : List PagN} (h : ∀ p ∈ ps, OkP p) : resTo ps ps.length = cntK 1 ps + cntK 2 ps := by
  unfold resTo
  rw [List.take_length, ← res_len h]
  unfold resL
  rw [List.length_map, List.countP_eq_length_filter]
theorem resTo_mono {ps : List PagN} {i j : Nat} (h : i ≤ j) : resTo ps i ≤ resTo ps j := by
  unfold resTo
  have : ps.take i = (ps.take j).take i := by rw [List.take_take]; congr 1; omega
  rw [this]
  exact List.Sublist.countP_le (List.take_sublist i _)
section
variable {c : ClkN} {k : KeyN}
/-- Who may come. -/
theorem admit_free (h : Good c) (hf : c.ps.any isFree = true) : (admitK c k).2.2 = true := by
  cases e : (admitK c k).2.2 with
  | true => rfl
  | false =>
    obtain ⟨_, _, h2, _⟩ := admit_no h e
    rw [hf] at h2
    cases h2
theorem admit_room (h : Good c) (hf : ((cntK 1 c.ps + cntK 2 c.ps : Nat) : Int) < c.most) : (admitK c k).2.2 = true := by
  cases e : (admitK c k).2.2 with
  | true => rfl
  | false =>
    obtain ⟨_, h1, _⟩ := admit_no h e
    omega
theorem admit_full (hr : resAt c k = false) (h1 : c.most ≤ ((cntK 1 c.ps + cntK 2 c.ps : Nat) : Int)) (hf : c.ps.any isFree = false) : admitK c k = (c, [], false) := by
  unfold admitK
  rw [if_neg (by rw [hr]; decide), if_pos ⟨h1, hf⟩]
/-- Who comes is found, and is resident. -/
theorem Came.found {c' : ClkN} {out : List KeyN} (h : Came c c' k out) : ∃ i p, findK k c'.ps = some i ∧ c'.ps[i]? = some p ∧ p.key = k ∧ p.resi = true := by
  obtain ⟨p, hp, hk, hr⟩ := h.here
  obtain ⟨i, hi, e⟩ := List.getElem_of_mem hp
  have hq : c'.ps[i]? = some p := by rw [List.getElem?_eq_getElem hi, e]
  exact ⟨i, p, findK_at h.good.base.pgs.2 hq hk, hq, hk, hr⟩
/-- Pins turned: the others' stay. -/
theorem pin_at (h : Good c) {i : Nat} {p : PagN} (hp : c.ps[i]? = some p) (hr : p.resi = true) (n : Int) : pinK c p.key n = ({ c with ps := c.ps.set i { p with pins := max (p.pins + n) 0 } }, true) := by
  unfold pinK
  rw [findK_at h.base.pgs.2 hp rfl]
  simp only [hp]
  rw [if_pos hr]
theorem pin_other (n : Int) {x : KeyN × Int} (hx : x ∈ resL c.ps) (hne : x.1 ≠ k) : x ∈ resL (pinK c k n).1.ps := by
  unfold pinK
  cases hf : findK k c.ps with
  | none => exact hx
  | some i =>
    obtain ⟨p, hp, hk⟩ := findK_some hf
    simp only [hp]
    by_cases hr : p.resi = true
    · rw [if_pos hr]
      obtain ⟨A, B, e, rfl⟩ := split_at hp
      show x ∈ resL (c.ps.set A.length _)
      rw [e] at hx ⊢
      rw [set_split, resL_app, resL_cons]
      rw [resL_app, resL_cons, if_pos hr] at hx
      rcases List.mem_append.1 hx with hx | hx
      · exact List.mem_append_left _ hx
      rcases List.mem_append.1 hx with hx | hx
      · rw [List.mem_singleton] at hx
        rw [hx] at hne
        exact absurd hk hne
      · exact List.mem_append_right _ (List.mem_append_right _ hx)
    · rw [if_neg hr]
      exact hx
/-- One that is resident is found, with its pins. -/
theorem res_found (h : Good c) {x : KeyN × Int} (hx : x ∈ resL c.ps) : ∃ i p, findK x.1 c.ps = some i ∧ c.ps[i]? = some p ∧ p.resi = true ∧ p.pins = x.2 := by
  obtain ⟨p, hp, hr, e⟩ := res_mem.1 hx
  obtain ⟨i, hi, e2⟩ := List.getElem_of_mem hp
  have hq : c.ps[i]? = some p := by rw [List.getElem?_eq_getElem hi, e2]
  subst e
  exact ⟨i, p, findK_at h.base.pgs.2 hq rfl, hq, hr, rfl⟩
/-- Who was put out is not resident. -/
theorem Came.out_ {c' : ClkN} {out : List KeyN} (h : Came c c' k out) {x : KeyN} (hx : x ∈ out) {i : Nat} {p : PagN} (hf : findK x c'.ps = some i) (hp : c'.ps[i]? = some p) : p.kind = 3 := by
  obtain ⟨q, hq, hk⟩ := findK_some hf
  rw [hp] at hq
  injection hq with hq
  subst hq
  have hn := (h.gone x hx).2
  have hok := h.good.base.ok_at hp
  by_cases hr : p.resi = true
  · exact absurd (res_mem.2 ⟨p, List.mem_of_getElem? hp, hr, by rw [hk]⟩) (hn p.pins)
  · have := (not_congr (resi_of hok)).1 hr
    simpa using this
/-- A stranger comes where one alone has no pins: that one goes. -/
theorem stranger_takes (h : Good c) {j : Nat} {p : PagN} (hp : c.ps[j]? = some p) (hr : p.resi = true) (hno : c.ps.any isFree = false) (hfull : ((cntK 1 c.ps + cntK 2 c.ps : Nat) : Int) = c.most) (hk : ∀ q ∈ c.ps, q.key ≠ k) :
    Good (pinK c p.key (-p.pins)).1 ∧ (pinK c p.key (-p.pins)).2 = true ∧ (admitK (pinK c p.key (-p.pins)).1 k).2.2 = true ∧ (admitK (pinK c p.key (-p.pins)).1 k).2.1 = [p.key] ∧ ∃ i, findK k (admitK (pinK c p.key (-p.pins)).1 k).1.ps = some i := by
  have hok := h.base.ok_at hp
  have hpp := pin_at h hp hr (-p.pins)
  have hmx : max (p.pins + -p.pins) 0 = 0 := by omega
  rw [hmx] at hpp
  obtain ⟨g1, g2, _⟩ := pin_is h p.key (-p.pins)
  rw [hpp] at g1 g2 ⊢
  simp only at g1 g2 ⊢
  obtain ⟨A, B, e, rfl⟩ := split_at hp
  have es : c.ps.set A.length { p with pins := 0 } = A ++ { p with pins := 0 } :: B := by rw [e, set_split]
  have hcnt : ∀ kd, cntK kd (c.ps.set A.length { p with pins := 0 }) = cntK kd c.ps := fun kd => by
    rw [es, e]
    unfold cntK
    simp only [List.countP_append, List.countP_cons]
  have hfree : (c.ps.set A.length { p with pins := 0 }).any isFree = true := by
    rw [es, List.any_append, List.any_cons]
    have : isFree { p with pins := 0 } = true := by
      unfold isFree
      have : PagN.resi { p with pins := 0 } = p.resi := rfl
      rw [this, hr]
      rfl
    rw [this]
    simp
  have hin := admit_free (k := k) g1 hfree
  have hc := admit_yes g1 hin
  have h1 := hc.full (fun q hq hqk => by
    have hm : q.key ∈ c.ps.map (·.key) := by
      have : q.key ∈ (c.ps.set A.length { p with pins := 0 }).map (·.key) := List.mem_map.2 ⟨q, hq, rfl⟩
      rw [es] at this
      rw [e]
      simpa using this
    obtain ⟨q', hq', e'⟩ := List.mem_map.1 hm
    exact absurd (e'.trans hqk) (hk q' hq')) (by
    show ((cntK 1 (c.ps.set A.length { p with pins := 0 }) + cntK 2 (c.ps.set A.length { p with pins := 0 }) : Nat) : Int) = c.most
    rw [hcnt, hcnt]
    exact hfull)
  refine ⟨g1, trivial, hin, ?_, ?_⟩
  · obtain ⟨x, hx⟩ := List.length_eq_one_iff.1 h1
    rw [hx]
    have hz := (hc.gone x (by rw [hx]; exact List.mem_singleton.2 rfl)).1
    obtain ⟨q, hq, hqr, hqe⟩ := res_mem.1 hz
    injection hqe with hqk hq0
    have hq' : q ∈ A ++ { p with pins := 0 } :: B := by rw [← es]; exact hq
    rcases List.mem_append.1 hq' with hA | hB
    · have := List.any_eq_false.1 hno q (by rw [e]; exact List.mem_append_left _ hA)
      unfold isFree at this
      rw [hqr, hq0] at this
      exact absurd rfl this
    rcases List.mem_cons.1 hB with hB | hB
    · rw [← hqk, hB]
    · have := List.any_eq_false.1 hno q (by rw [e]; exact List.mem_append_right _ (List.mem_cons_of_mem _ hB))
      unfold isFree at this
      rw [hqr, hq0] at this
      exact absurd rfl this
  · obtain ⟨i, _, hf, _⟩ := hc.found
    exact ⟨i, hf⟩
end
end Go.Proofs.Ythogflfjdfcpeaa

/- What one call of a script keeps: pins in their bounds; who has pins stays. -/
namespace Go.Proofs.Ythogflfjdfcpeaa

/-- No page has more pins. -/
def PinsLe (m : Int) (c : ClkN) : Prop := ∀ p ∈ c.ps, p.pins ≤ m
theorem PinsLe.mono {m m' : Int} {c : ClkN} (h : PinsLe m c) (hm : m ≤ m') : PinsLe m' c := fun p hp => by have := h p hp; omega
theorem pinsLe_new (most : Int) : PinsLe 0 (newK most) := fun p hp => by cases hp
theorem pinsLe_res {m : Int} {c : ClkN} (hg : BaseK c) (h0 : 0 ≤ m) : PinsLe m c ↔ ∀ x ∈ resL c.ps, x.2 ≤ m := by
  constructor
  · intro h x hx
    obtain ⟨p, hp, _, rfl⟩ := res_mem.1 hx
    exact h p hp
  · intro h p hp
    have hok := hg.pgs.1 p hp
    by_cases hr : p.resi = true
    · exact h _ (res_mem.2 ⟨p, hp, hr, rfl⟩)
    · have h3 := (not_congr (resi_of hok)).1 hr
      have h3 : p.kind = 3 := by simpa using h3
      rw [hok.2.2 h3]
      exact h0
/-- What one step keeps: who has pins, and another name than k, stays so; who was put out is not resident. -/
structure StepOk (c c' : ClkN) (k : KeyN) (out : List KeyN) : Prop where
  good : Good c'
  most : c'.most = c.most
  stay : ∀ x ∈ resL c.ps, x.2 ≠ 0 → x.1 ≠ k → x ∈ resL c'.ps
  gone : ∀ x ∈ out, ∀ i p, findK x c'.ps = some i → c'.ps[i]? = some p → p.kind = 3
  few : out.length ≤ 1
theorem step_admit {c : ClkN} {k : KeyN} (h : Good c) (e : (admitK c k).2.2 = true) : StepOk c (admitK c k).1 k (admitK c k).2.1 := by
  have hc := admit_yes h e
  exact ⟨hc.good, hc.most, fun x hx h0 _ => hc.pinned x hx h0, fun x hx i p hf hp => hc.out_ hx hf hp, hc.one⟩
theorem step_touch {c : ClkN} {k : KeyN} (h : Good c) : StepOk c (touchK c k).1 k [] := by
  obtain ⟨h1, h2, _, h4, _⟩ := touch_is h k
  exact ⟨h1, h2, fun x hx _ _ => by rw [h4]; exact hx, (fun x hx => by cases hx), by simp⟩
theorem step_pin {c : ClkN} {k : KeyN} (h : Good c) (n : Int) : StepOk c (pinK c k n).1 k [] := by
  obtain ⟨h1, h2, _⟩ := pin_is h k n
  exact ⟨h1, h2, fun x hx _ hne => pin_other n hx hne, (fun x hx => by cases hx), by simp⟩
theorem pins_touch {c : ClkN} {k : KeyN} {m : Int} (h : Good c) (hp : PinsLe m c) (h0 : 0 ≤ m) : PinsLe m (touchK c k).1 := by
  obtain ⟨h1, _, _, h4, _⟩ := touch_is h k
  rw [pinsLe_res h1.base h0, h4, ← pinsLe_res h.base h0]
  exact hp
theorem pins_admit {c : ClkN} {k : KeyN} {m : Int} (h : Good c) (hp : PinsLe m c) (h0 : 0 ≤ m) : PinsLe m (admitK c k).1 := by
  cases e : (admitK c k).2.2 with
  | false => rw [(admit_no h e).1]; exact hp
  | true =>
    have hc := admit_yes h e
    rw [pinsLe_res hc.good.base h0]
    intro x hx
    rcases hc.from_ x hx with h1 | h1
    · exact (pinsLe_res h.base h0).1 hp x h1
    · rw [h1]; exact h0
theorem pins_pin {c : ClkN} {k : KeyN} {m n d : Int} (_h : Good c) (hp : PinsLe m c) (h0 : 0 ≤ m) (hn : n ≤ d) (hd : 0 ≤ d) : PinsLe (m + d) (pinK c k n).1 := by
  have hm : PinsLe (m + d) c := hp.mono (by omega)
  unfold pinK
  cases hf : findK k c.ps with
  | none => exact hm
  | some i =>
    obtain ⟨p, hpp, _⟩ := findK_some hf
    simp only [hpp]
    by_cases hr : p.resi = true
    · rw [if_pos hr]
      intro q hq
      rcases List.mem_or_eq_of_mem_set hq with h1 | h1
      · exact hm q h1
      · have h2 := hp p (List.mem_of_getElem? hpp)
        rw [h1]
        show max (p.pins + n) 0 ≤ m + d
        omega
    · rw [if_neg hr]
      exact hm
theorem pins_drop {c : ClkN} {k : KeyN} {m : Int} (hp : PinsLe m c) : PinsLe m (dropK c k).1 := by
  unfold dropK
  cases hf : findK k c.ps with
  | none => exact hp
  | some i =>
    intro q hq
    have hq : q ∈ strikeK c.ps i := hq
    unfold strikeK at hq
    rcases List.mem_append.1 hq with h1 | h1
    · exact hp q (List.mem_of_mem_take h1)
    · exact hp q (List.mem_of_mem_drop h1)
/-- Where nobody may come all have pins. -/
def pinnedP (p : PagN) : Bool := p.kind == 3 || decide (0 < p.pins)
theorem no_pinned {c : ClkN} {k : KeyN} (h : Good c) (e : (admitK c k).2.2 = false) : c.ps.all pinnedP = true := by
  obtain ⟨_, _, h2, _⟩ := admit_no h e
  rw [List.all_eq_true]
  intro p hp
  have hf := List.any_eq_false.1 h2 p hp
  have hok := h.base.pgs.1 p hp
  have h0 := hok.2.1
  unfold pinnedP
  by_cases hr : p.resi = true
  · unfold isFree at hf
    rw [hr] at hf
    simp at hf
    simp
    right
    omega
  · have h3 := (not_congr (resi_of hok)).1 hr
    have h3 : p.kind = 3 := by simpa using h3
    simp [h3]
theorem all_take {f : PagN → Bool} {ps : List PagN} {i : Nat} {p : PagN} (h : ps[i]? = some p) : (ps.take (i + 1)).all f = ((ps.take i).all f && f p) := by
  rw [take_one h, List.all_append]
  simp
/-- Who is there stands where it is looked for. -/
theorem Good.place {c : ClkN} (h : Good c) {i : Nat} {p : PagN} (hp : c.ps[i]? = some p) : findK p.key c.ps = some i := findK_at h.base.pgs.2 hp rfl
end Go.Proofs.Ythogflfjdfcpeaa

/- Regions that draw their order, of assignments: the stores wait for all that stands on the right hand; so what the loads read is asked to stay only until the first store. -/
namespace Go.Proofs.Ythogflfjdfcpeaa
open Go.RowKit
section
variable {P : Program} {ops : Array Oper} {Q : Exit → Act → World → Prop} {md : Region.Mode} {S : World → Prop} {n1 : Nat}

/-- Whatever order is picked, and S holds behind each of the first n1 operations that is carried out. -/
def wpAnyT (P : Program) (md : Region.Mode) (ops : Array Oper) (Q : Exit → Act → World → Prop) (S : World → Prop) (n1 : Nat) : Nat → Array Bool → Act → World → Prop
  | 0, listed, a, w => Region.ready md ops listed = [] ∧ Q .normal a w
  | fuel + 1, listed, a, w =>
    (Region.ready md ops listed = [] → Q .normal a w) ∧
    ∀ i ∈ Region.ready md ops listed, wpOp P ops Q i (fun a' w' => (i < n1 → S w') ∧ wpAnyT P md ops Q S n1 fuel (listed.setIfInBounds i true) a' w') a w
theorem wpAny_of_T : ∀ (fuel : Nat) (listed : Array Bool) (a : Act) (w : World), wpAnyT P md ops Q S n1 fuel listed a w → wpAny P md ops Q fuel listed a w
  | 0, _, _, _, h => h
  | fuel + 1, _, _, _, h => ⟨h.1, fun i hi => wpOp_mono (fun a' w' h' => wpAny_of_T fuel _ a' w' h'.2) (h.2 i hi)⟩
/-- When the first n1 have come up nothing more is asked of S. -/
theorem wpAnyT_of_any : ∀ (fuel : Nat) (listed : Array Bool) (a : Act) (w : World), (∀ i, i < n1 → listed.getD i true = true) → wpAny P md ops Q fuel listed a w → wpAnyT P md ops Q S n1 fuel listed a w
  | 0, _, _, _, _, h => h
  | fuel + 1, listed, _, _, hl, h => by
    refine ⟨h.1, fun i hi => wpOp_mono (fun a' w' h' => ?_) (h.2 i hi)⟩
    have hno : ¬ i < n1 := fun hin => by
      have h0 := (mem_ready.1 hi).1
      rw [hl i hin] at h0
      cases h0
    refine ⟨fun hin => absurd hin hno, wpAnyT_of_any fuel _ a' w' (fun j hj => ?_) h'⟩
    have hij : i ≠ j := fun e => hno (e ▸ hj)
    rw [getD_set_ne true hij]
    exact hl j hj
/-- Each operation from n1 on waits for all of the first n1. -/
def phased (md : Region.Mode) (ops : Array Oper) (n1 : Nat) : Bool := (List.range ops.size).all fun j => decide (j < n1) || (List.range n1).all fun i => match ops[j]? with
  | some o => o.after.any fun e => Region.binds md e && e.on == i
  | none => true
theorem phased_spec (h : phased md ops n1 = true) {j : Nat} {oj : Oper} (hj : ops[j]? = some oj) (hn : n1 ≤ j) {i : Nat} (hi : i < n1) : ∃ e ∈ oj.after, Region.binds md e = true ∧ e.on = i := by
  unfold phased at h
  rw [List.all_eq_true] at h
  have h1 := h j (List.mem_range.2 (Array.getElem?_eq_some_iff.1 hj).1)
  rw [decide_eq_false (by omega), Bool.false_or, List.all_eq_true] at h1
  have h2 := h1 i (List.mem_range.2 hi)
  simp only [hj] at h2
  obtain ⟨e, he, hb⟩ := Array.any_eq_true'.1 h2
  simp only [Bool.and_eq_true, beq_iff_eq] at hb
  exact ⟨e, he, hb.1, hb.2⟩
theorem wpAnyT_first {i : Nat} {oi : Oper} {v : Value} (hi : ops[i]? = some oi) (hin : i < n1) (hp : phased md ops n1 = true) (hsel : ∀ (j : Nat) (o : Oper) cs b, ops[j]? = some o → o.op ≠ .select cs b)
    (hQ : ∀ c a w, Q (.panic c) (a.put oi.dst v) w → Q (.panic c) a w) :
    ∀ (fuel : Nat) (listed : Array Bool) (a : Act) (w : World),
      (∀ j oj, ops[j]? = some oj → j ≠ i → listed.getD j true = false → (∀ e ∈ oj.after, Region.binds md e = true → e.on ≠ i) → oi.apart ops oj = true) →
      i ∈ Region.ready md ops listed → YieldsIf P ops S oi v a → S w →
      wpAnyT P md ops Q S n1 fuel (listed.setIfInBounds i true) (a.put oi.dst v) w → wpAnyT P md ops Q S n1 (fuel + 1) listed a w := by
  intro fuel
  induction fuel with
  | zero =>
    intro listed a w _ hr hy hS H
    refine ⟨fun h => (by rw [h] at hr; cases hr), fun j hj => ?_⟩
    by_cases hji : j = i
    · subst hji; exact hy.wpOp hi hS ⟨fun _ => hS, H⟩
    · have := ready_mono hj hji
      rw [H.1] at this
      cases this
  | succ fuel ih =>
    intro listed a w hfree hr hy hS H
    refine ⟨fun h => (by rw [h] at hr; cases hr), fun j hj => ?_⟩
    by_cases hji : j = i
    · subst hji; exact hy.wpOp hi hS ⟨fun _ => hS, H⟩
    · have h1 := H.2 j (ready_mono hj hji)
      obtain ⟨hjun, oj, hoj, hall⟩ := mem_ready.1 hj
      have hnot : ∀ e ∈ oj.after, Region.binds md e = true → e.on ≠ i := fun e he hb heq => by
        have h1 := hall e he hb
        have h0 := (mem_ready.1 hr).1
        rw [heq] at h1
        rcases Nat.lt_or_ge i listed.size with h' | h'
        · simp [h'] at h0 h1; rw [h0] at h1; cases h1
        · simp [Array.getElem?_eq_none h'] at h1
      have hjn : j < n1 := by
        rcases Nat.lt_or_ge j n1 with h | h
        · exact h
        · obtain ⟨e, he, hb, hon⟩ := phased_spec hp hoj h hin
          exact absurd hon (hnot e he hb)
      have h2 := wpOp_putIf hoj (hfree j oj hoj hji hjun hnot) (fun cs b => hsel i oi cs b hi) (fun cs b => hsel j oj cs b hoj) hQ hy h1
      have hfree' : ∀ k ok, ops[k]? = some ok → k ≠ i → (listed.setIfInBounds j true).getD k true = false →
          (∀ e ∈ ok.after, Region.binds md e = true → e.on ≠ i) → oi.apart ops ok = true := fun k ok hk hki hun hno => by
        refine hfree k ok hk hki ?_ hno
        by_cases hjk : j = k
        · subst hjk; exact hjun
        · rw [getD_set_ne true hjk] at hun; exact hun
      refine wpOp_mono (fun a' w' h3 => ⟨h3.2.1, ih (listed.setIfInBounds j true) a' w' hfree' (ready_mono hr (Ne.symm hji)) h3.1 (h3.2.1 hjn) ?_⟩) h2
      rw [Array.setIfInBounds_comm _ _ hji]
      exact h3.2.2
/-- Number i of the first n1, which yields wherever S holds, is taken first. -/
theorem wpAnyT_take {i : Nat} {oi : Oper} {v : Value} {fuel : Nat} {listed : Array Bool} {a : Act} {w : World} (hi : ops[i]? = some oi) (hin : i < n1) (hp : phased md ops n1 = true)
    (hs : Region.noSelect ops = true) (hf : Region.free md ops listed i = true) (hr : (Region.ready md ops listed).contains i = true)
    (hQ : ∀ c a w, Q (.panic c) (a.put oi.dst v) w → Q (.panic c) a w) (hy : YieldsIf P ops S oi v a) (hS : S w)
    (h : wpAnyT P md ops Q S n1 fuel (listed.setIfInBounds i true) (a.put oi.dst v) w) : wpAnyT P md ops Q S n1 (fuel + 1) listed a w :=
  wpAnyT_first hi hin hp (Region.noSelect_spec hs) hQ fuel listed a w (Region.free_spec hi hf) (by simpa using hr) hy hS h
/-- Whichever of those that may come up comes up; S is shown anew behind it. -/
def AllReadyT (P : Program) (md : Region.Mode) (ops : Array Oper) (Q : Exit → Act → World → Prop) (S : World → Prop) (n1 fuel : Nat) (listed : Array Bool) (a : Act) (w : World) (rs : List Nat) : Prop :=
  ∀ i ∈ rs, wpOp P ops Q i (fun a' w' => (i < n1 → S w') ∧ wpAnyT P md ops Q S n1 fuel (listed.setIfInBounds i true) a' w') a w
theorem AllReadyT.nil {fuel : Nat} {listed : Array Bool} {a : Act} {w : World} : AllReadyT P md ops Q S n1 fuel listed a w [] := fun _ h => by cases h
theorem AllReadyT.cons {fuel : Nat} {listed : Array Bool} {a : Act} {w : World} {i : Nat} {o : Oper} {rs : List Nat} (ho : ops[i]? = some o)
    (h : ∀ K' : Act → World → Prop, Shut (∀ a w, S w → (S w → wpAnyT P md ops Q S n1 fuel (listed.setIfInBounds i true) a w) → K' a w) → if Region.wanted o (yielded ops a.tmps) = true then Oper.wp P o a w K' Q else K' (a.put o.dst undef) w)
    (hs : AllReadyT P md ops Q S n1 fuel listed a w rs) : AllReadyT P md ops Q S n1 fuel listed a w (i :: rs) := fun j hj => by
  rcases List.mem_cons.1 hj with rfl | hj
  · exact wpOp_step ho (fun K' hK => h K' (fun a w hS hW => hK a w ⟨fun _ => hS, hW hS⟩))
  · exact hs j hj
theorem wpAnyT_ready {rs : List Nat} {fuel : Nat} {listed : Array Bool} {a : Act} {w : World} (hr : Region.ready md ops listed = rs) (hne : rs ≠ [])
    (h : AllReadyT P md ops Q S n1 fuel listed a w rs) : wpAnyT P md ops Q S n1 (fuel + 1) listed a w := ⟨fun h0 => absurd (hr ▸ h0) hne, hr ▸ h⟩
/-- The beginning. -/
theorem wp_region_T {id : Nat} {a : Act} {w : World} (S : World → Prop) (n1 : Nat) (hm : P.follows .mixedOrders = true) (hS : S w.drew)
    (h : S w.drew → wpAnyT P .any ops Q S n1 ops.size (Array.replicate ops.size false) a w.drew) : (Code.region id ops true).wp P Q a w :=
  wp_region_any hm (wpAny_of_T _ _ _ _ (h hS))
/-- The first n1 are listed. -/
def firstUp (n1 : Nat) (listed : Array Bool) : Bool := (List.range n1).all fun i => listed.getD i true
theorem wpAnyT_rest {fuel : Nat} {listed : Array Bool} {a : Act} {w : World} (hl : firstUp n1 listed = true) (h : wpAny P md ops Q fuel listed a w) : wpAnyT P md ops Q S n1 fuel listed a w :=
  wpAnyT_of_any fuel listed a w (fun i hi => by
    unfold firstUp at hl
    rw [List.all_eq_true] at hl
    exact hl i (List.mem_range.2 hi)) h
end
section
variable {P : Program} {w : World}
/-- append(s, x..) as a step of a region that draws its order, s a row of the call's own: what else turns. -/
theorem step_appK {ops : Array Oper} {o : Oper} {a : Act} {K_ : Act → World → Prop} {Q : Exit → Act → World → Prop} {E : Prop} (hgd : o.guard = none) (s x : Operand) (t : TypeId)
    (ho : o.op = .call { callee := .builtin .append, args := #[s, x], argTypes := #[t, t] }) {e : TypeId} {z : Value} {K bytes : Nat} (hE : EltK P t e z K bytes)
    {B : Nat} {v : Value} {rows : List (List Value)} (hs : a.eval s = v) (hown : OwnK K B w e v rows) {B2 m c : Nat} {A : Option Addr} {news : List (List Value)} (hx : a.eval x = .slice A m c) (hr : RdsK K w B2 A m news) (h1 : ∀ u ∈ news.flatten, u.oneCell' = true)
    (hm : rows.length + m ≤ maxLen) (hb : (rows.length + m) * bytes ≤ 140737488355328) (hB : B ≤ w.heap.size)
    (h : ∀ v' w', Hid (OwnK K B w' e v' (rows ++ news)) → Hid (Mod (fun k => v.ownBlock = some k) w w') → Hid (v'.ownBlock = v.ownBlock ∨ v'.ownBlock = some w.heap.size) → K_ (a.put o.dst v') w') :
    if Region.wanted o (yielded ops a.tmps) = true then Oper.wp P o a w K_ Q else E := by
  have hw : Region.wanted o (yielded ops a.tmps) = true := by simp [Region.wanted, hgd]
  rw [if_pos hw]
  obtain ⟨v', w', hrun, h2, h3, h4⟩ := run_appK (ty := o.type) (c := c) hE hown hr h1 hm hb hB
  unfold Oper.wp execOp
  simp only [ho, resolve, invoke, builtin, Sem.run_bind, Sem.run_pure, Result.andThen_ok, List.map_toArray, List.map_cons, List.map_nil, hs, hx, hrun]
  exact h v' w' (Lib.hid h2) (Lib.hid ((Mod.refl _ w).grown h3 (fun k hk _ => hk))) (Lib.hid h4)
end
end Go.Proofs.Ythogflfjdfcpeaa

/- Regions that draw their order, of several assignments at once: one operation alone is asked to come ahead of the late ones. -/
namespace Go.Proofs.Ythogflfjdfcpeaa
open Go.RowKit
section
variable {P : Program} {ops : Array Oper} {Q : Exit → Act → World → Prop} {md : Region.Mode} {S : World → Prop} {n1 : Nat}

/-- Each operation from n1 on waits for number i. -/
def phasedAt (md : Region.Mode) (ops : Array Oper) (n1 i : Nat) : Bool := (List.range ops.size).all fun j => decide (j < n1) || match ops[j]? with
  | some o => o.after.any fun e => Region.binds md e && e.on == i
  | none => true
theorem phasedAt_spec {i : Nat} (h : phasedAt md ops n1 i = true) {j : Nat} {oj : Oper} (hj : ops[j]? = some oj) (hn : n1 ≤ j) : ∃ e ∈ oj.after, Region.binds md e = true ∧ e.on = i := by
  unfold phasedAt at h
  rw [List.all_eq_true] at h
  have h2 := h j (List.mem_range.2 (Array.getElem?_eq_some_iff.1 hj).1)
  rw [decide_eq_false (by omega), Bool.false_or] at h2
  simp only [hj] at h2
  obtain ⟨e, he, hb⟩ := Array.any_eq_true'.1 h2
  simp only [Bool.and_eq_true, beq_iff_eq] at hb
  exact ⟨e, he, hb.1, hb.2⟩
theorem wpAnyT_firstAt {i : Nat} {oi : Oper} {v : Value} (hi : ops[i]? = some oi) (hp : phasedAt md ops n1 i = true) (hsel : ∀ (j : Nat) (o : Oper) cs b, ops[j]? = some o → o.op ≠ .select cs b)
    (hQ : ∀ c a w, Q (.panic c) (a.put oi.dst v) w → Q (.panic c) a w) :
    ∀ (fuel : Nat) (listed : Array Bool) (a : Act) (w : World),
      (∀ j oj, ops[j]? = some oj → j ≠ i → listed.getD j true = false → (∀ e ∈ oj.after, Region.binds md e = true → e.on ≠ i) → oi.apart ops oj = true) →
      i ∈ Region.ready md ops listed → YieldsIf P ops S oi v a → S w →
      wpAnyT P md ops Q S n1 fuel (listed.setIfInBounds i true) (a.put oi.dst v) w → wpAnyT P md ops Q S n1 (fuel + 1) listed a w := by
  intro fuel
  induction fuel with
  | zero =>
    intro listed a w _ hr hy hS H
    refine ⟨fun h => (by rw [h] at hr; cases hr), fun j hj => ?_⟩
    by_cases hji : j = i
    · subst hji; exact hy.wpOp hi hS ⟨fun _ => hS, H⟩
    · have := ready_mono hj hji
      rw [H.1] at this
      cases this
  | succ fuel ih =>
    intro listed a w hfree hr hy hS H
    refine ⟨fun h => (by rw [h] at hr; cases hr), fun j hj => ?_⟩
    by_cases hji : j = i
    · subst hji; exact hy.wpOp hi hS ⟨fun _ => hS, H⟩
    · have h1 := H.2 j (ready_mono hj hji)
      obtain ⟨hjun, oj, hoj, hall⟩ := mem_ready.1 hj
      have hnot : ∀ e ∈ oj.after, Region.binds md e = true → e.on ≠ i := fun e he hb heq => by
        have h1 := hall e he hb
        have h0 := (mem_ready.1 hr).1
        rw [heq] at h1
        rcases Nat.lt_or_ge i listed.size with h' | h'
        · simp [h'] at h0 h1; rw [h0] at h1; cases h1
        · simp [Array.getElem?_eq_none h'] at h1
      have hjn : j < n1 := by
        rcases Nat.lt_or_ge j n1 with h | h
        · exact h
        · obtain ⟨e, he, hb, hon⟩ := phasedAt_spec hp hoj h
          exact absurd hon (hnot e he hb)
      have h2 := wpOp_putIf hoj (hfree j oj hoj hji hjun hnot) (fun cs b => hsel i oi cs b hi) (fun cs b => hsel j oj cs b hoj) hQ hy h1
      have hfree' : ∀ k ok, ops[k]? = some ok → k ≠ i → (listed.setIfInBounds j true).getD k true = false →
          (∀ e ∈ ok.after, Region.binds md e = true → e.on ≠ i) → oi.apart ops ok = true := fun k ok hk hki hun hno => by
        refine hfree k ok hk hki ?_ hno
        by_cases hjk : j = k
        · subst hjk; exact hjun
        · rw [getD_set_ne true hjk] at hun; exact hun
      refine wpOp_mono (fun a' w' h3 => ⟨h3.2.1, ih (listed.setIfInBounds j true) a' w' hfree' (ready_mono hr (Ne.symm hji)) h3.1 (h3.2.1 hjn) ?_⟩) h2
      rw [Array.setIfInBounds_comm _ _ hji]
      exact h3.2.2
/-- Number i of the first n1, which yields wherever S holds, is taken first. -/
theorem wpAnyT_takeAt {i : Nat} {oi : Oper} {v : Value} {fuel : Nat} {listed : Array Bool} {a : Act} {w : World} (hi : ops[i]? = some oi) (hp : phasedAt md ops n1 i = true)
    (hs : Region.noSelect ops = true) (hf : Region.free md ops listed i = true) (hr : (Region.ready md ops listed).contains i = true)
    (hQ : ∀ c a w, Q (.panic c) (a.put oi.dst v) w → Q (.panic c) a w) (hy : YieldsIf P ops S oi v a) (hS : S w)
    (h : wpAnyT P md ops Q S n1 fuel (listed.setIfInBounds i true) (a.put oi.dst v) w) : wpAnyT P md ops Q S n1 (fuel + 1) listed a w :=
  wpAnyT_firstAt hi hp (Region.noSelect_spec hs) hQ fuel listed a w (Region.free_spec hi hf) (by simpa using hr) hy hS h
/-- From plain operations taken first on. -/
theorem wpAny_toT {fuel : Nat} {listed : Array Bool} {a : Act} {w : World} (S : World → Prop) (n1 : Nat) (hS : S w) (h : S w → wpAnyT P md ops Q S n1 fuel listed a w) : wpAny P md ops Q fuel listed a w := wpAny_of_T _ _ _ _ (h hS)
end
end Go.Proofs.Ythogflfjdfcpeaa

/- Integers that came in: they stay. -/
namespace Go.Proofs.Ythogflfjdfcpeaa
open Go.RowKit

theorem SeesI.modS {k : IntKind} {w w' : World} {B : Nat} {A : Option Addr} {n : Nat} {zs : List Int} {S : Nat → Prop} (h : SeesI k w B A n zs) (hm : Mod S w w') (hB : B ≤ w.heap.size) (hS : ∀ j, j < B → ¬ S j) : SeesI k w' B A n zs := ⟨h.1, fun h0 => by
  obtain ⟨ad, e, hb, hc⟩ := h.2 h0
  exact ⟨ad, e, hb, fun j u hu => (hm.cell (by rw [addr_block]; omega) (by rw [addr_block]; exact hS _ hb)).trans (hc j u hu)⟩⟩
theorem SeesI.up {k : IntKind} {w : World} {B B' : Nat} {A : Option Addr} {n : Nat} {zs : List Int} (h : SeesI k w B A n zs) (hB : B ≤ B') : SeesI k w B' A n zs := ⟨h.1, fun h0 => by
  obtain ⟨ad, e, hb, hc⟩ := h.2 h0
  exact ⟨ad, e, by omega, hc⟩⟩
end Go.Proofs.Ythogflfjdfcpeaa
