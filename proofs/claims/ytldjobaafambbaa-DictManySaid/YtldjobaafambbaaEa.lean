/- What a function answers that tells a row of values of 64 bits, or nil and false. -/
import Derived.Test.YtldjobaafambbaaUw
namespace Go.Proofs.Ytldjobaafambbaa
open Go.RowKit

/-- A row and true, or nil and false. -/
def EncE (w w' : World) (o : Option (List Nat)) (e : Ending) : Prop :=
  match o with
  | some ws => ∃ v, e = .returned (.tuple #[v, .bool true]) ∧ Own w.heap.size w' 32 v (cellsU ws) ∧ Mod (fun _ => False) w w'
  | none => e = .returned (.tuple #[.slice none 0 0, .bool false]) ∧ Mod (fun _ => False) w w'
theorem EncE.some_ {w w' : World} {o : Option (List Nat)} {ws : List Nat} {e : Ending} (h : EncE w w' o e) (ho : o = some ws) : ∃ v, e = .returned (.tuple #[v, .bool true]) ∧ Own w.heap.size w' 32 v (cellsU ws) ∧ Mod (fun _ => False) w w' := by
  rw [ho] at h
  exact h
theorem EncE.none_ {w w' : World} {o : Option (List Nat)} {e : Ending} (h : EncE w w' o e) (ho : o = none) : e = .returned (.tuple #[.slice none 0 0, .bool false]) ∧ Mod (fun _ => False) w w' := by
  rw [ho] at h
  exact h
/-- An answer as a row: none is nil. -/
theorem EncE.any {w w' : World} {o : Option (List Nat)} {e : Ending} (h : EncE w w' o e) : ∃ (A : Option Addr) (c : Nat), e = .returned (.tuple #[.slice A (o.getD []).length c, .bool o.isSome]) ∧ (o.getD []).length ≤ c ∧ Rds w' w'.heap.size A (o.getD []).length (cellsU (o.getD [])) ∧ Mod (fun _ => False) w w' := by
  cases o with
  | none =>
    obtain ⟨rfl, hm⟩ := h.none_ rfl
    exact ⟨none, 0, rfl, Nat.le_refl _, Rds.nil _ _ _, hm⟩
  | some ws =>
    obtain ⟨v, rfl, ho, hm⟩ := h.some_ rfl
    obtain ⟨A, c, rfl, hc, hr⟩ := own_formU ho
    exact ⟨A, c, rfl, hc, hr, hm⟩
/-- A row that both told may be cut. -/
theorem getD_fit {o : Option (List Nat)} {n : Nat} (h : ∀ ws, o = some ws → ws.length ≤ n ∧ ∀ x ∈ ws, x < 2 ^ 64) : (o.getD []).length ≤ n ∧ ∀ x ∈ o.getD [], x < 2 ^ 64 := by
  cases o with
  | none => exact ⟨Nat.zero_le _, fun _ h => by cases h⟩
  | some ws => exact h ws rfl
end Go.Proofs.Ytldjobaafambbaa
