/- Readers in whatever state, the project's and the document's own: what is left, or nothing. -/
import Derived.Test.YtldjobaafambbaaAll4
namespace Go.Proofs.Ytldjobaafambbaa
open Go.RowKit

/-- A reader's state: what is left, or nothing. -/
def getO (k : Nat) : Option (Nat × Nat) → Nat × Option (Nat × Nat)
  | some (R, rem) => if k ≤ rem then (R / 2 ^ (rem - k), some (R % 2 ^ (rem - k), rem - k)) else (0, none)
  | none => (0, none)
theorem getO_none (k : Nat) : getO k none = (0, none) := rfl
theorem getO_take (k R rem : Nat) : getO k (some (R, rem)) = match takeB k R rem with | some (b, R1, rem1) => (b, some (R1, rem1)) | none => (0, none) := by
  unfold getO takeB
  by_cases h : k ≤ rem
  · simp [h]
  · simp [h]
theorem getO_lt {R rem : Nat} (h : R < 2 ^ rem) (k : Nat) : (getO k (some (R, rem))).1 < 2 ^ k := by
  unfold getO
  by_cases hk : k ≤ rem
  · simp only [hk, if_true]
    rw [Nat.div_lt_iff_lt_mul (Nat.two_pow_pos _), ← Nat.pow_add, show k + (rem - k) = rem by omega]
    exact h
  · simp only [hk, if_false]
    exact Nat.two_pow_pos k
/-- A reader's row can be taken for a real one. -/
theorem Rdr.real {w : World} {g row R rem : Nat} {ok : Bool} (h : Rdr w g row R rem ok) (hg : g ≠ 0) (h0 : 0 < w.heap.size) : ∃ row', row' < w.heap.size ∧ (row' = row ∨ row' = 0) ∧ Rdr w g row' R rem ok := by
  rcases Nat.eq_zero_or_pos rem with hr | hr
  · subst hr
    exact ⟨0, h0, .inr rfl, h.rerow (fun e => hg e.symm)⟩
  · exact ⟨row, h.row_real hr, .inl rfl, h⟩

def RdrO (w : World) (g row : Nat) : Option (Nat × Nat) → Prop
  | some (R, rem) => Rdr w g row R rem true ∧ rem ≤ 8000000
  | none => Rdr w g row 0 0 false
section
variable {w w' : World} {g row : Nat} {s : Option (Nat × Nat)}
theorem RdrO.mod {S : Nat → Prop} (h : RdrO w g row s) (hm : Mod S w w') (h1 : ¬ S g) (h2 : row < w.heap.size → ¬ S row) : RdrO w' g row s := by
  cases s with
  | none => exact Rdr.mod h hm h1 h2
  | some p => exact ⟨Rdr.mod h.1 hm h1 h2, h.2⟩
theorem RdrO.lt (h : RdrO w g row s) : g < w.heap.size := by
  cases s with
  | none => exact Rdr.lt h
  | some p => exact Rdr.lt h.1
theorem RdrO.ne (h : RdrO w g row s) : row ≠ g := by
  cases s with
  | none => obtain ⟨A, n, c, bs, used, _, _, _, h, _⟩ := h; exact h
  | some p => obtain ⟨⟨A, n, c, bs, used, _, _, _, h, _⟩, _⟩ := h; exact h
end
theorem get_o (g row k : Nat) (N : Int) (s : Option (Nat × Nat)) (w : World) (hN : N = (k : Int)) (hk : k ≤ 64) (h : RdrO w g row s) :
    Calls Try.prog 33 #[.pointer (some ⟨g, 0, none⟩), .int .i64 N] w fun e w' => e = .returned (.int .u64 ((getO k s).1 : Int)) ∧ RdrO w' g row (getO k s).2 ∧ Mod (fun i => i = g) w w' := by
  subst hN
  cases s with
  | none =>
    refine (get_ans (k : Int) k ⟨by omega, by omega⟩ (by omega) h (by omega)).mono ?_
    rintro e w' ⟨rfl, h1, h2⟩
    exact ⟨rfl, h1, h2⟩
  | some p =>
    obtain ⟨R, rem⟩ := p
    refine (get_ans (k : Int) k ⟨by omega, by omega⟩ (by omega) h.1 h.2).mono ?_
    rintro e w' ⟨rfl, h1, h2⟩
    by_cases hkr : k ≤ rem
    · rw [ans_yes hkr] at h1 ⊢
      have e1 : getO k (some (R, rem)) = (R / 2 ^ (rem - k), some (R % 2 ^ (rem - k), rem - k)) := if_pos hkr
      rw [e1]
      exact ⟨rfl, ⟨h1, by have := h.2; show rem - k ≤ 8000000; omega⟩, h2⟩
    · rw [ans_no (fun h => hkr h.2)] at h1 ⊢
      have e1 : getO k (some (R, rem)) = (0, none) := if_neg hkr
      rw [e1]
      exact ⟨rfl, h1, h2⟩

theorem RdrO.small {w : World} {g row : Nat} {s : Option (Nat × Nat)} (h : RdrO w g row s) : ∀ R rem, s = some (R, rem) → R < 2 ^ rem := by
  rintro R rem rfl
  exact h.1.small

def RRdO (w : World) (g row : Nat) (bs : List Nat) : Option (Nat × Nat) → Prop
  | some (R, rem) => RRd w g row bs R rem true ∧ R < 2 ^ rem
  | none => RRd w g row bs 0 0 false
section
variable {w w' : World} {g row : Nat} {bs : List Nat} {s : Option (Nat × Nat)}
theorem RRdO.mod {S : Nat → Prop} (h : RRdO w g row bs s) (hm : Mod S w w') (h1 : ¬ S g) (h2 : row < w.heap.size → ¬ S row) : RRdO w' g row bs s := by
  cases s with
  | none => exact RRd.mod h hm h1 h2
  | some p => exact ⟨RRd.mod h.1 hm h1 h2, h.2⟩
theorem RRd.lt' {R rem : Nat} {ok : Bool} (h : RRd w g row bs R rem ok) : g < w.heap.size := by
  obtain ⟨A, n, c, a, hblk, _⟩ := h
  exact hblk.lt
theorem RRdO.lt (h : RRdO w g row bs s) : g < w.heap.size := by
  cases s with
  | none => exact RRd.lt' h
  | some p => exact RRd.lt' h.1
theorem RRdO.flag (h : RRdO w g row bs s) : w.cell? ⟨g, 2, none⟩ = some (.bool (!s.isSome)) := by
  cases s with
  | none => exact RRd.flag h
  | some p => exact RRd.flag h.1
theorem RRdO.small (h : RRdO w g row bs s) : ∀ R rem, s = some (R, rem) → R < 2 ^ rem := by
  rintro R rem rfl
  exact h.2
end
theorem rget_o (g row k : Nat) (N : Int) (bs : List Nat) (s : Option (Nat × Nat)) (w : World) (hN : N = (k : Int)) (hk : k ≤ 64) (h : RRdO w g row bs s) :
    Calls Try.prog 41 #[.pointer (some ⟨g, 0, none⟩), .int .i64 N] w fun e w' => e = .returned (.int .u64 ((getO k s).1 : Int)) ∧ RRdO w' g row bs (getO k s).2 ∧ Mod (fun i => i = g) w w' := by
  subst hN
  cases s with
  | none =>
    refine (rget_ans (k : Int) k (by omega) h).mono ?_
    rintro e w' ⟨rfl, h1, h2⟩
    exact ⟨rfl, h1, h2⟩
  | some p =>
    obtain ⟨R, rem⟩ := p
    refine (rget_ans (k : Int) k (by omega) h.1).mono ?_
    rintro e w' ⟨rfl, h1, h2⟩
    by_cases hkr : k ≤ rem
    · rw [ans_yes hkr] at h1 ⊢
      have e1 : getO k (some (R, rem)) = (R / 2 ^ (rem - k), some (R % 2 ^ (rem - k), rem - k)) := if_pos hkr
      rw [e1]
      exact ⟨rfl, ⟨h1, Nat.mod_lt _ (Nat.two_pow_pos _)⟩, h2⟩
    · rw [ans_no (fun h => hkr h.2)] at h1 ⊢
      have e1 : getO k (some (R, rem)) = (0, none) := if_neg hkr
      rw [e1]
      exact ⟨rfl, h1, h2⟩

theorem RRd.real {w : World} {g row R rem : Nat} {bs : List Nat} {ok : Bool} (h : RRd w g row bs R rem ok) (hg : g ≠ 0) (h0 : 0 < w.heap.size) : ∃ row', row' < w.heap.size ∧ (row' = row ∨ row' = 0) ∧ RRd w g row' bs R rem ok := by
  have h' := h
  obtain ⟨A, n, c, a, hblk, hs, hne, rest⟩ := h
  rcases Nat.eq_zero_or_pos n with hn | hn
  · subst hn
    exact ⟨0, h0, .inr rfl, A, 0, c, a, hblk, ⟨hs.1, fun h => by omega⟩, fun e => hg e.symm, rest⟩
  · obtain ⟨o, _, hl, _⟩ := hs.2 hn
    exact ⟨row, hl, .inl rfl, h'⟩
end Go.Proofs.Ytldjobaafambbaa
