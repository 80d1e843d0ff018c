/- Get with a size that may be too great; bytes.Equal (parted from layer 8's Decode). -/
import Derived.Test.YtldjobaafambbaaGo
import Derived.Test.YtldjobaafambbaaRow
namespace Go.Proofs.Ytldjobaafambbaa
open Go.RowKit

theorem get_oh (g row k : Nat) (N : Int) (s : Option (Nat × Nat)) (w : World) (hN : FitI N) (hk : max 0 (min N 64) = (k : Int)) (h : RdrO w g row s) :
    Calls Try.prog 33 #[.pointer (some ⟨g, 0, none⟩), .int .i64 N] w fun e w' => e = .returned (.int .u64 ((getO k s).1 : Int)) ∧ RdrO w' g row (getO k s).2 ∧ Mod (fun i => i = g) w w' := by
  cases s with
  | none =>
    refine (get_ans N k hN hk h (by omega)).mono ?_
    rintro e w' ⟨rfl, h1, h2⟩
    exact ⟨rfl, h1, h2⟩
  | some p =>
    obtain ⟨R, rem⟩ := p
    refine (get_ans N k hN hk h.1 h.2).mono ?_
    rintro e w' ⟨rfl, h1, h2⟩
    by_cases hkr : k ≤ rem
    · rw [ans_yes hkr] at h1 ⊢
      have e1 : getO k (some (R, rem)) = (R / 2 ^ (rem - k), some (R % 2 ^ (rem - k), rem - k)) := if_pos hkr
      rw [e1]
      exact ⟨rfl, ⟨h1, by have := h.2; show rem - k ≤ 8000000; omega⟩, h2⟩
    · rw [ans_no (fun h => hkr h.2)] at h1 ⊢
      have e1 : getO k (some (R, rem)) = (0, none) := if_neg hkr
      rw [e1]
      exact ⟨rfl, h1, h2⟩
/-- bytes.Equal. -/
theorem bequal_any (A A2 : Option Addr) (n n2 c c2 B B2 : Nat) (xs bs : List Nat) (w : World) (h1 : Rds w B A n (cells8 xs)) (h2 : Rds w B2 A2 n2 (cells8 bs)) (l1 : lt256 xs) (l2 : lt256 bs) :
    Calls Try.prog 17 #[.slice A n c, .slice A2 n2 c2] w fun e w' => e = .returned (.bool (decide (xs = bs))) ∧ Mod (fun _ => False) w w' := by
  obtain ⟨s1, hs1⟩ : ∃ s1, strOf xs = s1 := ⟨_, rfl⟩
  obtain ⟨s2, hs2⟩ : ∃ s2, strOf bs = s2 := ⟨_, rfl⟩
  have c1 := fun c => conv_rds (P := Try.prog) (c := c) Try.underlying27 Try.underlying5 Try.underlying9 w h1 l1
  have c2' := fun c => conv_rds (P := Try.prog) (c := c) Try.underlying27 Try.underlying5 Try.underlying9 w h2 l2
  rw [hs1] at c1
  rw [hs2] at c2'
  have hq : (s1.toList == s2.toList) = decide (xs = bs) := by
    by_cases h : xs = bs
    · have e : s1 = s2 := by rw [← hs1, ← hs2, h]
      rw [e, decide_eq_true h, beq_self_eq_true]
    · rw [decide_eq_false h, beq_eq_false_iff_ne]
      intro e
      rw [ByteArray.toList_eq, ByteArray.toList_eq] at e
      exact h (strOf_inj l1 l2 (by rw [hs1, hs2]; exact ByteArray.ext (Array.toList_inj.1 e)))
  obtain ⟨b, hb⟩ : ∃ b, decide (xs = bs) = b := ⟨_, rfl⟩
  rw [hb] at hq ⊢
  clear h1 h2 l1 l2 hs1 hs2 hb
  go_enter Try.func17, Try.ntmps17
  go_wp2_with fail
  go_ret
  exact ⟨rfl, Mod.refl _ _⟩
/-- What the document tells, and that it is these bytes, or not, as strings. -/
theorem str_ne {xs bs : List Nat} {s1 s2 : ByteArray} {b : Bool} (h1 : strOf xs = s1) (h2 : strOf bs = s2) (l1 : lt256 xs) (l2 : lt256 bs) (hb : decide (xs = bs) = b) : (s1.toList == s2.toList) = b ∧ (s1.toList != s2.toList) = !b := by
  have hq : (s1.toList == s2.toList) = b := by
    rw [← hb]
    by_cases h : xs = bs
    · have e : s1 = s2 := by rw [← h1, ← h2, h]
      rw [e, decide_eq_true h, beq_self_eq_true]
    · rw [decide_eq_false h, beq_eq_false_iff_ne]
      intro e
      rw [ByteArray.toList_eq, ByteArray.toList_eq] at e
      exact h (strOf_inj l1 l2 (by rw [h1, h2]; exact ByteArray.ext (Array.toList_inj.1 e)))
  exact ⟨hq, by unfold bne; rw [hq]⟩
end Go.Proofs.Ytldjobaafambbaa
