/- Rows of bytes: what their slices look like. -/
import Derived.Test.YtnfpbjioiiedeaaHd
import Derived.Test.YtnfpbjioiiedeaaOw
import Derived.Test.YtnfpbjioiiedeaaUg
namespace Go.Proofs.Ytnfpbjioiiedeaa
open Go.RowKit

theorem own_form8 {B : Nat} {w : World} {v : Value} {xs : List Nat} (h : Own B w 5 v (cells8 xs)) : ∃ A c, v = .slice A xs.length c ∧ xs.length ≤ c ∧ c ≤ maxLen ∧ Rds w w.heap.size A xs.length (cells8 xs) := by
  obtain ⟨A, c, e, _, hc, hm, hr⟩ := h.form
  rw [cells8_length] at e hr hc
  exact ⟨A, c, e, hc, hm, hr⟩
theorem own_formN8 {B : Nat} {w : World} {v : Value} {xs : List Nat} (h : Own B w 5 v (cells8 xs)) : ∃ A L c, v = .slice A L c ∧ Hid (xs.length = L) ∧ L ≤ c ∧ c ≤ maxLen ∧ Rds w w.heap.size A L (cells8 xs) := by
  obtain ⟨A, c, e, hc, hm, hr⟩ := own_form8 h
  exact ⟨A, xs.length, c, e, Lib.hid rfl, hc, hm, hr⟩
theorem u_formN8 {B n : Nat} {w : World} {v : Value} {bs : List Nat} (h : Own B w 5 v (cells8 bs)) (hn : bs.length = n) : ∃ A c, v = .slice A n c ∧ n ≤ c ∧ c ≤ maxLen ∧ (0 < n → ∃ g, A = some ⟨g, 0, none⟩ ∧ B ≤ g ∧ g < w.heap.size) := by
  subst hn
  obtain ⟨A, c, e, _, hc, hm, _⟩ := h.form
  rw [cells8_length] at e hc
  refine ⟨A, c, e, hc, hm, fun h0 => ?_⟩
  obtain ⟨g, cap, e2, hB, hg⟩ := h.form' (by rw [cells8_length]; exact h0)
  rw [e] at e2
  injection e2 with e2
  exact ⟨g, e2, hB, hg⟩
theorem Own.rds8 {B : Nat} {w : World} {A : Option Addr} {n c : Nat} {xs : List Nat} (h : Own B w 5 (.slice A n c) (cells8 xs)) (hn : xs.length = n) : Rds w w.heap.size A n (cells8 xs) := by
  obtain ⟨A', c', e, _, _, hr⟩ := own_form8 h
  injection e with e1 e2 e3
  subst e1 e2
  exact hr
theorem cells8_app (xs ys : List Nat) : cells8 xs ++ cells8 ys = cells8 (xs ++ ys) := by simp [cells8]
/-- A row of bytes, where it lies. -/
theorem Rds.sees {w : World} {A : Option Addr} {n : Nat} {bs : List Nat} (h : Rds w w.heap.size A n (cells8 bs)) (hw : 0 < w.heap.size) : ∃ row, Sees w row A n (cells8 bs) ∧ row < w.heap.size := by
  rcases Nat.eq_zero_or_pos n with h0 | h0
  · subst h0
    exact ⟨0, ⟨h.1, fun h => absurd h (by omega)⟩, hw⟩
  · obtain ⟨x, rfl, hlt, hc⟩ := h.2 h0
    have hl : 0 < (cells8 bs).length := by have := h.1; omega
    have hc0 := hc 0 _ (List.getElem?_eq_getElem hl)
    obtain ⟨b, o, sp⟩ := x
    have hsp : sp = none := by simpa [Addr.add] using World.cell?_spot hc0
    subst hsp
    refine ⟨b, ⟨h.1, fun _ => ⟨o, rfl, hlt, fun j u hu => ?_⟩⟩, hlt⟩
    have := hc j u hu
    rwa [add_addr] at this
/-- Whoever has a row that is not empty has memory. -/
theorem Rds.some_mem {w : World} {B n : Nat} {A : Option Addr} {xs : List Value} (h : Rds w B A n xs) (hB : B ≤ w.heap.size) (hn : 0 < n) : 0 < w.heap.size ∧ A ≠ none := by
  obtain ⟨x, rfl, hlt, _⟩ := h.2 hn
  exact ⟨by omega, by simp⟩
end Go.Proofs.Ytnfpbjioiiedeaa
