/- Rows of bytes of the call's own: an append's result, one cell of such, one cell written. -/
import Derived.Test.YtnfpbjioiiedeaaHd
import Derived.Test.YtnfpbjioiiedeaaRow
namespace Go.Proofs.Ytnfpbjioiiedeaa
open Go.RowKit

theorem elt8 : Elt Try.prog 22 5 (.int .u8 0) 1 := Elt.mk Try.underlying22 (by kernel_rfl) rfl
/-- x[k] = b -/
theorem own_set {B g nb cap k b : Nat} {w : World} {bs : List Nat} (h : Own B w 5 (.slice (some ⟨g, 0, none⟩) nb cap) (cells8 bs)) (hn : nb = bs.length) (hk : k < nb) :
    (∃ u, w.cell? ⟨g, k, none⟩ = some u) ∧ w.frozen? ⟨g, k, none⟩ = false ∧ Own B (w.setCell ⟨g, k, none⟩ (.int .u8 (b : Int))) 5 (.slice (some ⟨g, 0, none⟩) nb cap) (cells8 (bs.set k b)) := by
  have h' : w.ownsRow B 5 1 (.slice (some ⟨g, 0, none⟩) nb cap) nb (cells8 bs) := by
    have := h; unfold Own at this; rwa [cells8_length, ← hn] at this
  refine ⟨⟨.int .u8 (bs[k]'(by omega)), ?_⟩, h'.frozenAt k, ?_⟩
  · rw [h'.cellAt k (by omega), cells8_get, List.getElem?_eq_getElem (by omega)]
    rfl
  · have h2 := (h'.stored k (.int .u8 (b : Int))).1
    rw [cells8_set] at h2
    unfold Own
    rw [cells8_length, List.length_set, ← hn]
    exact h2

theorem own_at {B g nb cap k : Nat} {w : World} {bs : List Nat} (h : Own B w 5 (.slice (some ⟨g, 0, none⟩) nb cap) (cells8 bs)) (hn : nb = bs.length) (hk : k < nb) :
    ∃ x, bs[k]? = some x ∧ w.cell? ⟨g, k, none⟩ = some (.int .u8 (x : Int)) := by
  have h' : w.ownsRow B 5 1 (.slice (some ⟨g, 0, none⟩) nb cap) nb (cells8 bs) := by
    have := h; unfold Own at this; rwa [cells8_length, ← hn] at this
  refine ⟨bs[k]'(by omega), List.getElem?_eq_getElem (by omega), ?_⟩
  rw [h'.cellAt k (by omega), cells8_get, List.getElem?_eq_getElem (by omega)]
  rfl

theorem own_some {B : Nat} {w : World} {v : Value} {bs : List Nat} {nb : Nat} (h : Own B w 5 v (cells8 bs)) (hn : nb = bs.length) (h0 : 0 < nb) :
    ∃ g cap, v = .slice (some ⟨g, 0, none⟩) nb cap ∧ B ≤ g ∧ g < w.heap.size ∧ nb ≤ cap ∧ cap ≤ maxLen := by
  rcases h.2 with ⟨rfl, h1⟩ | ⟨g, cap, cur, rfl, hb, hg, hnc, hcm, _⟩
  · rw [cells8_length] at h1; omega
  · rw [cells8_length] at hnc ⊢
    subst hn
    exact ⟨g, cap, rfl, hb, (Array.getElem?_eq_some_iff.1 hg).1, hnc, hcm⟩

theorem lt256_app {cs bs : List Nat} (h1 : lt256 cs) (h2 : lt256 bs) : lt256 (cs ++ bs) := fun b hb => by
  rw [List.mem_append] at hb
  rcases hb with hb | hb
  · exact h1 b hb
  · exact h2 b hb
theorem getD_lt {bs : List Nat} (h : lt256 bs) (j : Nat) : bs.getD j 0 < 256 := by
  rw [List.getD_eq_getElem?_getD]
  cases hb : bs[j]? with
  | none => decide
  | some x => exact h x (List.mem_of_getElem? hb)
theorem getD_of {bs : List Nat} {j x : Nat} (h : bs[j]? = some x) : bs.getD j 0 = x := by rw [List.getD_eq_getElem?_getD, h]; rfl
theorem lt256_take {bs : List Nat} (h : lt256 bs) (k : Nat) : lt256 (bs.take k) := fun b hb => h b (List.mem_of_mem_take hb)
theorem cells8_take (bs : List Nat) (k : Nat) : cells8 (bs.take k) = (cells8 bs).take k := by simp [cells8, List.map_take]

end Go.Proofs.Ytnfpbjioiiedeaa
