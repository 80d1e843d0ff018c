/- Slices of integers that came in. -/
import Derived.Test.YtnfpbjioiiedeaaHd
import Derived.Test.YtnfpbjioiiedeaaMem
namespace Go.Proofs.Ytnfpbjioiiedeaa
open Go.RowKit

/-- The slice at A, n long, reads as zs in every world that is as w was below B. -/
def SeesI (k : IntKind) (w : World) (B : Nat) (A : Option Addr) (n : Nat) (zs : List Int) : Prop :=
  zs.length = n ∧ (0 < n → ∃ ad, A = some ad ∧ ad.block < B ∧ ∀ j u, zs[j]? = some u → w.cell? (ad.add j) = some (.int k u))
theorem addr_block (a : Addr) (j : Nat) : (a.add j).block = a.block := by unfold Addr.add; split <;> rfl
theorem SeesI.at_ {k : IntKind} {w w' : World} {B n i : Nat} {A : Option Addr} {zs : List Int} (h : SeesI k w B A n zs) (hi : i < n) (hB : B ≤ w.heap.size) {S : Nat → Prop} (hm : Mod S w w') (hS : ∀ j, j < B → ¬ S j) :
    ∃ ad x, A = some ad ∧ zs[i]? = some x ∧ w'.cell? (ad.add i) = some (.int k x) := by
  obtain ⟨ad, e, hb, hc⟩ := h.2 (by omega)
  have hl : i < zs.length := by have := h.1; omega
  refine ⟨ad, zs[i], e, List.getElem?_eq_getElem hl, ?_⟩
  rw [hm.cell (a := ad.add i) (by rw [addr_block]; omega) (by rw [addr_block]; exact hS _ hb)]
  exact hc i _ (List.getElem?_eq_getElem hl)

/-- What the row's step tells of a slice of integers that came in. -/
theorem seesI_of {k : IntKind} {w : World} {a : Option Addr} {len cap : Nat} {zs : List Int}
    (h : (a = none ∧ len = 0 ∧ cap = 0 ∧ zs = []) ∨
      ∃ x, a = some x ∧ len ≤ cap ∧ cap ≤ maxLen ∧ zs.length = cap ∧ (∀ i, i < zs.length → w.cell? (x.add i) = some (.int k (zs.getD i 0))) ∧ ∀ n ∈ zs, (Lit.int k n).wf = true) :
    SeesI k w w.heap.size a len (zs.take len) ∧ ∀ x ∈ zs.take len, (Lit.int k x).wf = true := by
  rcases h with ⟨rfl, rfl, rfl, rfl⟩ | ⟨x, rfl, hl, hm, hz, hc, hw⟩
  · exact ⟨⟨rfl, fun h => by omega⟩, fun x h => by simp at h⟩
  · refine ⟨⟨by rw [List.length_take]; omega, fun h0 => ⟨x, rfl, ?_, fun j u hu => ?_⟩⟩, fun y hy => hw y (List.mem_of_mem_take hy)⟩
    · have := World.block_lt_of_cell? w _ (hc 0 (by omega))
      rwa [addr_block] at this
    · rw [List.getElem?_take] at hu
      split at hu
      · have hj : j < zs.length := (List.getElem?_eq_some_iff.1 hu).1
        rw [hc j hj, List.getD_eq_getElem?_getD, hu]
        rfl
      · cases hu
end Go.Proofs.Ytnfpbjioiiedeaa
