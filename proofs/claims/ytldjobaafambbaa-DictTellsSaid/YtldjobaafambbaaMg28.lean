/- The texts Ur, one behind the other. -/
import Derived.Test.YtldjobaafambbaaMg4
import Derived.Test.YtldjobaafambbaaMg2
import Derived.Test.YtldjobaafambbaaMg13
/- From the row's step to values of 64 bits. -/
namespace Go.Proofs.Ytldjobaafambbaa
open Go.RowKit
theorem rdsU_of {w : World} {A : Option Addr} {n : Nat} {zs : List Int} (h : SeesI .u64 w w.heap.size A n zs) (hw : ∀ x ∈ zs, (Lit.int .u64 x).wf = true) : ∃ us : List Nat, Rds w w.heap.size A n (cellsU us) ∧ ∀ x ∈ us, x < 2 ^ 64 := by
  have hb : ∀ x ∈ zs, 0 ≤ x ∧ x < 18446744073709551616 := fun x hx => (fit_u64 (hw x hx)).out
  refine ⟨zs.map Int.toNat, ⟨by rw [cellsU_length]; simp; exact h.1, fun h0 => ?_⟩, fun x hx => ?_⟩
  · obtain ⟨ad, e, hb', hc⟩ := h.2 h0
    refine ⟨ad, e, hb', fun j u hu => ?_⟩
    rw [cellsU_get, List.getElem?_map] at hu
    cases hz : zs[j]? with
    | none => rw [hz] at hu; cases hu
    | some z =>
      rw [hz] at hu
      have hu' : u = .int .u64 ((z.toNat : Nat) : Int) := by simpa using hu.symm
      have := hb z (List.mem_of_getElem? hz)
      rw [hu', Int.toNat_of_nonneg this.1]
      exact hc j z hz
  · obtain ⟨z, hz, rfl⟩ := List.mem_map.1 hx
    have := hb z hz
    omega
end Go.Proofs.Ytldjobaafambbaa
