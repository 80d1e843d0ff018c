/- From the row's list to the table of math/bits; from the row's step to values of 64 bits. -/
import Derived.Test.YtdlkjfnifjlbhaaDoorWe
import Derived.Test.YtdlkjfnifjlbhaaDoorSli
import Derived.Test.YtdlkjfnifjlbhaaDoorFit
import Derived.Lib.LaidTab
namespace Go.Proofs.YtdlkjfnifjlbhaaDoor
open Go.RowKit
theorem deb_of_tab {w : World} (h : Lib.TabIs Tryd.prog w "math/bits.deBruijn64tab" .u8 [0, 1, 56, 2, 57, 49, 28, 3, 61, 58, 42, 50, 38, 29, 17, 4, 62, 47, 59, 36, 45, 43, 51, 22, 53, 39, 33, 30, 24, 18, 12, 5, 63, 55, 48, 27, 60, 41, 37, 16, 46, 35, 44, 21, 52, 32, 23, 11, 54, 26, 40, 15, 34, 20, 31, 10, 25, 14, 19, 9, 13, 8, 7, 6]) : Deb w := by
  have hd : ∀ t : Fin 64, (([0, 1, 56, 2, 57, 49, 28, 3, 61, 58, 42, 50, 38, 29, 17, 4, 62, 47, 59, 36, 45, 43, 51, 22, 53, 39, 33, 30, 24, 18, 12, 5, 63, 55, 48, 27, 60, 41, 37, 16, 46, 35, 44, 21, 52, 32, 23, 11, 54, 26, 40, 15, 34, 20, 31, 10, 25, 14, 19, 9, 13, 8, 7, 6] : List Int).getD t.val 0) = (deb t.val : Int) := by decide +kernel
  have hc : ∀ t, t < 64 → w.cell? ⟨0, t, none⟩ = some (.int .u8 (deb t : Int)) := fun t ht => by
    rw [← hd ⟨t, ht⟩]
    exact h.cell (by kernel_rfl) t ht
  exact ⟨World.block_lt_of_cell? w _ (hc 0 (by decide)), hc⟩
theorem rdsU_of {w : World} {A : Option Addr} {n : Nat} {zs : List Int} (h : SeesI .u64 w w.heap.size A n zs) (hw : ∀ x ∈ zs, (Lit.int .u64 x).wf = true) : ∃ us : List Nat, Rds w w.heap.size A n (cellsU us) ∧ ∀ x ∈ us, x < 2 ^ 64 := by
  have hb : ∀ x ∈ zs, 0 ≤ x ∧ x < 18446744073709551616 := fun x hx => (fit_u64 (hw x hx)).out
  refine ⟨zs.map Int.toNat, ⟨by rw [cellsU_length]; simp; exact h.1, fun h0 => ?_⟩, fun x hx => ?_⟩
  · obtain ⟨ad, e, hb', hc⟩ := h.2 h0
    refine ⟨ad, e, hb', fun j u hu => ?_⟩
    rw [cellsU_get, List.getElem?_map] at hu
    cases hz : zs[j]? with
    | none => rw [hz] at hu; cases hu
    | some z =>
      rw [hz] at hu
      have hu' : u = .int .u64 ((z.toNat : Nat) : Int) := by simpa using hu.symm
      have := hb z (List.mem_of_getElem? hz)
      rw [hu', Int.toNat_of_nonneg this.1]
      exact hc j z hz
  · obtain ⟨z, hz, rfl⟩ := List.mem_map.1 hx
    have := hb z hz
    omega
end Go.Proofs.YtdlkjfnifjlbhaaDoor
