/- A slice of bytes that came in, as a list of numbers. -/
import Derived.Test.YtnfpbjioiiedeaaHd
import Derived.Test.YtnfpbjioiiedeaaRow
import Derived.Test.YtnfpbjioiiedeaaFit
namespace Go.Proofs.Ytnfpbjioiiedeaa
open Go.RowKit
theorem rds8_of {w : World} {a : Option Addr} {len cap : Nat} {zs : List Int}
    (h : (a = none ∧ len = 0 ∧ cap = 0 ∧ zs = []) ∨
      ∃ x, a = some x ∧ len ≤ cap ∧ cap ≤ maxLen ∧ zs.length = cap ∧ (∀ i, i < zs.length → w.cell? (x.add i) = some (.int .u8 (zs.getD i 0))) ∧ ∀ n ∈ zs, (Lit.int .u8 n).wf = true) :
    ∃ bs : List Nat, Rds w w.heap.size a len (cells8 bs) ∧ lt256 bs ∧ len ≤ cap ∧ cap ≤ maxLen := by
  rcases h with ⟨rfl, rfl, rfl, rfl⟩ | ⟨x, rfl, hl, hm, hz, hc, hw⟩
  · exact ⟨[], Rds.nil _ _ _, lt256_nil, Nat.le_refl _, Nat.zero_le _⟩
  · have hb : ∀ n ∈ zs, 0 ≤ n ∧ n < 256 := fun n hn => by have := bounds_u8 (hw n hn); omega
    refine ⟨(zs.take len).map Int.toNat, Rds.fit (B := (x.block + 1)) ⟨by rw [cells8_length]; simp; omega, fun h0 => ⟨x, rfl, Nat.lt_succ_self _, fun j u hu => ?_⟩⟩, ?_, hl, hm⟩
    · rw [cells8_get, List.getElem?_map, List.getElem?_take] at hu
      split at hu
      · cases hz' : zs[j]? with
        | none => rw [hz'] at hu; cases hu
        | some z =>
          rw [hz'] at hu
          have hj : j < zs.length := (List.getElem?_eq_some_iff.1 hz').1
          have := hb z (List.mem_of_getElem? hz')
          rw [hc j hj, List.getD_eq_getElem?_getD, hz']
          simp at hu ⊢
          rw [← hu]
          congr 1
          omega
      · cases hu
    · intro b hbm
      rw [List.mem_map] at hbm
      obtain ⟨z, hzm, rfl⟩ := hbm
      have := hb z (List.mem_of_mem_take hzm)
      omega
end Go.Proofs.Ytnfpbjioiiedeaa
