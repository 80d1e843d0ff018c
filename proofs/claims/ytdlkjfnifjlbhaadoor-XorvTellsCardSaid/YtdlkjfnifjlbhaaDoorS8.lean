/- A slice of bytes that came in, where it lies. -/
import Derived.Test.YtdlkjfnifjlbhaaDoorBitw
import Derived.Test.YtdlkjfnifjlbhaaDoorSli
import Derived.OpenShut
namespace Go.Proofs.YtdlkjfnifjlbhaaDoor
open Go.RowKit

/-- What the row's step tells of a row of bytes that came in. -/
theorem sees8_of {w : World} {a : Option Addr} {len cap : Nat} {zs : List Int}
    (h : (a = none ∧ len = 0 ∧ cap = 0 ∧ zs = []) ∨
      ∃ x, a = some x ∧ len ≤ cap ∧ cap ≤ maxLen ∧ zs.length = cap ∧ (∀ i, i < zs.length → w.cell? (x.add i) = some (.int .u8 (zs.getD i 0))) ∧ ∀ n ∈ zs, (Lit.int .u8 n).wf = true) :
    ∃ (row : Nat) (bs : List Nat), Sees w row a len (cells8 bs) ∧ lt256 bs ∧ (a = none → cap = 0) := by
  rcases h with ⟨rfl, rfl, rfl, rfl⟩ | ⟨x, rfl, hl, hm, hz, hc, hw⟩
  · exact ⟨0, [], ⟨rfl, fun h => by omega⟩, lt256_nil, fun _ => rfl⟩
  · have hb : ∀ n ∈ zs, 0 ≤ n ∧ n ≤ 255 := fun n hn => bounds_u8 (hw n hn)
    refine ⟨x.block, (zs.take len).map Int.toNat, ⟨by rw [cells8_length]; simp; omega, fun h0 => ?_⟩, ?_, fun h => by cases h⟩
    · have hc0 := hc 0 (by omega)
      have hlt := World.block_lt_of_cell? w _ hc0
      rw [addr_block] at hlt
      obtain ⟨b, o, sp⟩ := x
      have hsp : sp = none := by simpa [Addr.add] using World.cell?_spot hc0
      subst hsp
      refine ⟨o, rfl, hlt, fun j u hu => ?_⟩
      rw [cells8_get, List.getElem?_map, List.getElem?_take] at hu
      split at hu
      · rename_i hj
        have hj' : j < zs.length := by omega
        rw [List.getElem?_eq_getElem hj'] at hu
        simp at hu
        subst hu
        have h1 := hc j hj'
        rw [add_addr, List.getD_eq_getElem?_getD, List.getElem?_eq_getElem hj'] at h1
        rw [h1]
        have := hb _ (List.getElem_mem hj')
        simp
        omega
      · simp at hu
    · intro y hy
      simp only [List.mem_map] at hy
      obtain ⟨n, hn, rfl⟩ := hy
      have := hb n (List.mem_of_mem_take hn)
      omega
end Go.Proofs.YtdlkjfnifjlbhaaDoor
