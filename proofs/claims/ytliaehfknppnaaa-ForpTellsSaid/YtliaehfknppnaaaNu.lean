/- Four numbers in a literal. -/
import Derived.Test.YtliaehfknppnaaaMem
namespace Go.Proofs.Ytliaehfknppnaaa
open Go.RowKit

/-- Four numbers in a literal. -/
def Nums4 (w : World) (lit : Nat) : Prop := lit < w.heap.size ∧ ∀ j, j < 4 → ∃ m : Int, FitI m ∧ w.cell? ⟨lit, j, none⟩ = some (.int .i64 m)
theorem Nums4.mod {w w' : World} {lit : Nat} (h : Nums4 w lit) (hm : Mod (fun _ => False) w w') : Nums4 w' lit := by
  refine ⟨Nat.lt_of_lt_of_le h.1 hm.size, fun j hj => ?_⟩
  obtain ⟨m, h1, h2⟩ := h.2 j hj
  exact ⟨m, h1, (hm.cell (a := ⟨lit, j, none⟩) h.1 (fun h => h)).trans h2⟩
theorem nums4_new {w : World} {e : TypeId} {m0 m1 m2 m3 : Int} (h0 : FitI m0) (h1 : FitI m1) (h2 : FitI m2) (h3 : FitI m3) : Nums4 (w.alloc (.cells #[.int .i64 m0, .int .i64 m1, .int .i64 m2, .int .i64 m3] e)) w.heap.size := by
  have hb := Blk.new w e #[.int .i64 m0, .int .i64 m1, .int .i64 m2, .int .i64 m3]
  refine ⟨hb.lt, fun j hj => ?_⟩
  have hj' : j = 0 ∨ j = 1 ∨ j = 2 ∨ j = 3 := by omega
  rcases hj' with rfl | rfl | rfl | rfl
  · exact ⟨m0, h0, hb.cell 0⟩
  · exact ⟨m1, h1, hb.cell 1⟩
  · exact ⟨m2, h2, hb.cell 2⟩
  · exact ⟨m3, h3, hb.cell 3⟩
end Go.Proofs.Ytliaehfknppnaaa
