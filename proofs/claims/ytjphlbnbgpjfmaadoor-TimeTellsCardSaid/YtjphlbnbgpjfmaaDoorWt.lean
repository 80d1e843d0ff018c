/- From the row's list to the widths. -/
import Derived.Test.YtjphlbnbgpjfmaaDoorTw
import Derived.Lib.LaidTab
namespace Go.Proofs.YtjphlbnbgpjfmaaDoor
open Go.RowKit
theorem wid_of_tab {w : World} (h : Lib.TabIs Tryd.prog w "ephemeris/time.widths" .i64 [0, 7, 9, 12, 64]) : Wid w := by
  have hc : ∀ i, i < 5 → w.cell? ⟨0, i, none⟩ = some (.int .i64 (([0, 7, 9, 12, 64] : List Int).getD i 0)) := fun i hi => h.cell (by kernel_rfl) i hi
  refine ⟨World.block_lt_of_cell? w _ (hc 0 (by decide)), fun i hi => ?_⟩
  rw [hc i hi]
  have hi' : i = 0 ∨ i = 1 ∨ i = 2 ∨ i = 3 ∨ i = 4 := by omega
  rcases hi' with rfl | rfl | rfl | rfl | rfl <;> rfl
end Go.Proofs.YtjphlbnbgpjfmaaDoor
