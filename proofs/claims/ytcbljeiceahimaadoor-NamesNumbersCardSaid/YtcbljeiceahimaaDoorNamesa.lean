import Derived.Test.YtcbljeiceahimaaDoorLen
namespace Go.Proofs.YtcbljeiceahimaaDoor
open Go.RowKit

def pairs : List Int := [0, 1, 2, 3, 4, 5, 6, 7, 8, 9, 0, 1, 2, 3, 1, 2, 3, 4, 5, 6, 1, 2, 3, 1, 2, 3, 4, 5, 6, 7, 1, 2]
def pairCells : Array Value := (pairs.flatMap fun x => [Value.int .i64 x, Value.int .i64 x]).toArray
set_option maxHeartbeats 8000000 in
set_option maxRecDepth 100000 in
theorem all_any (w : World) : Calls Tryd.prog 4 #[] w fun e w' => e = .returned (.slice (some ⟨w.heap.size, 0, none⟩) 32 32) ∧ w' = w.alloc (.cells pairCells 25) := by
  go_enter Tryd.func4, Tryd.ntmps4
  go_wp2
  go_ret
  exact ⟨rfl, rfl⟩
end Go.Proofs.YtcbljeiceahimaaDoor
