import Derived.Test.YtjgoblibkhehaaaVa
import Derived.Deep.RegionWith
namespace Go.Proofs.Ytjgoblibkhehaaa
open Go.RowKit

def zigRows : List (Int × Int) := [(0, 0), (-1, 1), (1, 2), (-2, 3), (2, 4), (9223372036854775807, 18446744073709551614), (-9223372036854775808, 18446744073709551615), (-64, 127), (63, 126), (64, 128)]
def ZigCut (w wc : World) (s4 : Value) : Prop :=
  ∃ (g : Nat) (n u : Int), (n, u) ∈ zigRows ∧ s4 = .pointer (some ⟨g, 0, none⟩) ∧ Blk wc g 31 #[.int .i64 n, .int .u64 u] ∧ w.heap.size ≤ g ∧ Below w.heap.size w wc
theorem zig_mk (w : World) (o : Obj) (n u : Int) (hin : (n, u) ∈ zigRows) :
    ZigCut w ((w.alloc o).alloc (.cells #[.int .i64 n, .int .u64 u] 31)) (.pointer (some ⟨w.heap.size + 1, 0, none⟩)) := by
  refine ⟨w.heap.size + 1, n, u, hin, rfl, ?_, by omega, ((Below.refl _ _).alloc (Nat.le_refl _) _).alloc (by simp) _⟩
  have := Blk.new (w.alloc o) 31 #[.int .i64 n, .int .u64 u]
  simpa using this
theorem zig_row (n u : Int) (hin : (n, u) ∈ zigRows) : FitI n ∧ Fit64 u ∧ zig n = u ∧ zag u = n := by
  have key : zigRows.all (fun p => decide (-9223372036854775808 ≤ p.1 ∧ p.1 ≤ 9223372036854775807 ∧ 0 ≤ p.2 ∧ p.2 < 18446744073709551616 ∧ zig p.1 = p.2 ∧ zag p.2 = p.1)) = true := by decide
  have := of_decide_eq_true (List.all_eq_true.1 key _ hin)
  exact ⟨⟨this.1, this.2.1⟩, ⟨this.2.2.1, this.2.2.2.1⟩, this.2.2.2.2.1, this.2.2.2.2.2⟩

set_option maxHeartbeats 4000000 in
set_option maxRecDepth 100000 in
theorem zigs_walk (a0 : Int) (j : Nat) (hj : j < 10) (w : World) (hand : bits .and .i64 a0 255 = (a0 % 256)) (hrem : (a0 % 256).tmod 10 = (j : Int)) :
    Calls Try.prog 4 #[.int .i64 a0] w fun e w' => e = .returned (.bool true) ∧ Below w.heap.size w w' := by
  go_enter Try.func4, Try.ntmps4
  go_upto_region 2 with fail
  go_cut [4] (fun s4 wc => ZigCut w wc s4)
  case first =>
    have h0 : 0 ≤ a0 % 256 := Int.emod_nonneg _ (by decide)
    have hj' : j = 0 ∨ j = 1 ∨ j = 2 ∨ j = 3 ∨ j = 4 ∨ j = 5 ∨ j = 6 ∨ j = 7 ∨ j = 8 ∨ j = 9 := by omega
    clear hj
    rcases hj' with rfl | rfl | rfl | rfl | rfl | rfl | rfl | rfl | rfl | rfl
    all_goals
      go_wp2_with fail
      go_meet
      case rel => exact zig_mk w _ _ _ (by simp [zigRows])
  case rest =>
    obtain ⟨g, n, u, hin, rfl, hblk, hg, hb⟩ := hcut
    obtain ⟨hn, hu, hz, hzz⟩ := zig_row n u hin
    have hc0 := hblk.cell 0
    have hc1 := hblk.cell 1
    simp at hc0 hc1
    have Hb := Lib.hid hb; have Hz := Lib.hid hz; have Hzz := Lib.hid hzz
    clear hblk hg hb hz hzz hand hrem hin
    go_wp2_with fail
    go_region_with
      (first
        | (go_at_call 10; refine (zig_at n u _ hn Hz.out).mono ?_; rintro e w1 ⟨rfl, rfl⟩)
        | (go_at_call 11; refine (zag_at u n _ hu Hzz.out).mono ?_; rintro e w1 ⟨rfl, rfl⟩)
        | (go_at_call 9; refine (awake_any _).mono ?_; rintro e w3 ⟨rfl, hb3⟩; have H3 := Lib.hid hb3; clear hb3))
    all_goals (go_wp2; go_ret; exact ⟨rfl, Hb.out.drew.trans (H3.out.mono Hb.out.size)⟩)
end Go.Proofs.Ytjgoblibkhehaaa
