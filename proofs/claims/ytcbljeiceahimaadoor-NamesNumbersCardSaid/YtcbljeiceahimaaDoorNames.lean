import Derived.Test.YtcbljeiceahimaaDoorNamesa
import Derived.Deep.DeepCutAuto
namespace Go.Proofs.YtcbljeiceahimaaDoor
open Go.RowKit

theorem small_nine (w : World) : Calls Tryd.prog 14 #[.int .i64 9] w fun e w' => e = .returned (.string ⟨#[57]⟩) ∧ w = w' := by
  go_enter Tryd.func14, Tryd.ntmps14
  go_wp2
  go_ret
  exact ⟨congrArg (fun s => Ending.returned (Value.string s)) (by decide +kernel), rfl⟩
theorem format_nine (w : World) : Calls Tryd.prog 13 #[.int .i64 9, .int .i64 10] w fun e w' => e = .returned (.string ⟨#[57]⟩) ∧ w = w' := by
  go_enter Tryd.func13, Tryd.ntmps13
  go_wp2_with fail
  refine (small_nine _).mono ?_
  rintro e w' ⟨rfl, rfl⟩
  go_wp2_with fail
  go_ret
  exact ⟨rfl, rfl⟩
theorem itoa_nine (w : World) : Calls Tryd.prog 12 #[.int .i64 9] w fun e w' => e = .returned (.string ⟨#[57]⟩) ∧ w = w' := by
  go_enter Tryd.func12, Tryd.ntmps12
  go_wp2_with fail
  refine (format_nine _).mono ?_
  rintro e w' ⟨rfl, rfl⟩
  go_wp2_with fail
  go_ret
  exact ⟨rfl, rfl⟩
theorem itoa2_nine (w : World) : Calls Tryd.prog 11 #[.int .i64 9] w fun e w' => e = .returned (.string ⟨#[57]⟩) ∧ w = w' := by
  go_enter Tryd.func11, Tryd.ntmps11
  go_wp2_with fail
  refine (itoa_nine _).mono ?_
  rintro e w' ⟨rfl, rfl⟩
  go_wp2_with fail
  go_ret
  exact ⟨rfl, rfl⟩
theorem error_nine (w : World) : Calls Tryd.prog 7 #[.int .i64 9] w fun e w' => e = .returned (.string ⟨#[101, 114, 114, 111, 114, 32, 57]⟩) ∧ Mod (fun _ => False) w w' := by
  go_enter Tryd.func7, Tryd.ntmps7
  go_wp2_with fail
  refine (itoa2_nine _).mono ?_
  rintro e w' ⟨rfl, rfl⟩
  go_wp2_with fail
  go_ret
  exact ⟨congrArg (fun s => Ending.returned (Value.string s)) (by rfl), Mod.refl _ _⟩


theorem pair_cells : ∀ i, i < 32 → ∃ x : Int, pairCells[i * 2]? = some (.int .i64 x) ∧ pairCells[i * 2 + 1]? = some (.int .i64 x)
  | 0, _ => ⟨_, rfl, rfl⟩
  | 1, _ => ⟨_, rfl, rfl⟩
  | 2, _ => ⟨_, rfl, rfl⟩
  | 3, _ => ⟨_, rfl, rfl⟩
  | 4, _ => ⟨_, rfl, rfl⟩
  | 5, _ => ⟨_, rfl, rfl⟩
  | 6, _ => ⟨_, rfl, rfl⟩
  | 7, _ => ⟨_, rfl, rfl⟩
  | 8, _ => ⟨_, rfl, rfl⟩
  | 9, _ => ⟨_, rfl, rfl⟩
  | 10, _ => ⟨_, rfl, rfl⟩
  | 11, _ => ⟨_, rfl, rfl⟩
  | 12, _ => ⟨_, rfl, rfl⟩
  | 13, _ => ⟨_, rfl, rfl⟩
  | 14, _ => ⟨_, rfl, rfl⟩
  | 15, _ => ⟨_, rfl, rfl⟩
  | 16, _ => ⟨_, rfl, rfl⟩
  | 17, _ => ⟨_, rfl, rfl⟩
  | 18, _ => ⟨_, rfl, rfl⟩
  | 19, _ => ⟨_, rfl, rfl⟩
  | 20, _ => ⟨_, rfl, rfl⟩
  | 21, _ => ⟨_, rfl, rfl⟩
  | 22, _ => ⟨_, rfl, rfl⟩
  | 23, _ => ⟨_, rfl, rfl⟩
  | 24, _ => ⟨_, rfl, rfl⟩
  | 25, _ => ⟨_, rfl, rfl⟩
  | 26, _ => ⟨_, rfl, rfl⟩
  | 27, _ => ⟨_, rfl, rfl⟩
  | 28, _ => ⟨_, rfl, rfl⟩
  | 29, _ => ⟨_, rfl, rfl⟩
  | 30, _ => ⟨_, rfl, rfl⟩
  | 31, _ => ⟨_, rfl, rfl⟩
  | n + 32, h => absurd h (by omega)

set_option maxHeartbeats 4000000 in
set_option maxRecDepth 100000 in
theorem names_walk (w : World) : Calls Tryd.prog 3 #[] w fun e w' => e = .returned (.bool true) ∧ Mod (fun _ => False) w w' := by
  go_enter Tryd.func3, Tryd.ntmps3
  go_wp2_with fail
  refine (all_any _).mono ?_
  rintro e w1 ⟨rfl, hw1⟩
  have hblk : Hid (Blk w1 w.heap.size 25 pairCells) := Lib.hid (by rw [hw1]; exact Blk.new _ _ _)
  have hm1 : Hid (Mod (fun _ => False) w w1) := Lib.hid (by rw [hw1]; exact (Mod.refl _ _).alloc _)
  clear hw1
  generalize w.heap.size = B at *
  go_wp2_with fail
  go_loopw [2] (fun s2 wr => ∃ i : Nat, i ≤ 32 ∧ s2 = .int .i64 (i : Int) ∧ Mod (fun _ => False) w1 wr) (fun s2 _ => 32 - (intOf s2).toNat)
  case atStart => exact ⟨0, by omega, rfl, Mod.refl _ _⟩
  case round =>
    obtain ⟨i, hi, rfl, hm⟩ := hrel
    have Hm := Lib.hid hm
    clear hm
    by_cases hlt : i < 32
    · obtain ⟨x, hx0, hx1⟩ := pair_cells i hlt
      have hb := Hm.out.blk hblk.out (fun h => h)
      have hc0 : wr.cell? ⟨B, i * 2, none⟩ = some (.int .i64 x) := (hb.cell _).trans hx0
      have hc1 : wr.cell? ⟨B, i * 2 + 1, none⟩ = some (.int .i64 x) := (hb.cell _).trans hx1
      have hi0 : (0 : Int) ≤ (i : Int) := by omega
      have hi1 : (i : Int) < 32 := by omega
      clear hb hx0 hx1
      go_upto_region 5 with fail
      go_quiet (fail)
      go_wp2_with fail
      go_roundw
      case rel => exact ⟨i + 1, by omega, by go_num, Hm.out.drewN _⟩
      case measure => simp [intOf]; omega
    · go_wp2_with fail
      refine (newWriter_any _).mono ?_
      rintro e w2 ⟨rfl, hw2⟩
      have hw : Hid (Wr w2 wr.heap.size none 0 0) := Lib.hid (by rw [hw2]; exact ⟨0, by omega, .slice none 0 0, [], Blk.new _ _ _, World.ownsRow_nil _ _ _ _, rfl, lt256_nil, rfl, rfl, by omega⟩)
      have hm2 : Hid (Mod (fun _ => False) w w2) := Lib.hid (by rw [hw2]; exact (hm1.out.trans Hm.out (fun _ _ h => h)).alloc _)
      have hg : Hid (w.heap.size ≤ wr.heap.size) := Lib.hid (hm1.out.trans Hm.out (fun _ _ h => h)).size
      clear hw2 Hm hblk hm1
      generalize wr.heap.size = g at *
      go_wp2_with fail
      refine (put_any g none 0 0 5 3 _ ⟨by decide, by decide⟩ ⟨by decide, by decide⟩ hw.out (by omega)).mono ?_
      rintro e w3 ⟨rfl, row, hwr, hm, _⟩
      have hwr' : Hid (Wr w3 g row 5 3) := Lib.hid hwr
      have hm3 : Hid (Mod (fun _ => False) w w3) := Lib.hid (hm2.out.trans hm (fun i hi h => h.elim (fun e => by have := hg.out; omega) (fun e => by cases e)))
      clear hwr hm hw hm2 hg
      go_wp2_with fail
      refine (error_nine _).mono ?_
      rintro e w4 ⟨rfl, hm⟩
      have hm4 := Lib.hid (hm3.out.trans hm (fun _ _ h => h))
      have hwr4 : Hid (Wr w4 g row 5 3) := Lib.hid (by
        obtain ⟨free, hf, v, bs, hblk, hown, hrow, rest⟩ := hwr'.out
        exact ⟨free, hf, v, bs, hm.blk hblk (fun h => h), hm.owns hown (fun _ _ h => h), hrow, rest⟩)
      clear hm hm3 hwr'
      go_wp2_with fail
      refine (len_any g row _ _ _ hwr4.out (by omega)).mono ?_
      rintro e w5 ⟨rfl, n, rfl⟩
      go_wp2_with fail
      go_ret
      exact ⟨rfl, hm4.out.drewN n⟩
end Go.Proofs.YtcbljeiceahimaaDoor
