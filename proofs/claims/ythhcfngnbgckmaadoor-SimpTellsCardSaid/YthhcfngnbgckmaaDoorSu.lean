/- The numbers of a word: unpack. -/
import Derived.Test.YthhcfngnbgckmaaDoorSk
import Derived.Deep.RegionHeldLaw
import Derived.Deep.DeepCutAuto
namespace Go.Proofs.YthhcfngnbgckmaaDoor
open Go.RowKit

theorem nums_len (k w m : Nat) : (nums k w m).length = m := by simp [nums]
theorem nums_snoc (k w i : Nat) : nums k w (i + 1) = nums k w i ++ [if bitN k = 0 then 0 else w / 2 ^ (i * bitN k) % 2 ^ bitN k] := by
  unfold nums
  rw [List.range_succ, List.map_append]
  rfl
theorem nums_lt {k w m : Nat} (hk : k < 16) : ∀ x ∈ nums k w m, x < 2 ^ 60 := by
  intro x hx
  unfold nums at hx
  obtain ⟨j, _, rfl⟩ := List.mem_map.1 hx
  show (if bitN k = 0 then 0 else w / 2 ^ (j * bitN k) % 2 ^ bitN k) < 2 ^ 60
  split
  · exact Nat.two_pow_pos _
  · exact Nat.lt_of_lt_of_le (Nat.mod_lt _ (Nat.two_pow_pos _)) (Nat.pow_le_pow_right (by omega) (num_pos hk).2.2.2)
/-- What the text's operations give of one number. -/
theorem unpack_one {k w i : Nat} (hk : k < 16) (hw : w < 2 ^ 64) (hi : i < numN k) :
    ∃ p y q m r : Nat, p = i * bitN k ∧ p ≤ 60 ∧ y = w / 2 ^ p ∧ q = 2 ^ bitN k ∧ m = q - 1 ∧ 1 ≤ q ∧ q ≤ 2 ^ 60 ∧ y < 2 ^ 64 ∧ r = (if bitN k = 0 then 0 else w / 2 ^ (i * bitN k) % 2 ^ bitN k) ∧ bits .and .u64 (y : Int) (m : Int) = (r : Int) := by
  have hnp := num_pos hk
  have h1 : (i + 1) * bitN k ≤ 60 := Nat.le_trans (Nat.mul_le_mul_right _ hi) hnp.2.2.1
  have hq : 2 ^ bitN k ≤ 2 ^ 60 := Nat.pow_le_pow_right (by omega) hnp.2.2.2
  have hy : w / 2 ^ (i * bitN k) < 2 ^ 64 := Nat.lt_of_le_of_lt (Nat.div_le_self _ _) hw
  refine ⟨i * bitN k, w / 2 ^ (i * bitN k), 2 ^ bitN k, 2 ^ bitN k - 1, _, rfl, by rw [Nat.add_mul] at h1; omega, rfl, rfl, rfl, Nat.two_pow_pos _, hq, hy, rfl, ?_⟩
  rw [u64_and_nat _ _ hy (by omega), Nat.and_two_pow_sub_one_eq_mod]
  split
  · rename_i h
    rw [h, Nat.pow_zero, Nat.mod_one]
  · rfl
/-- What the loop has read. -/
def UnpTo (w wr : World) (h k x i : Nat) (c s : Nat) (v : Value) : Prop := Own (h + 1) wr 23 v (cellsU (nums k x i)) ∧ Blk wr h 38 #[.int .i64 (c : Int), .int .i64 (s : Int)] ∧ Mod (fun _ => False) w wr
set_option maxHeartbeats 4000000 in
set_option maxRecDepth 100000 in
theorem unpack_any (k x : Nat) (M : Nat) (w : World) (hx : x < 2 ^ 64) (hk : x / 2 ^ 60 = k) (hkin : Kin w) :
    Calls Tryd.prog 17 #[.int .u64 (x : Int), .int .i64 (M : Int)] w fun e w' => ∃ v, e = .returned v ∧ Own w.heap.size w' 23 v (cellsU (nums k x (min (numN k) M))) ∧ Mod (fun _ => False) w w' := by
  have hk16 : k < 16 := by omega
  have hnp := num_pos hk16
  obtain ⟨c, hc⟩ : ∃ c, c = numN k := ⟨_, rfl⟩
  obtain ⟨s, hs⟩ : ∃ s, s = bitN k := ⟨_, rfl⟩
  have hc2 : c ≤ 240 := by rw [hc]; exact hnp.2.1
  have hs2 : s ≤ 60 := by rw [hs]; exact hnp.2.2.2
  have hd1 := (hkin.2 k hk16).2
  have hd0 := (hkin.2 k hk16).1
  rw [← hc] at hd0
  rw [← hs] at hd1
  obtain ⟨m, hm⟩ : ∃ m, min c M = m := ⟨_, rfl⟩
  have hmin := min2_is (P := Tryd.prog) (t := 3) (ty := 3) hm
  have hmc : m ≤ c := by omega
  obtain ⟨W, hW⟩ : ∃ W, W = w.alloc (.cells #[.int .i64 (c : Int), .int .i64 (s : Int)] 38) := ⟨_, rfl⟩
  have hmW : Mod (fun _ => False) w W := by rw [hW]; exact (Mod.refl _ _).alloc _
  have hbW : Blk W w.heap.size 38 #[.int .i64 (c : Int), .int .i64 (s : Int)] := by rw [hW]; exact Blk.new _ _ _
  have hx60 : (x : Int) / 1152921504606846976 = (k : Int) := by omega
  have Hc := Lib.hid hc; have Hss := Lib.hid hs; have HW := Lib.hid hW; have HbW := Lib.hid hbW; have Hm := Lib.hid hm; have Hx := Lib.hid hx
  have H0 : Hid (UnpTo w W w.heap.size k x 0 c s (.slice none 0 0)) := Lib.hid ⟨Own.nil _ _ _, hbW, hmW⟩
  have hh0 := hbW.cell 0
  simp at hh0
  have hkk : (k : Int) < 16 := by omega
  have hk0 : (0 : Int) ≤ (k : Int) := by omega
  clear hc hs hW hbW hmW hm hnp hkin hk hx
  go_enter Tryd.func17, Tryd.ntmps17
  go_wp2_with (first | (rw [← HW.out]))
  clear hmin hd0 hd1 hh0 HW HbW
  go_loopg [6, 16] m (fun l s6 s16 wr => ∃ i : Nat, i + l = m ∧ s16 = .int .i64 (i : Int) ∧ UnpTo w wr w.heap.size k x i c s s6)
  case atStart => exact ⟨0, by omega, rfl, H0.out⟩
  case round =>
    obtain ⟨i, hil, rfl, hU⟩ := hrel
    have HU := Lib.hid hU; have Hil := Lib.hid hil
    clear hil hU
    by_cases hin : i < m
    · obtain ⟨hown, hblk, hm⟩ := HU.out
      obtain ⟨h, hh⟩ : ∃ h, h = w.heap.size := ⟨_, rfl⟩
      rw [← hh] at hown hblk ⊢
      have hc1 := hblk.cell 1
      simp at hc1
      have hX : ∀ W, Below (h + 1) wr W → W.cell? ⟨h, 1, none⟩ = some (.int .i64 (s : Int)) := fun W hW => (hW.cell (p := ⟨h, 1, none⟩) (by simp)).trans hc1
      have hle : h + 1 ≤ wr.heap.size := hblk.lt
      obtain ⟨p, y, q, mk, r, hp, hp60, hy, hq, hmk, hq1, hq60, hy64, hr, hand⟩ := unpack_one (i := i) hk16 Hx.out (by rw [← Hc.out]; omega)
      have hpi : IntKind.i64.wrap ((i : Int) * (s : Int)) = (p : Int) := by
        have e : (i : Int) * (s : Int) = (p : Int) := by rw [hp, Hss.out]; simp
        rw [e, IntKind.wrap_i64]
        omega
      have hyi : (x : Int) / 2 ^ p = (y : Int) := by rw [hy, Int.natCast_ediv]; simp
      have hqi : IntKind.u64.wrap ((2 : Int) ^ s) = (q : Int) := by
        have e : (2 : Int) ^ s = (q : Int) := by rw [hq, Hss.out]; simp
        rw [e, IntKind.wrap_u64]
        omega
      have hmi : IntKind.u64.wrap ((q : Int) - 1) = (mk : Int) := by rw [IntKind.wrap_u64]; omega
      have Hsn : Hid (nums k x (i + 1) = nums k x i ++ [r]) := Lib.hid (by rw [nums_snoc, hr])
      have hr1 : (cellsU (nums k x i)).length + 1 ≤ maxLen := by rw [cellsU_length, nums_len]; unfold maxLen; omega
      have hr2 : ((cellsU (nums k x i)).length + 1) * 8 ≤ 140737488355328 := by rw [cellsU_length, nums_len]; omega
      have Hown := Lib.hid hown; have Hblk := Lib.hid hblk; have Hm2 := Lib.hid hm; have HX := Lib.hid hX; have Hh := Lib.hid hh
      have Hone : Hid (∀ u ∈ (#[Value.int .u64 (r : Int)] : Array Value).toList, u.oneCell' = true) := Lib.hid (by simp [Value.oneCell'])
      clear hown hblk hm hX hh hp hy hq hmk hq60 hy64 hr hq1
      go_upto_region 6 with fail
      go_region_held_law (fun w' => w'.cell? ⟨h, 1, none⟩ = some (.int .i64 (s : Int)))
        (first | exact HX.out _ (Below.refl _ _).drew | exact HX.out _ (((Below.refl _ _).drew).alloc hle _) | exact HX.out _ HBB.out)
        (first
          | (refine step_app rfl (.tmp 19) (.tmp 31) _ rfl eltU rfl ((Hown.out.drew).alloc _) rfl (Rds.lit _ 23 #[.int .u64 (r : Int)]) Hone.out hr1 hr2 (Nat.le_trans hle (le_alloc _ _)) ?_; intro v' w2 HO HB HG; clear HG; have HBB : Hid (Below (h + 1) wr w2) := Lib.hid ((((Below.refl _ _).drew).alloc hle _).trans HB.out)))
      have HU2 : Hid (UnpTo w w2 h k x (i + 1) c s v') := Lib.hid ⟨by rw [Hsn.out, cellsU_snoc]; exact HO.out, Hblk.out.below HBB.out (by omega), Hm2.out.trans (Mod.of_below HBB.out) (fun i hi e => by have := Hh.out; omega)⟩
      go_wp2_with fail
      obtain rfl := Hh.out
      go_roundg (gk - 1)
      case measure => have := Hil.out; omega
      case rel => exact ⟨i + 1, by have := Hil.out; omega, by go_num, HU2.out⟩
    · go_wp2_with fail
      go_ret
      have hi : i = m := by have := Hil.out; omega
      subst hi
      rw [← Hc.out, Hm.out]
      exact ⟨_, rfl, HU.out.1.mono (by omega), HU.out.2.2⟩
end Go.Proofs.YthhcfngnbgckmaaDoor
