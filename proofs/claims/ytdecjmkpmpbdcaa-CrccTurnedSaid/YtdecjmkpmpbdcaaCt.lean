/- The table, of the code. -/
import Derived.Test.YtdecjmkpmpbdcaaCe
import Derived.Test.YtdecjmkpmpbdcaaRow
import Derived.Deep.DeepCutAuto
import Derived.Deep.LoopGhost
import Derived.Deep.WholeRow
import Derived.Deep.MidRow
import Derived.Laws.ResultCell
namespace Go.Proofs.Ytdecjmkpmpbdcaa
open Go.RowKit

/-- An array of 256 numbers. -/
def tabOf (T : Nat → Nat) : Array Value := ((List.range 256).map fun j => Value.int .u32 (T j : Int)).toArray
theorem tabOf_size (T : Nat → Nat) : (tabOf T).size = 256 := by simp [tabOf]
theorem tabOf_get (T : Nat → Nat) (i : Nat) (h : i < 256) : (tabOf T)[i]? = some (.int .u32 (T i : Int)) := by simp [tabOf, h]
theorem tabOf_ext {S T : Nat → Nat} (h : ∀ i, i < 256 → S i = T i) : tabOf S = tabOf T := by
  unfold tabOf
  congr 1
  apply List.map_congr_left
  intro j hj
  rw [h j (by simpa using hj)]
theorem tabOf_set (T : Nat → Nat) (i v : Nat) : (tabOf T).setIfInBounds i (.int .u32 (v : Int)) = tabOf (fun j => if j = i then v else T j) := by
  apply Array.ext_getElem?
  intro j
  rw [Array.getElem?_setIfInBounds]
  rcases Nat.lt_or_ge j 256 with hj | hj
  · rw [tabOf_get _ _ hj, tabOf_get _ _ hj]
    by_cases e : i = j
    · subst e
      simp [tabOf_size, hj]
    · have e' : ¬ j = i := fun h => e h.symm
      simp [e, e']
  · have h1 : (tabOf T)[j]? = none := Array.getElem?_eq_none (by rw [tabOf_size]; exact hj)
    have h2 : (tabOf fun j => if j = i then v else T j)[j]? = none := Array.getElem?_eq_none (by rw [tabOf_size]; exact hj)
    rw [h1, h2]
    split
    · rw [if_neg (by rw [tabOf_size]; omega)]
    · rfl
theorem tabOf_one (T : Nat → Nat) : (tabOf T).all (·.oneCell') = true := by
  rw [Array.all_eq_true_iff_forall_mem]
  intro x hx
  simp only [tabOf, List.mem_toArray, List.mem_map] at hx
  obtain ⟨_, _, rfl⟩ := hx
  rfl
theorem tabOf_zero : Array.replicate 256 (Value.int .u32 0) = tabOf (fun _ => 0) := by
  apply Array.ext_getElem?
  intro j
  rcases Nat.lt_or_ge j 256 with hj | hj
  · rw [tabOf_get _ _ hj]
    simp [hj]
  · rw [Array.getElem?_eq_none (by simpa using hj), Array.getElem?_eq_none (by rw [tabOf_size]; exact hj)]
theorem info26 : (Try.prog.info? 26).map (fun i => (i.zero, i.size)) = some (some (.agg (Array.replicate 256 (.int .u32 0))), 256) := by kernel_rfl
theorem zero26 (w : World) : (zeroValue 26).run Try.prog w = .ok (.agg (tabOf fun _ => 0)) w := by
  rw [← tabOf_zero]
  exact (zero_of_info info26).1 w
theorem size26 (T : Nat → Nat) : (Try.prog.info? 26).map (·.size) = some (tabOf T).size := by rw [tabOf_size]; exact (zero_of_info info26).2
theorem size26l (T : Nat → Nat) : (Try.prog.info? 26).map (·.size) = some (tabOf T).toList.length := by simpa using size26 T
theorem Blk.range {w : World} {g : Nat} {t : TypeId} {T : Nat → Nat} (h : Blk w g t (tabOf T)) : w.rangeAt g 0 (tabOf T).toList := by
  intro j v hv
  rw [Nat.zero_add, h.cell j]
  simpa using hv
theorem Blk.room {w : World} {g : Nat} {t : TypeId} {T : Nat → Nat} (h : Blk w g t (tabOf T)) : w.there g 0 256 := by
  intro j hj
  rw [Nat.zero_add, h.cell j, h.frozen j, tabOf_get _ _ hj]
  exact ⟨rfl, rfl⟩
theorem setCells_below {B : Nat} {w w' : World} (h : Below B w w') (g o : Nat) (hg : B ≤ g) (xs : List Value) : Below B w (w'.setCells g o xs) := by
  induction xs generalizing w' o with
  | nil => exact h
  | cons x xs ih => exact ih (h.setCell (by exact hg) x) (o + 1)

/-- The table as far as it is laid. -/
def TabTo (w : World) (i : Nat) (wx : World) : Prop := Blk wx w.heap.size 26 (tabOf fun _ => 0) ∧ Blk wx (w.heap.size + 1) 26 (tabOf fun j => if j < i then ent j else 0) ∧ Below w.heap.size w wx
theorem tabTo_zero (w : World) : TabTo w 0 ((w.alloc (.cells (tabOf fun _ => 0) 26)).alloc (.cells (tabOf fun _ => 0) 26)) := by
  refine ⟨(Blk.new w _ _).alloc _, ?_, ((Below.refl _ _).alloc (Nat.le_refl _) _).alloc (by simp) _⟩
  have h := Blk.new (w.alloc (.cells (tabOf fun _ => 0) 26)) 26 (tabOf fun _ => 0)
  have e : (tabOf fun j => if j < 0 then ent j else 0) = tabOf fun _ => 0 := tabOf_ext fun i _ => by simp
  rw [e]
  simpa using h
theorem tabTo_more {w wx : World} {i : Nat} (h : TabTo w i wx) : TabTo w (i + 1) (wx.setCell ⟨w.heap.size + 1, i, none⟩ (.int .u32 (ent i : Int))) := by
  obtain ⟨h1, h2, h3⟩ := h
  refine ⟨h1.far (by simp) _, ?_, h3.setCell (by simp) _⟩
  have h4 := h2.set_ i (.int .u32 (ent i : Int))
  rw [tabOf_set] at h4
  have e : (tabOf fun j => if j < i + 1 then ent j else 0) = tabOf fun j => if j = i then ent i else if j < i then ent j else 0 := tabOf_ext fun j _ => by
    by_cases h5 : j = i
    · subst h5; simp
    · rw [if_neg h5]
      by_cases h6 : j < i
      · rw [if_pos h6, if_pos (by omega)]
      · rw [if_neg h6, if_neg (by omega)]
  rw [e]
  exact h4

theorem tabTo_all {w wx : World} (h : TabTo w 256 wx) : wx.rangeAt (w.heap.size + 1) 0 (tabOf ent).toList ∧ wx.there w.heap.size 0 (tabOf ent).size ∧
    (loadVar 26 ⟨w.heap.size, 0, none⟩).run Try.prog (wx.setCells w.heap.size 0 (tabOf ent).toList) = .ok (.agg (tabOf ent)) (wx.setCells w.heap.size 0 (tabOf ent).toList) ∧ Below w.heap.size w (wx.setCells w.heap.size 0 (tabOf ent).toList) := by
  obtain ⟨h1, h2, h3⟩ := h
  have e : (tabOf fun j => if j < 256 then ent j else 0) = tabOf ent := tabOf_ext fun j hj => if_pos hj
  rw [e] at h2
  have ht : wx.there w.heap.size 0 (tabOf ent).size := by rw [tabOf_size]; exact h1.room
  have hst : wx.there w.heap.size 0 (tabOf ent).toList.length := by rw [Array.length_toList]; exact ht
  exact ⟨h2.range, ht, run_loadVar_mid _ w.heap.size 0 26 (tabOf ent).toList _ (World.rangeAt_setCells_same wx w.heap.size 0 _ hst) Try.underlying26 rfl (size26l ent), setCells_below h3 _ _ (Nat.le_refl _) _⟩

set_option maxHeartbeats 1000000 in
set_option maxRecDepth 100000 in
theorem table_any (w : World) : Calls Try.prog 8 #[] w fun e w' => e = .returned (.agg (tabOf ent)) ∧ Below w.heap.size w w' := by
  have hz := zero26
  go_enter Try.func8, Try.ntmps8
  go_wp2
  go_loopw [3] (fun s3 wx => ∃ i : Nat, i ≤ 256 ∧ s3 = .int .i64 (i : Int) ∧ TabTo w i wx) (fun s3 _ => 256 - (intOf s3).toNat)
  case atStart => exact ⟨0, by omega, rfl, tabTo_zero w⟩
  case round =>
    obtain ⟨i, hi, rfl, hT⟩ := hrel
    by_cases h : i < 256
    · have hw : IntKind.u32.wrap (i : Int) = (i : Int) := by rw [IntKind.wrap_u32']; omega
      have hcell := hT.2.1.cell i
      rw [tabOf_get _ _ h] at hcell
      have hfz := hT.2.1.frozen i
      have HT := Lib.hid hT
      clear hT
      go_wp2_with fail
      refine (entry_any i _ (by omega)).mono ?_
      rintro e w1 ⟨rfl, rfl⟩
      go_wp2
      go_roundw
      case rel => exact ⟨i + 1, by omega, by go_num, tabTo_more HT.out⟩
      case measure => simp [intOf]; omega
    · obtain rfl : i = 256 := by omega
      have HT := Lib.hid hT
      clear hT
      obtain ⟨hl, ht, hld, h3⟩ := tabTo_all HT.out
      have Hl := Lib.hid hl; have Ht := Lib.hid ht; have Hld := Lib.hid hld
      clear hl ht hld hz
      go_wp2_with (first
        | (with_reducible refine wpList_load_mid rfl 26 (.tmp 1) rfl _ 0 rfl (tabOf ent).toList _ Hl.out Try.underlying26 rfl (size26l ent) ?_)
        | (with_reducible refine wpList_store_mid rfl 26 (.tmp 0) (.tmp 12) rfl w.heap.size 0 (tabOf ent) rfl rfl Ht.out (size26 ent) (tabOf_one ent) ?_))
      refine bodyPost_ret (v := .agg (tabOf ent)) ?_ rfl ⟨rfl, h3⟩
      simp [results, Try.results8, asAddr, Act.put, Hld.out]
end Go.Proofs.Ytdecjmkpmpbdcaa
