/- New, Used, Holds, Charge of the store, and how much room it has. -/
import Derived.Test.YtnfpbjioiiedeaaHd
import Derived.Test.YtnfpbjioiiedeaaBla
import Derived.Test.YtnfpbjioiiedeaaMn
namespace Go.Proofs.Ytnfpbjioiiedeaa
open Go.RowKit

theorem blo_new {w W : World} {b : Nat} (m : Int) (hb : b = w.heap.size) (hW : W = (w.alloc (.map #[] 0)).alloc (.cells (bloC (newB m) b) 38)) : (∀ W2, Mod (fun _ => False) W W2 → ∀ B, BloV B (b + 1) b 0 W2 (newB m)) ∧ Mod (fun _ => False) w W := by
  subst hb
  have hm : Mod (fun _ => False) w W := by rw [hW]; exact ((Mod.refl _ _).alloc _).alloc _
  refine ⟨fun W2 h2 B => ⟨good_newB m, ?_, ?_, Nat.le_refl _, (fun r h => by cases h)⟩, hm⟩
  · refine h2.blk ?_ (fun h => h)
    rw [hW]
    have h := Blk.new (w.alloc (.map #[] 0)) 38 (bloC (newB m) w.heap.size)
    simpa using h
  · refine ⟨0, ?_⟩
    have h1 : MapG (KeptR B) W w.heap.size 0 (fun _ => none) 0 := by
      rw [hW]
      obtain ⟨f, h3, h4⟩ := MapG.made (KeptR B) w
      exact ⟨_, h3.mod (S := fun _ => False) ((Mod.refl _ _).alloc _) id, fun k hk => ⟨(h4 k hk).1, fun _ h => by cases h⟩⟩
    exact h1.mod h2 id (fun v x hv => hv.mod h2 (fun _ _ _ _ h => h))
set_option maxHeartbeats 1000000 in
set_option maxRecDepth 100000 in
theorem blNew_any (m : Int) (w : World) : Calls Try.prog 7 #[.int .i64 m] w fun e w' => ∃ g b, e = .returned (.pointer (some ⟨g, 0, none⟩)) ∧ (∀ W2, Mod (fun _ => False) w' W2 → ∀ B, BloV B g b 0 W2 (newB m)) ∧ Mod (fun _ => False) w w' ∧ w.heap.size ≤ b ∧ w.heap.size ≤ g := by
  have hmm := @run_makeMap Try.prog
  obtain ⟨M, hM⟩ : ∃ x, max m 0 = x := ⟨_, rfl⟩
  obtain ⟨R, hR⟩ : ∃ x, min M 1073741824 = x := ⟨_, rfl⟩
  have hmax := maxI_is (P := Try.prog) (t := 3) (ty := 3) hM
  have hmin := minI_is (P := Try.prog) (t := 3) (ty := 3) hR
  obtain ⟨b, hb⟩ : ∃ b, b = w.heap.size := ⟨_, rfl⟩
  obtain ⟨W, hW⟩ : ∃ W, W = (w.alloc (.map #[] 0)).alloc (.cells #[.int .i64 R, .int .i64 0, .int .i64 0, .int .i64 0, .map (some b)] 38) := ⟨_, rfl⟩
  obtain ⟨h1, h2⟩ := blo_new m hb (W := W) (by rw [hW]; unfold bloC newB; rw [hM, hR]; rfl)
  have H1 := Lib.hid h1; have H2 := Lib.hid h2; have Hb := Lib.hid hb; have HW := Lib.hid hW
  clear h1 h2 hb hW hM hR
  go_enter Try.func7, Try.ntmps7
  go_wp2_with fail
  rw [← Hb.out, ← HW.out]
  go_ret
  exact ⟨b + 1, b, rfl, H1.out, H2.out, by have := Hb.out; omega, by have := Hb.out; omega⟩
set_option maxHeartbeats 1000000 in
set_option maxRecDepth 100000 in
theorem blUsed_any {B : Nat → Prop} {g b N : Nat} {s : BloN} (w : World) (h : BloV B g b N w s) : Calls Try.prog 12 #[.pointer (some ⟨g, 0, none⟩)] w fun e w' => e = .returned (.int .i64 (usedB s)) ∧ Mod (fun _ => False) w w' := by
  obtain ⟨⟨h1, h2⟩, h3, h4⟩ := h.sizes
  have y2 := h.box.cell 2
  have y3 := h.box.cell 3
  simp [bloC] at y2 y3
  obtain ⟨L, hL⟩ : ∃ L, lenB s.rows = L := ⟨_, rfl⟩
  obtain ⟨c, hc⟩ : ∃ c, s.charged = c := ⟨_, rfl⟩
  have hu : usedB s = (L : Int) + c := by unfold usedB; omega
  rw [hL] at y2 h4
  rw [hc] at y3 h3 h4
  rw [hu]
  have hl0 : (0 : Int) ≤ (L : Int) := by omega
  have hl1 : (L : Int) + c ≤ 1073741824 := by omega
  clear h hL hc hu
  go_enter Try.func12, Try.ntmps12
  go_upto_region 1 with fail
  go_quiet (fail)
  go_wp2_with fail
  go_ret
  exact ⟨by go_num, (Mod.refl _ _).drewN _⟩
set_option maxHeartbeats 1000000 in
set_option maxRecDepth 100000 in
theorem blRoom_any {B : Nat → Prop} {g b N : Nat} {s : BloN} (w : World) (h : BloV B g b N w s) : Calls Try.prog 15 #[.pointer (some ⟨g, 0, none⟩)] w fun e w' => e = .returned (.int .i64 (s.budget - usedB s)) ∧ Mod (fun _ => False) w w' := by
  obtain ⟨⟨h1, h2⟩, h3, h4⟩ := h.sizes
  have Hh := Lib.hid h
  obtain ⟨U, hU⟩ : ∃ U, usedB s = U := ⟨_, rfl⟩
  have h5 : 0 ≤ U ∧ U ≤ s.budget := by rw [← hU]; unfold usedB; omega
  obtain ⟨D, hD⟩ : ∃ D, s.budget = D := ⟨_, rfl⟩
  rw [hD] at h1 h2 h5
  obtain ⟨h6, h7⟩ := h5
  have HD := Lib.hid hD; have HU := Lib.hid hU
  have HY : Hid (∀ W', Mod (fun _ => False) w W' → W'.cell? ⟨g, 0, none⟩ = some (.int .i64 D)) := Lib.hid (fun W' h => by
    have h1 := (h.blk Hh.out.box (fun h => h)).cell 0
    simp [bloC] at h1
    rw [h1, HD.out])
  have HP : Hid (∀ W', Mod (fun _ => False) w W' → Calls Try.prog 12 #[.pointer (some ⟨g, 0, none⟩)] W' fun e w' => e = .returned (.int .i64 U) ∧ Mod (fun _ => False) W' w') := Lib.hid (fun W' h => by
    have h1 := blUsed_any W' (Hh.out.new h)
    rw [HU.out] at h1
    exact h1)
  rw [hU, hD]
  have y0 := HY.out w (Mod.refl _ _)
  have hw : IntKind.i64.wrap (D - U) = D - U := by rw [IntWalk.i64_in _ (by omega)]
  clear h h3 h4 hU hD
  go_enter Try.func15, Try.ntmps15
  go_upto_region 1 with fail
  go_region_with (go_at_call 12; (with_reducible refine (HP.out w.drew ((Mod.refl _ _).drew)).mono ?_); rintro e w5 ⟨rfl, h9⟩; have H9 : Hid (Mod (fun _ => False) w w5) := Lib.hid (((Mod.refl _ _).drew).trans h9 (fun _ _ h => h)); have y5 := HY.out w5 H9.out; clear h9)
  all_goals (
    go_wp2_with fail
    go_ret
    exact ⟨rfl, H9.out⟩)
end Go.Proofs.Ytnfpbjioiiedeaa
