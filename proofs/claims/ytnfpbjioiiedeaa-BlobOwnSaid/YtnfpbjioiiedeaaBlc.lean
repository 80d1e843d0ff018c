/- Holds, Charge and Add of the store. -/
import Derived.Test.YtnfpbjioiiedeaaHd
import Derived.Test.YtnfpbjioiiedeaaBlb
namespace Go.Proofs.Ytnfpbjioiiedeaa
open Go.RowKit Go.Maps

set_option maxHeartbeats 1000000 in
set_option maxRecDepth 100000 in
theorem blHolds_any {B : Nat → Prop} {g b N : Nat} {s : BloN} (k : Int) (w : World) (h : BloV B g b N w s) (hk : FitI k) : Calls Try.prog 10 #[.pointer (some ⟨g, 0, none⟩), .int .i64 k] w fun e w' => e = .returned (.int .i64 (holdsB s k : Int)) ∧ Mod (fun _ => False) w w' := by
  obtain ⟨c, hm⟩ := h.map_
  obtain ⟨v, hrun, hn, hs⟩ := hm.look mapBl (zero_kept w) hk
  have y4 := h.box.cell 4
  simp [bloC] at y4
  have e : ∃ vb, v = .agg #[vb, .int .i64 (holdsB s k : Int)] := by
    cases hf : atB s k with
    | none =>
      refine ⟨.slice none 0 0, ?_⟩
      rw [hn hf]
      unfold holdsB
      rw [hf]
      rfl
    | some r =>
      obtain ⟨vb, e, _⟩ := hs r hf
      refine ⟨vb, ?_⟩
      rw [e]
      unfold holdsB
      rw [hf]
  obtain ⟨vb, rfl⟩ := e
  obtain ⟨H, hH⟩ : ∃ H, (holdsB s k : Int) = H := ⟨_, rfl⟩
  rw [hH] at hrun ⊢
  have hfd : (Instr.field 41 (.agg #[vb, .int .i64 H]) 1).run Try.prog w = .ok (.int .i64 H) w := by kernel_rfl
  clear h hm hn hs hk hH
  go_enter Try.func10, Try.ntmps10
  go_wp2_with fail
  go_ret
  exact ⟨rfl, Mod.refl _ _⟩
set_option maxHeartbeats 1000000 in
set_option maxRecDepth 100000 in
theorem blCharge_any {B : Nat → Prop} {g b N : Nat} {s : BloN} (n : Int) (w : World) (h : BloV B g b N w s) (hn : FitI n) : Calls Try.prog 14 #[.pointer (some ⟨g, 0, none⟩), .int .i64 n] w fun e w' => e = .returned (.bool (chargeB s n).2) ∧ BloV B g b N w' (chargeB s n).1 ∧ Mod (fun j => j = g) w w' := by
  obtain ⟨⟨h1, h2⟩, h3, h4⟩ := h.sizes
  have Hh := Lib.hid h
  obtain ⟨Rm, hR⟩ : ∃ U, s.budget - usedB s = U := ⟨_, rfl⟩
  obtain ⟨C, hC⟩ : ∃ C, s.charged = C := ⟨_, rfl⟩
  obtain ⟨M, hM⟩ : ∃ M, max (C + n) 0 = M := ⟨_, rfl⟩
  have hmax := maxI_is (P := Try.prog) (t := 3) (ty := 3) hM
  have hu : usedB s = C + (lenB s.rows : Int) := by unfold usedB; rw [hC]
  have hR0 : 0 ≤ Rm ∧ Rm ≤ 1073741824 := by omega
  have hC0 : 0 ≤ C ∧ C ≤ 1073741824 := by omega
  have HNO : Hid (Rm < n → chargeB s n = (s, false)) := Lib.hid (fun hx => by
    unfold chargeB
    rw [if_pos (by omega)])
  have HYES : Hid (¬ Rm < n → chargeB s n = ({ s with charged := M }, true)) := Lib.hid (fun hx => by
    unfold chargeB
    rw [if_neg (by omega), hC, hM])
  have hn2 := hn.out
  have HP : Hid (Calls Try.prog 15 #[.pointer (some ⟨g, 0, none⟩)] w fun e w' => e = .returned (.int .i64 Rm) ∧ Mod (fun _ => False) w w') := Lib.hid (by
    have h1 := blRoom_any w h
    rwa [hR] at h1)
  have HC := Lib.hid hC
  clear h h1 h2 h3 h4 hR hC hM hu hn
  go_enter Try.func14, Try.ntmps14
  go_wp2_with fail
  refine HP.out.mono ?_
  rintro e w1 ⟨rfl, hm1⟩
  have Hm1 := Lib.hid hm1
  have Hb1 := Lib.hid (hm1.blk Hh.out.box (fun h => h))
  clear hm1 HP
  by_cases hx : Rm < n
  · have Hx := Lib.hid hx
    go_wp2_with fail
    go_ret
    rw [HNO.out Hx.out]
    exact ⟨rfl, Hh.out.new Hm1.out, Hm1.out.mono (fun _ _ h => h.elim)⟩
  · have Hx := Lib.hid hx
    have y3 := Hb1.out.cell 3
    have f3 := Hb1.out.frozen 3
    simp [bloC] at y3
    rw [HC.out] at y3
    obtain ⟨h5, h6⟩ := hC0
    obtain ⟨h7, h8⟩ := hR0
    have hw : IntKind.i64.wrap (C + n) = C + n := by rw [IntWalk.i64_in _ (by omega)]
    go_wp2_with fail
    go_ret
    have hg := (good_charge Hh.out.good n).1
    rw [HYES.out Hx.out] at hg ⊢
    have hb := (Blk.set5 Hb1.out (.int .i64 0) (.int .i64 0) (.int .i64 M)).2.1
    refine ⟨rfl, (Hh.out.new Hm1.out).boxed (one_cell w1 g 3 (.int .i64 M)) hb hg rfl Hh.out.next, (Hm1.out.mono (fun _ _ h => h.elim)).trans (one_cell w1 g 3 (.int .i64 M)) (fun _ _ h => h)⟩
end Go.Proofs.Ytnfpbjioiiedeaa
