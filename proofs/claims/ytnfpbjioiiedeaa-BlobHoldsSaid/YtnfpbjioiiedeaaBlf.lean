/- Hold of the store. -/
import Derived.Test.YtnfpbjioiiedeaaHd
import Derived.Test.YtnfpbjioiiedeaaBlc
namespace Go.Proofs.Ytnfpbjioiiedeaa
open Go.RowKit Go.Maps

set_option maxHeartbeats 4000000 in
set_option maxRecDepth 100000 in
theorem blHold_any {B : Nat → Prop} {g b N : Nat} {s : BloN} (k : Int) (w : World) (h : BloV B g b N w s) (hk : FitI k) (hN : N < 1000000) : Calls Try.prog 9 #[.pointer (some ⟨g, 0, none⟩), .int .i64 k] w fun e w' => e = .returned (.bool (holdB s k).2) ∧ BloV B g b (N + 1) w' (holdB s k).1 ∧ Mod (fun j => j = g ∨ j = b) w w' := by
  obtain ⟨A, n, c, hrun, hs, hn, hc1, hc2⟩ := look_row h hk
  have Hh := Lib.hid h
  have Hk := Lib.hid hk
  have HN := Lib.hid hN
  have y4 := h.box.cell 4
  simp [bloC] at y4
  cases hf : atB s k with
  | none =>
    have e0 : holdsB s k = 0 := by unfold holdsB; rw [hf]
    rw [hf, e0] at hrun
    have HE : Hid (holdB s k = (s, false)) := Lib.hid (by unfold holdB; rw [hf])
    have hlk : (Instr.lookup 36 (.map (some b)) (.int .i64 k) true).run Try.prog w = .ok (.tuple #[.agg #[.slice A n c, .int .i64 0], .bool false]) w := hrun
    clear h hs hn hf e0 hrun hk hN
    go_enter Try.func9, Try.ntmps9
    go_wp2_with fail
    go_ret
    rw [HE.out]
    exact ⟨rfl, (Hh.out.new ((Mod.refl _ _).alloc _)).more (Nat.le_succ _), (Mod.refl _ _).alloc _⟩
  | some r =>
    have e0 : holdsB s k = r.n := by unfold holdsB; rw [hf]
    have e1 : bytesB s k = r.bs := by unfold bytesB; rw [hf]; rfl
    rw [hf, e0] at hrun
    rw [e1] at hs
    obtain ⟨hr1, hr2⟩ := atB_some hf
    have hlow := Hh.out.good.held r hr1
    have hup9 := Hh.out.held r hr1
    obtain ⟨R, hR⟩ : ∃ R, r.n = R := ⟨_, rfl⟩
    rw [hR] at hrun hlow hup9
    have hlk : (Instr.lookup 36 (.map (some b)) (.int .i64 k) true).run Try.prog w = .ok (.tuple #[.agg #[.slice A n c, .int .i64 (R : Int)], .bool true]) w := hrun
    obtain ⟨W, hW, hmW, hkW, hzW⟩ := new_box w 41 #[.slice A n c, .int .i64 (R : Int)]
    obtain ⟨g5, hg5⟩ : ∃ x, x = w.heap.size := ⟨_, rfl⟩
    rw [← hg5] at hkW
    have hne5 : g5 ≠ g ∧ g5 ≠ b := by have := h.lt; omega
    obtain ⟨P, hP⟩ : ∃ P : Nat, P = R + 1 := ⟨_, rfl⟩
    have hw1 : IntKind.i64.wrap ((R : Int) + 1) = (P : Int) := by rw [IntWalk.i64_in _ (by omega), hP]; omega
    obtain ⟨W2, hW2⟩ : ∃ W2, W2 = W.setCell ⟨g5, 1, none⟩ (.int .i64 (P : Int)) := ⟨_, rfl⟩
    have hm2 : Mod (fun _ => False) w W2 := by rw [hW2]; exact hmW.trans (one_cell W g5 1 _) (fun i hi e => by omega)
    have hk2 : Blk W2 g5 41 #[.slice A n c, .int .i64 (P : Int)] := by rw [hW2]; have h5 := hkW.set_ 1 (.int .i64 (P : Int)); simpa using h5
    have z0 := hkW.cell 0
    have z1 := hkW.cell 1
    have f1 := hkW.frozen 1
    have v0 := hk2.cell 0
    have v1 := hk2.cell 1
    simp at z0 z1 v0 v1
    have hb2 := hm2.blk Hh.out.box (fun h => h)
    have u4 := hb2.cell 4
    simp [bloC] at u4
    obtain ⟨c4, h4⟩ := (Hh.out.new hm2.drew).map_
    have hkr : KeptR B W2.drew (.agg #[.slice A n c, .int .i64 (P : Int)]) { r with n := P } := ⟨_, rfl, hs.new hm2.drew⟩
    obtain ⟨w3, hst, hma3, hm3⟩ := kept_store h4 (by unfold maxLen; omega) hk hkr
    have hmE : Mod (fun j => j = g ∨ j = b) w w3 := (hm2.mono (fun _ _ h => h.elim)).trans (((Mod.refl (fun _ => False) W2).drew.mono (fun _ _ h => h.elim)).trans hm3 (fun _ _ h => h)) (fun _ _ h => .inr h)
    have hb3 : Blk w3 g 38 (bloC s b) := hm3.blk (Blk.drew hb2) (fun e => Hh.out.ne e)
    have hk3 : Blk w3 g5 41 #[.slice A n c, .int .i64 (P : Int)] := hm3.blk (Blk.drew hk2) (fun e => hne5.2 e)
    have Hf := Lib.hid hf; have HR := Lib.hid hR; have HW := Lib.hid hW; have Hg5 := Lib.hid hg5; have Hne5 := Lib.hid hne5; have HP := Lib.hid hP; have HW2 := Lib.hid hW2; have Hma3 := Lib.hid hma3; have HmE := Lib.hid hmE; have Hb3 := Lib.hid hb3; have Hk3 := Lib.hid hk3; have Hs := Lib.hid hs; have Hn := Lib.hid hn; have Hlow := Lib.hid hlow; have Hup9 := Lib.hid hup9; have Hr2 := Lib.hid hr2; have Hr1 := Lib.hid hr1
    clear h hk hN hs hn hf e0 e1 hrun hr1 hr2 hlow hup9 hR hW hmW hkW hzW hg5 hne5 hP hW2 hm2 hk2 hb2 h4 hkr hma3 hm3 hmE hb3 hk3
    go_enter Try.func9, Try.ntmps9
    go_upto_region 2 with fail
    rw [← HW.out, ← Hg5.out]
    go_upto_region 5 with fail
    rw [← HW2.out]
    clear z0 z1 f1 hlk hw1
    go_region
    all_goals (
      go_wp2_with fail
      go_ret
      have hg := (good_hold Hh.out.good k).1
      have hat : ∀ id, atB (holdB s k).1 id = setG (atB s) k (some { r with n := P }) id := fun id => by
        unfold setG
        by_cases e : id = k
        · rw [if_pos e, e, at_hold Hf.out, HP.out, HR.out]
        · rw [if_neg e]
          exact (at_other e).1
      have he : holdB s k = ({ s with rows := turnB s.rows k (· + 1) }, true) := by unfold holdB; rw [Hf.out]
      rw [he] at hg hat ⊢
      refine ⟨rfl, ⟨hg, ?_, ?_, Nat.le_succ_of_le Hh.out.next, ?_⟩, HmE.out⟩
      · have h5 := Hb3.out
        unfold bloC at h5 ⊢
        show Blk w3 g _ #[_, _, .int .i64 (lenB (turnB s.rows k (· + 1)) : Int), _, _]
        rw [turn_len]
        exact h5
      · obtain ⟨c5, h5⟩ := Hma3.out
        exact ⟨c5, by rw [funext hat]; exact h5⟩
      · intro q hq
        obtain ⟨x, hx, _, _, e⟩ := turn_mem hq
        have := Hh.out.held x hx
        rw [e]
        split <;> omega)
end Go.Proofs.Ytnfpbjioiiedeaa
