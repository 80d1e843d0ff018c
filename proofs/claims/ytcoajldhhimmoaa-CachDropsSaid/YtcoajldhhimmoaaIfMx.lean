/- Get of the cache. -/
import Derived.Test.YtcoajldhhimmoaaMx1
import Derived.Test.YtcoajldhhimmoaaMx7
import Derived.Test.YtcoajldhhimmoaaMx10
namespace Go.Proofs.Ytcoajldhhimmoaa
open Go.RowKit

set_option maxHeartbeats 4000000 in
set_option maxRecDepth 100000 in
theorem ccGet_any {B g b N : Nat} {c : CacN} (k : KeyN) (w : World) (h : CacV B g b N w c) (hk : KeyFit k) : Calls Try.prog 10 #[.pointer (some ⟨g, 0, none⟩), .agg #[.int .i64 k.s, .int .i64 k.l, .int .i64 k.b]] w fun e w' =>
    ∃ v, e = .returned (.tuple #[v, .bool (getC c k).2.isSome]) ∧ OwnS w.heap.size w' v ((getC c k).2.getD []) ∧ (∀ w2, Mod (fun j => v.ownBlock = some j) w' w2 → CacV B g b N w2 (getC c k).1) ∧ Mod (fun j => j = g) w w' := by
  obtain ⟨⟨c2, ok⟩, hst⟩ : ∃ r, touchK c.clk k = r := ⟨_, rfl⟩
  have Hst := Lib.hid hst
  have Hk := Lib.hid hk
  clear hst hk
  obtain ⟨A, n, cap, Hb, Hp, Hn, Hr⟩ := h.open_
  obtain ⟨W, hW, hmW, hkW, hzW⟩ := Blk.boxed w 28 #[.int .i64 k.s, .int .i64 k.l, .int .i64 k.b]
  obtain ⟨g4, hg4⟩ : ∃ g, g = w.heap.size := ⟨_, rfl⟩
  rw [← hg4] at hkW
  have Hh := Lib.hid h
  have Hhw := Lib.hid (h.new hmW)
  have HW := Lib.hid hW; have HmW := Lib.hid hmW; have HkW := Lib.hid hkW; have Hg4 := Lib.hid hg4
  have Hne4 : Hid (g4 ≠ g ∧ g < w.heap.size) := Lib.hid (by have := h.lt; omega)
  have HbW := Lib.hid (hmW.blk Hb.out (fun h => h))
  have Hn2 : Hid (n ≤ 2000) := Lib.hid (by have h1 := Hn.out; have h9 : c.clk.ps.length ≤ 2000 := h.good.clk.len; omega)
  clear h hW hmW hkW hg4 hzW
  have HP : Hid (∀ W', Mod (fun _ => False) W W' → Calls Try.prog 22 #[.agg #[.int .i64 c.clk.most, .int .i64 c.clk.target, .slice A n cap, .int .i64 (c.clk.hot : Int), .int .i64 (c.clk.cold : Int), .int .i64 (c.clk.test : Int)], .agg #[.int .i64 k.s, .int .i64 k.l, .int .i64 k.b]] W' fun e w' => ∃ A5 n5 c5, e = .returned (.tuple #[.agg #[.int .i64 c2.most, .int .i64 c2.target, .slice A5 n5 c5, .int .i64 (c2.hot : Int), .int .i64 (c2.cold : Int), .int .i64 (c2.test : Int)], .bool ok]) ∧ OwnP W.heap.size w' 39 (.slice A5 n5 c5) c2.ps ∧ Mod (fun _ => False) W' w') := Lib.hid (fun W' h => by
    refine (ckTouch_any c.clk k A n cap W' (RdsP.new Hr.out (HmW.out.trans h (fun _ _ h => h))).fit (by have := Hn2.out; omega)).mono ?_
    rw [Hst.out]
    rintro e w' ⟨vp, rfl, h1, h3⟩
    obtain ⟨A5, c5, rfl, _⟩ := OwnP.form h1
    exact ⟨A5, _, c5, rfl, OwnP.mono h1 h.size, h3⟩)
  have y0 := HbW.out.cell 0
  have y1 := HbW.out.cell 1
  have y2 := HbW.out.cell 2
  have y3 := HbW.out.cell 3
  have y4 := HbW.out.cell 4
  have y5 := HbW.out.cell 5
  have y6 := HbW.out.cell 6
  simp [cacC] at y0 y1 y2 y3 y4 y5 y6
  have z0 := HkW.out.cell 0
  have z1 := HkW.out.cell 1
  have z2 := HkW.out.cell 2
  simp at z0 z1 z2
  have y0a : ∀ o, (W.alloc o).cell? ⟨g, 0, none⟩ = some (.int .i64 c.clk.most) := fun o => ((HbW.out.alloc o).cell 0).trans rfl
  have y1a : ∀ o, (W.alloc o).cell? ⟨g, 1, none⟩ = some (.int .i64 c.clk.target) := fun o => ((HbW.out.alloc o).cell 1).trans rfl
  have y2a : ∀ o, (W.alloc o).cell? ⟨g, 2, none⟩ = some (.slice A n cap) := fun o => ((HbW.out.alloc o).cell 2).trans rfl
  have y3a : ∀ o, (W.alloc o).cell? ⟨g, 3, none⟩ = some (.int .i64 (c.clk.hot : Int)) := fun o => ((HbW.out.alloc o).cell 3).trans rfl
  have y4a : ∀ o, (W.alloc o).cell? ⟨g, 4, none⟩ = some (.int .i64 (c.clk.cold : Int)) := fun o => ((HbW.out.alloc o).cell 4).trans rfl
  have y5a : ∀ o, (W.alloc o).cell? ⟨g, 5, none⟩ = some (.int .i64 (c.clk.test : Int)) := fun o => ((HbW.out.alloc o).cell 5).trans rfl
  have z0a : ∀ o, (W.alloc o).cell? ⟨g4, 0, none⟩ = some (.int .i64 k.s) := fun o => ((HkW.out.alloc o).cell 0).trans rfl
  have z1a : ∀ o, (W.alloc o).cell? ⟨g4, 1, none⟩ = some (.int .i64 k.l) := fun o => ((HkW.out.alloc o).cell 1).trans rfl
  have z2a : ∀ o, (W.alloc o).cell? ⟨g4, 2, none⟩ = some (.int .i64 k.b) := fun o => ((HkW.out.alloc o).cell 2).trans rfl
  have HEND : Hid (ok = true → ∀ w' A7 n7 c7, Blk w' g 55 (cacC c2 (.slice A7 n7 c7) b) → OwnP B w' 39 (.slice A7 n7 c7) c2.ps → MapC B w' b N c.sam (framesC c) → B ≤ w'.heap.size → CacV B g b N w' (getC c k).1) := Lib.hid (fun hok w' A7 n7 c7 h1 h2 h3 h4 => by
    have hg := (get_good Hh.out.good k).1
    have hf := touch_frames c k
    have hp := pins_touch (k := k) Hh.out.good.clk Hh.out.pins (by omega)
    have e : getC c k = ({ c with clk := c2 }, c.sam k) := by unfold getC; rw [Hst.out, if_pos hok]
    rw [Hst.out] at hf hp
    rw [e] at hg ⊢
    exact ⟨hg, ⟨_, h1, h2⟩, by rw [hf]; exact h3, Hh.out.fit, hp, h4, Hh.out.short⟩)
  have HG2 : Hid ((ok = false → (getC c k) = (c, none)) ∧ (ok = true → (getC c k).2 = c.sam k ∧ (c.sam k).isSome = true)) := Lib.hid ⟨fun e => by unfold getC; rw [Hst.out, e]; rfl, fun e => by
    have h1 : (getC c k).2 = c.sam k := by unfold getC; rw [Hst.out, if_pos e]
    refine ⟨h1, (Hh.out.good.sam k).2 ?_⟩
    have h6 := (touch_is Hh.out.good.clk k).2.2.2.2.2
    rw [Hst.out] at h6
    exact (resAt_iff Hh.out.good.clk.base k).2 (h6.1 e)⟩
  go_enter Try.func10, Try.ntmps10
  go_upto_region 1 with fail
  rw [← HW.out, ← Hg4.out]
  go_cut [6, 7] from 6 to 16 (fun s7 s8 wx => ∃ g7 A7 n7 c7, s7 = .pointer (some ⟨g7, 0, none⟩) ∧ s8 = .bool ok ∧ ClkV W.heap.size g7 wx (.slice A7 n7 c7) c2 ∧ Mod (fun _ => False) W wx ∧ W.heap.size ≤ g7)
  case first =>
    as_aux_lemma =>
      go_region_with (first
        | (go_at_call 22; (with_reducible refine (HP.out W.drew ((Mod.refl _ _).drew)).mono ?_); rintro e w5 ⟨A5, n5, c5, rfl, h1, h3⟩; have H1 := Lib.hid h1; have H3 : Hid (Mod (fun _ => False) W w5) := Lib.hid (((Mod.refl _ _).drew).trans h3 (fun _ _ h => h)); clear h1 h3)
        | (go_at_call 22; (with_reducible refine (HP.out (W.alloc (.cells #[.int .i64 0, .int .i64 0, .slice none 0 0, .int .i64 0, .int .i64 0, .int .i64 0] 36)).drew (((Mod.refl _ _).alloc _).drew)).mono ?_); rintro e w5 ⟨A5, n5, c5, rfl, h1, h3⟩; have H1 := Lib.hid h1; have hg9 : Blk w5 W.heap.size 36 #[.int .i64 0, .int .i64 0, .slice none 0 0, .int .i64 0, .int .i64 0, .int .i64 0] := h3.blk (Blk.drew (Blk.new W _ _)) (fun h => h); have HG9 := Lib.hid hg9; have H3 : Hid (Mod (fun _ => False) W w5) := Lib.hid ((((Mod.refl _ _).alloc _).drew).trans h3 (fun _ _ h => h)); have r0 := hg9.cell 0; have f0 := hg9.frozen 0; have r1 := hg9.cell 1; have f1 := hg9.frozen 1; have r2 := hg9.cell 2; have f2 := hg9.frozen 2; have r3 := hg9.cell 3; have f3 := hg9.frozen 3; have r4 := hg9.cell 4; have f4 := hg9.frozen 4; have r5 := hg9.cell 5; have f5 := hg9.frozen 5; simp at r0 r1 r2 r3 r4 r5; clear h1 h3 hg9))
      all_goals (go_wp2_with fail; go_meet)
      all_goals (
        refine ⟨_, A5, n5, c5, rfl, rfl, ?_⟩
        first
          | (have h8 := HG9.out; exact clk_over c2 rfl h8 (Nat.le_refl _) H1.out (Nat.le_refl _) H3.out)
          | exact clk_new c2 rfl H1.out (Nat.le_refl _) H3.out)
  case rest =>
    as_aux_lemma =>
      obtain ⟨w7, rfl⟩ : ∃ w0 : World, w0 = wc := ⟨_, rfl⟩
      obtain ⟨g7, A7, n7, c7, rfl, rfl, hc7, hm7, hg7⟩ := hcut
      clear y0 y1 y2 y3 y4 y5 y6 z0 z1 z2 y0a y1a y2a y3a y4a y5a z0a z1a z2a
      clear hg7
      have hb7 := hm7.blk HbW.out (fun h => h)
      have u0 := hb7.cell 0
      have f0 := hb7.frozen 0
      have u1 := hb7.cell 1
      have f1 := hb7.frozen 1
      have u2 := hb7.cell 2
      have f2 := hb7.frozen 2
      have u3 := hb7.cell 3
      have f3 := hb7.frozen 3
      have u4 := hb7.cell 4
      have f4 := hb7.frozen 4
      have u5 := hb7.cell 5
      have f5 := hb7.frozen 5
      simp [cacC] at u0 u1 u2 u3 u4 u5
      obtain ⟨y0, y1, y2, y3, y4, y5⟩ := hc7.cells
      have hst := cac_stored (Hhw.out.new hm7) (Nat.le_trans Hh.out.low HmW.out.size) hb7 hc7
      obtain ⟨w8, hw8, hb8, hp8, hma8, hm8⟩ := hst
      have Hw8 := Lib.hid hw8; have Hb8 := Lib.hid hb8; have Hp8 := Lib.hid hp8; have Hma8 := Lib.hid hma8; have Hm8 := Lib.hid hm8; have Hm7 := Lib.hid hm7
      clear hw8 hb8 hp8 hma8 hm8 hb7
      clear hc7 hm7
      cases ok with
      | false =>
        go_wp2_with fail
        go_ret2
        have e := HG2.out.1 (by simp)
        rw [e]
        exact ⟨_, rfl, OwnS.nil _ _, (fun w2 h2 => (Hhw.out.new Hm7.out).new (h2.mono (fun _ _ h => by simp [Value.ownBlock] at h))), ((HmW.out.trans Hm7.out (fun _ _ h => h)).mono (fun _ _ h => h.elim))⟩
      | true =>
        go_upto_region 5 with fail
        rw [← Hw8.out]
        clear y0 y1 y2 y3 y4 y5 u0 u1 u2 u3 u4 u5 f0 f1 f2 f3 f4 f5
        have q6 := (Hb8.out).cell 6
        simp [cacC] at q6
        have hk8 : Blk w8 g4 28 #[.int .i64 k.s, .int .i64 k.l, .int .i64 k.b] := Hm8.out.blk (Hm7.out.blk HkW.out (fun h => h)) (fun e => Hne4.out.1 e)
        have z0 := hk8.cell 0
        have z1 := hk8.cell 1
        have z2 := hk8.cell 2
        simp at z0 z1 z2
        clear hk8
        obtain ⟨v, hlook, hv⟩ := (Hma8.out.new ((Mod.refl _ _).drew)).look Hk.out
        obtain ⟨Av, nv, cv, rfl, Hnv, _, _, hrv⟩ := hv.form
        obtain ⟨hs1, hs2⟩ := HG2.out.2 (by simp)
        obtain ⟨r, hr2⟩ := Option.isSome_iff_exists.1 hs2
        have hgr : (getC c k).2 = some r := by rw [hs1, hr2]
        have hrv : RdsS w8.drew w8.drew.heap.size Av nv r := by rw [hr2] at hrv; exact hrv
        have hnv : nv ≤ 1000000 := by have h1 := Hh.out.short k r hr2; have h2 := hrv.1; omega
        have Hrv := Lib.hid hrv; have Hgr := Lib.hid hgr; have Hnv2 := Lib.hid hnv
        have HC : Hid (Calls Try.prog 21 #[.slice Av nv cv] w8.drew fun e w' => ∃ v, e = .returned v ∧ OwnS w8.heap.size w' v r ∧ Mod (fun _ => False) w8.drew w') := Lib.hid (ccCopied_any Av nv cv r w8.drew Hrv.out Hnv2.out)
        clear hv hrv hs1 hs2 hr2 hgr hnv
        go_region_with (go_at_call 21; (with_reducible refine HC.out.mono ?_); rintro e w9 ⟨v9, rfl, ho9, hm9⟩; have Ho9 := Lib.hid ho9; have Hm9 : Hid (Mod (fun _ => False) w8 w9) := Lib.hid (((Mod.refl _ _).drew).trans hm9 (fun _ _ h => h)); clear ho9 hm9)
        all_goals (
          go_wp2_with fail
          go_ret2
          rw [Hgr.out]
          exact ⟨_, rfl, Ho9.out.mono (by have := HmW.out.size; have := Hm7.out.size; have := Hm8.out.size; omega), (fun w2 h2 => (HEND.out (by simp) _ _ _ _ Hb8.out Hp8.out Hma8.out (by have := Hh.out.low; have := HmW.out.size; have := Hm7.out.size; have := Hm8.out.size; omega)).new (Hm9.out.trans h2 (fun i hi h => by have := (Ho9.out.block i h).1; omega))), (((HmW.out.trans Hm7.out (fun _ _ h => h)).mono (fun _ _ h => h.elim)).trans Hm8.out (fun _ _ h => h)).trans (Hm9.out.mono (fun _ _ h => h.elim)) (fun _ _ h => h)⟩)
end Go.Proofs.Ytcoajldhhimmoaa
