/- Drop of the cache. -/
import Derived.Test.YtcoajldhhimmoaaMx1
import Derived.Test.YtcoajldhhimmoaaMx7
import Derived.Test.YtcoajldhhimmoaaMx10
namespace Go.Proofs.Ytcoajldhhimmoaa
open Go.RowKit

theorem drop_ok (c : ClkN) (k : KeyN) : (dropK c k).2 = (findK k c.ps).isSome := by
  unfold dropK
  cases findK k c.ps <;> rfl
set_option maxHeartbeats 4000000 in
set_option maxRecDepth 100000 in
theorem ccDrop_any {B g b N : Nat} {c : CacN} (k : KeyN) (w : World) (h : CacV B g b N w c) (hk : KeyFit k) : Calls Try.prog 18 #[.pointer (some ⟨g, 0, none⟩), .agg #[.int .i64 k.s, .int .i64 k.l, .int .i64 k.b]] w fun e w' =>
    e = .returned (.bool (dropC c k).2) ∧ CacV B g b N w' (dropC c k).1 ∧ Mod (fun j => j = g ∨ j = b) w w' := by
  obtain ⟨⟨c2, ok⟩, hst⟩ : ∃ r, dropK c.clk k = r := ⟨_, rfl⟩
  have Hst := Lib.hid hst
  have Hk := Lib.hid hk
  clear hst hk
  obtain ⟨A, n, cap, Hb, Hp, Hn, Hr⟩ := h.open_
  obtain ⟨V, hW, hmW, hkW, hzW⟩ := Blk.boxed w 28 #[.int .i64 k.s, .int .i64 k.l, .int .i64 k.b]
  obtain ⟨g4, hg4⟩ : ∃ g, g = w.heap.size := ⟨_, rfl⟩
  rw [← hg4] at hkW
  have Hh := Lib.hid h
  have Hhw := Lib.hid (h.new hmW)
  have HW := Lib.hid hW; have HmV := Lib.hid hmW; have HkV := Lib.hid hkW; have Hg4 := Lib.hid hg4
  have Hne4 : Hid (g4 ≠ g ∧ g < w.heap.size) := Lib.hid (by have := h.lt; omega)
  have HbV := Lib.hid (hmW.blk Hb.out (fun h => h))
  have Hn2 : Hid (n ≤ 2000) := Lib.hid (by have h1 := Hn.out; have h9 : c.clk.ps.length ≤ 2000 := h.good.clk.len; omega)
  clear h hW hmW hkW hg4 hzW
  have z0 := HkV.out.cell 0
  have z1 := HkV.out.cell 1
  have z2 := HkV.out.cell 2
  simp at z0 z1 z2
  go_enter Try.func18, Try.ntmps18
  go_upto_region 1 with fail
  rw [← HW.out, ← Hg4.out]
  go_wp2_with fail
  refine (ccIsPinned_any k V Hhw.out).mono ?_
  rintro e W ⟨rfl, hmW⟩
  have Hhw2 := Lib.hid (Hhw.out.new hmW)
  clear Hhw
  have Hhw := Lib.hid Hhw2.out
  clear Hhw2
  have HmW := Lib.hid (HmV.out.trans hmW (fun _ _ h => h)); have HkW := Lib.hid (hmW.blk HkV.out (fun h => h)); have HbW := Lib.hid (hmW.blk HbV.out (fun h => h))
  clear hmW z0 z1 z2
  by_cases hp : 0 < pinsC c.clk k
  · have hd : decide (0 < pinsC c.clk k) = true := decide_eq_true hp
    rw [hd]
    have Hp2 := Lib.hid hp
    clear hp hd
    go_wp2_with fail
    go_ret
    have e : dropC c k = (c, false) := by unfold dropC; rw [if_neg (fun h => by have := Hp2.out; omega)]
    rw [e]
    exact ⟨rfl, Hhw.out, HmW.out.mono (fun _ _ h => h.elim)⟩
  have hd : decide (0 < pinsC c.clk k) = false := decide_eq_false hp
  rw [hd]
  have Hp0 : Hid (pinsC c.clk k = 0) := Lib.hid (by have := pins_pos Hh.out.good.clk k; omega)
  have Hoks : Hid (ok = (findK k c.clk.ps).isSome) := Lib.hid (by have h := drop_ok c.clk k; rw [Hst.out] at h; exact h)
  clear hp hd
  have HP : Hid (∀ W', Mod (fun _ => False) W W' → Calls Try.prog 25 #[.agg #[.int .i64 c.clk.most, .int .i64 c.clk.target, .slice A n cap, .int .i64 (c.clk.hot : Int), .int .i64 (c.clk.cold : Int), .int .i64 (c.clk.test : Int)], .agg #[.int .i64 k.s, .int .i64 k.l, .int .i64 k.b]] W' fun e w' => ∃ A5 n5 c5, e = .returned (.tuple #[.agg #[.int .i64 c2.most, .int .i64 c2.target, .slice A5 n5 c5, .int .i64 (c2.hot : Int), .int .i64 (c2.cold : Int), .int .i64 (c2.test : Int)], .bool ok]) ∧ OwnP W.heap.size w' 39 (.slice A5 n5 c5) c2.ps ∧ Mod (fun _ => False) W' w') := Lib.hid (fun W' h => by
    refine (ckDrop_any c.clk k A n cap W' (RdsP.new Hr.out (HmW.out.trans h (fun _ _ h => h))).fit (by have := Hn2.out; omega) Hh.out.good.clk.base).mono ?_
    rw [Hst.out]
    rintro e w' ⟨vp, rfl, h1, h3⟩
    obtain ⟨A5, c5, rfl, _⟩ := OwnP.form h1
    exact ⟨A5, _, c5, rfl, OwnP.mono h1 h.size, h3⟩)
  have y0 := HbW.out.cell 0
  have y1 := HbW.out.cell 1
  have y2 := HbW.out.cell 2
  have y3 := HbW.out.cell 3
  have y4 := HbW.out.cell 4
  have y5 := HbW.out.cell 5
  have y6 := HbW.out.cell 6
  simp [cacC] at y0 y1 y2 y3 y4 y5 y6
  have z0 := HkW.out.cell 0
  have z1 := HkW.out.cell 1
  have z2 := HkW.out.cell 2
  simp at z0 z1 z2
  have y0a : ∀ o, (W.alloc o).cell? ⟨g, 0, none⟩ = some (.int .i64 c.clk.most) := fun o => ((HbW.out.alloc o).cell 0).trans rfl
  have y1a : ∀ o, (W.alloc o).cell? ⟨g, 1, none⟩ = some (.int .i64 c.clk.target) := fun o => ((HbW.out.alloc o).cell 1).trans rfl
  have y2a : ∀ o, (W.alloc o).cell? ⟨g, 2, none⟩ = some (.slice A n cap) := fun o => ((HbW.out.alloc o).cell 2).trans rfl
  have y3a : ∀ o, (W.alloc o).cell? ⟨g, 3, none⟩ = some (.int .i64 (c.clk.hot : Int)) := fun o => ((HbW.out.alloc o).cell 3).trans rfl
  have y4a : ∀ o, (W.alloc o).cell? ⟨g, 4, none⟩ = some (.int .i64 (c.clk.cold : Int)) := fun o => ((HbW.out.alloc o).cell 4).trans rfl
  have y5a : ∀ o, (W.alloc o).cell? ⟨g, 5, none⟩ = some (.int .i64 (c.clk.test : Int)) := fun o => ((HbW.out.alloc o).cell 5).trans rfl
  have z0a : ∀ o, (W.alloc o).cell? ⟨g4, 0, none⟩ = some (.int .i64 k.s) := fun o => ((HkW.out.alloc o).cell 0).trans rfl
  have z1a : ∀ o, (W.alloc o).cell? ⟨g4, 1, none⟩ = some (.int .i64 k.l) := fun o => ((HkW.out.alloc o).cell 1).trans rfl
  have z2a : ∀ o, (W.alloc o).cell? ⟨g4, 2, none⟩ = some (.int .i64 k.b) := fun o => ((HkW.out.alloc o).cell 2).trans rfl
  have HEND : Hid (ok = true → ∀ w' A7 n7 c7, Blk w' g 55 (cacC c2 (.slice A7 n7 c7) b) → OwnP B w' 39 (.slice A7 n7 c7) c2.ps → MapC B w' b N (setR c.sam k none) (if (c.sam k).isSome then framesC c - 1 else framesC c) → B ≤ w'.heap.size → CacV B g b N w' (dropC c k).1) := Lib.hid (fun hok w' A7 n7 c7 h1 h2 h3 h4 => by
    have hg := (dropC_good Hh.out.good k).1
    have e : dropC c k = (⟨c2, setR c.sam k none⟩, true) := by
      unfold dropC
      rw [if_pos ⟨by rw [← Hoks.out, hok], Hp0.out⟩, Hst.out]
      rfl
    have hf := drop_frames (k := k) Hh.out.good (by rw [e])
    have hp := pins_drop (k := k) Hh.out.pins
    have hs : (c.sam k).isSome = resAt c.clk k := by rw [Bool.eq_iff_iff]; exact Hh.out.good.sam k
    rw [hs] at h3
    rw [Hst.out] at hp
    rw [e] at hg hf ⊢
    have hsz : (if resAt c.clk k = true then framesC c - 1 else framesC c) = framesC ⟨c2, setR c.sam k none⟩ := by
      simp only at hf
      split
      · rename_i hr; rw [if_pos hr] at hf; omega
      · rename_i hr; rw [if_neg hr] at hf; omega
    rw [hsz] at h3
    refine ⟨hg, ⟨_, h1, h2⟩, h3, fun x hx => ?_, hp, h4, fun x r hx => ?_⟩
    · simp only [setR] at hx
      by_cases hxk : x = k
      · rw [if_pos hxk] at hx; cases hx
      · rw [if_neg hxk] at hx; exact Hh.out.fit x hx
    · simp only [setR] at hx
      by_cases hxk : x = k
      · rw [if_pos hxk] at hx; cases hx
      · rw [if_neg hxk] at hx; exact Hh.out.short x r hx)
  have HNO : Hid (ok = false → dropC c k = (c, false)) := Lib.hid (fun hok => by
    unfold dropC
    rw [if_neg (fun h => by rw [← Hoks.out, hok] at h; exact absurd h.1 (by decide))])
  have HYES : Hid (ok = true → (dropC c k).2 = true) := Lib.hid (fun hok => by
    unfold dropC
    rw [if_pos ⟨by rw [← Hoks.out, hok], Hp0.out⟩])
  clear Hst
  go_upto_region 3 with fail
  go_cut [5, 6] from 5 to 18 (fun s7 s8 wx => ∃ g7 A7 n7 c7, s7 = .pointer (some ⟨g7, 0, none⟩) ∧ s8 = .bool ok ∧ ClkV W.heap.size g7 wx (.slice A7 n7 c7) c2 ∧ Mod (fun _ => False) W wx ∧ W.heap.size ≤ g7)
  case first =>
    as_aux_lemma =>
      go_region_with (first
        | (go_at_call 25; (with_reducible refine (HP.out W.drew ((Mod.refl _ _).drew)).mono ?_); rintro e w5 ⟨A5, n5, c5, rfl, h1, h3⟩; have H1 := Lib.hid h1; have H3 : Hid (Mod (fun _ => False) W w5) := Lib.hid (((Mod.refl _ _).drew).trans h3 (fun _ _ h => h)); clear h1 h3)
        | (go_at_call 25; (with_reducible refine (HP.out (W.alloc (.cells #[.int .i64 0, .int .i64 0, .slice none 0 0, .int .i64 0, .int .i64 0, .int .i64 0] 36)).drew (((Mod.refl _ _).alloc _).drew)).mono ?_); rintro e w5 ⟨A5, n5, c5, rfl, h1, h3⟩; have H1 := Lib.hid h1; have hg9 : Blk w5 W.heap.size 36 #[.int .i64 0, .int .i64 0, .slice none 0 0, .int .i64 0, .int .i64 0, .int .i64 0] := h3.blk (Blk.drew (Blk.new W _ _)) (fun h => h); have HG9 := Lib.hid hg9; have H3 : Hid (Mod (fun _ => False) W w5) := Lib.hid ((((Mod.refl _ _).alloc _).drew).trans h3 (fun _ _ h => h)); have r0 := hg9.cell 0; have f0 := hg9.frozen 0; have r1 := hg9.cell 1; have f1 := hg9.frozen 1; have r2 := hg9.cell 2; have f2 := hg9.frozen 2; have r3 := hg9.cell 3; have f3 := hg9.frozen 3; have r4 := hg9.cell 4; have f4 := hg9.frozen 4; have r5 := hg9.cell 5; have f5 := hg9.frozen 5; simp at r0 r1 r2 r3 r4 r5; clear h1 h3 hg9))
      all_goals (go_wp2_with fail; go_meet)
      all_goals (
        refine ⟨_, A5, n5, c5, rfl, rfl, ?_⟩
        first
          | (have h8 := HG9.out; exact clk_over c2 rfl h8 (Nat.le_refl _) H1.out (Nat.le_refl _) H3.out)
          | exact clk_new c2 rfl H1.out (Nat.le_refl _) H3.out)
  case rest =>
    as_aux_lemma =>
      obtain ⟨w7, rfl⟩ : ∃ w0 : World, w0 = wc := ⟨_, rfl⟩
      obtain ⟨g7, A7, n7, c7, rfl, rfl, hc7, hm7, hg7⟩ := hcut
      clear y0 y1 y2 y3 y4 y5 y6 z0 z1 z2 y0a y1a y2a y3a y4a y5a z0a z1a z2a
      clear hg7
      have hb7 := hm7.blk HbW.out (fun h => h)
      have u0 := hb7.cell 0
      have f0 := hb7.frozen 0
      have u1 := hb7.cell 1
      have f1 := hb7.frozen 1
      have u2 := hb7.cell 2
      have f2 := hb7.frozen 2
      have u3 := hb7.cell 3
      have f3 := hb7.frozen 3
      have u4 := hb7.cell 4
      have f4 := hb7.frozen 4
      have u5 := hb7.cell 5
      have f5 := hb7.frozen 5
      simp [cacC] at u0 u1 u2 u3 u4 u5
      obtain ⟨y0, y1, y2, y3, y4, y5⟩ := hc7.cells
      have hst := cac_stored (Hhw.out.new hm7) (Nat.le_trans Hh.out.low HmW.out.size) hb7 hc7
      obtain ⟨w8, hw8, hb8, hp8, hma8, hm8⟩ := hst
      have Hw8 := Lib.hid hw8; have Hb8 := Lib.hid hb8; have Hp8 := Lib.hid hp8; have Hma8 := Lib.hid hma8; have Hm8 := Lib.hid hm8; have Hm7 := Lib.hid hm7
      clear hw8 hb8 hp8 hma8 hm8 hb7
      clear hc7 hm7
      cases ok with
      | false =>
        go_wp2_with fail
        go_ret
        have e := HNO.out (by simp)
        rw [e]
        exact ⟨rfl, Hhw.out.new Hm7.out, ((HmW.out.trans Hm7.out (fun _ _ h => h)).mono (fun _ _ h => h.elim))⟩
      | true =>
        go_upto_region 7 with fail
        rw [← Hw8.out]
        clear y0 y1 y2 y3 y4 y5 u0 u1 u2 u3 u4 u5 f0 f1 f2 f3 f4 f5
        have q6 := (Hb8.out).cell 6
        simp [cacC] at q6
        have hk8 : Blk w8 g4 28 #[.int .i64 k.s, .int .i64 k.l, .int .i64 k.b] := Hm8.out.blk (Hm7.out.blk HkW.out (fun h => h)) (fun e => Hne4.out.1 e)
        have z0 := hk8.cell 0
        have z1 := hk8.cell 1
        have z2 := hk8.cell 2
        simp at z0 z1 z2
        clear hk8
        obtain ⟨w9, hdel, hma9, hm9⟩ := (Hma8.out.new ((Mod.refl _ _).drew)).drop Hk.out 0
        have Hma9 := Lib.hid hma9
        have Hm9 : Hid (Mod (fun j => j = b) w8 w9) := Lib.hid (((Mod.refl _ _).drew).trans hm9 (fun _ _ h => h))
        have Hb9 := Lib.hid (Hm9.out.blk Hb8.out (fun e => Hh.out.ne e.symm))
        have Hp9 := Lib.hid (OwnK.modS Hp8.out Hm9.out (fun j hj e => by obtain ⟨cs, hbk⟩ := own_blk Hp8.out j hj; subst e; exact Hma8.out.not_cells hbk))
        clear hma9 hm9
        go_region
        all_goals (
          go_wp2_with fail
          go_ret
          rw [HYES.out (by simp)]
          exact ⟨rfl, HEND.out (by simp) _ _ _ _ Hb9.out Hp9.out Hma9.out (by have := Hh.out.low; have := HmW.out.size; have := Hm7.out.size; have := Hm8.out.size; have := Hm9.out.size; omega), (((HmW.out.trans Hm7.out (fun _ _ h => h)).mono (fun _ _ h => h.elim)).trans (Hm8.out.mono (fun _ _ h => .inl h)) (fun _ _ h => h)).trans (Hm9.out.mono (fun _ _ h => .inr h)) (fun _ _ h => h)⟩)
end Go.Proofs.Ytcoajldhhimmoaa
