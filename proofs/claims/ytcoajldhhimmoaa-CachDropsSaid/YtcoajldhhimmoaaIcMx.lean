/- pin, Pin, Unpin of the cache. -/
import Derived.Test.YtcoajldhhimmoaaMx1
import Derived.Test.YtcoajldhhimmoaaMx7
import Derived.Test.YtcoajldhhimmoaaMx10
namespace Go.Proofs.Ytcoajldhhimmoaa
open Go.RowKit

set_option maxHeartbeats 4000000 in
set_option maxRecDepth 100000 in
theorem ccpin_any {B g b N : Nat} {c : CacN} (k : KeyN) (m : Int) (w : World) (h : CacV B g b N w c) (hN : N < 1000000) (hm : -1 ≤ m ∧ m ≤ 1) : Calls Try.prog 24 #[.pointer (some ⟨g, 0, none⟩), .agg #[.int .i64 k.s, .int .i64 k.l, .int .i64 k.b], .int .i64 m] w fun e w' =>
    e = .returned (.bool (pinK c.clk k m).2) ∧ CacV B g b (N + 1) w' { c with clk := (pinK c.clk k m).1 } ∧ Mod (fun j => j = g) w w' := by
  obtain ⟨⟨c2, ok⟩, hst⟩ : ∃ r, pinK c.clk k m = r := ⟨_, rfl⟩
  have Hst := Lib.hid hst
  have HNm : Hid (N < 1000000 ∧ -1 ≤ m ∧ m ≤ 1) := Lib.hid ⟨hN, hm⟩
  rw [hst]
  dsimp only
  clear hst hN hm
  obtain ⟨A, n, cap, Hb, Hp, Hn, Hr⟩ := h.open_
  obtain ⟨W, hW, hmW, hkW, hzW⟩ := Blk.boxed w 28 #[.int .i64 k.s, .int .i64 k.l, .int .i64 k.b]
  obtain ⟨g4, hg4⟩ : ∃ g, g = w.heap.size := ⟨_, rfl⟩
  rw [← hg4] at hkW
  have Hh := Lib.hid h
  have Hhw := Lib.hid (h.new hmW)
  have HW := Lib.hid hW; have HmW := Lib.hid hmW; have HkW := Lib.hid hkW; have Hg4 := Lib.hid hg4
  have Hne4 : Hid (g4 ≠ g ∧ g < w.heap.size) := Lib.hid (by have := h.lt; omega)
  have HbW := Lib.hid (hmW.blk Hb.out (fun h => h))
  have Hn2 : Hid (n ≤ 2000) := Lib.hid (by have h1 := Hn.out; have h9 : c.clk.ps.length ≤ 2000 := h.good.clk.len; omega)
  clear h hW hmW hkW hg4 hzW
  have HP : Hid (∀ W', Mod (fun _ => False) W W' → Calls Try.prog 36 #[.agg #[.int .i64 c.clk.most, .int .i64 c.clk.target, .slice A n cap, .int .i64 (c.clk.hot : Int), .int .i64 (c.clk.cold : Int), .int .i64 (c.clk.test : Int)], .agg #[.int .i64 k.s, .int .i64 k.l, .int .i64 k.b], .int .i64 m] W' fun e w' => ∃ A5 n5 c5, e = .returned (.tuple #[.agg #[.int .i64 c2.most, .int .i64 c2.target, .slice A5 n5 c5, .int .i64 (c2.hot : Int), .int .i64 (c2.cold : Int), .int .i64 (c2.test : Int)], .bool ok]) ∧ OwnP W.heap.size w' 39 (.slice A5 n5 c5) c2.ps ∧ Mod (fun _ => False) W' w') := Lib.hid (fun W' h => by
    refine (ckPin_any c.clk k m A n cap W' (RdsP.new Hr.out (HmW.out.trans h (fun _ _ h => h))).fit (by have := Hn2.out; omega) (by have := HNm.out; omega) (fun p hp2 => ⟨(Hh.out.good.clk.base.pgs.1 p hp2).2.1, by have := Hh.out.pins p hp2; have := HNm.out; omega⟩)).mono ?_
    rw [Hst.out]
    rintro e w' ⟨vp, rfl, h1, h3⟩
    obtain ⟨A5, c5, rfl, _⟩ := OwnP.form h1
    exact ⟨A5, _, c5, rfl, OwnP.mono h1 h.size, h3⟩)
  have y0 := HbW.out.cell 0
  have y1 := HbW.out.cell 1
  have y2 := HbW.out.cell 2
  have y3 := HbW.out.cell 3
  have y4 := HbW.out.cell 4
  have y5 := HbW.out.cell 5
  have y6 := HbW.out.cell 6
  simp [cacC] at y0 y1 y2 y3 y4 y5 y6
  have z0 := HkW.out.cell 0
  have z1 := HkW.out.cell 1
  have z2 := HkW.out.cell 2
  simp at z0 z1 z2
  have y0a : ∀ o, (W.alloc o).cell? ⟨g, 0, none⟩ = some (.int .i64 c.clk.most) := fun o => ((HbW.out.alloc o).cell 0).trans rfl
  have y1a : ∀ o, (W.alloc o).cell? ⟨g, 1, none⟩ = some (.int .i64 c.clk.target) := fun o => ((HbW.out.alloc o).cell 1).trans rfl
  have y2a : ∀ o, (W.alloc o).cell? ⟨g, 2, none⟩ = some (.slice A n cap) := fun o => ((HbW.out.alloc o).cell 2).trans rfl
  have y3a : ∀ o, (W.alloc o).cell? ⟨g, 3, none⟩ = some (.int .i64 (c.clk.hot : Int)) := fun o => ((HbW.out.alloc o).cell 3).trans rfl
  have y4a : ∀ o, (W.alloc o).cell? ⟨g, 4, none⟩ = some (.int .i64 (c.clk.cold : Int)) := fun o => ((HbW.out.alloc o).cell 4).trans rfl
  have y5a : ∀ o, (W.alloc o).cell? ⟨g, 5, none⟩ = some (.int .i64 (c.clk.test : Int)) := fun o => ((HbW.out.alloc o).cell 5).trans rfl
  have z0a : ∀ o, (W.alloc o).cell? ⟨g4, 0, none⟩ = some (.int .i64 k.s) := fun o => ((HkW.out.alloc o).cell 0).trans rfl
  have z1a : ∀ o, (W.alloc o).cell? ⟨g4, 1, none⟩ = some (.int .i64 k.l) := fun o => ((HkW.out.alloc o).cell 1).trans rfl
  have z2a : ∀ o, (W.alloc o).cell? ⟨g4, 2, none⟩ = some (.int .i64 k.b) := fun o => ((HkW.out.alloc o).cell 2).trans rfl
  have HEND : Hid (CacV B g b (N + 1) w c → ∀ w' A7 n7 c7, Blk w' g 55 (cacC c2 (.slice A7 n7 c7) b) → OwnP B w' 39 (.slice A7 n7 c7) c2.ps → MapC B w' b N c.sam (framesC c) → B ≤ w'.heap.size → CacV B g b (N + 1) w' { c with clk := c2 }) := Lib.hid (fun _ w' A7 n7 c7 h1 h2 h3 h4 => by
    have hg := pinC_good Hh.out.good k m
    have hf := pin_frames c k m
    have hp := pins_pin (k := k) (n := m) (d := 1) Hh.out.good.clk Hh.out.pins (by omega) (by have := HNm.out; omega) (by omega)
    rw [Hst.out] at hg hf hp
    exact ⟨hg, ⟨_, h1, h2⟩, by rw [hf]; exact h3.more (by omega), Hh.out.fit, by simpa using hp, h4, Hh.out.short⟩)
  go_enter Try.func24, Try.ntmps24
  go_upto_region 1 with fail
  rw [← HW.out, ← Hg4.out]
  go_cut [7, 8] from 7 to 18 (fun s7 s8 wx => ∃ g7 A7 n7 c7, s7 = .pointer (some ⟨g7, 0, none⟩) ∧ s8 = .bool ok ∧ ClkV W.heap.size g7 wx (.slice A7 n7 c7) c2 ∧ Mod (fun _ => False) W wx ∧ W.heap.size ≤ g7)
  case first =>
    as_aux_lemma =>
      go_region_with (first
        | (go_at_call 36; (with_reducible refine (HP.out W.drew ((Mod.refl _ _).drew)).mono ?_); rintro e w5 ⟨A5, n5, c5, rfl, h1, h3⟩; have H1 := Lib.hid h1; have H3 : Hid (Mod (fun _ => False) W w5) := Lib.hid (((Mod.refl _ _).drew).trans h3 (fun _ _ h => h)); clear h1 h3)
        | (go_at_call 36; (with_reducible refine (HP.out (W.alloc (.cells #[.int .i64 0, .int .i64 0, .slice none 0 0, .int .i64 0, .int .i64 0, .int .i64 0] 36)).drew (((Mod.refl _ _).alloc _).drew)).mono ?_); rintro e w5 ⟨A5, n5, c5, rfl, h1, h3⟩; have H1 := Lib.hid h1; have hg9 : Blk w5 W.heap.size 36 #[.int .i64 0, .int .i64 0, .slice none 0 0, .int .i64 0, .int .i64 0, .int .i64 0] := h3.blk (Blk.drew (Blk.new W _ _)) (fun h => h); have HG9 := Lib.hid hg9; have H3 : Hid (Mod (fun _ => False) W w5) := Lib.hid ((((Mod.refl _ _).alloc _).drew).trans h3 (fun _ _ h => h)); have r0 := hg9.cell 0; have f0 := hg9.frozen 0; have r1 := hg9.cell 1; have f1 := hg9.frozen 1; have r2 := hg9.cell 2; have f2 := hg9.frozen 2; have r3 := hg9.cell 3; have f3 := hg9.frozen 3; have r4 := hg9.cell 4; have f4 := hg9.frozen 4; have r5 := hg9.cell 5; have f5 := hg9.frozen 5; simp at r0 r1 r2 r3 r4 r5; clear h1 h3 hg9))
      all_goals (go_wp2_with fail; go_meet)
      all_goals (
        refine ⟨_, A5, n5, c5, rfl, rfl, ?_⟩
        first
          | (have h8 := HG9.out; exact clk_over c2 rfl h8 (Nat.le_refl _) H1.out (Nat.le_refl _) H3.out)
          | exact clk_new c2 rfl H1.out (Nat.le_refl _) H3.out)
  case rest =>
    as_aux_lemma =>
      obtain ⟨w7, rfl⟩ : ∃ w0 : World, w0 = wc := ⟨_, rfl⟩
      obtain ⟨g7, A7, n7, c7, rfl, rfl, hc7, hm7, hg7⟩ := hcut
      clear y0 y1 y2 y3 y4 y5 y6 z0 z1 z2 y0a y1a y2a y3a y4a y5a z0a z1a z2a
      clear hg7
      have hb7 := hm7.blk HbW.out (fun h => h)
      have u0 := hb7.cell 0
      have f0 := hb7.frozen 0
      have u1 := hb7.cell 1
      have f1 := hb7.frozen 1
      have u2 := hb7.cell 2
      have f2 := hb7.frozen 2
      have u3 := hb7.cell 3
      have f3 := hb7.frozen 3
      have u4 := hb7.cell 4
      have f4 := hb7.frozen 4
      have u5 := hb7.cell 5
      have f5 := hb7.frozen 5
      simp [cacC] at u0 u1 u2 u3 u4 u5
      obtain ⟨y0, y1, y2, y3, y4, y5⟩ := hc7.cells
      have hst := cac_stored (Hhw.out.new hm7) (Nat.le_trans Hh.out.low HmW.out.size) hb7 hc7
      obtain ⟨w8, hw8, hb8, hp8, hma8, hm8⟩ := hst
      have Hw8 := Lib.hid hw8; have Hb8 := Lib.hid hb8; have Hp8 := Lib.hid hp8; have Hma8 := Lib.hid hma8; have Hm8 := Lib.hid hm8; have Hm7 := Lib.hid hm7
      clear hw8 hb8 hp8 hma8 hm8 hb7
      clear hc7 hm7
      cases ok with
      | false =>
        go_wp2_with fail
        go_ret
        have hc2 : c2 = c.clk := by have h := pin_none (c := c.clk) (k := k) (m := m) (by rw [Hst.out]); rw [Hst.out] at h; exact h
        rw [hc2]
        exact ⟨rfl, (Hhw.out.new Hm7.out).more (by omega), (HmW.out.trans Hm7.out (fun _ _ h => h)).mono (fun _ _ h => h.elim)⟩
      | true =>
        go_upto_region 5 with fail
        rw [← Hw8.out]
        go_wp2_with fail
        go_ret
        exact ⟨rfl, HEND.out (Hh.out.more (by omega)) _ _ _ _ Hb8.out Hp8.out Hma8.out (by have := Hh.out.low; have := HmW.out.size; have := Hm7.out.size; have := Hm8.out.size; omega), ((HmW.out.trans Hm7.out (fun _ _ h => h)).mono (fun _ _ h => h.elim)).trans Hm8.out (fun _ _ h => h)⟩
theorem ccPin_any {B g b N : Nat} {c : CacN} (k : KeyN) (w : World) (h : CacV B g b N w c) (hN : N < 1000000) : Calls Try.prog 15 #[.pointer (some ⟨g, 0, none⟩), .agg #[.int .i64 k.s, .int .i64 k.l, .int .i64 k.b]] w fun e w' =>
    e = .returned (.bool (pinC c k).2) ∧ CacV B g b (N + 1) w' (pinC c k).1 ∧ Mod (fun j => j = g) w w' := by
  obtain ⟨W, hW, hmW, hkW, hzW⟩ := Blk.boxed w 28 #[.int .i64 k.s, .int .i64 k.l, .int .i64 k.b]
  obtain ⟨g4, hg4⟩ : ∃ g, g = w.heap.size := ⟨_, rfl⟩
  rw [← hg4] at hkW
  have z0 := hkW.cell 0
  have z1 := hkW.cell 1
  have z2 := hkW.cell 2
  simp at z0 z1 z2
  have Hhw := Lib.hid (h.new hmW); have HmW := Lib.hid hmW; have HW := Lib.hid hW; have Hg4 := Lib.hid hg4; have HN := Lib.hid hN
  clear h hW hmW hkW hg4 hN hzW
  go_enter Try.func15, Try.ntmps15
  go_upto_region 1 with fail
  rw [← HW.out, ← Hg4.out]
  go_wp2_with fail
  refine (ccpin_any k 1 W Hhw.out HN.out (by omega)).mono ?_
  rintro e w1 ⟨rfl, h1, h2⟩
  have H1 := Lib.hid h1; have H2 := Lib.hid h2
  clear h1 h2
  go_wp2_with fail
  go_ret
  exact ⟨rfl, H1.out, (HmW.out.mono (fun _ _ h => h.elim)).trans H2.out (fun _ _ h => h)⟩
/-- What Unpin comes to. -/
theorem unpin_is {c : CacN} (h : Good c.clk) (k : KeyN) : unpinC c k = if 0 < pinsC c.clk k then ({ c with clk := (pinK c.clk k (-1)).1 }, (pinK c.clk k (-1)).2) else (c, false) := by
  unfold unpinC
  by_cases hp : 0 < pinsC c.clk k
  · have hr := pins_resi h hp
    rw [if_pos ⟨hr, hp⟩, if_pos hp]
    have h5 := ((pin_is h k (-1)).2.2.2.1)
    have h4 : (pinK c.clk k (-1)).2 = true := by
      obtain ⟨n, hn⟩ := (resAt_res h.base k).1 hr
      obtain ⟨_, _, _, _, h3, _⟩ := pin_split h hn (-1)
      exact h3
    rw [h4]
  · rw [if_neg hp, if_neg (fun h => hp h.2)]
theorem ccUnpin_any {B g b N : Nat} {c : CacN} (k : KeyN) (w : World) (h : CacV B g b N w c) (hN : N < 1000000) : Calls Try.prog 13 #[.pointer (some ⟨g, 0, none⟩), .agg #[.int .i64 k.s, .int .i64 k.l, .int .i64 k.b]] w fun e w' =>
    e = .returned (.bool (unpinC c k).2) ∧ CacV B g b (N + 1) w' (unpinC c k).1 ∧ Mod (fun j => j = g) w w' := by
  obtain ⟨W, hW, hmW, hkW, hzW⟩ := Blk.boxed w 28 #[.int .i64 k.s, .int .i64 k.l, .int .i64 k.b]
  obtain ⟨g4, hg4⟩ : ∃ g, g = w.heap.size := ⟨_, rfl⟩
  rw [← hg4] at hkW
  have z0 := hkW.cell 0
  have z1 := hkW.cell 1
  have z2 := hkW.cell 2
  simp at z0 z1 z2
  have Hu := Lib.hid (unpin_is h.good.clk k)
  have Hhw := Lib.hid (h.new hmW); have HmW := Lib.hid hmW; have HW := Lib.hid hW; have Hg4 := Lib.hid hg4; have HN := Lib.hid hN; have HkW := Lib.hid hkW
  clear h hW hmW hkW hg4 hN hzW
  go_enter Try.func13, Try.ntmps13
  go_upto_region 1 with fail
  rw [← HW.out, ← Hg4.out]
  go_wp2_with fail
  refine (ccIsPinned_any k W Hhw.out).mono ?_
  rintro e w1 ⟨rfl, h1⟩
  have Hh1 := Lib.hid (Hhw.out.new h1); have Hm1 := Lib.hid (HmW.out.trans h1 (fun _ _ h => h))
  have hk1 := h1.blk HkW.out (fun h => h)
  clear z0 z1 z2
  have z0 := hk1.cell 0
  have z1 := hk1.cell 1
  have z2 := hk1.cell 2
  simp at z0 z1 z2
  clear h1 hk1
  by_cases hp : 0 < pinsC c.clk k
  · have hd : decide (0 < pinsC c.clk k) = true := decide_eq_true hp
    rw [hd]
    have Hp := Lib.hid hp
    clear hp hd
    go_wp2_with fail
    refine (ccpin_any k (-1) w1 Hh1.out HN.out (by omega)).mono ?_
    rintro e w2 ⟨rfl, h1, h2⟩
    have H1 := Lib.hid h1; have H2 := Lib.hid h2
    clear h1 h2
    go_wp2_with fail
    go_ret
    rw [Hu.out, if_pos Hp.out]
    exact ⟨rfl, H1.out, (Hm1.out.mono (fun _ _ h => h.elim)).trans H2.out (fun _ _ h => h)⟩
  · have hd : decide (0 < pinsC c.clk k) = false := decide_eq_false hp
    rw [hd]
    have Hp := Lib.hid hp
    clear hp hd
    go_wp2_with fail
    go_ret
    rw [Hu.out, if_neg (show ¬ 0 < pinsC c.clk k by have := Hp.out; omega)]
    exact ⟨rfl, Hh1.out.more (by omega), Hm1.out.mono (fun _ _ h => h.elim)⟩
end Go.Proofs.Ytcoajldhhimmoaa
