/- Put of the cache. -/
import Derived.Test.YtcoajldhhimmoaaMx1
import Derived.Test.YtcoajldhhimmoaaMx7
import Derived.Test.YtcoajldhhimmoaaMx10
namespace Go.Proofs.Ytcoajldhhimmoaa
open Go.RowKit

theorem out_at {w : World} {B n i : Nat} {A : Option Addr} {ks : List KeyN} (h : RdsK 3 w B A n (ks.map keyC)) (hi : i < n) : ∃ ad k, A = some ad ∧ ks[i]? = some k ∧
    w.cell? (ad.add (i * 3)) = some (.int .i64 k.s) ∧ w.cell? ⟨(ad.add (i * 3)).block, (ad.add (i * 3)).off + 1, none⟩ = some (.int .i64 k.l) ∧ w.cell? ⟨(ad.add (i * 3)).block, (ad.add (i * 3)).off + 2, none⟩ = some (.int .i64 k.b) := by
  obtain ⟨ad, r, e, hb, hr, hl, hc⟩ := RdsK.at_ h hi (by decide)
  rw [List.getElem?_map] at hr
  obtain ⟨p, hp, rfl⟩ := Option.map_eq_some_iff.1 hr
  refine ⟨ad, p, e, hp, hc 0 _ rfl, ?_, ?_⟩
  · rw [add_cellK 3 _ _ _ (by decide)]; exact hc 1 _ rfl
  · rw [add_cellK 3 _ _ _ (by decide)]; exact hc 2 _ rfl
/-- Without the first i that were put out. -/
def lessC (F : KeyN → Option (List (Int × Nat))) (os : List KeyN) (i : Nat) : KeyN → Option (List (Int × Nat)) := fun x => if x ∈ os.take i then none else F x
theorem less_zero (F : KeyN → Option (List (Int × Nat))) (os : List KeyN) : lessC F os 0 = F := by funext x; simp [lessC]
theorem less_one (F : KeyN → Option (List (Int × Nat))) {os : List KeyN} {o : KeyN} (h : os[0]? = some o) : setR (lessC F os 0) o none = lessC F os 1 := by
  funext x
  cases os with
  | nil => cases h
  | cons a t =>
    injection h with h
    subst h
    simp [lessC, setR]
set_option maxHeartbeats 6000000 in
set_option maxRecDepth 100000 in
theorem ccPut_any {B g b N : Nat} {c : CacN} (k : KeyN) (As : Option Addr) (ns cs : Nat) (l : List (Int × Nat)) (w : World) (h : CacV B g b N w c) (hk : KeyFit k) (hs : SliH 0 w (.slice As ns cs) l) (hns : ns ≤ 100000) (hN : N < 1000000) : Calls Try.prog 9 #[.pointer (some ⟨g, 0, none⟩), .agg #[.int .i64 k.s, .int .i64 k.l, .int .i64 k.b], .slice As ns cs] w fun e w' =>
    e = .returned (.bool (putC c k l).2) ∧ CacV B g b (N + 1) w' (putC c k l).1 ∧ Mod (fun j => j = g ∨ j = b) w w' := by
  obtain ⟨⟨c2, os, ok⟩, hst⟩ : ∃ r, admitK c.clk k = r := ⟨_, rfl⟩
  have Hst := Lib.hid hst
  have Hk := Lib.hid hk; have Hs := Lib.hid hs; have Hns := Lib.hid hns; have HN := Lib.hid hN
  clear hst hk hs hns hN
  obtain ⟨A, n, cap, Hb, Hp, Hn, Hr⟩ := h.open_
  obtain ⟨W, hW, hmW, hkW, hzW⟩ := Blk.boxed w 28 #[.int .i64 k.s, .int .i64 k.l, .int .i64 k.b]
  obtain ⟨g4, hg4⟩ : ∃ g, g = w.heap.size := ⟨_, rfl⟩
  rw [← hg4] at hkW
  have Hh := Lib.hid h
  have Hhw := Lib.hid (h.new hmW)
  have HW := Lib.hid hW; have HmW := Lib.hid hmW; have HkW := Lib.hid hkW; have Hg4 := Lib.hid hg4
  have Hne4 : Hid (g4 ≠ g ∧ g < w.heap.size) := Lib.hid (by have := h.lt; omega)
  have HbW := Lib.hid (hmW.blk Hb.out (fun h => h))
  have Hn2 : Hid (n ≤ 2000) := Lib.hid (by have h1 := Hn.out; have h9 : c.clk.ps.length ≤ 2000 := h.good.clk.len; omega)
  clear h hW hmW hkW hg4 hzW
  have HP : Hid (∀ W', Mod (fun _ => False) W W' → Calls Try.prog 20 #[.agg #[.int .i64 c.clk.most, .int .i64 c.clk.target, .slice A n cap, .int .i64 (c.clk.hot : Int), .int .i64 (c.clk.cold : Int), .int .i64 (c.clk.test : Int)], .agg #[.int .i64 k.s, .int .i64 k.l, .int .i64 k.b]] W' fun e w' => ∃ vo A5 n5 c5, e = .returned (.tuple #[.agg #[.int .i64 c2.most, .int .i64 c2.target, .slice A5 n5 c5, .int .i64 (c2.hot : Int), .int .i64 (c2.cold : Int), .int .i64 (c2.test : Int)], vo, .bool ok]) ∧ OwnP W.heap.size w' 39 (.slice A5 n5 c5) c2.ps ∧ OwnK 3 W.heap.size w' 28 vo (os.map keyC) ∧ Mod (fun _ => False) W' w') := Lib.hid (fun W' h => by
    refine (ckAdmit_any c.clk k A n cap W' (RdsP.new Hr.out (HmW.out.trans h (fun _ _ h => h))).fit (by have := Hn2.out; omega) Hh.out.good.clk).mono ?_
    rw [Hst.out]
    rintro e w' ⟨vp, vo, rfl, h1, h2, h3⟩
    obtain ⟨A5, c5, rfl, _⟩ := OwnP.form h1
    exact ⟨vo, A5, _, c5, rfl, OwnP.mono h1 h.size, OwnK.mono h2 h.size, h3⟩)
  have y0 := HbW.out.cell 0
  have y1 := HbW.out.cell 1
  have y2 := HbW.out.cell 2
  have y3 := HbW.out.cell 3
  have y4 := HbW.out.cell 4
  have y5 := HbW.out.cell 5
  have y6 := HbW.out.cell 6
  simp [cacC] at y0 y1 y2 y3 y4 y5 y6
  have z0 := HkW.out.cell 0
  have z1 := HkW.out.cell 1
  have z2 := HkW.out.cell 2
  simp at z0 z1 z2
  have y0a : ∀ o, (W.alloc o).cell? ⟨g, 0, none⟩ = some (.int .i64 c.clk.most) := fun o => ((HbW.out.alloc o).cell 0).trans rfl
  have y1a : ∀ o, (W.alloc o).cell? ⟨g, 1, none⟩ = some (.int .i64 c.clk.target) := fun o => ((HbW.out.alloc o).cell 1).trans rfl
  have y2a : ∀ o, (W.alloc o).cell? ⟨g, 2, none⟩ = some (.slice A n cap) := fun o => ((HbW.out.alloc o).cell 2).trans rfl
  have y3a : ∀ o, (W.alloc o).cell? ⟨g, 3, none⟩ = some (.int .i64 (c.clk.hot : Int)) := fun o => ((HbW.out.alloc o).cell 3).trans rfl
  have y4a : ∀ o, (W.alloc o).cell? ⟨g, 4, none⟩ = some (.int .i64 (c.clk.cold : Int)) := fun o => ((HbW.out.alloc o).cell 4).trans rfl
  have y5a : ∀ o, (W.alloc o).cell? ⟨g, 5, none⟩ = some (.int .i64 (c.clk.test : Int)) := fun o => ((HbW.out.alloc o).cell 5).trans rfl
  have z0a : ∀ o, (W.alloc o).cell? ⟨g4, 0, none⟩ = some (.int .i64 k.s) := fun o => ((HkW.out.alloc o).cell 0).trans rfl
  have z1a : ∀ o, (W.alloc o).cell? ⟨g4, 1, none⟩ = some (.int .i64 k.l) := fun o => ((HkW.out.alloc o).cell 1).trans rfl
  have z2a : ∀ o, (W.alloc o).cell? ⟨g4, 2, none⟩ = some (.int .i64 k.b) := fun o => ((HkW.out.alloc o).cell 2).trans rfl
  have HNO : Hid (ok = false → putC c k l = (c, false)) := Lib.hid (fun hok => by unfold putC; rw [Hst.out, hok]; rfl)
  have HE : Hid (ok = true → putC c k l = (⟨c2, setC c.sam k l os⟩, true)) := Lib.hid (fun hok => by unfold putC; rw [Hst.out, hok]; rfl)
  have HOUT : Hid (ok = true → os.length ≤ 1 ∧ ∀ o ∈ os, (c.sam o).isSome = true ∧ KeyFit o ∧ o ≠ k) := Lib.hid (fun hok => by
    have h := put_outs (k := k) (l := l) Hh.out.good (by rw [HE.out hok])
    rw [Hst.out] at h
    refine ⟨h.1, fun o ho => ?_⟩
    have h1 := (Hh.out.good.sam o).2 (h.2 o ho).1
    exact ⟨h1, Hh.out.fit o h1, (h.2 o ho).2⟩)
  have HEND : Hid (ok = true → ∀ w' A7 n7 c7, Blk w' g 55 (cacC c2 (.slice A7 n7 c7) b) → OwnP B w' 39 (.slice A7 n7 c7) c2.ps → MapC B w' b (N + 1) (setR (lessC c.sam os os.length) k (some l)) (if (lessC c.sam os os.length k).isSome then framesC c - os.length else framesC c - os.length + 1) → B ≤ w'.heap.size → CacV B g b (N + 1) w' (putC c k l).1) := Lib.hid (fun hok w' A7 n7 c7 h1 h2 h3 h4 => by
    have e := HE.out hok
    have hg := (put_good Hh.out.good k l).1
    have hf := put_frames (k := k) (l := l) Hh.out.good (by rw [e])
    have hp := pins_admit (k := k) Hh.out.good.clk Hh.out.pins (by omega)
    have ho := HOUT.out hok
    have hs : (c.sam k).isSome = resAt c.clk k := by rw [Bool.eq_iff_iff]; exact Hh.out.good.sam k
    have hl : lessC c.sam os os.length k = c.sam k := by
      unfold lessC
      rw [List.take_length, if_neg (fun hx => (ho.2 k hx).2.2 rfl)]
    have hset : setR (lessC c.sam os os.length) k (some l) = setC c.sam k l os := by
      funext x
      unfold setR lessC setC
      rw [List.take_length]
    rw [hl, hs, hset] at h3
    rw [Hst.out] at hp hf
    rw [e] at hg hf ⊢
    have hsz : (if resAt c.clk k = true then framesC c - os.length else framesC c - os.length + 1) = framesC ⟨c2, setC c.sam k l os⟩ := by
      simp only at hf
      have hle : os.length ≤ framesC c := by
        cases hos : os with
        | nil => simp
        | cons a t =>
          have h5 := ho.1
          have h6 := (ho.2 a (by rw [hos]; exact List.mem_cons_self ..)).1
          have h7 := (Hh.out.good.sam a).1 h6
          obtain ⟨m, hm⟩ := (resAt_res Hh.out.good.clk.base a).1 h7
          have h8 : 0 < (resL c.clk.ps).length := List.length_pos_iff.2 (fun e => by rw [e] at hm; cases hm)
          have h9 : framesC c = (resL c.clk.ps).length := (res_len Hh.out.good.clk.base.pgs.1).symm
          rw [hos] at h5
          omega
      split
      · rename_i hr; rw [if_pos hr] at hf; omega
      · rename_i hr; rw [if_neg hr] at hf; omega
    rw [hsz] at h3
    refine ⟨hg, ⟨_, h1, h2⟩, h3, fun x hx => ?_, hp.mono (by omega), h4, fun x r hx => ?_⟩
    · simp only [setC] at hx
      by_cases hxk : x = k
      · rw [hxk]; exact Hk.out
      · rw [if_neg hxk] at hx
        by_cases hxo : x ∈ os
        · rw [if_pos hxo] at hx; cases hx
        · rw [if_neg hxo] at hx; exact Hh.out.fit x hx
    · simp only [setC] at hx
      by_cases hxk : x = k
      · rw [if_pos hxk] at hx
        injection hx with hx
        rw [← hx]
        have h5 := Hs.out.rds.1
        have h6 := Hns.out
        omega
      · rw [if_neg hxk] at hx
        by_cases hxo : x ∈ os
        · rw [if_pos hxo] at hx; cases hx
        · rw [if_neg hxo] at hx; exact Hh.out.short x r hx)
  go_enter Try.func9, Try.ntmps9
  go_upto_region 1 with fail
  rw [← HW.out, ← Hg4.out]
  go_cut [7, 8, 9] from 7 to 21 (fun s7 s8 s9 wx => ∃ g7 A7 n7 c7 vo, s7 = .pointer (some ⟨g7, 0, none⟩) ∧ s8 = vo ∧ s9 = .bool ok ∧ (ClkV W.heap.size g7 wx (.slice A7 n7 c7) c2 ∧ Mod (fun _ => False) W wx ∧ W.heap.size ≤ g7) ∧ OwnK 3 W.heap.size wx 28 vo (os.map keyC))
  case first =>
    as_aux_lemma =>
      go_region_with (first
        | (go_at_call 20; (with_reducible refine (HP.out W.drew ((Mod.refl _ _).drew)).mono ?_); rintro e w5 ⟨vo, A5, n5, c5, rfl, h1, h2, h3⟩; have H1 := Lib.hid h1; have H2 := Lib.hid h2; have H3 : Hid (Mod (fun _ => False) W w5) := Lib.hid (((Mod.refl _ _).drew).trans h3 (fun _ _ h => h)); clear h1 h2 h3)
        | (go_at_call 20; (with_reducible refine (HP.out (W.alloc (.cells #[.int .i64 0, .int .i64 0, .slice none 0 0, .int .i64 0, .int .i64 0, .int .i64 0] 36)).drew (((Mod.refl _ _).alloc _).drew)).mono ?_); rintro e w5 ⟨vo, A5, n5, c5, rfl, h1, h2, h3⟩; have H1 := Lib.hid h1; have H2 := Lib.hid h2; have hg9 : Blk w5 W.heap.size 36 #[.int .i64 0, .int .i64 0, .slice none 0 0, .int .i64 0, .int .i64 0, .int .i64 0] := h3.blk (Blk.drew (Blk.new W _ _)) (fun h => h); have HG9 := Lib.hid hg9; have H3 : Hid (Mod (fun _ => False) W w5) := Lib.hid ((((Mod.refl _ _).alloc _).drew).trans h3 (fun _ _ h => h)); have r0 := hg9.cell 0; have f0 := hg9.frozen 0; have r1 := hg9.cell 1; have f1 := hg9.frozen 1; have r2 := hg9.cell 2; have f2 := hg9.frozen 2; have r3 := hg9.cell 3; have f3 := hg9.frozen 3; have r4 := hg9.cell 4; have f4 := hg9.frozen 4; have r5 := hg9.cell 5; have f5 := hg9.frozen 5; simp at r0 r1 r2 r3 r4 r5; clear h1 h2 h3 hg9))
      all_goals (go_wp2_with fail; go_meet)
      all_goals (
        refine ⟨_, A5, n5, c5, vo, rfl, rfl, rfl, ?_⟩
        first
          | (have h8 := HG9.out; exact ⟨clk_over c2 rfl h8 (Nat.le_refl _) H1.out (Nat.le_refl _) H3.out, OwnK.modS H2.out (Mod.six_one _ _ _ _ _ _ _ _) (fun k hk e => own_blk_ne H2.out.2 h8 (by decide) (by rw [hk, e]))⟩)
          | exact ⟨clk_new c2 rfl H1.out (Nat.le_refl _) H3.out, OwnK.alloc H2.out _⟩)
  case rest =>
    as_aux_lemma =>
      obtain ⟨w7, rfl⟩ : ∃ w0 : World, w0 = wc := ⟨_, rfl⟩
      obtain ⟨g7, A7, n7, c7, vo, rfl, rfl, rfl, ⟨hc7, hm7, hg7⟩, ho7⟩ := hcut
      obtain ⟨Ao, no, co, rfl, Hno, _, _, _⟩ := OwnK.formN ho7
      clear y0 y1 y2 y3 y4 y5 y6 z0 z1 z2 y0a y1a y2a y3a y4a y5a z0a z1a z2a
      clear hg7
      have hb7 := hm7.blk HbW.out (fun h => h)
      have u0 := hb7.cell 0
      have f0 := hb7.frozen 0
      have u1 := hb7.cell 1
      have f1 := hb7.frozen 1
      have u2 := hb7.cell 2
      have f2 := hb7.frozen 2
      have u3 := hb7.cell 3
      have f3 := hb7.frozen 3
      have u4 := hb7.cell 4
      have f4 := hb7.frozen 4
      have u5 := hb7.cell 5
      have f5 := hb7.frozen 5
      simp [cacC] at u0 u1 u2 u3 u4 u5
      obtain ⟨y0, y1, y2, y3, y4, y5⟩ := hc7.cells
      have hst := cac_stored (Hhw.out.new hm7) (Nat.le_trans Hh.out.low HmW.out.size) hb7 hc7
      obtain ⟨w8, hw8, hb8, hp8, hma8, hm8⟩ := hst
      have Hw8 := Lib.hid hw8; have Hb8 := Lib.hid hb8; have Hp8 := Lib.hid hp8; have Hma8 := Lib.hid hma8; have Hm8 := Lib.hid hm8; have Hm7 := Lib.hid hm7
      clear hw8 hb8 hp8 hma8 hm8 hb7
      have Ho7 := Lib.hid ho7
      have Ho8 : Hid (OwnK 3 W.heap.size w8 28 (.slice Ao no co) (os.map keyC)) := Lib.hid (OwnK.modS ho7 Hm8.out (fun j hj e => own_blk_ne ho7.2 (Hm7.out.blk HbW.out (fun h => h)) (by decide) (by rw [hj, e])))
      clear hc7 hm7 ho7
      cases ok with
      | false =>
        go_wp2_with fail
        go_ret
        have e := HNO.out (by simp)
        rw [e]
        exact ⟨rfl, (Hhw.out.new Hm7.out).more (by omega), ((HmW.out.trans Hm7.out (fun _ _ h => h)).mono (fun _ _ h => h.elim))⟩
      | true =>
        go_upto_region 5 with fail
        rw [← Hw8.out]
        clear y0 y1 y2 y3 y4 y5 u0 u1 u2 u3 u4 u5 f0 f1 f2 f3 f4 f5
        have HO1 := Lib.hid (HOUT.out (by simp))
        have Hno2 : Hid (os.length = no) := Lib.hid (by have := Hno.out; rwa [List.length_map] at this)
        have hno1 : no ≤ 1 := by have := HO1.out.1; have := Hno2.out; omega
        have Hno1 := Lib.hid hno1
        clear hno1
        go_wp2_with fail
        go_loopg [30] no (fun lk s30 wr => ∃ i : Nat, i + lk = no ∧ s30 = .int .i64 (i : Int) ∧ MapC B wr b N (lessC c.sam os i) (framesC c - i) ∧ Mod (fun j => j = b) w8 wr)
        case atStart => exact ⟨0, by omega, rfl, by rw [less_zero]; exact Hma8.out, Mod.refl _ _⟩
        case round =>
          obtain ⟨i, hil, rfl, hma, hm⟩ := hrel
          have Hma := Lib.hid hma; have Hm := Lib.hid hm; have Hil := Lib.hid hil
          have hbr := hm.blk Hb8.out (fun e => Hh.out.ne e.symm)
          have Hbr := Lib.hid hbr
          have hor := OwnK.modS Ho8.out hm (fun j hj e => by obtain ⟨cs, hbk⟩ := own_blk Ho8.out j hj; subst e; exact Hma8.out.not_cells hbk)
          have Hor := Lib.hid hor
          clear hma hm hil hbr hor
          by_cases hin : i < no
          · have hi0 : i = 0 := by have := Hno1.out; omega
            obtain ⟨ad, o, rfl, ho, x0, x1, x2⟩ := out_at (i := i) (OwnK.rds Hor.out (by rw [List.length_map]; exact Hno2.out)) hin
            have Hoo := Lib.hid (HO1.out.2 o (List.mem_of_getElem? ho))
            have Ho0 := Lib.hid ho
            have Hi0 := Lib.hid hi0
            have hi1 : (i : Int) < (no : Int) := by omega
            have hi2 : (0 : Int) ≤ (i : Int) := by omega
            have hi3 : (i : Int) ≤ 5 := by omega
            obtain ⟨V, hV, hmV, hkV, hzV⟩ := Blk.boxed wr 28 #[.int .i64 o.s, .int .i64 o.l, .int .i64 o.b]
            obtain ⟨g9, hg9⟩ : ∃ g, g = wr.heap.size := ⟨_, rfl⟩
            rw [← hg9] at hkV
            obtain ⟨w9, hdel, hma9, hm9⟩ := (Hma.out.new ((hmV.drew))).drop Hoo.out.2.1 0
            have hbV := hmV.blk Hbr.out (fun h => h)
            have q6 := hbV.cell 6
            simp [cacC] at q6
            have z0 := hkV.cell 0
            have z1 := hkV.cell 1
            have z2 := hkV.cell 2
            simp at z0 z1 z2
            have HV := Lib.hid hV; have Hg9 := Lib.hid hg9; have Hma9 := Lib.hid hma9
            have Hm9 : Hid (Mod (fun j => j = b) wr w9) := Lib.hid (((hmV.drew).mono (fun _ _ h => h.elim)).trans hm9 (fun _ _ h => h))
            clear hV hmV hkV hzV hg9 hma9 hm9 hbV ho hi0
            go_upto_region 8 with fail
            rw [← HV.out, ← Hg9.out]
            go_region
            all_goals (
              go_wp2_with fail
              go_roundg (gk - 1)
              case measure => have := Hil.out; omega
              case rel =>
                refine ⟨i + 1, by have := Hil.out; omega, by have := Hno1.out; go_num, ?_, Hm.out.trans Hm9.out (fun _ _ h => h)⟩
                have h1 := Hma9.out
                have h0 := Hi0.out
                subst h0
                have h2 := Ho0.out
                rw [less_zero, if_pos Hoo.out.1, ← less_zero c.sam os, less_one c.sam h2] at h1
                simpa using h1)
          · have hi : i = no := by have := Hil.out; omega
            subst hi
            have hN2 : (Hno2.out) = Hno2.out := rfl
            clear hN2 hin
            have HmE : Hid (Mod (fun j => j = g ∨ j = b) w wr) := Lib.hid ((((HmW.out.trans Hm7.out (fun _ _ h => h)).mono (fun _ _ h => h.elim)).trans (Hm8.out.mono (fun _ _ h => .inl h)) (fun _ _ h => h)).trans (Hm.out.mono (fun _ _ h => .inr h)) (fun _ _ h => h))
            have q6 := Hbr.out.cell 6
            simp [cacC] at q6
            have hk8 : Blk wr g4 28 #[.int .i64 k.s, .int .i64 k.l, .int .i64 k.b] := Hm.out.blk (Hm8.out.blk (Hm7.out.blk HkW.out (fun h => h)) (fun e => Hne4.out.1 e)) (fun e => Hma8.out.not_cells (by rw [← e]; exact Hm8.out.blk (Hm7.out.blk HkW.out (fun h => h)) (fun e => Hne4.out.1 e)))
            have z0 := hk8.cell 0
            have z1 := hk8.cell 1
            have z2 := hk8.cell 2
            simp at z0 z1 z2
            have Hk8 := Lib.hid hk8
            clear hk8
            have Hsr : Hid (RdsS wr.drew wr.drew.heap.size As ns l) := Lib.hid (Hs.out.mod HmE.out.drew (fun j cs2 _ hj hS => hS.elim (fun hS => by subst hS; exact Blk.ne_ hj Hb.out (by decide) rfl) (fun hS => by subst hS; exact Hh.out.map_.not_cells hj))).rds.2.2.2
            have HC : Hid (Calls Try.prog 21 #[.slice As ns cs] wr.drew fun e w' => ∃ v, e = .returned v ∧ OwnS wr.heap.size w' v l ∧ Mod (fun _ => False) wr.drew w') := Lib.hid (ccCopied_any As ns cs l wr.drew Hsr.out (by have := Hns.out; omega))
            have hNm : N < maxLen := by have := HN.out; unfold maxLen; omega
            have HNm := Lib.hid hNm
            clear hNm
            go_upto_region 10 with fail
            go_region_with (go_at_call 21; (with_reducible refine HC.out.mono ?_); rintro e w9 ⟨v9, rfl, ho9, hm9⟩; have Ho9 := Lib.hid ho9; have Hm9 : Hid (Mod (fun _ => False) wr w9) := Lib.hid (((Mod.refl _ _).drew).trans hm9 (fun _ _ h => h)); obtain ⟨w10, hup, hma10, hm10⟩ := (Hma.out.new Hm9.out).store HNm.out Hk.out (SliH.of_own (ho9.mono (show B ≤ wr.heap.size by have := Hma.out.lt; have := Hh.out.low; have := HmE.out.size; omega))); have Hma10 := Lib.hid hma10; have Hm10 := Lib.hid hm10; have hk9 := Hm9.out.blk Hk8.out (fun h => h); have z0a := hk9.cell 0; have z1a := hk9.cell 1; have z2a := hk9.cell 2; simp at z0a z1a z2a; have hb9 := Hm9.out.blk Hbr.out (fun h => h); have q6a := hb9.cell 6; simp [cacC] at q6a; clear ho9 hm9 hma10 hm10 hk9 hb9)
            all_goals (
              go_wp2_with fail
              go_ret
              have hb10 := Hm10.out.blk (Hm9.out.blk Hbr.out (fun h => h)) (fun e => Hh.out.ne e.symm)
              have hp10 : OwnP B w10 39 (.slice A7 n7 c7) c2.ps := by
                have h1 := OwnK.modS Hp8.out Hm.out (fun j hj e => by obtain ⟨cs, hbk⟩ := own_blk Hp8.out j hj; subst e; exact Hma8.out.not_cells hbk)
                have h2 := OwnK.modS h1 Hm9.out (fun _ _ h => h)
                exact OwnK.modS h2 Hm10.out (fun j hj e => by obtain ⟨cs, hbk⟩ := own_blk Hp8.out j hj; subst e; exact Hma8.out.not_cells hbk)
              rw [HE.out (by simp)]
              have hend := HEND.out (by simp) w10 A7 n7 c7 hb10 hp10 (by rw [Hno2.out]; exact Hma10.out) (by have := Hh.out.low; have := HmE.out.size; have := Hm9.out.size; have := Hm10.out.size; omega)
              rw [HE.out (by simp)] at hend
              exact ⟨rfl, hend, (HmE.out.trans (Hm9.out.mono (fun _ _ h => h.elim)) (fun _ _ h => h)).trans (Hm10.out.mono (fun _ _ h => .inr h)) (fun _ _ h => h)⟩)
end Go.Proofs.Ytcoajldhhimmoaa
