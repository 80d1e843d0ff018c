/- The texts Rv, Qzb, one behind the other. -/
import Derived.Test.YthogflfjdfcpeaaMq1
import Derived.Test.YthogflfjdfcpeaaMq13
import Derived.Test.YthogflfjdfcpeaaMq9
/- The document's Admit. -/
namespace Go.Proofs.Ythogflfjdfcpeaa
open Go.RowKit

theorem admit_touch {c : ClkN} {k : KeyN} (h : resAt c k = true) : admitK c k = ((touchK c k).1, [], (touchK c k).2) := by
  unfold admitK
  rw [if_pos h]
set_option maxHeartbeats 16000000 in
set_option maxRecDepth 100000 in
theorem rkAdmit_any (c : ClkN) (k : KeyN) (A : Option Addr) (n cap : Nat) (w : World) (hs : RdsP w w.heap.size A n c.ps) (hn : n ≤ 100000) (hgd : Good c) :
    Calls Try.prog 35 #[.agg #[.int .i64 c.most, .int .i64 c.target, .slice A n cap, .int .i64 (c.hot : Int), .int .i64 (c.cold : Int), .int .i64 (c.test : Int)], .agg #[.int .i64 k.s, .int .i64 k.l, .int .i64 k.b]] w fun e w' => AdEnd w w' (admitK c k).1 (admitK c k).2.1 (admitK c k).2.2 e := by
  obtain ⟨W, hW, hmW, hbW, hkW, hrW, hzW⟩ := three_boxes w #[.int .i64 c.most, .int .i64 c.target, .slice A n cap, .int .i64 (c.hot : Int), .int .i64 (c.cold : Int), .int .i64 (c.test : Int)] #[.int .i64 k.s, .int .i64 k.l, .int .i64 k.b] #[.int .i64 0, .int .i64 0, .slice none 0 0, .int .i64 0, .int .i64 0, .int .i64 0]
  obtain ⟨g0, hg0⟩ : ∃ g, g = w.heap.size := ⟨_, rfl⟩
  obtain ⟨g1, hg1⟩ : ∃ g, g = w.heap.size + 1 := ⟨_, rfl⟩
  obtain ⟨g2, hg2⟩ : ∃ g, g = w.heap.size + 2 := ⟨_, rfl⟩
  rw [← hg0] at hbW
  rw [← hg1] at hkW
  rw [← hg2] at hrW
  have y0 := hbW.cell 0
  have y1 := hbW.cell 1
  have y2 := hbW.cell 2
  have y3 := hbW.cell 3
  have y4 := hbW.cell 4
  have y5 := hbW.cell 5
  simp at y0 y1 y2 y3 y4 y5
  have Hs := Lib.hid (hs.new hmW).fit; have Hl := Lib.hid hs.len
  have HW := Lib.hid hW; have HmW := Lib.hid hmW; have HbW := Lib.hid hbW; have HkW := Lib.hid hkW; have HrW := Lib.hid hrW; have Hg0 := Lib.hid hg0; have Hg1 := Lib.hid hg1; have Hg2 := Lib.hid hg2; have HzW := Lib.hid hzW; have Hn := Lib.hid hn
  have Hgd := Lib.hid hgd
  clear hgd
  clear hs hW hmW hbW hkW hrW hg0 hg1 hg2 hzW hn
  go_enter Try.func35, Try.ntmps35
  go_upto_region 1 with fail
  rw [← HW.out, ← Hg2.out, ← Hg1.out, ← Hg0.out]
  go_wp2_with fail
  refine (rkCopied_any c A n cap W Hs.out (by have := Hn.out; omega)).mono ?_
  rintro e w1 ⟨vp, rfl, ho1, hm1⟩
  obtain ⟨A1, c1, rfl, hnc1, hcm1, hrd1⟩ := OwnP.form ho1
  obtain ⟨n1, hn1⟩ : ∃ n1, c.ps.length = n1 := ⟨_, rfl⟩
  rw [hn1] at ho1 hnc1 hrd1 ⊢
  dsimp only [clkC]
  obtain ⟨hr3, hsz3⟩ := ring_new (c := c) ho1 hm1
  obtain ⟨g3, hg3⟩ : ∃ g, g = w1.heap.size := ⟨_, rfl⟩
  obtain ⟨W3, hW3⟩ : ∃ W3, W3 = w1.alloc (.cells #[.int .i64 c.most, .int .i64 c.target, .slice A1 n1 c1, .int .i64 (c.hot : Int), .int .i64 (c.cold : Int), .int .i64 (c.test : Int), .slice none 0 0] 70) := ⟨_, rfl⟩
  rw [← hg3, ← hW3] at hr3
  rw [← hg3] at hsz3
  have hm3 : Mod (fun _ => False) W W3 := by rw [hW3]; exact hm1.alloc _
  have Hr3 := Lib.hid hr3; have Hm3 := Lib.hid hm3; have HW3 := Lib.hid hW3; have Hg3 := Lib.hid hg3; have Hsz3 := Lib.hid hsz3; have Hn1 := Lib.hid hn1
  clear y0 y1 y2 y3 y4 y5 hr3 hm3 hW3 hg3 hsz3 hn1 ho1 hm1 hnc1 hcm1 hrd1
  go_upto_region 2 with fail
  rw [← HW3.out, ← Hg3.out]
  have hb3 := Hm3.out.blk HbW.out (fun h => h)
  have hk3 := Hm3.out.blk HkW.out (fun h => h)
  have y0 := hb3.cell 0
  have y1 := hb3.cell 1
  have y2 := hb3.cell 2
  have y3 := hb3.cell 3
  have y4 := hb3.cell 4
  have y5 := hb3.cell 5
  have z0 := hk3.cell 0
  have z1 := hk3.cell 1
  have z2 := hk3.cell 2
  simp at y0 y1 y2 y3 y4 y5 z0 z1 z2
  clear hb3 hk3
  go_wp2_with fail
  refine (rkFind_any c k A n cap W3 (Hs.out.new Hm3.out).fit (by have := Hn.out; omega)).mono ?_
  obtain ⟨z, hz⟩ : ∃ z, placeK k c.ps = z := ⟨_, rfl⟩
  rw [hz]
  rintro e w4 ⟨rfl, hm4⟩
  have Hr4 := Lib.hid (Hr3.out.new hm4)
  have Hm4 := Lib.hid (Hm3.out.trans hm4 (fun _ _ h => h))
  have Hg34 : Hid (W.heap.size ≤ g3) := Hsz3
  clear hm4 y0 y1 y2 y3 y4 y5 z0 z1 z2
  unfold placeK at hz
  obtain ⟨q1, hq1⟩ : ∃ q, cntK 1 c.ps = q := ⟨_, rfl⟩
  obtain ⟨q2, hq2⟩ : ∃ q, cntK 2 c.ps = q := ⟨_, rfl⟩
  have Hq1 := Lib.hid hq1; have Hq2 := Lib.hid hq2
  clear hq1 hq2
  cases hf : findK k c.ps with
  | none =>
    rw [hf] at hz
    have gz : decide (0 ≤ z) = false := decide_eq_false (by simp only at hz; omega)
    have Hf := Lib.hid hf
    have Hrr : Hid (resAt c k = false) := Lib.hid (by unfold resAt; rw [hf])
    clear hf hz
    obtain ⟨full, hfull⟩ : ∃ b, decide (c.most ≤ (q1 : Int) + (q2 : Int)) = b := ⟨_, rfl⟩
    have Hfull := Lib.hid hfull
    go_upto_region 6 with fail
    go_cut [11] from 38 to 45 (fun s11 wx => s11 = .bool full ∧ Mod (fun _ => False) w4 wx)
    case first =>
      have bq1 : (q1 : Int) ≤ 2000 := by have h1 : cntK 1 c.ps ≤ c.ps.length := List.countP_le_length; have h9 : c.ps.length ≤ 2000 := Hgd.out.len; have := Hq1.out; omega
      have bq2 : (q2 : Int) ≤ 2000 := by have h1 : cntK 2 c.ps ≤ c.ps.length := List.countP_le_length; have h9 : c.ps.length ≤ 2000 := Hgd.out.len; have := Hq2.out; omega
      have hwr : IntKind.i64.wrap ((q1 : Int) + (q2 : Int)) = (q1 : Int) + (q2 : Int) := IntWalk.i64_in _ (by omega)
      have Ld : Hid (∀ w2, Mod (fun _ => False) w4 w2 → w2.cell? ⟨g0, 0, none⟩ = some (.int .i64 c.most) ∧ w2.cell? ⟨g0, 1, none⟩ = some (.int .i64 c.target) ∧ w2.cell? ⟨g0, 2, none⟩ = some (.slice A n cap) ∧ w2.cell? ⟨g0, 3, none⟩ = some (.int .i64 c.hot) ∧ w2.cell? ⟨g0, 4, none⟩ = some (.int .i64 c.cold) ∧ w2.cell? ⟨g0, 5, none⟩ = some (.int .i64 c.test)) := Lib.hid (fun w2 h => by
        have hb := h.blk (Hm4.out.blk HbW.out (fun h => h)) (fun h => h)
        exact ⟨hb.cell 0, hb.cell 1, hb.cell 2, hb.cell 3, hb.cell 4, hb.cell 5⟩)
      have C1 : Hid (∀ w2, Mod (fun _ => False) w4 w2 → Calls Try.prog 52 #[.agg #[.int .i64 c.most, .int .i64 c.target, .slice A n cap, .int .i64 (c.hot : Int), .int .i64 (c.cold : Int), .int .i64 (c.test : Int)], .int .i64 1] w2 fun e w' => e = .returned (.int .i64 (q1 : Int)) ∧ Mod (fun _ => False) w4 w') := Lib.hid (fun w2 h => by
        refine (rkCount_any 1 c.most c.target c.hot c.cold c.test A n cap c.ps w2 (Hs.out.new (Hm4.out.trans h (fun _ _ h => h))).fit (by have := Hn.out; omega)).mono ?_
        rintro e w' ⟨rfl, hm⟩
        exact ⟨by rw [Hq1.out], h.trans hm (fun _ _ h => h)⟩)
      have C2 : Hid (∀ w2, Mod (fun _ => False) w4 w2 → Calls Try.prog 52 #[.agg #[.int .i64 c.most, .int .i64 c.target, .slice A n cap, .int .i64 (c.hot : Int), .int .i64 (c.cold : Int), .int .i64 (c.test : Int)], .int .i64 2] w2 fun e w' => e = .returned (.int .i64 (q2 : Int)) ∧ Mod (fun _ => False) w4 w') := Lib.hid (fun w2 h => by
        refine (rkCount_any 2 c.most c.target c.hot c.cold c.test A n cap c.ps w2 (Hs.out.new (Hm4.out.trans h (fun _ _ h => h))).fit (by have := Hn.out; omega)).mono ?_
        rintro e w' ⟨rfl, hm⟩
        exact ⟨by rw [Hq2.out], h.trans hm (fun _ _ h => h)⟩)
      refine wp_region_class (fun W' => Mod (fun _ => False) w4 W') (by kernel_rfl) (by kernel_rfl) (Mod.refl _ _).drew ?_
      refine wpQuiet_step (fun K hK => ?_)
      go_simp
      refine ⟨.agg #[.int .i64 c.most, .int .i64 c.target, .slice A n cap, .int .i64 (c.hot : Int), .int .i64 (c.cold : Int), .int .i64 (c.test : Int)], fun w2 h2 => ?_, hK _ ?_⟩
      · obtain ⟨b0, b1, b2, b3, b4, b5⟩ := Ld.out w2 h2
        simp only [b0, b1, b2, b3, b4, b5, Result.andThen_ok]
        exact ⟨trivial, trivial⟩
      clear hK K
      refine wpQuiet_step (fun K hK => ?_)
      go_simp
      refine ⟨.int .i64 (q1 : Int), fun w2 h2 => (C1.out w2 h2).mono ?_, hK _ ?_⟩
      · rintro e w3 ⟨rfl, hm⟩
        exact ⟨rfl, hm⟩
      clear hK K
      refine wpQuiet_step (fun K hK => ?_)
      go_simp
      refine ⟨.agg #[.int .i64 c.most, .int .i64 c.target, .slice A n cap, .int .i64 (c.hot : Int), .int .i64 (c.cold : Int), .int .i64 (c.test : Int)], fun w2 h2 => ?_, hK _ ?_⟩
      · obtain ⟨b0, b1, b2, b3, b4, b5⟩ := Ld.out w2 h2
        simp only [b0, b1, b2, b3, b4, b5, Result.andThen_ok]
        exact ⟨trivial, trivial⟩
      clear hK K
      refine wpQuiet_step (fun K hK => ?_)
      go_simp
      refine ⟨.int .i64 (q2 : Int), fun w2 h2 => (C2.out w2 h2).mono ?_, hK _ ?_⟩
      · rintro e w3 ⟨rfl, hm⟩
        exact ⟨rfl, hm⟩
      clear hK K
      iterate 2 quiet_step (exact fun _ => rfl)
      refine wpQuiet_step (fun K hK => ?_)
      go_simp
      refine ⟨.int .i64 c.most, fun w2 h2 => ?_, hK _ ?_⟩
      · have b0 := (Ld.out w2 h2).1
        simp only [b0]
        exact ⟨rfl, rfl⟩
      clear hK K
      iterate 2 quiet_step (exact fun _ => rfl)
      refine wpQuiet_nil ?_
      intro w7 h7
      go_wp2_with fail
      go_meet
      exact ⟨by rw [← Hfull.out], h7⟩
    case rest =>
      obtain ⟨rfl, hm6⟩ := hcut
      obtain ⟨w6, rfl⟩ : ∃ w0 : World, w0 = wc := ⟨_, rfl⟩
      have Hr6 := Lib.hid (Hr4.out.new hm6)
      have Hm6 := Lib.hid (Hm4.out.trans hm6 (fun _ _ h => h))
      clear hm6 hfull
      obtain ⟨fr, hfr⟩ : ∃ b, c.ps.any isFree = b := ⟨_, rfl⟩
      have Hfr := Lib.hid hfr
      clear hfr
      go_upto_region 7 with fail
      go_cut [51] from 46 to 51 (fun s51 wx => s51 = .bool (full && !fr) ∧ Mod (fun _ => False) w6 wx)
      case first =>
        cases full with
        | false =>
          go_wp2_with fail
          go_meet
          exact ⟨rfl, Mod.refl _ _⟩
        | true =>
          go_wp2_with fail
          refine (rkLoose0_any W.heap.size g3 _ _ c [] w6 Hr6.out Hgd.out.base.pgs.1 (by have h9 : c.ps.length ≤ 2000 := Hgd.out.len; omega)).mono ?_
          rw [Hfr.out]
          rintro e w7 ⟨rfl, hm7⟩
          go_wp2_with fail
          go_meet
          exact ⟨by simp, hm7⟩
      case rest =>
        obtain ⟨rfl, hm7⟩ := hcut
        obtain ⟨w7, rfl⟩ : ∃ w0 : World, w0 = wc := ⟨_, rfl⟩
        have Hr7 := Lib.hid (Hr6.out.new hm7)
        have Hm7 := Lib.hid (Hm6.out.trans hm7 (fun _ _ h => h))
        clear hm7
        by_cases hblk : full = true ∧ fr = false
        · obtain ⟨rfl, rfl⟩ := hblk
          have Had : Hid (admitK c k = (c, [], false)) := Lib.hid (by unfold admitK; rw [if_neg (by rw [Hrr.out]; decide), if_pos ⟨by have h := of_decide_eq_true Hfull.out; have := Hq1.out; have := Hq2.out; omega, Hfr.out⟩])
          have HM := Lib.hid (Hm7.out.mono (S' := fun k => W.heap.size ≤ k) (fun _ _ h => h.elim))
          have hend := rk_end (b := false) Hg2.out.symm HzW.out HmW.out HrW.out Hr7.out HM.out
          have Hb9 := Lib.hid hend.1; have HE9 := Lib.hid hend.2
          have q0 := hend.1.cell 0
          have qq1 := hend.1.cell 1
          have qq2 := hend.1.cell 2
          have q3 := hend.1.cell 3
          have q4 := hend.1.cell 4
          have q5 := hend.1.cell 5
          have p0 := hend.1.frozen 0
          have p1 := hend.1.frozen 1
          have p2 := hend.1.frozen 2
          have p3 := hend.1.frozen 3
          have p4 := hend.1.frozen 4
          have p5 := hend.1.frozen 5
          simp at q0 qq1 qq2 q3 q4 q5
          obtain ⟨y0, y1, y2, y3, y4, y5, _⟩ := Hr7.out.cells
          clear hend
          go_wp2_with fail
          refine bodyPost_ret (v := .tuple #[.agg #[.int .i64 c.most, .int .i64 c.target, (.slice A1 n1 c1), .int .i64 (c.hot : Int), .int .i64 (c.cold : Int), .int .i64 (c.test : Int)], .slice none 0 0, .bool false]) (by have h := Hb9.out.six (.int .i64 c.most) (.int .i64 c.target) (.slice A1 n1 c1) (.int .i64 (c.hot : Int)) (.int .i64 (c.cold : Int)) (.int .i64 (c.test : Int)); simp [results, Try.results35, go_sem, h.1, h.2.1, h.2.2.1, h.2.2.2.1, h.2.2.2.2.1, h.2.2.2.2.2.1]) rfl ?_
          rw [Had.out]
          exact CkEnd.ad (HE9.out _ (Mod.six_one _ _ _ _ _ _ _ _)) (OwnK.nil _ _ _ _)
        · have hs51 : (full && !fr) = false := by cases full <;> cases fr <;> simp at hblk ⊢
          have Hno : Hid (¬ (c.most ≤ ((cntK 1 c.ps + cntK 2 c.ps : Nat) : Int) ∧ c.ps.any isFree = false)) := Lib.hid (by
            rintro ⟨h1, h2⟩
            rw [Hfr.out] at h2
            have h3 : full = true := by rw [← Hfull.out]; exact decide_eq_true (by have := Hq1.out; have := Hq2.out; omega)
            exact hblk ⟨h3, h2⟩)
          clear hblk
          rw [hs51]
          have Hcr0 := Lib.hid (clear_room Hgd.out Hrr.out Hno.out)
          have HB7 : Hid (W.heap.size ≤ w7.heap.size) := Lib.hid Hm7.out.size
          obtain ⟨cc, hcc⟩ : ∃ cc, clearK c k = cc := ⟨_, rfl⟩
          have Hcc := Lib.hid hcc
          have hcr := Hcr0.out
          rw [hcc] at hcr
          have Hcr := Lib.hid hcr
          obtain ⟨⟨K, hE⟩, _⟩ := room_ends hcr.1.1 hcr.1.2.1 hcr.1.2.2 hcr.2.1
          have HE := Lib.hid hE
          clear hcr hE
          go_wp2_with fail
          have ecc : c = cc := by rw [← hcc]; unfold clearK; rw [Hf.out]
          have HRt : Hid (RngV W.heap.size g3 w7 (.slice A1 n1 c1) (.slice none 0 0) cc []) := Lib.hid (by rw [← ecc]; exact Hr7.out)
          have HMt := Lib.hid (Hm7.out.mono (S' := fun k => W.heap.size ≤ k) (fun _ _ h => h.elim))
          clear ecc hcc
          go_wp2_with fail
          go_loopg [] K (fun k wr => ∃ cx vx vo out, Ends roomF k (cx, out) (roomK cc) ∧ RoomK cx ∧ out.length + (cntK 1 cx.ps + cntK 2 cx.ps) = cntK 1 cc.ps + cntK 2 cc.ps ∧ cx.ps.length ≤ cc.ps.length ∧ RngV W.heap.size g3 wr vx vo cx out ∧ Mod (fun k => W.heap.size ≤ k) W wr)
          case atStart => exact ⟨cc, _, _, [], HE.out, Hcr.out.1, by simp, Nat.le_refl _, HRt.out, HMt.out⟩
          case round =>
            obtain ⟨cx, vx, vo, ox, he, hrx, hox, hlx, hv, hm⟩ := hrel
            obtain ⟨Ax, nx, capx, rfl, Hnx, _, _, hrd⟩ := hv.form
            obtain ⟨Ao, no, co, rfl, _⟩ := OwnK.formN hv.out
            have HEx := Lib.hid he; have Hrx := Lib.hid hrx; have Hox := Lib.hid hox; have Hlx := Lib.hid hlx; have Hv := Lib.hid hv; have Hmx := Lib.hid hm; have Hrd := Lib.hid hrd
            have Hlen : Hid (cx.ps.length ≤ 2000) := Lib.hid (by have h9 : c.ps.length ≤ 2000 := Hgd.out.len; have := Hcr.out.2.2.2.2; omega)
            have HBx : Hid (W.heap.size ≤ wr.heap.size) := Lib.hid hm.size
            obtain ⟨r1, hr1⟩ : ∃ q, cntK 1 cx.ps = q := ⟨_, rfl⟩
            obtain ⟨r2, hr2⟩ : ∃ q, cntK 2 cx.ps = q := ⟨_, rfl⟩
            have Hr1 := Lib.hid hr1; have Hr2 := Lib.hid hr2
            obtain ⟨bl, hbl⟩ : ∃ b, decide (cx.most ≤ (r1 : Int) + (r2 : Int)) = b := ⟨_, rfl⟩
            have Hbl := Lib.hid hbl
            have br1 : (r1 : Int) ≤ 2000 := by have h1 : cntK 1 cx.ps ≤ cx.ps.length := List.countP_le_length; have := Hlen.out; omega
            have br2 : (r2 : Int) ≤ 2000 := by have h1 : cntK 2 cx.ps ≤ cx.ps.length := List.countP_le_length; have := Hlen.out; omega
            have hwr : IntKind.i64.wrap ((r1 : Int) + (r2 : Int)) = (r1 : Int) + (r2 : Int) := IntWalk.i64_in _ (by omega)
            clear he hrx hox hlx hv hm hrd hr1 hr2
            go_upto_region 12 with fail
            go_cut [79] from 63 to 79 (fun s79 wx => s79 = .bool bl ∧ Mod (fun _ => False) wr wx)
            case first =>
              have Ld : Hid (∀ w2, Mod (fun _ => False) wr w2 → w2.cell? ⟨g3, 0, none⟩ = some (.int .i64 cx.most) ∧ w2.cell? ⟨g3, 1, none⟩ = some (.int .i64 cx.target) ∧ w2.cell? ⟨g3, 2, none⟩ = some (.slice Ax nx capx) ∧ w2.cell? ⟨g3, 3, none⟩ = some (.int .i64 cx.hot) ∧ w2.cell? ⟨g3, 4, none⟩ = some (.int .i64 cx.cold) ∧ w2.cell? ⟨g3, 5, none⟩ = some (.int .i64 cx.test)) := Lib.hid (fun w2 h => by
                obtain ⟨b0, b1, b2, b3, b4, b5, _⟩ := (Hv.out.new h).cells
                exact ⟨b0, b1, b2, b3, b4, b5⟩)
              have C1 : Hid (∀ w2, Mod (fun _ => False) wr w2 → Calls Try.prog 52 #[.agg #[.int .i64 cx.most, .int .i64 cx.target, .slice Ax nx capx, .int .i64 (cx.hot : Int), .int .i64 (cx.cold : Int), .int .i64 (cx.test : Int)], .int .i64 1] w2 fun e w' => e = .returned (.int .i64 (r1 : Int)) ∧ Mod (fun _ => False) wr w') := Lib.hid (fun w2 h => by
                refine (rkCount_any 1 cx.most cx.target cx.hot cx.cold cx.test Ax nx capx cx.ps w2 (Hrd.out.new h).fit (by have := Hlen.out; have := Hnx.out; omega)).mono ?_
                rintro e w' ⟨rfl, hm⟩
                exact ⟨by rw [Hr1.out], h.trans hm (fun _ _ h => h)⟩)
              have C2 : Hid (∀ w2, Mod (fun _ => False) wr w2 → Calls Try.prog 52 #[.agg #[.int .i64 cx.most, .int .i64 cx.target, .slice Ax nx capx, .int .i64 (cx.hot : Int), .int .i64 (cx.cold : Int), .int .i64 (cx.test : Int)], .int .i64 2] w2 fun e w' => e = .returned (.int .i64 (r2 : Int)) ∧ Mod (fun _ => False) wr w') := Lib.hid (fun w2 h => by
                refine (rkCount_any 2 cx.most cx.target cx.hot cx.cold cx.test Ax nx capx cx.ps w2 (Hrd.out.new h).fit (by have := Hlen.out; have := Hnx.out; omega)).mono ?_
                rintro e w' ⟨rfl, hm⟩
                exact ⟨by rw [Hr2.out], h.trans hm (fun _ _ h => h)⟩)
              refine wp_region_class (fun W' => Mod (fun _ => False) wr W') (by kernel_rfl) (by kernel_rfl) (Mod.refl _ _).drew ?_
              iterate 3 quiet_step (exact fun _ => rfl)
              refine wpQuiet_step (fun K hK => ?_)
              go_simp
              refine ⟨.agg #[.int .i64 cx.most, .int .i64 cx.target, .slice Ax nx capx, .int .i64 (cx.hot : Int), .int .i64 (cx.cold : Int), .int .i64 (cx.test : Int)], fun w2 h2 => ?_, hK _ ?_⟩
              · obtain ⟨b0, b1, b2, b3, b4, b5⟩ := Ld.out w2 h2
                simp only [b0, b1, b2, b3, b4, b5, Result.andThen_ok]
                exact ⟨trivial, trivial⟩
              clear hK K
              refine wpQuiet_step (fun K hK => ?_)
              go_simp
              refine ⟨.int .i64 (r1 : Int), fun w2 h2 => (C1.out w2 h2).mono ?_, hK _ ?_⟩
              · rintro e w3 ⟨rfl, hm⟩
                exact ⟨rfl, hm⟩
              clear hK K
              iterate 3 quiet_step (exact fun _ => rfl)
              refine wpQuiet_step (fun K hK => ?_)
              go_simp
              refine ⟨.agg #[.int .i64 cx.most, .int .i64 cx.target, .slice Ax nx capx, .int .i64 (cx.hot : Int), .int .i64 (cx.cold : Int), .int .i64 (cx.test : Int)], fun w2 h2 => ?_, hK _ ?_⟩
              · obtain ⟨b0, b1, b2, b3, b4, b5⟩ := Ld.out w2 h2
                simp only [b0, b1, b2, b3, b4, b5, Result.andThen_ok]
                exact ⟨trivial, trivial⟩
              clear hK K
              refine wpQuiet_step (fun K hK => ?_)
              go_simp
              refine ⟨.int .i64 (r2 : Int), fun w2 h2 => (C2.out w2 h2).mono ?_, hK _ ?_⟩
              · rintro e w3 ⟨rfl, hm⟩
                exact ⟨rfl, hm⟩
              clear hK K
              iterate 5 quiet_step (exact fun _ => rfl)
              refine wpQuiet_step (fun K hK => ?_)
              go_simp
              refine ⟨.int .i64 cx.most, fun w2 h2 => ?_, hK _ ?_⟩
              · have b0 := (Ld.out w2 h2).1
                simp only [b0]
                exact ⟨rfl, rfl⟩
              clear hK K
              iterate 1 quiet_step (exact fun _ => rfl)
              refine wpQuiet_nil ?_
              intro w12 h12
              go_wp2_with fail
              go_meet
              exact ⟨by rw [← Hbl.out], h12⟩
            case rest =>
              obtain ⟨rfl, hm12⟩ := hcut
              obtain ⟨w12, rfl⟩ : ∃ w0 : World, w0 = wc := ⟨_, rfl⟩
              have Hv12 := Lib.hid (Hv.out.new hm12)
              have Hm12 := Lib.hid (Hmx.out.trans hm12 (fun _ _ h => h.elim))
              have HB12 : Hid (W.heap.size ≤ w12.heap.size) := Lib.hid (Nat.le_trans HBx.out hm12.size)
              clear hm12 hbl
              cases bl with
              | true =>
                have hroom : cx.most ≤ ((cntK 1 cx.ps + cntK 2 cx.ps : Nat) : Int) := by have h := of_decide_eq_true Hbl.out; have := Hr1.out; have := Hr2.out; omega
                obtain ⟨j, hj, hE1⟩ := HEx.out.some_ (roomF_some (out := ox) hroom)
                have Hj := Lib.hid hj; have HE1 := Lib.hid hE1
                have Hst := Lib.hid (room_step Hrx.out hroom ox)
                have hfree : cx.ps.any isFree = true := Hrx.out.2.2 (by have := Hrx.out.2.1; omega)
                obtain ⟨_, _, ho1, _⟩ := cold_ends Hrx.out.1 hfree ox
                have Hl1 : Hid ((turnColdK cx ox).1.ps.length ≤ cx.ps.length) := Lib.hid (by have := ho1.keys.length_le; simpa using this)
                have Hfree := Lib.hid hfree
                clear hj hE1 hroom hfree ho1
                go_wp2_with fail
                refine (rkTurnCold_any W.heap.size g3 _ _ cx ox w12 Hv12.out Hrx.out.1 Hfree.out (by have := Hlen.out; omega) HB12.out (by have h1 : cntK 1 cc.ps ≤ cc.ps.length := List.countP_le_length; have h2 : cntK 2 cc.ps ≤ cc.ps.length := List.countP_le_length; have h9 : c.ps.length ≤ 2000 := Hgd.out.len; have := Hcr.out.2.2.2.2; have := Hox.out; omega)).mono ?_
                rintro e w13 ⟨rfl, v13, vo13, k1, k2, k3, k4⟩
                have K1 := Lib.hid k1
                have K2 : Hid (Mod (fun k => W.heap.size ≤ k) W w13) := Lib.hid (Hm12.out.trans k2 (fun i hi h => by
                  rcases h with (h | h) | h
                  · have := Hg34.out; omega
                  · exact (Hv12.out.lt i h).1
                  · exact (OwnK.block Hv12.out.out i h).1))
                clear k1 k2 k3 k4
                go_wp2_with fail
                go_roundg (gk - 1)
                case measure => have := Hj.out; omega
                case rel =>
                  have e1 : gk - 1 = j := by have := Hj.out; omega
                  rw [e1]
                  exact ⟨(turnColdK cx ox).1, v13, vo13, (turnColdK cx ox).2, HE1.out, Hst.out.1, by rw [Hst.out.2]; exact Hox.out, Nat.le_trans Hl1.out Hlx.out, K1.out, K2.out⟩
              | false =>
                have He := Lib.hid (HEx.out.none_ (roomF_none (out := ox) (by have h := of_decide_eq_false Hbl.out; have := Hr1.out; have := Hr2.out; omega))).2
                have hk12 := Hm12.out.blk HkW.out (by have := HkW.out.lt; omega)
                obtain ⟨z0, z1, z2⟩ := hk12.threeR
                obtain ⟨Wb, hWb, hmb, hbb, hzb⟩ := Blk.boxed w12 30 #[.int .i64 k.s, .int .i64 k.l, .int .i64 k.b, .int .i64 2, .bool false, .bool true, .int .i64 0]
                obtain ⟨gb, hgb⟩ : ∃ g, g = w12.heap.size := ⟨_, rfl⟩
                rw [← hgb] at hbb
                obtain ⟨W2, hW2⟩ : ∃ W2, W2 = Wb := ⟨_, rfl⟩
                subst hW2
                have HWb := Lib.hid hWb; have Hgb := Lib.hid hgb
                have Hmb := Lib.hid hmb; have Hbb := Lib.hid hbb
                clear hWb hgb hmb hbb hzb hk12
                go_upto_region 15 with fail
                rw [← HWb.out, ← Hgb.out]
                clear z0 z1 z2
                go_upto_region 17 with fail
                have x0 := Hbb.out.cell 0
                have x1 := Hbb.out.cell 1
                have x2 := Hbb.out.cell 2
                have x3 := Hbb.out.cell 3
                have x4 := Hbb.out.cell 4
                have x5 := Hbb.out.cell 5
                have x6 := Hbb.out.cell 6
                simp at x0 x1 x2 x3 x4 x5 x6
                have Hpk := Lib.hid (page_key c k)
                have Hpe : Hid (pageK c k = ⟨k, 2, false, true, 0⟩) := Lib.hid (by unfold pageK; rw [Hf.out])
                have Hra := Lib.hid (room_after (k := k) Hcr.out.1 Hcr.out.2.1 Hcr.out.2.2.2.1 Hpk.out.1 Hpk.out.2.1)
                have Hv2 := Lib.hid (Hv12.out.new Hmb.out)
                go_wp2_with fail
                refine (rkCome_any W.heap.size g3 _ _ cx ox ⟨k, 2, false, true, 0⟩ W2 Hv2.out Hrx.out.1 (by have := Hlen.out; omega) (Nat.le_trans HB12.out Hmb.out.size)).mono ?_
                rintro e w14 ⟨rfl, v14, h1, h2, h3⟩
                have Hv14 := Lib.hid h1; have H2 := Lib.hid h2; have H3 := Lib.hid h3
                clear h1 h2 h3 x0 x1 x2 x3 x4 x5 x6
                have Hb14 : Hid (BaseK (comeK cx ⟨k, 2, false, true, 0⟩) ∧ (comeK cx ⟨k, 2, false, true, 0⟩).ps.length ≤ 3000) := Lib.hid (by
                  have h := Hra.out
                  rw [He.out, Hpe.out] at h
                  dsimp only at h
                  exact ⟨h.2.1, by have := h.2.2.2; have h9 : c.ps.length ≤ 2000 := Hgd.out.len; have := Hcr.out.2.2.2.2; omega⟩)
                go_wp2_with fail
                refine (rkCool_any W.heap.size g3 v14 _ _ ox w14 Hv14.out Hb14.out.1 (by have := Hb14.out.2; omega) (Nat.le_trans (Nat.le_trans HB12.out Hmb.out.size) H2.out.size)).mono ?_
                obtain ⟨ce, hce⟩ : ∃ ce, coolK (comeK cx ⟨k, 2, false, true, 0⟩) = ce := ⟨_, rfl⟩
                rw [hce]
                rintro e w15 ⟨rfl, ht⟩
                obtain ⟨v15, h1, h2, h3⟩ := RngTo.after Hmb.out (RngTo.step H2.out H3.out ht)
                obtain ⟨A15, n15, c15, rfl, _, _, _, _⟩ := h1.form
                have Hv15 := Lib.hid h1
                have Had : Hid (admitK c k = (ce, ox, true)) := Lib.hid (by rw [admit_comes Hrr.out Hno.out, Hcc.out, He.out, Hpe.out, hce])
                have HM15 : Hid (Mod (fun k => W.heap.size ≤ k) W w15) := Lib.hid (Hm12.out.trans h2 (fun i hi h => by
                  rcases h with h | h
                  · have := Hg34.out; omega
                  · exact (Hv12.out.lt i h).1))
                clear ht h1 h2 h3 hce
                have hend := rk_end (b := true) Hg2.out.symm HzW.out HmW.out HrW.out Hv15.out HM15.out
                have Hb9 := Lib.hid hend.1; have HE9 := Lib.hid hend.2
                have u0 := hend.1.cell 0
                have p0 := hend.1.frozen 0
                have u1 := hend.1.cell 1
                have p1 := hend.1.frozen 1
                have u2 := hend.1.cell 2
                have p2 := hend.1.frozen 2
                have u3 := hend.1.cell 3
                have p3 := hend.1.frozen 3
                have u4 := hend.1.cell 4
                have p4 := hend.1.frozen 4
                have u5 := hend.1.cell 5
                have p5 := hend.1.frozen 5
                simp at u0 u1 u2 u3 u4 u5
                obtain ⟨y0, y1, y2, y3, y4, y5, y6⟩ := Hv15.out.cells
                clear hend
                go_upto_region 19 with fail
                go_region
                go_wp2_with fail
                refine bodyPost_ret (v := .tuple #[.agg #[.int .i64 ce.most, .int .i64 ce.target, .slice A15 n15 c15, .int .i64 (ce.hot : Int), .int .i64 (ce.cold : Int), .int .i64 (ce.test : Int)], .slice Ao no co, .bool true]) (by have h := Hb9.out.six (.int .i64 ce.most) (.int .i64 ce.target) (.slice A15 n15 c15) (.int .i64 (ce.hot : Int)) (.int .i64 (ce.cold : Int)) (.int .i64 (ce.test : Int)); simp [results, Try.results35, go_sem, h.1, h.2.1, h.2.2.1, h.2.2.2.1, h.2.2.2.2.1, h.2.2.2.2.2.1]) rfl ?_
                rw [Had.out]
                refine CkEnd.ad (HE9.out _ (Mod.six_one _ _ _ _ _ _ _ _).drew) ?_
                exact OwnK.drew (OwnK.mono (OwnK.modS Hv15.out.out (Mod.six_one _ _ _ _ _ _ _ _) (fun k hk e => by have := (OwnK.block Hv15.out.out k hk).1; have := HrW.out.lt; omega)) (by have := HmW.out.size; omega))
  | some i =>
    rw [hf] at hz
    simp only at hz
    subst hz
    obtain ⟨p, hp, _⟩ := findK_some hf
    have hlt := (List.getElem?_eq_some_iff.1 hp).1
    have gz : decide (0 ≤ (i : Int)) = true := decide_eq_true (by omega)
    have Hf := Lib.hid hf; have Hp := Lib.hid hp; have Hlt := Lib.hid hlt
    have hin' : (i : Int) < (n : Int) := by have := Hl.out; omega
    have hi0 : ¬ (i : Int) < 0 := by omega
    obtain ⟨ad, p', rfl, _, hp', x0, x1, x2, x3, x4, x5, x6⟩ := (Hs.out.new Hm4.out).at_ (i := i) (by have := Hl.out; omega)
    rw [hp] at hp'
    injection hp' with hp'
    subst hp'
    have hb4 := Hm4.out.blk HbW.out (fun h => h)
    have y2 := hb4.cell 2
    simp at y2
    clear hf hp hlt hb4
    obtain ⟨⟨s, l, b⟩, kd, rf, tr, pn⟩ := p
    simp only at x0 x1 x2 x3 x4 x5 x6
    obtain ⟨r, hr⟩ : ∃ r, PagN.resi ⟨⟨s, l, b⟩, kd, rf, tr, pn⟩ = r := ⟨_, rfl⟩
    have Hr := Lib.hid hr
    clear hr
    go_wp2_with fail
    refine (rres_any ⟨⟨s, l, b⟩, kd, rf, tr, pn⟩ w4).mono ?_
    rw [Hr.out]
    rintro e w5 ⟨rfl, hm5⟩
    have Hr5 := Lib.hid (Hr4.out.new hm5)
    have Hm5 := Lib.hid (Hm4.out.trans hm5 (fun _ _ h => h))
    clear x0 x1 x2 x3 x4 x5 x6 y2 hm5
    cases r with
    | true =>
      have Had : Hid (admitK c k = ((touchK c k).1, [], (touchK c k).2)) := Lib.hid (admit_touch (by unfold resAt; rw [Hf.out]; simp only [Hp.out]; exact Hr.out))
      have hb5 := Hm5.out.blk HbW.out (fun h => h)
      have hk5 := Hm5.out.blk HkW.out (fun h => h)
      have y0 := hb5.cell 0
      have y1 := hb5.cell 1
      have y2 := hb5.cell 2
      have y3 := hb5.cell 3
      have y4 := hb5.cell 4
      have y5 := hb5.cell 5
      obtain ⟨z0, z1, z2⟩ := hk5.threeR
      simp at y0 y1 y2 y3 y4 y5
      clear hb5 hk5
      go_wp2_with fail
      refine (rkTouch_any c k (some ad) n cap w5 (Hs.out.new Hm5.out).fit Hn.out).mono ?_
      obtain ⟨⟨ct, bt⟩, hct⟩ : ∃ r, touchK c k = r := ⟨_, rfl⟩
      have Hct := Lib.hid hct
      rw [hct]
      rintro e w6 ⟨vp6, rfl, ho6, hm6⟩
      dsimp only
      obtain ⟨A6, c6, rfl, _⟩ := OwnP.form ho6
      obtain ⟨n6, hn6⟩ : ∃ n, ct.ps.length = n := ⟨_, rfl⟩
      rw [hn6] at ho6 ⊢
      obtain ⟨W9, hW9, hmW9, hbW9, hzW9⟩ := Blk.boxed w6 25 #[.int .i64 ct.most, .int .i64 ct.target, .slice A6 n6 c6, .int .i64 (ct.hot : Int), .int .i64 (ct.cold : Int), .int .i64 (ct.test : Int)]
      obtain ⟨g9, hg9⟩ : ∃ g, g = w6.heap.size := ⟨_, rfl⟩
      rw [← hg9] at hbW9
      have hm9 : Mod (fun _ => False) W W9 := (Hm5.out.trans hm6 (fun _ _ h => h)).trans hmW9 (fun _ _ h => h)
      have hr9 := hm9.blk HrW.out (fun h => h)
      have ho9 : OwnP w5.heap.size W9 30 (.slice A6 n6 c6) ct.ps := OwnK.mod ho6 hmW9
      have HW9 := Lib.hid hW9; have Hg9 := Lib.hid hg9; have Hm9 := Lib.hid hm9; have Hr9 := Lib.hid hr9; have Ho9 := Lib.hid ho9; have Hb9 := Lib.hid hbW9
      clear hct hn6 ho6 hm6 hW9 hg9 hm9 hr9 ho9 hmW9 hzW9 hbW9 y0 y1 y2 y3 y4 y5 z0 z1 z2
      go_upto_region 5 with fail
      rw [← HW9.out, ← Hg9.out]
      have y0 := Hb9.out.cell 0
      have y1 := Hb9.out.cell 1
      have y2 := Hb9.out.cell 2
      have y3 := Hb9.out.cell 3
      have y4 := Hb9.out.cell 4
      have y5 := Hb9.out.cell 5
      have u0 := Hr9.out.cell 0
      have p0 := Hr9.out.frozen 0
      have u1 := Hr9.out.cell 1
      have p1 := Hr9.out.frozen 1
      have u2 := Hr9.out.cell 2
      have p2 := Hr9.out.frozen 2
      have u3 := Hr9.out.cell 3
      have p3 := Hr9.out.frozen 3
      have u4 := Hr9.out.cell 4
      have p4 := Hr9.out.frozen 4
      have u5 := Hr9.out.cell 5
      have p5 := Hr9.out.frozen 5
      simp at y0 y1 y2 y3 y4 y5 u0 u1 u2 u3 u4 u5
      go_wp2_with fail
      refine bodyPost_ret (v := .tuple #[.agg #[.int .i64 ct.most, .int .i64 ct.target, .slice A6 n6 c6, .int .i64 (ct.hot : Int), .int .i64 (ct.cold : Int), .int .i64 (ct.test : Int)], .slice none 0 0, .bool bt]) (by have h := Hr9.out.six (.int .i64 ct.most) (.int .i64 ct.target) (.slice A6 n6 c6) (.int .i64 (ct.hot : Int)) (.int .i64 (ct.cold : Int)) (.int .i64 (ct.test : Int)); simp [results, Try.results35, go_sem, h.1, h.2.1, h.2.2.1, h.2.2.2.1, h.2.2.2.2.1, h.2.2.2.2.2.1]) rfl ?_
      rw [Had.out, Hct.out]
      have hW5 : W.heap.size ≤ w5.heap.size := Hm5.out.size
      refine ⟨.slice A6 n6 c6, .slice none 0 0, rfl, ?_, OwnK.nil _ _ _ _, ?_⟩
      · exact OwnK.mono (OwnK.modS Ho9.out (Mod.six_one _ _ _ _ _ _ _ _) (fun k hk e => by have := (OwnK.block Ho9.out k hk).1; have := Hr9.out.lt; have := HrW.out.lt; omega)) (by have := HmW.out.size; omega)
      · exact (HmW.out.trans Hm9.out (fun _ _ h => h)).six_new (by have := Hg2.out; omega) _ _ _ _ _ _
    | false =>
      have Hrr : Hid (resAt c k = false) := Lib.hid (by unfold resAt; rw [Hf.out]; simp only [Hp.out]; exact Hr.out)
      obtain ⟨full, hfull⟩ : ∃ b, decide (c.most ≤ (q1 : Int) + (q2 : Int)) = b := ⟨_, rfl⟩
      have Hfull := Lib.hid hfull
      go_upto_region 6 with fail
      go_cut [11] from 38 to 45 (fun s11 wx => s11 = .bool full ∧ Mod (fun _ => False) w5 wx)
      case first =>
        have bq1 : (q1 : Int) ≤ 2000 := by have h1 : cntK 1 c.ps ≤ c.ps.length := List.countP_le_length; have h9 : c.ps.length ≤ 2000 := Hgd.out.len; have := Hq1.out; omega
        have bq2 : (q2 : Int) ≤ 2000 := by have h1 : cntK 2 c.ps ≤ c.ps.length := List.countP_le_length; have h9 : c.ps.length ≤ 2000 := Hgd.out.len; have := Hq2.out; omega
        have hwr : IntKind.i64.wrap ((q1 : Int) + (q2 : Int)) = (q1 : Int) + (q2 : Int) := IntWalk.i64_in _ (by omega)
        have Ld : Hid (∀ w2, Mod (fun _ => False) w5 w2 → w2.cell? ⟨g0, 0, none⟩ = some (.int .i64 c.most) ∧ w2.cell? ⟨g0, 1, none⟩ = some (.int .i64 c.target) ∧ w2.cell? ⟨g0, 2, none⟩ = some (.slice (some ad) n cap) ∧ w2.cell? ⟨g0, 3, none⟩ = some (.int .i64 c.hot) ∧ w2.cell? ⟨g0, 4, none⟩ = some (.int .i64 c.cold) ∧ w2.cell? ⟨g0, 5, none⟩ = some (.int .i64 c.test)) := Lib.hid (fun w2 h => by
          have hb := h.blk (Hm5.out.blk HbW.out (fun h => h)) (fun h => h)
          exact ⟨hb.cell 0, hb.cell 1, hb.cell 2, hb.cell 3, hb.cell 4, hb.cell 5⟩)
        have C1 : Hid (∀ w2, Mod (fun _ => False) w5 w2 → Calls Try.prog 52 #[.agg #[.int .i64 c.most, .int .i64 c.target, .slice (some ad) n cap, .int .i64 (c.hot : Int), .int .i64 (c.cold : Int), .int .i64 (c.test : Int)], .int .i64 1] w2 fun e w' => e = .returned (.int .i64 (q1 : Int)) ∧ Mod (fun _ => False) w5 w') := Lib.hid (fun w2 h => by
          refine (rkCount_any 1 c.most c.target c.hot c.cold c.test (some ad) n cap c.ps w2 (Hs.out.new (Hm5.out.trans h (fun _ _ h => h))).fit (by have := Hn.out; omega)).mono ?_
          rintro e w' ⟨rfl, hm⟩
          exact ⟨by rw [Hq1.out], h.trans hm (fun _ _ h => h)⟩)
        have C2 : Hid (∀ w2, Mod (fun _ => False) w5 w2 → Calls Try.prog 52 #[.agg #[.int .i64 c.most, .int .i64 c.target, .slice (some ad) n cap, .int .i64 (c.hot : Int), .int .i64 (c.cold : Int), .int .i64 (c.test : Int)], .int .i64 2] w2 fun e w' => e = .returned (.int .i64 (q2 : Int)) ∧ Mod (fun _ => False) w5 w') := Lib.hid (fun w2 h => by
          refine (rkCount_any 2 c.most c.target c.hot c.cold c.test (some ad) n cap c.ps w2 (Hs.out.new (Hm5.out.trans h (fun _ _ h => h))).fit (by have := Hn.out; omega)).mono ?_
          rintro e w' ⟨rfl, hm⟩
          exact ⟨by rw [Hq2.out], h.trans hm (fun _ _ h => h)⟩)
        refine wp_region_class (fun W' => Mod (fun _ => False) w5 W') (by kernel_rfl) (by kernel_rfl) (Mod.refl _ _).drew ?_
        refine wpQuiet_step (fun K hK => ?_)
        go_simp
        refine ⟨.agg #[.int .i64 c.most, .int .i64 c.target, .slice (some ad) n cap, .int .i64 (c.hot : Int), .int .i64 (c.cold : Int), .int .i64 (c.test : Int)], fun w2 h2 => ?_, hK _ ?_⟩
        · obtain ⟨b0, b1, b2, b3, b4, b5⟩ := Ld.out w2 h2
          simp only [b0, b1, b2, b3, b4, b5, Result.andThen_ok]
          exact ⟨trivial, trivial⟩
        clear hK K
        refine wpQuiet_step (fun K hK => ?_)
        go_simp
        refine ⟨.int .i64 (q1 : Int), fun w2 h2 => (C1.out w2 h2).mono ?_, hK _ ?_⟩
        · rintro e w3 ⟨rfl, hm⟩
          exact ⟨rfl, hm⟩
        clear hK K
        refine wpQuiet_step (fun K hK => ?_)
        go_simp
        refine ⟨.agg #[.int .i64 c.most, .int .i64 c.target, .slice (some ad) n cap, .int .i64 (c.hot : Int), .int .i64 (c.cold : Int), .int .i64 (c.test : Int)], fun w2 h2 => ?_, hK _ ?_⟩
        · obtain ⟨b0, b1, b2, b3, b4, b5⟩ := Ld.out w2 h2
          simp only [b0, b1, b2, b3, b4, b5, Result.andThen_ok]
          exact ⟨trivial, trivial⟩
        clear hK K
        refine wpQuiet_step (fun K hK => ?_)
        go_simp
        refine ⟨.int .i64 (q2 : Int), fun w2 h2 => (C2.out w2 h2).mono ?_, hK _ ?_⟩
        · rintro e w3 ⟨rfl, hm⟩
          exact ⟨rfl, hm⟩
        clear hK K
        iterate 2 quiet_step (exact fun _ => rfl)
        refine wpQuiet_step (fun K hK => ?_)
        go_simp
        refine ⟨.int .i64 c.most, fun w2 h2 => ?_, hK _ ?_⟩
        · have b0 := (Ld.out w2 h2).1
          simp only [b0]
          exact ⟨rfl, rfl⟩
        clear hK K
        iterate 2 quiet_step (exact fun _ => rfl)
        refine wpQuiet_nil ?_
        intro w7 h7
        go_wp2_with fail
        go_meet
        exact ⟨by rw [← Hfull.out], h7⟩
      case rest =>
        obtain ⟨rfl, hm6⟩ := hcut
        obtain ⟨w6, rfl⟩ : ∃ w0 : World, w0 = wc := ⟨_, rfl⟩
        have Hr6 := Lib.hid (Hr5.out.new hm6)
        have Hm6 := Lib.hid (Hm5.out.trans hm6 (fun _ _ h => h))
        clear hm6 hfull
        obtain ⟨fr, hfr⟩ : ∃ b, c.ps.any isFree = b := ⟨_, rfl⟩
        have Hfr := Lib.hid hfr
        clear hfr
        go_upto_region 7 with fail
        go_cut [51] from 46 to 51 (fun s51 wx => s51 = .bool (full && !fr) ∧ Mod (fun _ => False) w6 wx)
        case first =>
          cases full with
          | false =>
            go_wp2_with fail
            go_meet
            exact ⟨rfl, Mod.refl _ _⟩
          | true =>
            go_wp2_with fail
            refine (rkLoose0_any W.heap.size g3 _ _ c [] w6 Hr6.out Hgd.out.base.pgs.1 (by have h9 : c.ps.length ≤ 2000 := Hgd.out.len; omega)).mono ?_
            rw [Hfr.out]
            rintro e w7 ⟨rfl, hm7⟩
            go_wp2_with fail
            go_meet
            exact ⟨by simp, hm7⟩
        case rest =>
          obtain ⟨rfl, hm7⟩ := hcut
          obtain ⟨w7, rfl⟩ : ∃ w0 : World, w0 = wc := ⟨_, rfl⟩
          have Hr7 := Lib.hid (Hr6.out.new hm7)
          have Hm7 := Lib.hid (Hm6.out.trans hm7 (fun _ _ h => h))
          clear hm7
          by_cases hblk : full = true ∧ fr = false
          · obtain ⟨rfl, rfl⟩ := hblk
            have Had : Hid (admitK c k = (c, [], false)) := Lib.hid (by unfold admitK; rw [if_neg (by rw [Hrr.out]; decide), if_pos ⟨by have h := of_decide_eq_true Hfull.out; have := Hq1.out; have := Hq2.out; omega, Hfr.out⟩])
            have HM := Lib.hid (Hm7.out.mono (S' := fun k => W.heap.size ≤ k) (fun _ _ h => h.elim))
            have hend := rk_end (b := false) Hg2.out.symm HzW.out HmW.out HrW.out Hr7.out HM.out
            have Hb9 := Lib.hid hend.1; have HE9 := Lib.hid hend.2
            have q0 := hend.1.cell 0
            have qq1 := hend.1.cell 1
            have qq2 := hend.1.cell 2
            have q3 := hend.1.cell 3
            have q4 := hend.1.cell 4
            have q5 := hend.1.cell 5
            have p0 := hend.1.frozen 0
            have p1 := hend.1.frozen 1
            have p2 := hend.1.frozen 2
            have p3 := hend.1.frozen 3
            have p4 := hend.1.frozen 4
            have p5 := hend.1.frozen 5
            simp at q0 qq1 qq2 q3 q4 q5
            obtain ⟨y0, y1, y2, y3, y4, y5, _⟩ := Hr7.out.cells
            clear hend
            go_wp2_with fail
            refine bodyPost_ret (v := .tuple #[.agg #[.int .i64 c.most, .int .i64 c.target, (.slice A1 n1 c1), .int .i64 (c.hot : Int), .int .i64 (c.cold : Int), .int .i64 (c.test : Int)], .slice none 0 0, .bool false]) (by have h := Hb9.out.six (.int .i64 c.most) (.int .i64 c.target) (.slice A1 n1 c1) (.int .i64 (c.hot : Int)) (.int .i64 (c.cold : Int)) (.int .i64 (c.test : Int)); simp [results, Try.results35, go_sem, h.1, h.2.1, h.2.2.1, h.2.2.2.1, h.2.2.2.2.1, h.2.2.2.2.2.1]) rfl ?_
            rw [Had.out]
            exact CkEnd.ad (HE9.out _ (Mod.six_one _ _ _ _ _ _ _ _)) (OwnK.nil _ _ _ _)
          · have hs51 : (full && !fr) = false := by cases full <;> cases fr <;> simp at hblk ⊢
            have Hno : Hid (¬ (c.most ≤ ((cntK 1 c.ps + cntK 2 c.ps : Nat) : Int) ∧ c.ps.any isFree = false)) := Lib.hid (by
              rintro ⟨h1, h2⟩
              rw [Hfr.out] at h2
              have h3 : full = true := by rw [← Hfull.out]; exact decide_eq_true (by have := Hq1.out; have := Hq2.out; omega)
              exact hblk ⟨h3, h2⟩)
            clear hblk
            rw [hs51]
            have Hcr0 := Lib.hid (clear_room Hgd.out Hrr.out Hno.out)
            have HB7 : Hid (W.heap.size ≤ w7.heap.size) := Lib.hid Hm7.out.size
            obtain ⟨cc, hcc⟩ : ∃ cc, clearK c k = cc := ⟨_, rfl⟩
            have Hcc := Lib.hid hcc
            have hcr := Hcr0.out
            rw [hcc] at hcr
            have Hcr := Lib.hid hcr
            obtain ⟨⟨K, hE⟩, _⟩ := room_ends hcr.1.1 hcr.1.2.1 hcr.1.2.2 hcr.2.1
            have HE := Lib.hid hE
            clear hcr hE
            go_wp2_with fail
            refine (rkGoes_any W.heap.size g3 _ _ c [] i w7 Hr7.out Hgd.out.base Hlt.out (by have h9 : c.ps.length ≤ 2000 := Hgd.out.len; omega) HB7.out).mono ?_
            rintro e w8 ⟨rfl, v8, h1, h2, h3⟩
            have Hr8 := Lib.hid h1; have H2 := Lib.hid h2; have H3 := Lib.hid h3
            have Hb8 : Hid (BaseK (goesK c i)) := Lib.hid (goes_base Hgd.out.base Hp.out)
            clear h1 h2 h3
            go_wp2_with fail
            refine (rkAim_any W.heap.size g3 v8 _ (goesK c i) [] 1 w8 Hr8.out Hb8.out (by omega)).mono ?_
            rintro e wt ⟨rfl, ht⟩
            obtain ⟨vt, h1, h2, h3⟩ := RngTo.step H2.out H3.out ht
            have ecc : aimK (goesK c i) 1 = cc := by rw [← hcc]; unfold clearK; rw [Hf.out]
            rw [ecc] at h1
            have HRt := Lib.hid h1
            have HMt : Hid (Mod (fun k => W.heap.size ≤ k) W wt) := Lib.hid ((Hm7.out.mono (S' := fun k => W.heap.size ≤ k) (fun _ _ h => h.elim)).trans h2 (fun j hj h => by
              rcases h with h | h
              · have := Hg34.out; omega
              · exact (Hr7.out.lt j h).1))
            clear ht h1 h2 h3 ecc hcc
            go_wp2_with fail
            go_loopg [] K (fun k wr => ∃ cx vx vo out, Ends roomF k (cx, out) (roomK cc) ∧ RoomK cx ∧ out.length + (cntK 1 cx.ps + cntK 2 cx.ps) = cntK 1 cc.ps + cntK 2 cc.ps ∧ cx.ps.length ≤ cc.ps.length ∧ RngV W.heap.size g3 wr vx vo cx out ∧ Mod (fun k => W.heap.size ≤ k) W wr)
            case atStart => exact ⟨cc, _, _, [], HE.out, Hcr.out.1, by simp, Nat.le_refl _, HRt.out, HMt.out⟩
            case round =>
              obtain ⟨cx, vx, vo, ox, he, hrx, hox, hlx, hv, hm⟩ := hrel
              obtain ⟨Ax, nx, capx, rfl, Hnx, _, _, hrd⟩ := hv.form
              obtain ⟨Ao, no, co, rfl, _⟩ := OwnK.formN hv.out
              have HEx := Lib.hid he; have Hrx := Lib.hid hrx; have Hox := Lib.hid hox; have Hlx := Lib.hid hlx; have Hv := Lib.hid hv; have Hmx := Lib.hid hm; have Hrd := Lib.hid hrd
              have Hlen : Hid (cx.ps.length ≤ 2000) := Lib.hid (by have h9 : c.ps.length ≤ 2000 := Hgd.out.len; have := Hcr.out.2.2.2.2; omega)
              have HBx : Hid (W.heap.size ≤ wr.heap.size) := Lib.hid hm.size
              obtain ⟨r1, hr1⟩ : ∃ q, cntK 1 cx.ps = q := ⟨_, rfl⟩
              obtain ⟨r2, hr2⟩ : ∃ q, cntK 2 cx.ps = q := ⟨_, rfl⟩
              have Hr1 := Lib.hid hr1; have Hr2 := Lib.hid hr2
              obtain ⟨bl, hbl⟩ : ∃ b, decide (cx.most ≤ (r1 : Int) + (r2 : Int)) = b := ⟨_, rfl⟩
              have Hbl := Lib.hid hbl
              have br1 : (r1 : Int) ≤ 2000 := by have h1 : cntK 1 cx.ps ≤ cx.ps.length := List.countP_le_length; have := Hlen.out; omega
              have br2 : (r2 : Int) ≤ 2000 := by have h1 : cntK 2 cx.ps ≤ cx.ps.length := List.countP_le_length; have := Hlen.out; omega
              have hwr : IntKind.i64.wrap ((r1 : Int) + (r2 : Int)) = (r1 : Int) + (r2 : Int) := IntWalk.i64_in _ (by omega)
              clear he hrx hox hlx hv hm hrd hr1 hr2
              go_upto_region 12 with fail
              go_cut [79] from 63 to 79 (fun s79 wx => s79 = .bool bl ∧ Mod (fun _ => False) wr wx)
              case first =>
                have Ld : Hid (∀ w2, Mod (fun _ => False) wr w2 → w2.cell? ⟨g3, 0, none⟩ = some (.int .i64 cx.most) ∧ w2.cell? ⟨g3, 1, none⟩ = some (.int .i64 cx.target) ∧ w2.cell? ⟨g3, 2, none⟩ = some (.slice Ax nx capx) ∧ w2.cell? ⟨g3, 3, none⟩ = some (.int .i64 cx.hot) ∧ w2.cell? ⟨g3, 4, none⟩ = some (.int .i64 cx.cold) ∧ w2.cell? ⟨g3, 5, none⟩ = some (.int .i64 cx.test)) := Lib.hid (fun w2 h => by
                  obtain ⟨b0, b1, b2, b3, b4, b5, _⟩ := (Hv.out.new h).cells
                  exact ⟨b0, b1, b2, b3, b4, b5⟩)
                have C1 : Hid (∀ w2, Mod (fun _ => False) wr w2 → Calls Try.prog 52 #[.agg #[.int .i64 cx.most, .int .i64 cx.target, .slice Ax nx capx, .int .i64 (cx.hot : Int), .int .i64 (cx.cold : Int), .int .i64 (cx.test : Int)], .int .i64 1] w2 fun e w' => e = .returned (.int .i64 (r1 : Int)) ∧ Mod (fun _ => False) wr w') := Lib.hid (fun w2 h => by
                  refine (rkCount_any 1 cx.most cx.target cx.hot cx.cold cx.test Ax nx capx cx.ps w2 (Hrd.out.new h).fit (by have := Hlen.out; have := Hnx.out; omega)).mono ?_
                  rintro e w' ⟨rfl, hm⟩
                  exact ⟨by rw [Hr1.out], h.trans hm (fun _ _ h => h)⟩)
                have C2 : Hid (∀ w2, Mod (fun _ => False) wr w2 → Calls Try.prog 52 #[.agg #[.int .i64 cx.most, .int .i64 cx.target, .slice Ax nx capx, .int .i64 (cx.hot : Int), .int .i64 (cx.cold : Int), .int .i64 (cx.test : Int)], .int .i64 2] w2 fun e w' => e = .returned (.int .i64 (r2 : Int)) ∧ Mod (fun _ => False) wr w') := Lib.hid (fun w2 h => by
                  refine (rkCount_any 2 cx.most cx.target cx.hot cx.cold cx.test Ax nx capx cx.ps w2 (Hrd.out.new h).fit (by have := Hlen.out; have := Hnx.out; omega)).mono ?_
                  rintro e w' ⟨rfl, hm⟩
                  exact ⟨by rw [Hr2.out], h.trans hm (fun _ _ h => h)⟩)
                refine wp_region_class (fun W' => Mod (fun _ => False) wr W') (by kernel_rfl) (by kernel_rfl) (Mod.refl _ _).drew ?_
                iterate 3 quiet_step (exact fun _ => rfl)
                refine wpQuiet_step (fun K hK => ?_)
                go_simp
                refine ⟨.agg #[.int .i64 cx.most, .int .i64 cx.target, .slice Ax nx capx, .int .i64 (cx.hot : Int), .int .i64 (cx.cold : Int), .int .i64 (cx.test : Int)], fun w2 h2 => ?_, hK _ ?_⟩
                · obtain ⟨b0, b1, b2, b3, b4, b5⟩ := Ld.out w2 h2
                  simp only [b0, b1, b2, b3, b4, b5, Result.andThen_ok]
                  exact ⟨trivial, trivial⟩
                clear hK K
                refine wpQuiet_step (fun K hK => ?_)
                go_simp
                refine ⟨.int .i64 (r1 : Int), fun w2 h2 => (C1.out w2 h2).mono ?_, hK _ ?_⟩
                · rintro e w3 ⟨rfl, hm⟩
                  exact ⟨rfl, hm⟩
                clear hK K
                iterate 3 quiet_step (exact fun _ => rfl)
                refine wpQuiet_step (fun K hK => ?_)
                go_simp
                refine ⟨.agg #[.int .i64 cx.most, .int .i64 cx.target, .slice Ax nx capx, .int .i64 (cx.hot : Int), .int .i64 (cx.cold : Int), .int .i64 (cx.test : Int)], fun w2 h2 => ?_, hK _ ?_⟩
                · obtain ⟨b0, b1, b2, b3, b4, b5⟩ := Ld.out w2 h2
                  simp only [b0, b1, b2, b3, b4, b5, Result.andThen_ok]
                  exact ⟨trivial, trivial⟩
                clear hK K
                refine wpQuiet_step (fun K hK => ?_)
                go_simp
                refine ⟨.int .i64 (r2 : Int), fun w2 h2 => (C2.out w2 h2).mono ?_, hK _ ?_⟩
                · rintro e w3 ⟨rfl, hm⟩
                  exact ⟨rfl, hm⟩
                clear hK K
                iterate 5 quiet_step (exact fun _ => rfl)
                refine wpQuiet_step (fun K hK => ?_)
                go_simp
                refine ⟨.int .i64 cx.most, fun w2 h2 => ?_, hK _ ?_⟩
                · have b0 := (Ld.out w2 h2).1
                  simp only [b0]
                  exact ⟨rfl, rfl⟩
                clear hK K
                iterate 1 quiet_step (exact fun _ => rfl)
                refine wpQuiet_nil ?_
                intro w12 h12
                go_wp2_with fail
                go_meet
                exact ⟨by rw [← Hbl.out], h12⟩
              case rest =>
                obtain ⟨rfl, hm12⟩ := hcut
                obtain ⟨w12, rfl⟩ : ∃ w0 : World, w0 = wc := ⟨_, rfl⟩
                have Hv12 := Lib.hid (Hv.out.new hm12)
                have Hm12 := Lib.hid (Hmx.out.trans hm12 (fun _ _ h => h.elim))
                have HB12 : Hid (W.heap.size ≤ w12.heap.size) := Lib.hid (Nat.le_trans HBx.out hm12.size)
                clear hm12 hbl
                cases bl with
                | true =>
                  have hroom : cx.most ≤ ((cntK 1 cx.ps + cntK 2 cx.ps : Nat) : Int) := by have h := of_decide_eq_true Hbl.out; have := Hr1.out; have := Hr2.out; omega
                  obtain ⟨j, hj, hE1⟩ := HEx.out.some_ (roomF_some (out := ox) hroom)
                  have Hj := Lib.hid hj; have HE1 := Lib.hid hE1
                  have Hst := Lib.hid (room_step Hrx.out hroom ox)
                  have hfree : cx.ps.any isFree = true := Hrx.out.2.2 (by have := Hrx.out.2.1; omega)
                  obtain ⟨_, _, ho1, _⟩ := cold_ends Hrx.out.1 hfree ox
                  have Hl1 : Hid ((turnColdK cx ox).1.ps.length ≤ cx.ps.length) := Lib.hid (by have := ho1.keys.length_le; simpa using this)
                  have Hfree := Lib.hid hfree
                  clear hj hE1 hroom hfree ho1
                  go_wp2_with fail
                  refine (rkTurnCold_any W.heap.size g3 _ _ cx ox w12 Hv12.out Hrx.out.1 Hfree.out (by have := Hlen.out; omega) HB12.out (by have h1 : cntK 1 cc.ps ≤ cc.ps.length := List.countP_le_length; have h2 : cntK 2 cc.ps ≤ cc.ps.length := List.countP_le_length; have h9 : c.ps.length ≤ 2000 := Hgd.out.len; have := Hcr.out.2.2.2.2; have := Hox.out; omega)).mono ?_
                  rintro e w13 ⟨rfl, v13, vo13, k1, k2, k3, k4⟩
                  have K1 := Lib.hid k1
                  have K2 : Hid (Mod (fun k => W.heap.size ≤ k) W w13) := Lib.hid (Hm12.out.trans k2 (fun i hi h => by
                    rcases h with (h | h) | h
                    · have := Hg34.out; omega
                    · exact (Hv12.out.lt i h).1
                    · exact (OwnK.block Hv12.out.out i h).1))
                  clear k1 k2 k3 k4
                  go_wp2_with fail
                  go_roundg (gk - 1)
                  case measure => have := Hj.out; omega
                  case rel =>
                    have e1 : gk - 1 = j := by have := Hj.out; omega
                    rw [e1]
                    exact ⟨(turnColdK cx ox).1, v13, vo13, (turnColdK cx ox).2, HE1.out, Hst.out.1, by rw [Hst.out.2]; exact Hox.out, Nat.le_trans Hl1.out Hlx.out, K1.out, K2.out⟩
                | false =>
                  have He := Lib.hid (HEx.out.none_ (roomF_none (out := ox) (by have h := of_decide_eq_false Hbl.out; have := Hr1.out; have := Hr2.out; omega))).2
                  have hk12 := Hm12.out.blk HkW.out (by have := HkW.out.lt; omega)
                  obtain ⟨z0, z1, z2⟩ := hk12.threeR
                  obtain ⟨Wb, hWb, hmb, hbb, hzb⟩ := Blk.boxed w12 30 #[.int .i64 k.s, .int .i64 k.l, .int .i64 k.b, .int .i64 2, .bool false, .bool true, .int .i64 0]
                  obtain ⟨gb, hgb⟩ : ∃ g, g = w12.heap.size := ⟨_, rfl⟩
                  rw [← hgb] at hbb
                  have hm2 : Mod (fun _ => False) w12 ((Wb.setCell ⟨gb, 3, none⟩ (.int .i64 1)).setCell ⟨gb, 5, none⟩ (.bool false)) := (hmb.setCell (p := ⟨gb, 3, none⟩) (fun h => absurd h (by show ¬ gb < _; omega)) (.int .i64 1)).setCell (p := ⟨gb, 5, none⟩) (fun h => absurd h (by show ¬ gb < _; omega)) (.bool false)
                  have hb2 : Blk ((Wb.setCell ⟨gb, 3, none⟩ (.int .i64 1)).setCell ⟨gb, 5, none⟩ (.bool false)) gb 30 #[.int .i64 k.s, .int .i64 k.l, .int .i64 k.b, .int .i64 1, .bool false, .bool false, .int .i64 0] := by
                    have h := (hbb.set_ 3 (.int .i64 1)).set_ 5 (.bool false)
                    simpa using h
                  have fb3 := hbb.frozen 3
                  have fb5 := hbb.frozen 5
                  have zb3 := hbb.cell 3
                  have zb5 := hbb.cell 5
                  simp at zb3 zb5
                  obtain ⟨W2, hW2⟩ : ∃ W2, W2 = (Wb.setCell ⟨gb, 3, none⟩ (.int .i64 1)).setCell ⟨gb, 5, none⟩ (.bool false) := ⟨_, rfl⟩
                  rw [← hW2] at hm2 hb2
                  have HWb := Lib.hid hWb; have Hgb := Lib.hid hgb; have HW2 := Lib.hid hW2
                  have Hmb := Lib.hid hm2; have Hbb := Lib.hid hb2
                  clear hWb hgb hmb hbb hzb hW2 hm2 hb2 hk12
                  go_upto_region 15 with fail
                  rw [← HWb.out, ← Hgb.out]
                  clear z0 z1 z2
                  go_upto_region 17 with fail
                  rw [← HW2.out]
                  clear fb3 fb5 zb3 zb5
                  have x0 := Hbb.out.cell 0
                  have x1 := Hbb.out.cell 1
                  have x2 := Hbb.out.cell 2
                  have x3 := Hbb.out.cell 3
                  have x4 := Hbb.out.cell 4
                  have x5 := Hbb.out.cell 5
                  have x6 := Hbb.out.cell 6
                  simp at x0 x1 x2 x3 x4 x5 x6
                  have Hpk := Lib.hid (page_key c k)
                  have Hpe : Hid (pageK c k = ⟨k, 1, false, false, 0⟩) := Lib.hid (by unfold pageK; rw [Hf.out])
                  have Hra := Lib.hid (room_after (k := k) Hcr.out.1 Hcr.out.2.1 Hcr.out.2.2.2.1 Hpk.out.1 Hpk.out.2.1)
                  have Hv2 := Lib.hid (Hv12.out.new Hmb.out)
                  go_wp2_with fail
                  refine (rkCome_any W.heap.size g3 _ _ cx ox ⟨k, 1, false, false, 0⟩ W2 Hv2.out Hrx.out.1 (by have := Hlen.out; omega) (Nat.le_trans HB12.out Hmb.out.size)).mono ?_
                  rintro e w14 ⟨rfl, v14, h1, h2, h3⟩
                  have Hv14 := Lib.hid h1; have H2 := Lib.hid h2; have H3 := Lib.hid h3
                  clear h1 h2 h3 x0 x1 x2 x3 x4 x5 x6
                  have Hb14 : Hid (BaseK (comeK cx ⟨k, 1, false, false, 0⟩) ∧ (comeK cx ⟨k, 1, false, false, 0⟩).ps.length ≤ 3000) := Lib.hid (by
                    have h := Hra.out
                    rw [He.out, Hpe.out] at h
                    dsimp only at h
                    exact ⟨h.2.1, by have := h.2.2.2; have h9 : c.ps.length ≤ 2000 := Hgd.out.len; have := Hcr.out.2.2.2.2; omega⟩)
                  go_wp2_with fail
                  refine (rkCool_any W.heap.size g3 v14 _ _ ox w14 Hv14.out Hb14.out.1 (by have := Hb14.out.2; omega) (Nat.le_trans (Nat.le_trans HB12.out Hmb.out.size) H2.out.size)).mono ?_
                  obtain ⟨ce, hce⟩ : ∃ ce, coolK (comeK cx ⟨k, 1, false, false, 0⟩) = ce := ⟨_, rfl⟩
                  rw [hce]
                  rintro e w15 ⟨rfl, ht⟩
                  obtain ⟨v15, h1, h2, h3⟩ := RngTo.after Hmb.out (RngTo.step H2.out H3.out ht)
                  obtain ⟨A15, n15, c15, rfl, _, _, _, _⟩ := h1.form
                  have Hv15 := Lib.hid h1
                  have Had : Hid (admitK c k = (ce, ox, true)) := Lib.hid (by rw [admit_comes Hrr.out Hno.out, Hcc.out, He.out, Hpe.out, hce])
                  have HM15 : Hid (Mod (fun k => W.heap.size ≤ k) W w15) := Lib.hid (Hm12.out.trans h2 (fun i hi h => by
                    rcases h with h | h
                    · have := Hg34.out; omega
                    · exact (Hv12.out.lt i h).1))
                  clear ht h1 h2 h3 hce
                  have hend := rk_end (b := true) Hg2.out.symm HzW.out HmW.out HrW.out Hv15.out HM15.out
                  have Hb9 := Lib.hid hend.1; have HE9 := Lib.hid hend.2
                  have u0 := hend.1.cell 0
                  have p0 := hend.1.frozen 0
                  have u1 := hend.1.cell 1
                  have p1 := hend.1.frozen 1
                  have u2 := hend.1.cell 2
                  have p2 := hend.1.frozen 2
                  have u3 := hend.1.cell 3
                  have p3 := hend.1.frozen 3
                  have u4 := hend.1.cell 4
                  have p4 := hend.1.frozen 4
                  have u5 := hend.1.cell 5
                  have p5 := hend.1.frozen 5
                  simp at u0 u1 u2 u3 u4 u5
                  obtain ⟨y0, y1, y2, y3, y4, y5, y6⟩ := Hv15.out.cells
                  clear hend
                  go_upto_region 19 with fail
                  go_region
                  go_wp2_with fail
                  refine bodyPost_ret (v := .tuple #[.agg #[.int .i64 ce.most, .int .i64 ce.target, .slice A15 n15 c15, .int .i64 (ce.hot : Int), .int .i64 (ce.cold : Int), .int .i64 (ce.test : Int)], .slice Ao no co, .bool true]) (by have h := Hb9.out.six (.int .i64 ce.most) (.int .i64 ce.target) (.slice A15 n15 c15) (.int .i64 (ce.hot : Int)) (.int .i64 (ce.cold : Int)) (.int .i64 (ce.test : Int)); simp [results, Try.results35, go_sem, h.1, h.2.1, h.2.2.1, h.2.2.2.1, h.2.2.2.2.1, h.2.2.2.2.2.1]) rfl ?_
                  rw [Had.out]
                  refine CkEnd.ad (HE9.out _ (Mod.six_one _ _ _ _ _ _ _ _).drew) ?_
                  exact OwnK.drew (OwnK.mono (OwnK.modS Hv15.out.out (Mod.six_one _ _ _ _ _ _ _ _) (fun k hk e => by have := (OwnK.block Hv15.out.out k hk).1; have := HrW.out.lt; omega)) (by have := HmW.out.size; omega))
end Go.Proofs.Ythogflfjdfcpeaa

/- The law's step: one call of the document's. -/
namespace Go.Proofs.Ythogflfjdfcpeaa
open Go.RowKit

theorem radm_call {W : World} {A : Option Addr} {n cap : Nat} (c c' : ClkN) (k : KeyN) (out : List KeyN) (b : Bool) (ea : admitK c k = (c', out, b)) (hg : Good c) (hr : RdsP W W.heap.size A n c.ps) (hn : n ≤ 100000) :
    Calls Try.prog 35 #[.agg #[.int .i64 c.most, .int .i64 c.target, .slice A n cap, .int .i64 (c.hot : Int), .int .i64 (c.cold : Int), .int .i64 (c.test : Int)], .agg #[.int .i64 k.s, .int .i64 k.l, .int .i64 k.b]] W fun e w' =>
      ∃ vo A1 n1 c1, e = .returned (.tuple #[.agg (clkC c' (.slice A1 n1 c1)), vo, .bool b]) ∧ OwnP W.heap.size w' 30 (.slice A1 n1 c1) c'.ps ∧ OwnK 3 W.heap.size w' 28 vo (out.map keyC) ∧ Mod (fun _ => False) W w' := by
  refine (rkAdmit_any c k A n cap W hr hn hg).mono ?_
  rw [ea]
  rintro e w' ⟨vp, vo, rfl, h1, h2, h3⟩
  obtain ⟨A1, c1, rfl, _⟩ := OwnP.form h1
  exact ⟨vo, A1, _, c1, rfl, h1, h2, h3⟩
theorem rtouch_call {W : World} {A : Option Addr} {n cap : Nat} (c c' : ClkN) (k : KeyN) (b : Bool) (ea : touchK c k = (c', b)) (_hg : Good c) (hr : RdsP W W.heap.size A n c.ps) (hn : n ≤ 100000) :
    Calls Try.prog 36 #[.agg #[.int .i64 c.most, .int .i64 c.target, .slice A n cap, .int .i64 (c.hot : Int), .int .i64 (c.cold : Int), .int .i64 (c.test : Int)], .agg #[.int .i64 k.s, .int .i64 k.l, .int .i64 k.b]] W fun e w' =>
      ∃ A1 n1 c1, e = .returned (.tuple #[.agg (clkC c' (.slice A1 n1 c1)), .bool b]) ∧ OwnP W.heap.size w' 30 (.slice A1 n1 c1) c'.ps ∧ Mod (fun _ => False) W w' := by
  refine (rkTouch_any c k A n cap W hr hn).mono ?_
  rw [ea]
  rintro e w' ⟨vp, rfl, h1, h3⟩
  obtain ⟨A1, c1, rfl, _⟩ := OwnP.form h1
  exact ⟨A1, _, c1, rfl, h1, h3⟩
theorem rpin_call {W : World} {A : Option Addr} {n cap : Nat} (c c' : ClkN) (k : KeyN) (m : Int) (b : Bool) (ea : pinK c k m = (c', b)) (hg : Good c) (hr : RdsP W W.heap.size A n c.ps) (hn : n ≤ 100000) (hm : -1000000 ≤ m ∧ m ≤ 1000000) (hp : ∀ p ∈ c.ps, p.pins ≤ 1000000) :
    Calls Try.prog 37 #[.agg #[.int .i64 c.most, .int .i64 c.target, .slice A n cap, .int .i64 (c.hot : Int), .int .i64 (c.cold : Int), .int .i64 (c.test : Int)], .agg #[.int .i64 k.s, .int .i64 k.l, .int .i64 k.b], .int .i64 m] W fun e w' =>
      ∃ A1 n1 c1, e = .returned (.tuple #[.agg (clkC c' (.slice A1 n1 c1)), .bool b]) ∧ OwnP W.heap.size w' 30 (.slice A1 n1 c1) c'.ps ∧ Mod (fun _ => False) W w' := by
  refine (rkPin_any c k m A n cap W hr hn hm (fun p hp2 => ⟨(hg.base.pgs.1 p hp2).2.1, hp p hp2⟩)).mono ?_
  rw [ea]
  rintro e w' ⟨vp, rfl, h1, h3⟩
  obtain ⟨A1, c1, rfl, _⟩ := OwnP.form h1
  exact ⟨A1, _, c1, rfl, h1, h3⟩
theorem rdrop_call {W : World} {A : Option Addr} {n cap : Nat} (c c' : ClkN) (k : KeyN) (b : Bool) (ea : dropK c k = (c', b)) (hg : Good c) (hr : RdsP W W.heap.size A n c.ps) (hn : n ≤ 100000) :
    Calls Try.prog 38 #[.agg #[.int .i64 c.most, .int .i64 c.target, .slice A n cap, .int .i64 (c.hot : Int), .int .i64 (c.cold : Int), .int .i64 (c.test : Int)], .agg #[.int .i64 k.s, .int .i64 k.l, .int .i64 k.b]] W fun e w' =>
      ∃ A1 n1 c1, e = .returned (.tuple #[.agg (clkC c' (.slice A1 n1 c1)), .bool b]) ∧ OwnP W.heap.size w' 30 (.slice A1 n1 c1) c'.ps ∧ Mod (fun _ => False) W w' := by
  refine (rkDrop_any c k A n cap W hr hn hg.base).mono ?_
  rw [ea]
  rintro e w' ⟨vp, rfl, h1, h3⟩
  obtain ⟨A1, c1, rfl, _⟩ := OwnP.form h1
  exact ⟨A1, _, c1, rfl, h1, h3⟩
/-- What is answered is stored in a box of the call's own. -/
theorem ad_store {w w4 w5 : World} {g2 : Nat} {c : ClkN} {os : List KeyN} {b : Bool} {vp vo : Value} (hg : w.heap.size ≤ g2) (hg4 : g2 < w4.heap.size) (hm4 : Mod (fun _ => False) w w4) (h1 : OwnP w4.heap.size w5 30 vp c.ps) (h2 : OwnK 3 w4.heap.size w5 28 vo (os.map keyC)) (h3 : Mod (fun _ => False) w4 w5) :
    ∀ w', Mod (fun k => k = g2) w5 w' → AdEnd w w' c os b (.returned (.tuple #[.agg #[.int .i64 c.most, .int .i64 c.target, vp, .int .i64 (c.hot : Int), .int .i64 (c.cold : Int), .int .i64 (c.test : Int)], vo, .bool b])) := fun w' hm' =>
  ⟨vp, vo, rfl, OwnK.mono (OwnK.modS h1 hm' (fun k hk e => by have := (OwnK.block h1 k hk).1; omega)) (by have := hm4.size; omega),
    OwnK.mono (OwnK.modS h2 hm' (fun k hk e => by have := (OwnK.block h2 k hk).1; omega)) (by have := hm4.size; omega),
    (hm4.trans h3 (fun _ _ h => h)).trans hm' (fun i hi h => by omega)⟩
set_option maxHeartbeats 20000000 in
set_option maxRecDepth 100000 in
theorem lstep_any (c : ClkN) (x : Int) (A : Option Addr) (n cap : Nat) (w : World) (hs : RdsP w w.heap.size A n c.ps) (hn : n ≤ 100000) (hgd : Good c) (hx : FitI x) (hp : ∀ p ∈ c.ps, p.pins ≤ 1000000) :
    Calls Try.prog 18 #[.agg #[.int .i64 c.most, .int .i64 c.target, .slice A n cap, .int .i64 (c.hot : Int), .int .i64 (c.cold : Int), .int .i64 (c.test : Int)], .int .i64 x] w fun e w' => AdEnd w w' (stepK c x).1 (stepK c x).2.1 (stepK c x).2.2 e := by
  obtain ⟨W, hW, hmW, hbW, hrW, hzW⟩ := two_clocks w #[.int .i64 c.most, .int .i64 c.target, .slice A n cap, .int .i64 (c.hot : Int), .int .i64 (c.cold : Int), .int .i64 (c.test : Int)] #[.int .i64 0, .int .i64 0, .slice none 0 0, .int .i64 0, .int .i64 0, .int .i64 0]
  obtain ⟨g0, hg0⟩ : ∃ g, g = w.heap.size := ⟨_, rfl⟩
  obtain ⟨g2, hg2⟩ : ∃ g, g = w.heap.size + 1 := ⟨_, rfl⟩
  rw [← hg0] at hbW
  rw [← hg2] at hrW
  obtain ⟨k, hk⟩ : ∃ k, keyN (x / 8) = k := ⟨_, rfl⟩
  obtain ⟨o, ho⟩ : ∃ o, x % 8 = o := ⟨_, rfl⟩
  have mo : bits .and .i64 x 7 = o := by rw [mask7, ho]
  have hl : o = 0 ∨ o = 1 ∨ o = 2 ∨ o = 3 ∨ o = 4 ∨ o = 5 ∨ o = 6 ∨ o = 7 := by omega
  have hfx8 : FitI (x / 8) := by have := hx.out; constructor <;> omega
  have Hs := Lib.hid (hs.new hmW).fit; have Hn := Lib.hid hn; have Hgd := Lib.hid hgd; have Hp := Lib.hid hp; have Hk := Lib.hid hk; have Ho := Lib.hid ho; have Hx := Lib.hid hx
  have HW := Lib.hid hW; have HmW := Lib.hid hmW; have HbW := Lib.hid hbW; have HrW := Lib.hid hrW; have Hg0 := Lib.hid hg0; have Hg2 := Lib.hid hg2; have HzW := Lib.hid hzW; have Hl := Lib.hid hl; have Hf8 := Lib.hid hfx8
  clear hs hn hgd hp hk ho hx hW hmW hbW hrW hg0 hg2 hzW hl hfx8
  go_enter Try.func18, Try.ntmps18
  go_upto_region 1 with fail
  rw [← HW.out, ← Hg2.out, ← Hg0.out]
  go_wp2_with fail
  refine (ckKey_any (x / 8) W Hf8.out).mono ?_
  rw [Hk.out]
  rintro e w3 ⟨rfl, hm3⟩
  obtain ⟨W4, hW4, hm4, hk4, hz4⟩ := Blk.boxed w3 28 #[.int .i64 k.s, .int .i64 k.l, .int .i64 k.b]
  obtain ⟨gky, hgk⟩ : ∃ g, g = w3.heap.size := ⟨_, rfl⟩
  rw [← hgk] at hk4
  have hm34 := hm3.trans hm4 (fun _ _ h => h)
  have Hs4 := Lib.hid (Hs.out.new hm34).fit
  have Hd4 := Lib.hid (hm34.blk HrW.out (fun h => h))
  have hb4 := hm34.blk HbW.out (fun h => h)
  have Hm4 := Lib.hid (HmW.out.trans hm34 (fun _ _ h => h))
  have Hgl : Hid (w.heap.size ≤ g2 ∧ g2 < W4.heap.size) := Lib.hid ⟨by have := Hg2.out; omega, Hd4.out.lt⟩
  have HW4 := Lib.hid hW4; have Hgk := Lib.hid hgk
  have y0 := hb4.cell 0
  have y1 := hb4.cell 1
  have y2 := hb4.cell 2
  have y3 := hb4.cell 3
  have y4 := hb4.cell 4
  have y5 := hb4.cell 5
  simp at y0 y1 y2 y3 y4 y5
  have z0 := hk4.cell 0
  have z1 := hk4.cell 1
  have z2 := hk4.cell 2
  simp at z0 z1 z2
  clear hm3 hW4 hm4 hz4 hgk hm34 hb4 hk4 Hs HW HmW HbW HrW Hg0 Hg2 HzW Hf8
  go_upto_region 2 with fail
  rw [← HW4.out, ← Hgk.out]
  rcases Hl.out with rfl | rfl | rfl | rfl | rfl | rfl | rfl | rfl
  · have Hst : Hid (stepK c x = admitK c k) := Lib.hid (by unfold stepK; rw [Hk.out, if_pos (by have := Ho.out; omega)])
    obtain ⟨⟨c2, os, ok⟩, hea⟩ : ∃ r, admitK c k = r := ⟨_, rfl⟩
    have Hea := Lib.hid hea
    clear hea
    go_wp2_with fail
    refine (radm_call c c2 k os ok Hea.out Hgd.out Hs4.out Hn.out).mono ?_
    rintro e w5 ⟨vo, A5, n5, c5, rfl, h1, h2, h3⟩
    dsimp only [clkC]
    obtain ⟨Bo, no, co, rfl, _⟩ := OwnK.formN h2
    have hd5 := h3.blk Hd4.out (fun h => h)
    have HE := Lib.hid (ad_store (b := ok) Hgl.out.1 Hgl.out.2 Hm4.out h1 h2 h3)
    have Hd5 := Lib.hid hd5
    clear y0 y1 y2 y3 y4 y5 z0 z1 z2 h1 h2 h3
    have u0 := hd5.cell 0
    have u1 := hd5.cell 1
    have u2 := hd5.cell 2
    have u3 := hd5.cell 3
    have u4 := hd5.cell 4
    have u5 := hd5.cell 5
    have p0 := hd5.frozen 0
    have p1 := hd5.frozen 1
    have p2 := hd5.frozen 2
    have p3 := hd5.frozen 3
    have p4 := hd5.frozen 4
    have p5 := hd5.frozen 5
    simp at u0 u1 u2 u3 u4 u5
    clear hd5
    go_wp2_with fail
    refine bodyPost_ret (v := .tuple #[.agg #[.int .i64 c2.most, .int .i64 c2.target, .slice A5 n5 c5, .int .i64 (c2.hot : Int), .int .i64 (c2.cold : Int), .int .i64 (c2.test : Int)], .slice Bo no co, .bool ok]) (by have h := Hd5.out.six (.int .i64 c2.most) (.int .i64 c2.target) (.slice A5 n5 c5) (.int .i64 (c2.hot : Int)) (.int .i64 (c2.cold : Int)) (.int .i64 (c2.test : Int)); simp [results, Try.results18, go_sem, h.1, h.2.1, h.2.2.1, h.2.2.2.1, h.2.2.2.2.1, h.2.2.2.2.2.1]) rfl ?_
    rw [Hst.out, Hea.out]
    exact HE.out _ (Mod.six_one _ _ _ _ _ _ _ _)
  · have Hst : Hid (stepK c x = admitK c k) := Lib.hid (by unfold stepK; rw [Hk.out, if_pos (by have := Ho.out; omega)])
    obtain ⟨⟨c2, os, ok⟩, hea⟩ : ∃ r, admitK c k = r := ⟨_, rfl⟩
    have Hea := Lib.hid hea
    clear hea
    go_wp2_with fail
    refine (radm_call c c2 k os ok Hea.out Hgd.out Hs4.out Hn.out).mono ?_
    rintro e w5 ⟨vo, A5, n5, c5, rfl, h1, h2, h3⟩
    dsimp only [clkC]
    obtain ⟨Bo, no, co, rfl, _⟩ := OwnK.formN h2
    have hd5 := h3.blk Hd4.out (fun h => h)
    have HE := Lib.hid (ad_store (b := ok) Hgl.out.1 Hgl.out.2 Hm4.out h1 h2 h3)
    have Hd5 := Lib.hid hd5
    clear y0 y1 y2 y3 y4 y5 z0 z1 z2 h1 h2 h3
    have u0 := hd5.cell 0
    have u1 := hd5.cell 1
    have u2 := hd5.cell 2
    have u3 := hd5.cell 3
    have u4 := hd5.cell 4
    have u5 := hd5.cell 5
    have p0 := hd5.frozen 0
    have p1 := hd5.frozen 1
    have p2 := hd5.frozen 2
    have p3 := hd5.frozen 3
    have p4 := hd5.frozen 4
    have p5 := hd5.frozen 5
    simp at u0 u1 u2 u3 u4 u5
    clear hd5
    go_wp2_with fail
    refine bodyPost_ret (v := .tuple #[.agg #[.int .i64 c2.most, .int .i64 c2.target, .slice A5 n5 c5, .int .i64 (c2.hot : Int), .int .i64 (c2.cold : Int), .int .i64 (c2.test : Int)], .slice Bo no co, .bool ok]) (by have h := Hd5.out.six (.int .i64 c2.most) (.int .i64 c2.target) (.slice A5 n5 c5) (.int .i64 (c2.hot : Int)) (.int .i64 (c2.cold : Int)) (.int .i64 (c2.test : Int)); simp [results, Try.results18, go_sem, h.1, h.2.1, h.2.2.1, h.2.2.2.1, h.2.2.2.2.1, h.2.2.2.2.2.1]) rfl ?_
    rw [Hst.out, Hea.out]
    exact HE.out _ (Mod.six_one _ _ _ _ _ _ _ _)
  · have Hst : Hid (stepK c x = admitK c k) := Lib.hid (by unfold stepK; rw [Hk.out, if_pos (by have := Ho.out; omega)])
    obtain ⟨⟨c2, os, ok⟩, hea⟩ : ∃ r, admitK c k = r := ⟨_, rfl⟩
    have Hea := Lib.hid hea
    clear hea
    go_wp2_with fail
    refine (radm_call c c2 k os ok Hea.out Hgd.out Hs4.out Hn.out).mono ?_
    rintro e w5 ⟨vo, A5, n5, c5, rfl, h1, h2, h3⟩
    dsimp only [clkC]
    obtain ⟨Bo, no, co, rfl, _⟩ := OwnK.formN h2
    have hd5 := h3.blk Hd4.out (fun h => h)
    have HE := Lib.hid (ad_store (b := ok) Hgl.out.1 Hgl.out.2 Hm4.out h1 h2 h3)
    have Hd5 := Lib.hid hd5
    clear y0 y1 y2 y3 y4 y5 z0 z1 z2 h1 h2 h3
    have u0 := hd5.cell 0
    have u1 := hd5.cell 1
    have u2 := hd5.cell 2
    have u3 := hd5.cell 3
    have u4 := hd5.cell 4
    have u5 := hd5.cell 5
    have p0 := hd5.frozen 0
    have p1 := hd5.frozen 1
    have p2 := hd5.frozen 2
    have p3 := hd5.frozen 3
    have p4 := hd5.frozen 4
    have p5 := hd5.frozen 5
    simp at u0 u1 u2 u3 u4 u5
    clear hd5
    go_wp2_with fail
    refine bodyPost_ret (v := .tuple #[.agg #[.int .i64 c2.most, .int .i64 c2.target, .slice A5 n5 c5, .int .i64 (c2.hot : Int), .int .i64 (c2.cold : Int), .int .i64 (c2.test : Int)], .slice Bo no co, .bool ok]) (by have h := Hd5.out.six (.int .i64 c2.most) (.int .i64 c2.target) (.slice A5 n5 c5) (.int .i64 (c2.hot : Int)) (.int .i64 (c2.cold : Int)) (.int .i64 (c2.test : Int)); simp [results, Try.results18, go_sem, h.1, h.2.1, h.2.2.1, h.2.2.2.1, h.2.2.2.2.1, h.2.2.2.2.2.1]) rfl ?_
    rw [Hst.out, Hea.out]
    exact HE.out _ (Mod.six_one _ _ _ _ _ _ _ _)
  · obtain ⟨⟨c2, ok⟩, hea⟩ : ∃ r, touchK c k = r := ⟨_, rfl⟩
    have Hst : Hid (stepK c x = (c2, [], ok)) := Lib.hid (by unfold stepK; rw [Hk.out, if_neg (by have := Ho.out; omega), if_pos (by have := Ho.out; omega), hea])
    have Hea := Lib.hid hea
    clear hea
    go_wp2_with fail
    refine (rtouch_call c c2 k ok Hea.out Hgd.out Hs4.out Hn.out).mono ?_
    rintro e w5 ⟨A5, n5, c5, rfl, h1, h3⟩
    dsimp only [clkC]
    obtain ⟨W8, hW8, hm8, hb8, hz8⟩ := Blk.boxed w5 25 #[.int .i64 c2.most, .int .i64 c2.target, .slice A5 n5 c5, .int .i64 (c2.hot : Int), .int .i64 (c2.cold : Int), .int .i64 (c2.test : Int)]
    obtain ⟨g8, hg8⟩ : ∃ g, g = w5.heap.size := ⟨_, rfl⟩
    rw [← hg8] at hb8
    have h38 := h3.trans hm8 (fun _ _ h => h)
    have hd5 := h38.blk Hd4.out (fun h => h)
    have HE := Lib.hid (ad_store (os := []) (vo := .slice none 0 0) (b := ok) Hgl.out.1 Hgl.out.2 Hm4.out (OwnP.mod h1 hm8) (OwnK.nil 3 W4.heap.size W8 28) h38)
    have Hd5 := Lib.hid hd5; have HW8 := Lib.hid hW8; have Hg8 := Lib.hid hg8
    clear y0 y1 y2 y3 y4 y5 z0 z1 z2 h1 h3 hm8 hz8 h38 hW8 hg8
    have u0 := hd5.cell 0
    have u1 := hd5.cell 1
    have u2 := hd5.cell 2
    have u3 := hd5.cell 3
    have u4 := hd5.cell 4
    have u5 := hd5.cell 5
    have p0 := hd5.frozen 0
    have p1 := hd5.frozen 1
    have p2 := hd5.frozen 2
    have p3 := hd5.frozen 3
    have p4 := hd5.frozen 4
    have p5 := hd5.frozen 5
    simp at u0 u1 u2 u3 u4 u5
    have v0 := hb8.cell 0
    have v1 := hb8.cell 1
    have v2 := hb8.cell 2
    have v3 := hb8.cell 3
    have v4 := hb8.cell 4
    have v5 := hb8.cell 5
    simp at v0 v1 v2 v3 v4 v5
    clear hd5 hb8
    go_upto_region 10 with fail
    rw [← HW8.out, ← Hg8.out]
    go_wp2_with fail
    refine bodyPost_ret (v := .tuple #[.agg #[.int .i64 c2.most, .int .i64 c2.target, .slice A5 n5 c5, .int .i64 (c2.hot : Int), .int .i64 (c2.cold : Int), .int .i64 (c2.test : Int)], .slice none 0 0, .bool ok]) (by have h := Hd5.out.six (.int .i64 c2.most) (.int .i64 c2.target) (.slice A5 n5 c5) (.int .i64 (c2.hot : Int)) (.int .i64 (c2.cold : Int)) (.int .i64 (c2.test : Int)); simp [results, Try.results18, go_sem, h.1, h.2.1, h.2.2.1, h.2.2.2.1, h.2.2.2.2.1, h.2.2.2.2.2.1]) rfl ?_
    rw [Hst.out]
    exact HE.out _ (Mod.six_one _ _ _ _ _ _ _ _)
  · obtain ⟨⟨c2, ok⟩, hea⟩ : ∃ r, touchK c k = r := ⟨_, rfl⟩
    have Hst : Hid (stepK c x = (c2, [], ok)) := Lib.hid (by unfold stepK; rw [Hk.out, if_neg (by have := Ho.out; omega), if_pos (by have := Ho.out; omega), hea])
    have Hea := Lib.hid hea
    clear hea
    go_wp2_with fail
    refine (rtouch_call c c2 k ok Hea.out Hgd.out Hs4.out Hn.out).mono ?_
    rintro e w5 ⟨A5, n5, c5, rfl, h1, h3⟩
    dsimp only [clkC]
    obtain ⟨W8, hW8, hm8, hb8, hz8⟩ := Blk.boxed w5 25 #[.int .i64 c2.most, .int .i64 c2.target, .slice A5 n5 c5, .int .i64 (c2.hot : Int), .int .i64 (c2.cold : Int), .int .i64 (c2.test : Int)]
    obtain ⟨g8, hg8⟩ : ∃ g, g = w5.heap.size := ⟨_, rfl⟩
    rw [← hg8] at hb8
    have h38 := h3.trans hm8 (fun _ _ h => h)
    have hd5 := h38.blk Hd4.out (fun h => h)
    have HE := Lib.hid (ad_store (os := []) (vo := .slice none 0 0) (b := ok) Hgl.out.1 Hgl.out.2 Hm4.out (OwnP.mod h1 hm8) (OwnK.nil 3 W4.heap.size W8 28) h38)
    have Hd5 := Lib.hid hd5; have HW8 := Lib.hid hW8; have Hg8 := Lib.hid hg8
    clear y0 y1 y2 y3 y4 y5 z0 z1 z2 h1 h3 hm8 hz8 h38 hW8 hg8
    have u0 := hd5.cell 0
    have u1 := hd5.cell 1
    have u2 := hd5.cell 2
    have u3 := hd5.cell 3
    have u4 := hd5.cell 4
    have u5 := hd5.cell 5
    have p0 := hd5.frozen 0
    have p1 := hd5.frozen 1
    have p2 := hd5.frozen 2
    have p3 := hd5.frozen 3
    have p4 := hd5.frozen 4
    have p5 := hd5.frozen 5
    simp at u0 u1 u2 u3 u4 u5
    have v0 := hb8.cell 0
    have v1 := hb8.cell 1
    have v2 := hb8.cell 2
    have v3 := hb8.cell 3
    have v4 := hb8.cell 4
    have v5 := hb8.cell 5
    simp at v0 v1 v2 v3 v4 v5
    clear hd5 hb8
    go_upto_region 10 with fail
    rw [← HW8.out, ← Hg8.out]
    go_wp2_with fail
    refine bodyPost_ret (v := .tuple #[.agg #[.int .i64 c2.most, .int .i64 c2.target, .slice A5 n5 c5, .int .i64 (c2.hot : Int), .int .i64 (c2.cold : Int), .int .i64 (c2.test : Int)], .slice none 0 0, .bool ok]) (by have h := Hd5.out.six (.int .i64 c2.most) (.int .i64 c2.target) (.slice A5 n5 c5) (.int .i64 (c2.hot : Int)) (.int .i64 (c2.cold : Int)) (.int .i64 (c2.test : Int)); simp [results, Try.results18, go_sem, h.1, h.2.1, h.2.2.1, h.2.2.2.1, h.2.2.2.2.1, h.2.2.2.2.2.1]) rfl ?_
    rw [Hst.out]
    exact HE.out _ (Mod.six_one _ _ _ _ _ _ _ _)
  · obtain ⟨q, hq⟩ : ∃ z, x / 256 % 4 = z := ⟨_, rfl⟩
    obtain ⟨r, hr⟩ : ∃ z, x % 2 = z := ⟨_, rfl⟩
    have mq : bits .and .i64 (x / 256) 3 = q := by rw [mask3, hq]
    have mr : bits .and .i64 x 1 = r := by rw [mask1, hr]
    obtain ⟨q1, hq1⟩ : ∃ z, q - 1 = z := ⟨_, rfl⟩
    obtain ⟨m, hm⟩ : ∃ z, q1 - r = z := ⟨_, rfl⟩
    have hmb : -1000000 ≤ m ∧ m ≤ 1000000 := by omega
    have Hmb := Lib.hid hmb
    have wr1 : IntKind.i64.wrap (q - 1) = q1 := by rw [hq1]; exact IntWalk.i64_in _ (by omega)
    have wr2 : IntKind.i64.wrap (q1 - r) = m := by rw [hm]; exact IntWalk.i64_in _ (by omega)
    have hmm : x / 256 % 4 - 1 - x % 2 = m := by rw [hq, hr, hq1, hm]
    have Hmm := Lib.hid hmm
    have hq0 : 0 ≤ q ∧ q < 4 := by omega
    have hr0 : 0 ≤ r ∧ r < 2 := by omega
    clear hmm hmb hq hr
    obtain ⟨⟨c2, ok⟩, hea⟩ : ∃ r, pinK c k m = r := ⟨_, rfl⟩
    have Hst : Hid (stepK c x = (c2, [], ok)) := Lib.hid (by unfold stepK; rw [Hk.out, Hmm.out, if_neg (by have := Ho.out; omega), if_neg (by have := Ho.out; omega), if_pos (by have := Ho.out; omega), hea])
    have Hea := Lib.hid hea
    clear hea
    go_wp2_with fail
    refine (rpin_call c c2 k m ok Hea.out Hgd.out Hs4.out Hn.out Hmb.out Hp.out).mono ?_
    rintro e w5 ⟨A5, n5, c5, rfl, h1, h3⟩
    dsimp only [clkC]
    obtain ⟨W8, hW8, hm8, hb8, hz8⟩ := Blk.boxed w5 25 #[.int .i64 c2.most, .int .i64 c2.target, .slice A5 n5 c5, .int .i64 (c2.hot : Int), .int .i64 (c2.cold : Int), .int .i64 (c2.test : Int)]
    obtain ⟨g8, hg8⟩ : ∃ g, g = w5.heap.size := ⟨_, rfl⟩
    rw [← hg8] at hb8
    have h38 := h3.trans hm8 (fun _ _ h => h)
    have hd5 := h38.blk Hd4.out (fun h => h)
    have HE := Lib.hid (ad_store (os := []) (vo := .slice none 0 0) (b := ok) Hgl.out.1 Hgl.out.2 Hm4.out (OwnP.mod h1 hm8) (OwnK.nil 3 W4.heap.size W8 28) h38)
    have Hd5 := Lib.hid hd5; have HW8 := Lib.hid hW8; have Hg8 := Lib.hid hg8
    clear y0 y1 y2 y3 y4 y5 z0 z1 z2 h1 h3 hm8 hz8 h38 hW8 hg8
    have u0 := hd5.cell 0
    have u1 := hd5.cell 1
    have u2 := hd5.cell 2
    have u3 := hd5.cell 3
    have u4 := hd5.cell 4
    have u5 := hd5.cell 5
    have p0 := hd5.frozen 0
    have p1 := hd5.frozen 1
    have p2 := hd5.frozen 2
    have p3 := hd5.frozen 3
    have p4 := hd5.frozen 4
    have p5 := hd5.frozen 5
    simp at u0 u1 u2 u3 u4 u5
    have v0 := hb8.cell 0
    have v1 := hb8.cell 1
    have v2 := hb8.cell 2
    have v3 := hb8.cell 3
    have v4 := hb8.cell 4
    have v5 := hb8.cell 5
    simp at v0 v1 v2 v3 v4 v5
    clear hd5 hb8
    go_upto_region 14 with fail
    rw [← HW8.out, ← Hg8.out]
    go_wp2_with fail
    refine bodyPost_ret (v := .tuple #[.agg #[.int .i64 c2.most, .int .i64 c2.target, .slice A5 n5 c5, .int .i64 (c2.hot : Int), .int .i64 (c2.cold : Int), .int .i64 (c2.test : Int)], .slice none 0 0, .bool ok]) (by have h := Hd5.out.six (.int .i64 c2.most) (.int .i64 c2.target) (.slice A5 n5 c5) (.int .i64 (c2.hot : Int)) (.int .i64 (c2.cold : Int)) (.int .i64 (c2.test : Int)); simp [results, Try.results18, go_sem, h.1, h.2.1, h.2.2.1, h.2.2.2.1, h.2.2.2.2.1, h.2.2.2.2.2.1]) rfl ?_
    rw [Hst.out]
    exact HE.out _ (Mod.six_one _ _ _ _ _ _ _ _)
  · obtain ⟨q, hq⟩ : ∃ z, x / 256 % 4 = z := ⟨_, rfl⟩
    obtain ⟨r, hr⟩ : ∃ z, x % 2 = z := ⟨_, rfl⟩
    have mq : bits .and .i64 (x / 256) 3 = q := by rw [mask3, hq]
    have mr : bits .and .i64 x 1 = r := by rw [mask1, hr]
    obtain ⟨q1, hq1⟩ : ∃ z, q - 1 = z := ⟨_, rfl⟩
    obtain ⟨m, hm⟩ : ∃ z, q1 - r = z := ⟨_, rfl⟩
    have hmb : -1000000 ≤ m ∧ m ≤ 1000000 := by omega
    have Hmb := Lib.hid hmb
    have wr1 : IntKind.i64.wrap (q - 1) = q1 := by rw [hq1]; exact IntWalk.i64_in _ (by omega)
    have wr2 : IntKind.i64.wrap (q1 - r) = m := by rw [hm]; exact IntWalk.i64_in _ (by omega)
    have hmm : x / 256 % 4 - 1 - x % 2 = m := by rw [hq, hr, hq1, hm]
    have Hmm := Lib.hid hmm
    have hq0 : 0 ≤ q ∧ q < 4 := by omega
    have hr0 : 0 ≤ r ∧ r < 2 := by omega
    clear hmm hmb hq hr
    obtain ⟨⟨c2, ok⟩, hea⟩ : ∃ r, pinK c k m = r := ⟨_, rfl⟩
    have Hst : Hid (stepK c x = (c2, [], ok)) := Lib.hid (by unfold stepK; rw [Hk.out, Hmm.out, if_neg (by have := Ho.out; omega), if_neg (by have := Ho.out; omega), if_pos (by have := Ho.out; omega), hea])
    have Hea := Lib.hid hea
    clear hea
    go_wp2_with fail
    refine (rpin_call c c2 k m ok Hea.out Hgd.out Hs4.out Hn.out Hmb.out Hp.out).mono ?_
    rintro e w5 ⟨A5, n5, c5, rfl, h1, h3⟩
    dsimp only [clkC]
    obtain ⟨W8, hW8, hm8, hb8, hz8⟩ := Blk.boxed w5 25 #[.int .i64 c2.most, .int .i64 c2.target, .slice A5 n5 c5, .int .i64 (c2.hot : Int), .int .i64 (c2.cold : Int), .int .i64 (c2.test : Int)]
    obtain ⟨g8, hg8⟩ : ∃ g, g = w5.heap.size := ⟨_, rfl⟩
    rw [← hg8] at hb8
    have h38 := h3.trans hm8 (fun _ _ h => h)
    have hd5 := h38.blk Hd4.out (fun h => h)
    have HE := Lib.hid (ad_store (os := []) (vo := .slice none 0 0) (b := ok) Hgl.out.1 Hgl.out.2 Hm4.out (OwnP.mod h1 hm8) (OwnK.nil 3 W4.heap.size W8 28) h38)
    have Hd5 := Lib.hid hd5; have HW8 := Lib.hid hW8; have Hg8 := Lib.hid hg8
    clear y0 y1 y2 y3 y4 y5 z0 z1 z2 h1 h3 hm8 hz8 h38 hW8 hg8
    have u0 := hd5.cell 0
    have u1 := hd5.cell 1
    have u2 := hd5.cell 2
    have u3 := hd5.cell 3
    have u4 := hd5.cell 4
    have u5 := hd5.cell 5
    have p0 := hd5.frozen 0
    have p1 := hd5.frozen 1
    have p2 := hd5.frozen 2
    have p3 := hd5.frozen 3
    have p4 := hd5.frozen 4
    have p5 := hd5.frozen 5
    simp at u0 u1 u2 u3 u4 u5
    have v0 := hb8.cell 0
    have v1 := hb8.cell 1
    have v2 := hb8.cell 2
    have v3 := hb8.cell 3
    have v4 := hb8.cell 4
    have v5 := hb8.cell 5
    simp at v0 v1 v2 v3 v4 v5
    clear hd5 hb8
    go_upto_region 14 with fail
    rw [← HW8.out, ← Hg8.out]
    go_wp2_with fail
    refine bodyPost_ret (v := .tuple #[.agg #[.int .i64 c2.most, .int .i64 c2.target, .slice A5 n5 c5, .int .i64 (c2.hot : Int), .int .i64 (c2.cold : Int), .int .i64 (c2.test : Int)], .slice none 0 0, .bool ok]) (by have h := Hd5.out.six (.int .i64 c2.most) (.int .i64 c2.target) (.slice A5 n5 c5) (.int .i64 (c2.hot : Int)) (.int .i64 (c2.cold : Int)) (.int .i64 (c2.test : Int)); simp [results, Try.results18, go_sem, h.1, h.2.1, h.2.2.1, h.2.2.2.1, h.2.2.2.2.1, h.2.2.2.2.2.1]) rfl ?_
    rw [Hst.out]
    exact HE.out _ (Mod.six_one _ _ _ _ _ _ _ _)
  · obtain ⟨q, hq⟩ : ∃ z, x / 256 % 4 = z := ⟨_, rfl⟩
    have mq : bits .and .i64 (x / 256) 3 = q := by rw [mask3, hq]
    have Hq := Lib.hid hq
    clear hq
    by_cases hq0 : 0 < q
    · have b0 : decide (0 < q) = true := decide_eq_true hq0
      have Hst : Hid (stepK c x = admitK c k) := Lib.hid (by unfold stepK; rw [Hk.out, if_neg (by have := Ho.out; omega), if_neg (by have := Ho.out; omega), if_neg (by have := Ho.out; omega), if_pos (by have := Hq.out; omega)])
      obtain ⟨⟨c2, os, ok⟩, hea⟩ : ∃ r, admitK c k = r := ⟨_, rfl⟩
      have Hea := Lib.hid hea
      clear hea
      go_wp2_with fail
      refine (radm_call c c2 k os ok Hea.out Hgd.out Hs4.out Hn.out).mono ?_
      rintro e w5 ⟨vo, A5, n5, c5, rfl, h1, h2, h3⟩
      dsimp only [clkC]
      obtain ⟨Bo, no, co, rfl, _⟩ := OwnK.formN h2
      have hd5 := h3.blk Hd4.out (fun h => h)
      have HE := Lib.hid (ad_store (b := ok) Hgl.out.1 Hgl.out.2 Hm4.out h1 h2 h3)
      have Hd5 := Lib.hid hd5
      clear y0 y1 y2 y3 y4 y5 z0 z1 z2 h1 h2 h3
      have u0 := hd5.cell 0
      have u1 := hd5.cell 1
      have u2 := hd5.cell 2
      have u3 := hd5.cell 3
      have u4 := hd5.cell 4
      have u5 := hd5.cell 5
      have p0 := hd5.frozen 0
      have p1 := hd5.frozen 1
      have p2 := hd5.frozen 2
      have p3 := hd5.frozen 3
      have p4 := hd5.frozen 4
      have p5 := hd5.frozen 5
      simp at u0 u1 u2 u3 u4 u5
      clear hd5
      go_wp2_with fail
      refine bodyPost_ret (v := .tuple #[.agg #[.int .i64 c2.most, .int .i64 c2.target, .slice A5 n5 c5, .int .i64 (c2.hot : Int), .int .i64 (c2.cold : Int), .int .i64 (c2.test : Int)], .slice Bo no co, .bool ok]) (by have h := Hd5.out.six (.int .i64 c2.most) (.int .i64 c2.target) (.slice A5 n5 c5) (.int .i64 (c2.hot : Int)) (.int .i64 (c2.cold : Int)) (.int .i64 (c2.test : Int)); simp [results, Try.results18, go_sem, h.1, h.2.1, h.2.2.1, h.2.2.2.1, h.2.2.2.2.1, h.2.2.2.2.2.1]) rfl ?_
      rw [Hst.out, Hea.out]
      exact HE.out _ (Mod.six_one _ _ _ _ _ _ _ _)
    · have b0 : decide (0 < q) = false := decide_eq_false hq0
      obtain ⟨⟨c2, ok⟩, hea⟩ : ∃ r, dropK c k = r := ⟨_, rfl⟩
      have Hst : Hid (stepK c x = (c2, [], ok)) := Lib.hid (by unfold stepK; rw [Hk.out, if_neg (by have := Ho.out; omega), if_neg (by have := Ho.out; omega), if_neg (by have := Ho.out; omega), if_neg (by have := Hq.out; omega), hea])
      have Hea := Lib.hid hea
      clear hea
      go_wp2_with fail
      refine (rdrop_call c c2 k ok Hea.out Hgd.out Hs4.out Hn.out).mono ?_
      rintro e w5 ⟨A5, n5, c5, rfl, h1, h3⟩
      dsimp only [clkC]
      obtain ⟨W8, hW8, hm8, hb8, hz8⟩ := Blk.boxed w5 25 #[.int .i64 c2.most, .int .i64 c2.target, .slice A5 n5 c5, .int .i64 (c2.hot : Int), .int .i64 (c2.cold : Int), .int .i64 (c2.test : Int)]
      obtain ⟨g8, hg8⟩ : ∃ g, g = w5.heap.size := ⟨_, rfl⟩
      rw [← hg8] at hb8
      have h38 := h3.trans hm8 (fun _ _ h => h)
      have hd5 := h38.blk Hd4.out (fun h => h)
      have HE := Lib.hid (ad_store (os := []) (vo := .slice none 0 0) (b := ok) Hgl.out.1 Hgl.out.2 Hm4.out (OwnP.mod h1 hm8) (OwnK.nil 3 W4.heap.size W8 28) h38)
      have Hd5 := Lib.hid hd5; have HW8 := Lib.hid hW8; have Hg8 := Lib.hid hg8
      clear y0 y1 y2 y3 y4 y5 z0 z1 z2 h1 h3 hm8 hz8 h38 hW8 hg8
      have u0 := hd5.cell 0
      have u1 := hd5.cell 1
      have u2 := hd5.cell 2
      have u3 := hd5.cell 3
      have u4 := hd5.cell 4
      have u5 := hd5.cell 5
      have p0 := hd5.frozen 0
      have p1 := hd5.frozen 1
      have p2 := hd5.frozen 2
      have p3 := hd5.frozen 3
      have p4 := hd5.frozen 4
      have p5 := hd5.frozen 5
      simp at u0 u1 u2 u3 u4 u5
      have v0 := hb8.cell 0
      have v1 := hb8.cell 1
      have v2 := hb8.cell 2
      have v3 := hb8.cell 3
      have v4 := hb8.cell 4
      have v5 := hb8.cell 5
      simp at v0 v1 v2 v3 v4 v5
      clear hd5 hb8
      go_upto_region 18 with fail
      rw [← HW8.out, ← Hg8.out]
      go_wp2_with fail
      refine bodyPost_ret (v := .tuple #[.agg #[.int .i64 c2.most, .int .i64 c2.target, .slice A5 n5 c5, .int .i64 (c2.hot : Int), .int .i64 (c2.cold : Int), .int .i64 (c2.test : Int)], .slice none 0 0, .bool ok]) (by have h := Hd5.out.six (.int .i64 c2.most) (.int .i64 c2.target) (.slice A5 n5 c5) (.int .i64 (c2.hot : Int)) (.int .i64 (c2.cold : Int)) (.int .i64 (c2.test : Int)); simp [results, Try.results18, go_sem, h.1, h.2.1, h.2.2.1, h.2.2.2.1, h.2.2.2.2.1, h.2.2.2.2.2.1]) rfl ?_
      rw [Hst.out]
      exact HE.out _ (Mod.six_one _ _ _ _ _ _ _ _)
end Go.Proofs.Ythogflfjdfcpeaa
