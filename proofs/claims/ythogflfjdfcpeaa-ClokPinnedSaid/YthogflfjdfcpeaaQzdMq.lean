/- ClokPinned's walk. -/
import Derived.Test.YthogflfjdfcpeaaMq1
import Derived.Test.YthogflfjdfcpeaaMq9
import Derived.Test.YthogflfjdfcpeaaMq15
namespace Go.Proofs.Ythogflfjdfcpeaa
open Go.RowKit

set_option maxHeartbeats 40000000 in
set_option maxRecDepth 100000 in
theorem ckpinned_walk (a0 : Int) (A1 : Option Addr) (n1 cp1 : Nat) (zs : List Int) (a2 : Int) (w : World) (hs : SeesI .i64 w w.heap.size A1 n1 zs) (hz : ∀ x ∈ zs, FitI x) :
    Calls Try.prog 3 #[.int .i64 a0, .slice A1 n1 cp1, .int .i64 a2] w fun e w' => e = .returned (.bool true) ∧ Mod (fun _ => False) w w' := by
  have hcl := lclock_any a0 A1 n1 cp1 zs w hs hz
  obtain ⟨C, hC⟩ : ∃ C, ledK (a0 % 8 + 1) (zs.take 80) = C := ⟨_, rfl⟩
  have hg : Good C := by rw [← hC]; exact (led_good _ _).1
  have hst : ∀ x ∈ C.ps, x.key ≠ strangerN := by rw [← hC]; exact led_stranger _ _
  have hpl : ∀ p ∈ C.ps, p.pins ≤ 160 := by
    rw [← hC]
    intro p hp
    have h := led_pins (a0 % 8 + 1) (zs.take 80) p hp
    have h2 : (zs.take 80).length ≤ 80 := List.length_take_le ..
    omega
  rw [hC] at hcl
  obtain ⟨C1, hC1⟩ : ∃ C1, upTo C C.ps.length = C1 := ⟨_, rfl⟩
  have hall := pinned_all hg hst hC1
  have Hg := Lib.hid hg; have Hpl := Lib.hid hpl; have Hall := Lib.hid hall; have HC1 := Lib.hid hC1; have Hcl := Lib.hid hcl
  clear hcl hC hg hst hpl hC1 hall hs hz
  go_enter Try.func3, Try.ntmps3
  go_wp2_with fail
  refine Hcl.out.mono ?_
  rintro e w1 ⟨vp, rfl, ho1, hm1⟩
  clear Hcl
  obtain ⟨A, cap, rfl, _⟩ := OwnP.form ho1
  obtain ⟨N, hN⟩ : ∃ N, C.ps.length = N := ⟨_, rfl⟩
  rw [hN] at ho1 ⊢
  obtain ⟨W1, hW1, hmb, hb1, hz1⟩ := Blk.boxed w1 25 #[.int .i64 C.most, .int .i64 C.target, .slice A N cap, .int .i64 (C.hot : Int), .int .i64 (C.cold : Int), .int .i64 (C.test : Int)]
  obtain ⟨g7, hg7⟩ : ∃ g, g = w1.heap.size := ⟨_, rfl⟩
  rw [← hg7] at hb1
  have hc1 : ClkV w.heap.size g7 W1 (.slice A N cap) C := ⟨hb1, OwnP.mod ho1 hmb⟩
  have Hm1 := Lib.hid (hm1.trans hmb (fun _ _ h => h))
  have Hg7 : Hid (w.heap.size ≤ g7 ∧ g7 < W1.heap.size) := Lib.hid ⟨by have := hm1.size; omega, hb1.lt⟩
  have Hc1 := Lib.hid hc1; have HN := Lib.hid hN; have HW1 := Lib.hid hW1; have Hgg := Lib.hid hg7
  have y2 := hc1.cells.2.2.1
  clear hc1 hN hW1 hg7 hmb hb1 hz1 ho1 hm1
  go_upto_region 2 with fail
  rw [← HW1.out, ← Hgg.out]
  go_wp2_with fail
  clear y2
  go_loopg [8, 30] N (fun k s8 s30 wr => ∃ (i q : Nat) (vp : Value), i + k = N ∧ s30 = .int .i64 (i : Int) ∧ s8 = .int .i64 (q : Int) ∧ resTo C.ps i = q ∧ ClkV w.heap.size g7 wr vp (upTo C i) ∧ Mod (fun j => j = g7) W1 wr)
  case atStart => exact ⟨0, 0, _, by omega, rfl, rfl, rfl, by rw [up_zero]; exact Hc1.out, Mod.refl _ _⟩
  case round =>
    obtain ⟨i, q, vp, hik, rfl, rfl, hq, hc, hm⟩ := hrel
    have Hik := Lib.hid hik; have Hq := Lib.hid hq; have Hc := Lib.hid hc; have Hm := Lib.hid hm
    have hq2 : (q : Int) ≤ 2000 := by
      have h1 := resTo_mono (ps := C.ps) (i := i) (j := C.ps.length) (by have := HN.out; omega)
      have h2 := Hall.out.2.2.2.2.2.2.2.1
      have h3 := Hg.out.base.most
      omega
    have HmA : Hid (Mod (fun _ => False) w wr) := Lib.hid (Hm1.out.trans hm (fun j hj e => by have := Hg7.out; omega))
    obtain ⟨ca, hca⟩ : ∃ ca, upTo C i = ca := ⟨_, rfl⟩
    rw [hca] at Hc
    have Hca := Lib.hid hca
    clear hik hq hc hm hca HW1 Hgg
    obtain ⟨Aq, nq', capq, rfl, Hnq, _, _, _⟩ := Hc.out.form
    by_cases hin : i < N
    · as_aux_lemma =>
        obtain ⟨ad2, p, rfl, _, hp, c0, c1, c2, c3, c4, c5, c6⟩ := RdsP.at_ (OwnK.rds (OwnK.modS Hc1.out.ps Hm.out (fun j hj e => own_blk_ne Hc1.out.ps.2 Hc1.out.blk (by decide) (by rw [hj, e]))) (by rw [List.length_map]; exact HN.out)) hin
        have hin' : (i : Int) < (N : Int) := by omega
        have hin2 : (i : Int) ≤ 100000 := by have := HN.out; have h9 : C.ps.length ≤ 2000 := Hg.out.len; omega
        have Hp := Lib.hid hp
        have Hrs := Lib.hid (resTo_succ hp)
        have hokp := Hg.out.base.ok_at hp
        have Hokp := Lib.hid (resi_of hokp)
        have Hup1 : Hid (p.resi = true → pinK ca p.key 1 = (upTo C (i + 1), true)) := Lib.hid (fun h => by rw [← Hca.out]; exact up_pin Hg.out hp h)
        have Hup0 : Hid (p.resi = false → upTo C (i + 1) = ca) := Lib.hid (fun h => by rw [← Hca.out]; exact up_other hp h)
        obtain ⟨⟨s, l, b⟩, kd, rf, tr, pn⟩ := p
        simp only at c0 c1 c2 c3 c4 c5 c6
        obtain ⟨Wb, hWb, hmb, hbb, hzb⟩ := Blk.boxed wr 30 #[.int .i64 s, .int .i64 l, .int .i64 b, .int .i64 kd, .bool rf, .bool tr, .int .i64 pn]
        obtain ⟨gb, hgb⟩ : ∃ g, g = wr.heap.size := ⟨_, rfl⟩
        rw [← hgb] at hbb
        have x0 := hbb.cell 0
        have x1 := hbb.cell 1
        have x2 := hbb.cell 2
        have x3 := hbb.cell 3
        simp at x0 x1 x2 x3
        have hcb := Hc.out.new hmb
        obtain ⟨y0, y1, y2, y3, y4, y5⟩ := hcb.cells
        have Hcb := Lib.hid hcb; have HWb := Lib.hid hWb; have Hgb := Lib.hid hgb
        have HmB := Lib.hid ((hmb.mono (S' := fun j => j = g7) (fun _ _ h => h.elim)))
        have HmB' := Lib.hid hmb
        clear hcb hWb hgb hmb hbb hzb hp hokp
        go_upto_region 6 with fail
        rw [← HWb.out, ← Hgb.out]
        clear c0 c1 c2 c3 c4 c5 c6
        by_cases h3 : kd = 3
        · have b3 : ((kd : Int) == 3) = true := by simp [h3]
          have Hr0 : Hid (PagN.resi ⟨⟨s, l, b⟩, kd, rf, tr, pn⟩ = false) := Lib.hid (by unfold PagN.resi; simp [h3])
          have HK := Lib.hid h3
          clear h3
          go_wp2_with fail
          go_roundg (gk - 1)
          case measure => have := Hik.out; omega
          case rel =>
            refine ⟨i + 1, q, .slice Aq nq' capq, by have := Hik.out; omega, by go_num, rfl, ?_, ?_, Hm.out.trans HmB.out (fun _ _ h => h)⟩
            · rw [Hrs.out, Hr0.out, Hq.out]; rfl
            · rw [Hup0.out Hr0.out]; exact Hcb.out
        · have b3 : ((kd : Int) == 3) = false := by simp [h3]
          have Hr1 : Hid (PagN.resi ⟨⟨s, l, b⟩, kd, rf, tr, pn⟩ = true) := Lib.hid (Hokp.out.2 h3)
          have HK := Lib.hid h3
          clear h3
          obtain ⟨cb, hcbe⟩ : ∃ cb, upTo C (i + 1) = cb := ⟨_, rfl⟩
          have Hpin : Hid (pinK ca ⟨s, l, b⟩ 1 = (cb, true)) := Lib.hid (by rw [← hcbe]; exact Hup1.out Hr1.out)
          have Hcbe := Lib.hid hcbe
          have HgA : Hid (Good ca) := Lib.hid (by rw [← Hca.out]; exact up_good Hg.out i (by have := HN.out; omega))
          have HpA : Hid (∀ p ∈ ca.ps, p.pins ≤ 1000000) := Lib.hid (fun p hp => by rw [← Hca.out] at hp; have := up_pinsle Hpl.out p hp; omega)
          clear hcbe
          go_wp2_with fail
          refine (pin_call (B := w.heap.size) (g := g7) (W := Wb) ca cb ⟨s, l, b⟩ 1 true Hpin.out HgA.out (by omega) HpA.out Hcb.out).mono ?_
          rintro e w5 ⟨A5, n5, c5, rfl, h1, h3⟩
          dsimp only [clkC]
          obtain ⟨W8, hW8, hm8, hb8, hz8⟩ := Blk.boxed w5 25 #[.int .i64 cb.most, .int .i64 cb.target, .slice A5 n5 c5, .int .i64 (cb.hot : Int), .int .i64 (cb.cold : Int), .int .i64 (cb.test : Int)]
          obtain ⟨g8, hg8⟩ : ∃ g, g = w5.heap.size := ⟨_, rfl⟩
          rw [← hg8] at hb8
          have h38 := h3.trans hm8 (fun _ _ h => h)
          have hd8 := h38.blk Hcb.out.blk (fun h => h)
          simp only [clkC] at hd8
          have hko := clk_over (W := w) cb rfl hd8 Hg7.out.1 (OwnP.mod h1 hm8) (by have := HmA.out.size; have := HmB.out.size; omega) (HmA.out.trans (HmB'.out.trans h38 (fun _ _ h => h)) (fun _ _ h => h))
          have hmk : Mod (fun j => j = g7) W1 ((((((W8.setCell ⟨g7, 0, none⟩ (.int .i64 cb.most)).setCell ⟨g7, 1, none⟩ (.int .i64 cb.target)).setCell ⟨g7, 2, none⟩ (.slice A5 n5 c5)).setCell ⟨g7, 3, none⟩ (.int .i64 (cb.hot : Int))).setCell ⟨g7, 4, none⟩ (.int .i64 (cb.cold : Int))).setCell ⟨g7, 5, none⟩ (.int .i64 (cb.test : Int))) := Hm.out.trans ((HmB.out.trans (h38.mono (fun _ _ h => h.elim)) (fun _ _ h => h)).trans (Mod.six_one W8 g7 (.int .i64 cb.most) (.int .i64 cb.target) (.slice A5 n5 c5) (.int .i64 (cb.hot : Int)) (.int .i64 (cb.cold : Int)) (.int .i64 (cb.test : Int))) (fun _ _ h => h)) (fun _ _ h => h)
          have HK1 := Lib.hid hko.1; have HK2 := Lib.hid hmk; have HW8 := Lib.hid hW8; have Hg8 := Lib.hid hg8
          clear y0 y1 y2 y3 y4 y5 x0 x1 x2 x3 h1 h3 hm8 hz8 h38 hW8 hg8 hko hmk
          have u0 := hd8.cell 0
          have u1 := hd8.cell 1
          have u2 := hd8.cell 2
          have u3 := hd8.cell 3
          have u4 := hd8.cell 4
          have u5 := hd8.cell 5
          have p0 := hd8.frozen 0
          have p1 := hd8.frozen 1
          have p2 := hd8.frozen 2
          have p3 := hd8.frozen 3
          have p4 := hd8.frozen 4
          have p5 := hd8.frozen 5
          simp at u0 u1 u2 u3 u4 u5
          have v0 := hb8.cell 0
          have v1 := hb8.cell 1
          have v2 := hb8.cell 2
          have v3 := hb8.cell 3
          have v4 := hb8.cell 4
          have v5 := hb8.cell 5
          simp at v0 v1 v2 v3 v4 v5
          clear hd8 hb8
          go_upto_region 10 with fail
          rw [← HW8.out, ← Hg8.out]
          go_wp2_with fail
          go_roundg (gk - 1)
          case measure => have := Hik.out; omega
          case rel =>
            refine ⟨i + 1, q + 1, .slice A5 n5 c5, by have := Hik.out; omega, by go_num, by go_num, ?_, ?_, HK2.out⟩
            · rw [Hrs.out, Hr1.out, Hq.out]; rfl
            · rw [Hcbe.out]; exact HK1.out
    · as_aux_lemma =>
        have hin' : ¬ (i : Int) < (N : Int) := by omega
        have hiN : i = C.ps.length := by have := HN.out; have := Hik.out; omega
        have hqa : resTo C.ps C.ps.length = q := by rw [← hiN]; exact Hq.out
        have hce : ca = C1 := by rw [← Hca.out, hiN]; exact HC1.out
        have hall := Hall.out
        rw [hqa] at hall
        rw [hce] at Hc Hnq
        obtain ⟨r1, r2, r3, r4, r5, r6, r7, r8, r9, r10⟩ := hall
        have Hg1 := Lib.hid r1; have Hmost := Lib.hid r2; have Hkey1 := Lib.hid r4; have Hno := Lib.hid r5; have Hcnt := Lib.hid r6; have Hre1 := Lib.hid r7; have Hle := Lib.hid r8; have Hlt := Lib.hid r9; have Hge := Lib.hid r10
        have Hpl1 : Hid (∀ p ∈ C1.ps, p.pins ≤ 161) := Lib.hid (fun p hp => by rw [← HC1.out] at hp; exact up_pinsle Hpl.out p hp)
        have Hqn := Lib.hid hq2
        clear hiN hqa hce r1 r2 r3 r4 r5 r6 r7 r8 r9 r10 hin Hca Hik Hq Hall HC1 Hpl HN Hg Hc1 Hm
        obtain ⟨Wk, hWk, hmk, hbk, hzk⟩ := Blk.boxed wr 28 #[.int .i64 9, .int .i64 0, .int .i64 0]
        obtain ⟨gk9, hgk9⟩ : ∃ g, g = wr.heap.size := ⟨_, rfl⟩
        rw [← hgk9] at hbk
        have hck := Hc.out.new hmk
        have HmK := Lib.hid (HmA.out.trans hmk (fun _ _ h => h))
        obtain ⟨y0, y1, y2, y3, y4, y5⟩ := hck.cells
        obtain ⟨z0, z1, z2⟩ := hbk.threeR
        have Hck := Lib.hid hck; have Hbk := Lib.hid hbk; have HWk := Lib.hid hWk; have Hgk9 := Lib.hid hgk9
        have Hgk7 : Hid (gk9 ≠ g7 ∧ w.heap.size ≤ gk9) := Lib.hid (by have := Hc.out.blk.lt; have := HmA.out.size; omega)
        clear hck hmk hbk hzk hWk hgk9 Hc HmA
        go_upto_region 14 with fail
        rw [← HWk.out, ← Hgk9.out]
        by_cases hlt : (q : Int) < C.most
        · as_aux_lemma =>
            obtain ⟨d, i0, ea, hf, hgd⟩ := Hlt.out hlt
            have bq : decide ((q : Int) < C1.most) = true := decide_eq_true (by rw [Hmost.out]; exact hlt)
            have Hf := Lib.hid hf; have Hgd := Lib.hid hgd; have Hhlt := Lib.hid hlt
            have HA := Lib.hid (adm_call C1 d strangerN [] true ea Hg1.out Hck.out)
            clear ea hf hgd hlt
            go_wp2_with fail
            refine HA.out.mono ?_
            rintro e w5 ⟨vo, A5, n5, c5, rfl, h1, h2, h3⟩
            dsimp only [clkC]
            obtain ⟨A6, c6, rfl⟩ := no_key h2
            obtain ⟨W14, hW14, hm14, hb14, hz14⟩ := Blk.boxed w5 25 #[.int .i64 d.most, .int .i64 d.target, .slice A5 n5 c5, .int .i64 (d.hot : Int), .int .i64 (d.cold : Int), .int .i64 (d.test : Int)]
            obtain ⟨g14, hg14⟩ : ∃ g, g = w5.heap.size := ⟨_, rfl⟩
            rw [← hg14] at hb14
            have h314 := h3.trans hm14 (fun _ _ h => h)
            have hrd : RdsP W14 W14.heap.size A5 n5 d.ps := OwnK.rds (OwnP.mod h1 hm14) (by
              obtain ⟨A', c', e', _⟩ := OwnP.form h1
              injection e' with _ e2 _
              rw [List.length_map, e2])
            have hk14 := h314.blk Hbk.out (fun h => h)
            have hc14 := (Hck.out.new h314).cells.1
            have HmT := Lib.hid (HmK.out.trans h314 (fun _ _ h => h))
            have HW14 := Lib.hid hW14; have Hg14 := Lib.hid hg14; have Hrd := Lib.hid hrd
            clear y0 y1 y2 y3 y4 y5 z0 z1 z2 h1 h2 h3 hW14 hg14 hm14 hz14 h314 hrd
            obtain ⟨z0, z1, z2⟩ := hk14.threeR
            have v0 := hb14.cell 0
            have v1 := hb14.cell 1
            have v2 := hb14.cell 2
            have v3 := hb14.cell 3
            have v4 := hb14.cell 4
            have v5 := hb14.cell 5
            simp at v0 v1 v2 v3 v4 v5
            clear hk14 hb14
            go_upto_region 15 with fail
            rw [← HW14.out, ← Hg14.out]
            go_wp2_with fail
            refine (find_any d strangerN A5 n5 c5 W14 Hrd.out (by have := Hrd.out.len; have h9 : d.ps.length ≤ 2000 := Hgd.out.len; omega)).mono ?_
            rintro e w6 ⟨rfl, hm6⟩
            have hpl : placeK strangerN d.ps = (i0 : Int) := by unfold placeK; rw [Hf.out]
            rw [hpl]
            have Hm6 := Lib.hid (HmT.out.trans hm6 (fun _ _ h => h))
            have hi0 : (0 : Int) ≤ (i0 : Int) := by omega
            clear hm6 hpl z0 z1 z2 v0 v1 v2 v3 v4 v5 hc14
            go_wp2_with fail
            refine (ckAwake_any w6).mono ?_
            rintro e w7 ⟨rfl, hm7⟩
            have Hm7 := Lib.hid (Hm6.out.trans hm7 (fun _ _ h => h))
            clear hm7
            go_wp2_with fail
            go_ret
            exact ⟨rfl, Hm7.out⟩
        · as_aux_lemma =>
            have ea := Hge.out (by omega)
            have bq : decide ((q : Int) < C1.most) = false := decide_eq_false (by rw [Hmost.out]; exact hlt)
            have Hhlt := Lib.hid hlt
            have HA := Lib.hid (adm_call C1 C1 strangerN [] false ea Hg1.out Hck.out)
            clear ea hlt
            go_wp2_with fail
            refine HA.out.mono ?_
            rintro e w5 ⟨vo, A5, n5, c5, rfl, h1, h2, h3⟩
            dsimp only [clkC]
            obtain ⟨A6, c6, rfl⟩ := no_key h2
            obtain ⟨W14, hW14, hm14, hb14, hz14⟩ := Blk.boxed w5 25 #[.int .i64 C1.most, .int .i64 C1.target, .slice A5 n5 c5, .int .i64 (C1.hot : Int), .int .i64 (C1.cold : Int), .int .i64 (C1.test : Int)]
            obtain ⟨g14, hg14⟩ : ∃ g, g = w5.heap.size := ⟨_, rfl⟩
            rw [← hg14] at hb14
            have h314 := h3.trans hm14 (fun _ _ h => h)
            have hck14 := Hck.out.new h314
            have hbk14 := h314.blk Hbk.out (fun h => h)
            have hcd14 : ClkV w.heap.size g14 W14 (.slice A5 n5 c5) C1 := ⟨hb14, OwnP.mono (OwnP.mod h1 hm14) HmK.out.size⟩
            have hc14 := hck14.cells.1
            have HmT := Lib.hid (HmK.out.trans h314 (fun _ _ h => h))
            have HW14 := Lib.hid hW14; have Hg14 := Lib.hid hg14
            have Hg147 : Hid (g14 ≠ g7 ∧ g14 ≠ gk9 ∧ w.heap.size ≤ g14) := Lib.hid (by have := Hck.out.blk.lt; have := Hbk.out.lt; have := h3.size; have := HmK.out.size; omega)
            clear y0 y1 y2 y3 y4 y5 z0 z1 z2 h1 h2 h3 hW14 hg14 hm14 hz14 h314 hb14
            go_upto_region 15 with fail
            rw [← HW14.out, ← Hg14.out]
            have hmp : 0 < q := by have := Hhlt.out; have h1 := Hg1.out.base.most; have := Hmost.out; omega
            obtain ⟨x5, hx5⟩ : ∃ z, a2 % 256 = z := ⟨_, rfl⟩
            have m5 : bits .and .i64 a2 255 = x5 := by rw [i64_and255, hx5]
            have hx5b : 0 ≤ x5 ∧ x5 < 256 := by omega
            obtain ⟨K, hK⟩ : ∃ K : Nat, x5 % (q : Int) = (K : Int) := ⟨(x5 % (q : Int)).toNat, by have := Int.emod_nonneg x5 (show (q : Int) ≠ 0 by omega); omega⟩
            have hKq : K < q := by have := Int.emod_lt_of_pos x5 (show (0 : Int) < (q : Int) by omega); omega
            have hKt : x5.tmod (q : Int) = (K : Int) := by rw [Int.tmod_eq_emod_of_nonneg hx5b.1, hK]
            have hq0 : ¬ (q : Int) = 0 := by omega
            have hq0b : ((q : Int) == 0) = false := by simp; omega
            have HKq := Lib.hid hKq
            obtain ⟨Wf, hWf, hmf, hbf, hzf⟩ := Blk.boxed W14 28 #[.int .i64 0, .int .i64 0, .int .i64 0]
            obtain ⟨gf, hgf⟩ : ∃ g, g = W14.heap.size := ⟨_, rfl⟩
            rw [← hgf] at hbf
            have Hcf := Lib.hid (hck14.new hmf); have Hdf := Lib.hid (hcd14.new hmf); have Hkf := Lib.hid (hmf.blk hbk14 (fun h => h)); have Hbf := Lib.hid hbf
            have Hmf := Lib.hid (HmT.out.trans hmf (fun _ _ h => h))
            have HWf := Lib.hid hWf; have Hgf := Lib.hid hgf
            have Hgff : Hid (gf ≠ g7 ∧ gf ≠ gk9 ∧ gf ≠ g14 ∧ w.heap.size ≤ gf) := Lib.hid (by have := hck14.blk.lt; have := hbk14.lt; have := hcd14.blk.lt; have := HmT.out.size; omega)
            clear hck14 hbk14 hcd14 hmf hbf hzf hWf hgf hKq hmp hx5
            go_upto_region 21 with fail
            rw [← HWf.out, ← Hgf.out]
            clear hc14 bq m5 hx5b hK hKt hq0 hq0b
            have y2 := Hcf.out.cells.2.2.1
            go_wp2_with fail
            clear y2
            have HN1 := Hnq
            go_loopg [16, 17, 83] nq' (fun k s16 s17 s83 wr => ∃ (i r : Nat) (z : Int) (bb : Bool) (dv : ClkN) (fk : KeyN) (vq : Value), i + k = nq' ∧ s83 = .int .i64 (i : Int) ∧ s17 = .int .i64 z ∧ s16 = .bool bb ∧ z + (r : Int) = (K : Int) ∧ resTo C1.ps i = r ∧ ClkV w.heap.size g14 wr vq dv ∧ Blk wr gf 28 #[.int .i64 fk.s, .int .i64 fk.l, .int .i64 fk.b] ∧
              (bb = true → ∃ (j : Nat) (p : PagN), C1.ps[j]? = some p ∧ p.resi = true ∧ fk = p.key ∧ dv = (pinK C1 p.key (-p.pins)).1) ∧ (bb = false → r ≤ K) ∧ Mod (fun j => j = g14 ∨ j = gf) Wf wr)
            case atStart => exact ⟨0, 0, (K : Int), false, C1, ⟨0, 0, 0⟩, _, by omega, rfl, rfl, rfl, by omega, rfl, Hdf.out, Hbf.out, (fun h => by cases h), (fun _ => Nat.zero_le _), Mod.refl _ _⟩
            case round =>
              obtain ⟨i, r, z, bb, dv, fk, vq, hik, rfl, rfl, rfl, hzr, hr, hcd, hbf, ht, hfa, hm⟩ := hrel
              have hzb : -100000 ≤ z ∧ z ≤ 100000 := by
                have h1 := resTo_mono (ps := C1.ps) (i := i) (j := C1.ps.length) (by have := HN1.out; omega)
                have h2 := Hre1.out
                have h3 := HKq.out
                have h4 := Hqn.out
                omega
              have HmE : Hid (Mod (fun _ => False) w wr) := Lib.hid (Hmf.out.trans hm (fun j hj e => by have := Hg147.out; have := Hgff.out; omega))
              have hc7 : ClkV w.heap.size g7 wr (.slice Aq nq' capq) C1 := Hcf.out.modS hm (fun j hj e => by
                rcases hj with rfl | hj
                · have := Hg147.out; have := Hgff.out; omega
                · rcases e with e | e
                  · exact own_blk_ne Hcf.out.ps.2 Hdf.out.blk (by decide) (by rw [hj, e])
                  · exact own_blk_ne Hcf.out.ps.2 Hbf.out (by decide) (by rw [hj, e]))
              have hk9 := hm.blk Hkf.out (by have := Hg147.out; have := Hgff.out; omega)
              have Hik := Lib.hid hik; have Hzr := Lib.hid hzr; have Hr := Lib.hid hr; have Hcd := Lib.hid hcd; have Hbf2 := Lib.hid hbf; have Ht := Lib.hid ht; have Hfa := Lib.hid hfa; have Hm := Lib.hid hm; have Hc7 := Lib.hid hc7; have Hk9 := Lib.hid hk9
              clear hik hzr hr hcd hbf ht hfa hm hc7 hk9 HWf Hgf
              obtain ⟨Az, nz, cz, rfl, _, _, _, _⟩ := Hcd.out.form
              by_cases hin : i < nq'
              · as_aux_lemma =>
                  obtain ⟨ad2, p, rfl, _, hp, c0, c1, c2, c3, c4, c5, c6⟩ := RdsP.at_ (OwnK.rds Hc7.out.ps (by rw [List.length_map]; exact HN1.out)) hin
                  have hin' : (i : Int) < (nq' : Int) := by omega
                  have hin2 : (i : Int) ≤ 100000 := by have := HN1.out; have h9 : C1.ps.length ≤ 2000 := Hg1.out.len; omega
                  have Hp := Lib.hid hp
                  have Hrs := Lib.hid (resTo_succ hp)
                  have Hokp := Lib.hid (resi_of (Hg1.out.base.ok_at hp))
                  have hpn : p.pins ≤ 161 := Hpl1.out p (List.mem_of_getElem? hp)
                  have hpn0 : 0 ≤ p.pins := (Hg1.out.base.ok_at hp).2.1
                  obtain ⟨⟨s, l, b⟩, kd, rf, tr, pn⟩ := p
                  simp only at c0 c1 c2 c3 c4 c5 c6 hpn hpn0
                  obtain ⟨Wb, hWb, hmb, hbb, hzb2⟩ := Blk.boxed wr 30 #[.int .i64 s, .int .i64 l, .int .i64 b, .int .i64 kd, .bool rf, .bool tr, .int .i64 pn]
                  obtain ⟨gb, hgb⟩ : ∃ g, g = wr.heap.size := ⟨_, rfl⟩
                  rw [← hgb] at hbb
                  have x3 := hbb.cell 3
                  simp at x3
                  have Hbb := Lib.hid hbb; have HWb := Lib.hid hWb; have Hgb := Lib.hid hgb
                  have Hmb := Lib.hid hmb
                  have HmB := Lib.hid (hmb.mono (S' := fun j => j = g14 ∨ j = gf) (fun _ _ h => h.elim))
                  have Hgb2 : Hid (gb ≠ gf ∧ gb ≠ g14) := Lib.hid (by have := Hbf2.out.lt; have := Hcd.out.blk.lt; omega)
                  clear hWb hgb hmb hbb hzb2 hp
                  go_upto_region 24 with fail
                  rw [← HWb.out, ← Hgb.out]
                  clear c0 c1 c2 c3 c4 c5 c6
                  by_cases h3 : kd = 3
                  · have b3 : ((kd : Int) == 3) = true := by simp [h3]
                    have Hr0 : Hid (PagN.resi ⟨⟨s, l, b⟩, kd, rf, tr, pn⟩ = false) := Lib.hid (by unfold PagN.resi; simp [h3])
                    have HK := Lib.hid h3
                    clear h3
                    go_wp2_with fail
                    go_roundg (gk - 1)
                    case measure => have := Hik.out; omega
                    case rel =>
                      refine ⟨i + 1, r, z, bb, dv, fk, .slice Az nz cz, by have := Hik.out; omega, by go_num, rfl, rfl, Hzr.out, ?_, Hcd.out.new Hmb.out, Hmb.out.blk Hbf2.out (fun h => h), Ht.out, Hfa.out, Hm.out.trans HmB.out (fun _ _ h => h)⟩
                      rw [Hrs.out, Hr0.out, Hr.out]; rfl
                  · have b3 : ((kd : Int) == 3) = false := by simp [h3]
                    have Hr1 : Hid (PagN.resi ⟨⟨s, l, b⟩, kd, rf, tr, pn⟩ = true) := Lib.hid (Hokp.out.2 h3)
                    have HK := Lib.hid h3
                    clear h3
                    by_cases hz0 : z = 0
                    · have HZ := Lib.hid hz0
                      have bz : ((z : Int) == 0) = true := by simp [hz0]
                      clear hz0
                      obtain ⟨c2, hc2⟩ : ∃ c2, (pinK C1 ⟨s, l, b⟩ (-pn)).1 = c2 := ⟨_, rfl⟩
                      obtain ⟨mz, hmz⟩ : ∃ mz, -pn = mz := ⟨_, rfl⟩
                      have Hpin : Hid (pinK C1 ⟨s, l, b⟩ mz = (c2, true)) := Lib.hid (by
                        have h := pin_at Hg1.out Hp.out Hr1.out (-pn)
                        simp only at h
                        rw [← hc2, ← hmz, h])
                      have Hc2 := Lib.hid hc2
                      have hmzb : -1000000 ≤ mz ∧ mz ≤ 1000000 := by omega
                      have wz : IntKind.i64.wrap (-pn) = mz := by rw [hmz]; exact IntWalk.i64_in _ (by omega)
                      have Hmzb := Lib.hid hmzb
                      have Hhmz := Lib.hid hmz
                      have hf1 := Hmb.out.blk Hbf2.out (fun h => h)
                      have hx := Hbb.out
                      have x0 := hx.cell 0
                      have x1 := hx.cell 1
                      have x2 := hx.cell 2
                      have q0 := hf1.cell 0
                      have q1 := hf1.cell 1
                      have q2 := hf1.cell 2
                      have p0 := hf1.frozen 0
                      have p1 := hf1.frozen 1
                      have p2 := hf1.frozen 2
                      simp at x0 x1 x2 q0 q1 q2
                      obtain ⟨W6, hW6⟩ : ∃ W6, W6 = ((Wb.setCell ⟨gf, 0, none⟩ (.int .i64 s)).setCell ⟨gf, 1, none⟩ (.int .i64 l)).setCell ⟨gf, 2, none⟩ (.int .i64 b) := ⟨_, rfl⟩
                      have hm6 : Mod (fun j => j = gf) Wb W6 := by rw [hW6]; exact ((mod_oneCell _ _ _ _).trans (mod_oneCell _ _ _ _) (fun _ _ h => h)).trans (mod_oneCell _ _ _ _) (fun _ _ h => h)
                      have hf6 : Blk W6 gf 28 #[.int .i64 s, .int .i64 l, .int .i64 b] := by rw [hW6]; exact (hf1.three _ _ _).2.2.2
                      have hx6 := hm6.blk hx Hgb2.out.1
                      have hc6 := (Hc7.out.new Hmb.out).modS hm6 (fun j hj e => by
                        rcases hj with rfl | hj
                        · have := Hgff.out; omega
                        · exact own_blk_ne (Hc7.out.new Hmb.out).ps.2 hf1 (by decide) (by rw [hj, e]))
                      have hd6 := (Hcd.out.new Hmb.out).modS hm6 (fun j hj e => by
                        rcases hj with rfl | hj
                        · have := Hgff.out; omega
                        · exact own_blk_ne (Hcd.out.new Hmb.out).ps.2 hf1 (by decide) (by rw [hj, e]))
                      have hmw6 : Mod (fun j => j = g14 ∨ j = gf) Wf W6 := Hm.out.trans (HmB.out.trans hm6 (fun _ _ h => .inr h)) (fun _ _ h => h)
                      have Hf6 := Lib.hid hf6; have Hx6 := Lib.hid hx6; have Hc6 := Lib.hid hc6; have Hd6 := Lib.hid hd6; have HM6 := Lib.hid hmw6; have HW6 := Lib.hid hW6
                      have HmE6 : Hid (Mod (fun _ => False) w W6) := Lib.hid (Hmf.out.trans hmw6 (fun j hj e => by have := Hg147.out; have := Hgff.out; omega))
                      clear hx hf1 hm6 hf6 hx6 hc6 hd6 hmw6 hW6 hc2 hmz
                      go_upto_region 27 with fail
                      rw [← HW6.out]
                      clear x0 x1 x2 x3 q0 q1 q2 p0 p1 p2
                      obtain ⟨y0, y1, y2, y3, y4, y5⟩ := Hc6.out.cells
                      have x0 := Hx6.out.cell 0
                      have x1 := Hx6.out.cell 1
                      have x2 := Hx6.out.cell 2
                      have x6 := Hx6.out.cell 6
                      simp at x0 x1 x2 x6
                      go_wp2_with fail
                      refine (pin_call (B := w.heap.size) (g := g7) (W := W6) C1 c2 ⟨s, l, b⟩ mz true Hpin.out Hg1.out Hmzb.out (fun p hp => by have := Hpl1.out p hp; omega) Hc6.out).mono ?_
                      rintro e w5 ⟨A5, n5, c5, rfl, h1, h3⟩
                      dsimp only [clkC]
                      have hd5 := h3.blk Hd6.out.blk (fun h => h)
                      simp only [clkC] at hd5
                      have hko := clk_over (W := w) c2 rfl hd5 Hg147.out.2.2 h1 HmE6.out.size (HmE6.out.trans h3 (fun _ _ h => h))
                      have hsx := Mod.six_one w5 g14 (.int .i64 c2.most) (.int .i64 c2.target) (.slice A5 n5 c5) (.int .i64 (c2.hot : Int)) (.int .i64 (c2.cold : Int)) (.int .i64 (c2.test : Int))
                      have hff : Blk ((((((w5.setCell ⟨g14, 0, none⟩ (.int .i64 c2.most)).setCell ⟨g14, 1, none⟩ (.int .i64 c2.target)).setCell ⟨g14, 2, none⟩ (.slice A5 n5 c5)).setCell ⟨g14, 3, none⟩ (.int .i64 (c2.hot : Int))).setCell ⟨g14, 4, none⟩ (.int .i64 (c2.cold : Int))).setCell ⟨g14, 5, none⟩ (.int .i64 (c2.test : Int))) gf 28 #[.int .i64 s, .int .i64 l, .int .i64 b] := hsx.blk (h3.blk Hf6.out (fun h => h)) (by have := Hgff.out; omega)
                      have hmk : Mod (fun j => j = g14 ∨ j = gf) Wf ((((((w5.setCell ⟨g14, 0, none⟩ (.int .i64 c2.most)).setCell ⟨g14, 1, none⟩ (.int .i64 c2.target)).setCell ⟨g14, 2, none⟩ (.slice A5 n5 c5)).setCell ⟨g14, 3, none⟩ (.int .i64 (c2.hot : Int))).setCell ⟨g14, 4, none⟩ (.int .i64 (c2.cold : Int))).setCell ⟨g14, 5, none⟩ (.int .i64 (c2.test : Int))) := HM6.out.trans ((h3.mono (S' := fun j => j = g14 ∨ j = gf) (fun _ _ h => h.elim)).trans hsx (fun _ _ h => .inl h)) (fun _ _ h => h)
                      have HK1 := Lib.hid hko.1; have HK2 := Lib.hid hmk; have HK3 := Lib.hid hff
                      clear y0 y1 y2 y3 y4 y5 x0 x1 x2 x6 h1 h3 hko hmk hff hsx
                      have u0 := hd5.cell 0
                      have u1 := hd5.cell 1
                      have u2 := hd5.cell 2
                      have u3 := hd5.cell 3
                      have u4 := hd5.cell 4
                      have u5 := hd5.cell 5
                      have p0 := hd5.frozen 0
                      have p1 := hd5.frozen 1
                      have p2 := hd5.frozen 2
                      have p3 := hd5.frozen 3
                      have p4 := hd5.frozen 4
                      have p5 := hd5.frozen 5
                      simp at u0 u1 u2 u3 u4 u5
                      clear hd5
                      go_wp2_with fail
                      go_roundg (gk - 1)
                      case measure => have := Hik.out; omega
                      case rel =>
                        refine ⟨i + 1, r + 1, z - 1, true, c2, ⟨s, l, b⟩, .slice A5 n5 c5, by have := Hik.out; omega, by go_num, by go_num, rfl, by have := Hzr.out; omega, ?_, HK1.out, HK3.out, fun _ => ⟨i, _, Hp.out, Hr1.out, rfl, Hc2.out.symm⟩, (fun h => by cases h), HK2.out⟩
                        rw [Hrs.out, Hr1.out, Hr.out]; rfl
                    · have HZ := Lib.hid hz0
                      have bz : ((z : Int) == 0) = false := by simp [hz0]
                      clear hz0
                      go_wp2_with fail
                      go_roundg (gk - 1)
                      case measure => have := Hik.out; omega
                      case rel =>
                        refine ⟨i + 1, r + 1, z - 1, bb, dv, fk, .slice Az nz cz, by have := Hik.out; omega, by go_num, by go_num, rfl, by have := Hzr.out; omega, ?_, Hcd.out.new Hmb.out, Hmb.out.blk Hbf2.out (fun h => h), Ht.out, (fun h => by have := Hfa.out h; have := HZ.out; have := Hzr.out; omega), Hm.out.trans HmB.out (fun _ _ h => h)⟩
                        rw [Hrs.out, Hr1.out, Hr.out]; rfl
              · as_aux_lemma =>
                  have hin' : ¬ (i : Int) < (nq' : Int) := by omega
                  have hiN : i = C1.ps.length := by have := HN1.out; have := Hik.out; omega
                  have hrq : r = q := by rw [← Hr.out, hiN]; exact Hre1.out
                  have hbt : bb = true := by
                    cases hb : bb with
                    | true => rfl
                    | false => have := Hfa.out hb; have := HKq.out; omega
                  obtain ⟨j, p, hp, hr, hfk, hdv⟩ := Ht.out hbt
                  have hfull : ((cntK 1 C1.ps + cntK 2 C1.ps : Nat) : Int) = C1.most := by have := Hcnt.out; have := Hle.out; have := Hhlt.out; have := Hmost.out; omega
                  obtain ⟨t1, t2, t3, t4, i0, t5⟩ := stranger_takes (k := strangerN) Hg1.out hp hr Hno.out hfull Hkey1.out
                  rw [← hdv] at t1 t3 t4 t5
                  rw [← hfk] at t4
                  obtain ⟨⟨e2, os, ok⟩, hea⟩ : ∃ x, admitK dv strangerN = x := ⟨_, rfl⟩
                  rw [hea] at t3 t4 t5
                  simp only at t3 t4 t5
                  subst t3 t4 hbt
                  have HA := Lib.hid (adm_call dv e2 strangerN [fk] true hea t1 Hcd.out)
                  have Hge2 : Hid (Good e2) := Lib.hid (by have h := (admit_good t1 strangerN).1; rw [hea] at h; exact h)
                  have Hf := Lib.hid t5
                  clear hiN hrq hp hr hfk hdv hfull t1 t2 t5 hea
                  obtain ⟨y0, y1, y2, y3, y4, y5⟩ := Hcd.out.cells
                  obtain ⟨z0, z1, z2⟩ := Hk9.out.threeR
                  go_upto_region 30 with fail
                  go_wp2_with fail
                  refine HA.out.mono ?_
                  rintro e w5 ⟨vo, A5, n5, c5, rfl, h1, h2, h3⟩
                  dsimp only [clkC]
                  obtain ⟨go, capo, rfl, hgo, o0, o1, o2⟩ := one_key h2
                  obtain ⟨W21, hW21, hm21, hb21, hz21⟩ := Blk.boxed w5 25 #[.int .i64 e2.most, .int .i64 e2.target, .slice A5 n5 c5, .int .i64 (e2.hot : Int), .int .i64 (e2.cold : Int), .int .i64 (e2.test : Int)]
                  obtain ⟨g21, hg21⟩ : ∃ g, g = w5.heap.size := ⟨_, rfl⟩
                  rw [← hg21] at hb21
                  have h321 := h3.trans hm21 (fun _ _ h => h)
                  have hrd : RdsP W21 W21.heap.size A5 n5 e2.ps := OwnK.rds (OwnP.mod h1 hm21) (by
                    obtain ⟨A', c', e', _⟩ := OwnP.form h1
                    injection e' with _ e2 _
                    rw [List.length_map, e2])
                  have hk21 := h321.blk Hk9.out (fun h => h)
                  have hf21 := h321.blk Hbf2.out (fun h => h)
                  have hok := OwnK.mod h2 hm21
                  have HmT := Lib.hid (HmE.out.trans h321 (fun _ _ h => h))
                  have HW21 := Lib.hid hW21; have Hg21 := Lib.hid hg21; have Hrd := Lib.hid hrd; have Hb21 := Lib.hid hb21; have Hk21 := Lib.hid hk21; have Hf21 := Lib.hid hf21; have Hok := Lib.hid hok
                  clear y0 y1 y2 y3 y4 y5 z0 z1 z2 o0 o1 o2 h1 h2 h3 hW21 hg21 hm21 hz21 h321 hrd hk21 hf21 hok hb21 hgo
                  go_upto_region 31 with fail
                  rw [← HW21.out, ← Hg21.out]
                  have Le : Hid (∀ w2, Mod (fun _ => False) W21 w2 → w2.cell? ⟨g21, 0, none⟩ = some (.int .i64 e2.most) ∧ w2.cell? ⟨g21, 1, none⟩ = some (.int .i64 e2.target) ∧ w2.cell? ⟨g21, 2, none⟩ = some (.slice A5 n5 c5) ∧ w2.cell? ⟨g21, 3, none⟩ = some (.int .i64 e2.hot) ∧ w2.cell? ⟨g21, 4, none⟩ = some (.int .i64 e2.cold) ∧ w2.cell? ⟨g21, 5, none⟩ = some (.int .i64 e2.test)) := Lib.hid (fun w2 h => by
                    have hb := h.blk Hb21.out (fun h => h)
                    exact ⟨hb.cell 0, hb.cell 1, hb.cell 2, hb.cell 3, hb.cell 4, hb.cell 5⟩)
                  have Lk : Hid (∀ w2, Mod (fun _ => False) W21 w2 → w2.cell? ⟨gk9, 0, none⟩ = some (.int .i64 9) ∧ w2.cell? ⟨gk9, 1, none⟩ = some (.int .i64 0) ∧ w2.cell? ⟨gk9, 2, none⟩ = some (.int .i64 0)) := Lib.hid (fun w2 h => (h.blk Hk21.out (fun h => h)).threeR)
                  have Lf : Hid (∀ w2, Mod (fun _ => False) W21 w2 → w2.cell? ⟨gf, 0, none⟩ = some (.int .i64 fk.s) ∧ w2.cell? ⟨gf, 1, none⟩ = some (.int .i64 fk.l) ∧ w2.cell? ⟨gf, 2, none⟩ = some (.int .i64 fk.b)) := Lib.hid (fun w2 h => (h.blk Hf21.out (fun h => h)).threeR)
                  have Lo : Hid (∀ w2, Mod (fun _ => False) W21 w2 → w2.cell? ⟨go, 0, none⟩ = some (.int .i64 fk.s) ∧ w2.cell? ⟨go, 1, none⟩ = some (.int .i64 fk.l) ∧ w2.cell? ⟨go, 2, none⟩ = some (.int .i64 fk.b)) := Lib.hid (fun w2 h => by
                    obtain ⟨g', c', e', _, q0, q1, q2⟩ := one_key (OwnK.mod Hok.out h)
                    injection e' with e1 _ _
                    injection e1 with e1
                    injection e1 with e1 _ _
                    subst e1
                    exact ⟨q0, q1, q2⟩)
                  have Cf : Hid (∀ w2, Mod (fun _ => False) W21 w2 → Calls Try.prog 10 #[.agg #[.int .i64 e2.most, .int .i64 e2.target, .slice A5 n5 c5, .int .i64 (e2.hot : Int), .int .i64 (e2.cold : Int), .int .i64 (e2.test : Int)], .agg #[.int .i64 9, .int .i64 0, .int .i64 0]] w2 fun e w' => e = .returned (.int .i64 (i0 : Int)) ∧ Mod (fun _ => False) W21 w') := Lib.hid (fun w2 h => by
                    refine (find_any e2 strangerN A5 n5 c5 w2 (Hrd.out.new h).fit (by have := Hrd.out.len; have h9 : e2.ps.length ≤ 2000 := Hge2.out.len; omega)).mono ?_
                    rintro e w' ⟨rfl, hm⟩
                    exact ⟨by unfold placeK; rw [Hf.out], h.trans hm (fun _ _ h => h)⟩)
                  have Ca : Hid (∀ w2, Mod (fun _ => False) W21 w2 → Calls Try.prog 11 #[] w2 fun e w' => e = .returned (.bool true) ∧ Mod (fun _ => False) W21 w') := Lib.hid (fun w2 h => (ckAwake_any w2).mono (by rintro e w' ⟨rfl, hm⟩; exact ⟨rfl, h.trans hm (fun _ _ h => h)⟩))
                  refine wp_region_class (fun W' => Mod (fun _ => False) W21 W') (by kernel_rfl) (by kernel_rfl) (Mod.refl _ _).drew ?_
                  iterate 12 quiet_step (exact fun _ => rfl)
                  refine wpQuiet_step (fun K hK => ?_)
                  go_simp
                  refine ⟨.agg #[.int .i64 fk.s, .int .i64 fk.l, .int .i64 fk.b], fun w2 h2 => ?_, hK _ ?_⟩
                  · obtain ⟨b0, b1, b2⟩ := Lo.out w2 h2
                    simp only [b0, b1, b2, Result.andThen_ok]
                    exact ⟨trivial, trivial⟩
                  clear hK K
                  refine wpQuiet_step (fun K hK => ?_)
                  go_simp
                  refine ⟨.agg #[.int .i64 fk.s, .int .i64 fk.l, .int .i64 fk.b], fun w2 h2 => ?_, hK _ ?_⟩
                  · obtain ⟨b0, b1, b2⟩ := Lf.out w2 h2
                    simp only [b0, b1, b2, Result.andThen_ok]
                    exact ⟨trivial, trivial⟩
                  clear hK K
                  iterate 3 quiet_step (exact fun _ => rfl)
                  refine wpQuiet_step (fun K hK => ?_)
                  go_simp
                  refine ⟨.agg #[.int .i64 e2.most, .int .i64 e2.target, .slice A5 n5 c5, .int .i64 (e2.hot : Int), .int .i64 (e2.cold : Int), .int .i64 (e2.test : Int)], fun w2 h2 => ?_, hK _ ?_⟩
                  · obtain ⟨b0, b1, b2, b3, b4, b5⟩ := Le.out w2 h2
                    simp only [b0, b1, b2, b3, b4, b5, Result.andThen_ok]
                    exact ⟨trivial, trivial⟩
                  clear hK K
                  refine wpQuiet_step (fun K hK => ?_)
                  go_simp
                  refine ⟨.agg #[.int .i64 9, .int .i64 0, .int .i64 0], fun w2 h2 => ?_, hK _ ?_⟩
                  · obtain ⟨b0, b1, b2⟩ := Lk.out w2 h2
                    simp only [b0, b1, b2, Result.andThen_ok]
                    exact ⟨trivial, trivial⟩
                  clear hK K
                  refine wpQuiet_step (fun K hK => ?_)
                  go_simp
                  refine ⟨.int .i64 (i0 : Int), fun w2 h2 => (Cf.out w2 h2).mono ?_, hK _ ?_⟩
                  · rintro e w3 ⟨rfl, hm⟩
                    exact ⟨rfl, hm⟩
                  clear hK K
                  iterate 3 quiet_step (exact fun _ => rfl)
                  refine wpQuiet_step (fun K hK => ?_)
                  go_simp
                  refine ⟨.bool true, fun w2 h2 => (Ca.out w2 h2).mono ?_, hK _ ?_⟩
                  · rintro e w3 ⟨rfl, hm⟩
                    exact ⟨rfl, hm⟩
                  clear hK K
                  iterate 2 quiet_step (exact fun _ => rfl)
                  refine wpQuiet_nil ?_
                  intro w7 h7
                  have H7 := Lib.hid h7
                  clear h7
                  go_wp2_with fail
                  go_ret
                  exact ⟨rfl, HmT.out.trans H7.out (fun _ _ h => h)⟩
end Go.Proofs.Ythogflfjdfcpeaa
