/- DireVers' walk. -/
import Derived.Test.YteegdbbmamabiaaMx1
import Derived.Test.YteegdbbmamabiaaMx2
namespace Go.Proofs.Yteegdbbmamabiaa
open Go.RowKit

set_option maxHeartbeats 16000000 in
set_option maxRecDepth 100000 in
theorem divers_walk (A0 : Option Addr) (n0 c0 : Nat) (zs : List Int) (w : World) (hs : SeesI .i64 w w.heap.size A0 n0 zs) : Calls Try.prog 3 #[.slice A0 n0 c0] w fun e w' => e = .returned (.bool true) ∧ Mod (fun _ => False) w w' := by
  obtain ⟨M, hM⟩ : ∃ M, M = min n0 60 := ⟨_, rfl⟩
  have Hs := Lib.hid hs; have HM := Lib.hid hM
  have hn0 : (0 : Int) ≤ (n0 : Int) := by omega
  clear hs hM
  go_enter Try.func3, Try.ntmps3
  go_wp2_with fail
  refine (diNew_any w).mono ?_
  rintro e w0 ⟨g, rfl, hc, hm0, hg0⟩
  have HD0 : Hid (DirV (fun _ => True) g 0 w0 newD) := Lib.hid (hc _)
  have HM0 := Lib.hid hm0
  have HNew : Hid (w.heap.size ≤ g) := Lib.hid hg0
  clear hc hm0 hg0
  obtain ⟨w1, hW⟩ : ∃ W, W = (w0.alloc (.cells #[.int .i64 0, .int .i64 0, .int .i64 0, .int .i64 0, .int .i64 0, .int .i64 0, .int .i64 0, .int .i64 0, .int .i64 0, .int .i64 0, .int .i64 0, .int .i64 0, .int .i64 0, .int .i64 0, .int .i64 0, .int .i64 0] 25)).alloc (.cells #[.int .i64 0, .int .i64 0, .int .i64 0, .int .i64 0, .int .i64 0, .int .i64 0, .int .i64 0, .int .i64 0, .int .i64 0, .int .i64 0, .int .i64 0, .int .i64 0, .int .i64 0, .int .i64 0, .int .i64 0, .int .i64 0] 25) := ⟨_, rfl⟩
  obtain ⟨gv, hgv⟩ : ∃ x, x = w0.heap.size := ⟨_, rfl⟩
  obtain ⟨gl, hgl⟩ : ∃ x, x = w0.heap.size + 1 := ⟨_, rfl⟩
  have hm01 : Mod (fun _ => False) w0 w1 := by rw [hW]; exact ((Mod.refl _ _).alloc _).alloc _
  have hav : ArrI w1 gv 25 (List.replicate 16 0) := by rw [hW, hgv]; exact Blk.alloc (arr_new w0 25) _
  have hal : ArrI w1 gl 25 (List.replicate 16 0) := by
    rw [hW, hgl]
    have h := arr_new (w0.alloc (.cells (Array.replicate 16 (.int .i64 0)) 25)) 25
    have e : (w0.alloc (.cells (Array.replicate 16 (.int .i64 0)) 25)).heap.size = w0.heap.size + 1 := by simp
    rw [e] at h
    exact h
  have HD1 : Hid (DirV (fun _ => True) g 0 w1 newD) := Lib.hid (HD0.out.new hm01)
  have HM1 : Hid (Mod (fun _ => False) w w1) := Lib.hid (HM0.out.trans hm01 (fun _ _ h => h))
  have Hne : Hid (gv ≠ g ∧ gl ≠ g ∧ gv ≠ gl ∧ w.heap.size ≤ gv ∧ w.heap.size ≤ gl) := Lib.hid (by have := HD0.out.lt; have := HM0.out.size; omega)
  have HAv := Lib.hid hav; have HAl := Lib.hid hal; have HW := Lib.hid hW; have Hgv := Lib.hid hgv; have Hgl := Lib.hid hgl
  clear hW hgv hgl hm01 hav hal
  go_upto_region 5 with fail
  rw [← HW.out, ← Hgl.out, ← Hgv.out]
  clear HW Hgv Hgl HD0 HM0
  go_wp2_with fail
  go_loopg [6, 7, 8, 9, 10] M (fun gk s6 s7 s8 s9 s10 wr => ∃ (i : Nat) (d : DirN) (vs ls : List Int), i + gk = M ∧ s6 = .int .i64 (i : Int) ∧ DirV (fun _ => True) g (5 * i) wr d ∧ VersD d vs ls ∧ GoodD ((2 * i : Nat) : Int) d ∧ ArrI wr gv 25 vs ∧ ArrI wr gl 25 ls ∧ Mod (fun _ => False) w wr)
  case atStart => exact ⟨0, newD, _, _, by omega, rfl, HD1.out, vers_new, goodD_new, HAv.out, HAl.out, HM1.out⟩
  case round =>
    obtain ⟨i, d2, vs, ls, hik, rfl, hd, hvd, hgd, hav, hal, hm⟩ := hrel
    obtain ⟨w2, rfl⟩ : ∃ w9, w9 = wr := ⟨_, rfl⟩
    have Hik := Lib.hid hik; have HD2 := Lib.hid hd; have HM2 := Lib.hid hm; have Hvd := Lib.hid hvd; have Hgd := Lib.hid hgd; have HAv2 := Lib.hid hav; have HAl2 := Lib.hid hal
    clear hik hd hm hvd hgd hav hal HD1 HM1 HAv HAl
    by_cases hin : i < M
    · have hin0 : i < n0 := by have := HM.out; omega
      obtain ⟨ad, x, rfl, hx, hc0⟩ := Hs.out.at_ (w' := w2) (S := fun _ => False) hin0 (Nat.le_refl _) HM2.out (fun _ _ h => h)
      have HC0 : Hid (∀ W', Mod (fun _ => False) w W' → W'.cell? (ad.add i) = some (.int .i64 x)) := Lib.hid (fun W' h => by
        obtain ⟨ad', x', e, hx', hc'⟩ := Hs.out.at_ (w' := W') (S := fun _ => False) hin0 (Nat.le_refl _) h (fun _ _ h => h)
        injection e with e
        subst e
        rw [hx] at hx'
        injection hx' with hx'
        subst hx'
        exact hc')
      obtain ⟨q, hq, hq16, -⟩ := and_at (x := x) (m := 15) 4 rfl (by omega)
      obtain ⟨who, hwho, hwho8, -⟩ := and_at (x := x / 16) (m := 7) 3 rfl (by omega)
      obtain ⟨l1, hl1, hl18, -⟩ := and_at (x := x / 128) (m := 255) 8 rfl (by omega)
      obtain ⟨b1, hb1, hb2, -⟩ := and_at (x := x / 32768) (m := 1) 1 rfl (by omega)
      have hqi : (q : Int) < 16 := by omega
      have hq0 : (0 : Int) ≤ (q : Int) := by omega
      have hin1 : (i : Int) < (n0 : Int) := by omega
      have hi60 : (i : Int) < 60 := by have := HM.out; omega
      have hww : IntKind.i64.wrap ((who : Int) + 1) = (who : Int) + 1 := IntWalk.i64_in _ (by omega)
      obtain ⟨s2, hs2⟩ : ∃ s, d2.slot q = s := ⟨_, rfl⟩
      have hvb := Hgd.out.ver q
      obtain ⟨hsm, hsm2⟩ := HD2.out.small hq16
      rw [hs2] at hvb hsm hsm2
      have hwv : IntKind.i64.wrap (s2.ver + 2) = s2.ver + 2 := IntWalk.i64_in _ (by have := Hik.out; have := HM.out; omega)
      obtain ⟨L, hL⟩ : ∃ L : Int, L = (if b1 = 1 then s2.life else (l1 : Int)) := ⟨_, rfl⟩
      obtain ⟨dt, dl, e1, e2, e3, _, _, e6, _, e8, e9, q1, q2, q3, q4, q5, e10⟩ := trip hq16 Hgd.out (Hvd.out.free q hq16) { s2 with life := L, ver := -5 } s2 who
      have E6 := Lib.hid (e6 ((who : Int) + 1) (by omega))
      have hvq := Hvd.out.ver q hq16
      have hlq := Hvd.out.life q hq16
      have Hvd3 : Hid (VersD dl (vs.set q (s2.ver + 2)) (ls.set q L)) := Lib.hid (by have h := Hvd.out.step hq16 q3 q4 q5; rwa [hs2] at h)
      have Hgd3 : Hid (GoodD ((2 * (i + 1) : Nat) : Int) dl) := Lib.hid (by have h := q2; rwa [show ((2 * i : Nat) : Int) + 2 = ((2 * (i + 1) : Nat) : Int) by omega] at h)
      rw [hs2] at hvq hlq e1
      have E1 := Lib.hid e1; have E2 := Lib.hid e2; have E3 := Lib.hid (e3 who); have E8 := Lib.hid e8; have E9 := Lib.hid (e9 { s2 with life := L, ver := -5 })
      have HVQ := Lib.hid hvq; have HLQ := Lib.hid hlq
      have HAvc : Hid (∀ W', Mod (fun j => j = g) w2 W' → W'.cell? ⟨gv, q, none⟩ = some (.int .i64 s2.ver)) := Lib.hid (fun W' h => (HAv2.out.mod h (by have := Hne.out; omega)).cell hvq)
      have HAlc : Hid (∀ W', Mod (fun j => j = g) w2 W' → W'.cell? ⟨gl, q, none⟩ = some (.int .i64 s2.life)) := Lib.hid (fun W' h => (HAl2.out.mod h (by have := Hne.out; omega)).cell hlq)
      have HL := Lib.hid hL; have Hb2 := Lib.hid hb2; have Hq16 := Lib.hid hq16; have Hvb := Lib.hid hvb; have Hsm : Hid (s2.opn.list.length ≤ 8796093022208 ∧ s2.chunks.length ≤ 1000000) := Lib.hid ⟨hsm, hsm2⟩
      clear hx hs2 hL e1 e2 e3 e6 e8 e9 q1 q2 q3 q4 q5 e10 hvq hlq hq16 hvb hb2 hl18 hsm hsm2 hwho8
      go_upto_region 8 with fail
      go_quiet (fail)
      go_upto_region 9 with fail
      obtain ⟨w3, hw3⟩ : ∃ W, W = w2.drewN nq := ⟨_, rfl⟩
      rw [← hw3]
      have hm23 : Mod (fun _ => False) w2 w3 := by rw [hw3]; exact (Mod.refl _ _).drewN _
      have HD3 : Hid (DirV (fun _ => True) g (5 * i) w3 d2) := Lib.hid (HD2.out.new hm23)
      have HM3 : Hid (Mod (fun _ => False) w w3) := Lib.hid (HM2.out.trans hm23 (fun _ _ h => h))
      have H23 := Lib.hid hm23
      clear hm23 hw3 hc0
      go_wp2_with fail
      refine (call_dlook (s := s2) (o := some s2) (ok := true) E1.out rfl rfl HD3.out (by have := Hik.out; have := HM.out; omega)).mono ?_
      rintro e v4 ⟨A4, n4, c4, P4, m4, d4, rfl, hz, ho, hp, hd, hm⟩
      obtain ⟨w4, hW, hmW, hbW, hzW⟩ := new_box v4 32 #[.bool s2.there, .bool s2.shut, .int .i64 s2.life, .int .i64 s2.ver, .bool s2.opn.any, .int .i64 s2.opn.last, .slice A4 n4 c4, .slice P4 m4 d4]
      obtain ⟨g4, hg⟩ : ∃ x, x = v4.heap.size := ⟨_, rfl⟩
      rw [← hg] at hbW hzW
      have HD4 : Hid (DirV (fun _ => True) g (5 * i) w4 (d2)) := Lib.hid (hd.new hmW)
      have HM4 : Hid (Mod (fun _ => False) w w4) := Lib.hid (HM3.out.trans (hm.trans hmW (fun _ _ h => h)) (fun _ _ h => h))
      have HS4 : Hid (Mod (fun j => j = g) w3 w4) := Lib.hid ((hm.trans hmW (fun _ _ h => h)).mono (fun _ _ h => h.elim))
      have HO4 : Hid (OwnS w3.heap.size w4 (.slice A4 n4 c4) (s2).opn.list) := Lib.hid (hmW.owns ho (fun _ _ h => h))
      have HP4 : Hid (OwnPt w3.heap.size w4 40 (.slice P4 m4 d4) (s2).chunks) := Lib.hid (OwnPt.mod hp hmW)
      have HZ4 := Lib.hid hz
      have Hlt4 : Hid (g < w3.heap.size ∧ w3.heap.size ≤ g4 ∧ g4 < w4.heap.size) := Lib.hid ⟨HD3.out.lt, by have := hm.size; omega, by omega⟩
      have HB4 : Hid (∀ W', Mod (fun j => j = g) w4 W' → Blk W' g4 32 #[.bool s2.there, .bool s2.shut, .int .i64 s2.life, .int .i64 s2.ver, .bool s2.opn.any, .int .i64 s2.opn.last, .slice A4 n4 c4, .slice P4 m4 d4]) := Lib.hid (fun W' h => h.blk hbW (fun e => by have := Hlt4.out; omega))
      have HW := Lib.hid hW; have Hg := Lib.hid hg
      clear hz ho hp hd hm hW hmW hbW hzW hg
      go_upto_region 10 with fail
      rw [← HW.out, ← Hg.out]
      clear HW Hg
      have H24 : Hid (Mod (fun j => j = g) w2 w4) := Lib.hid ((H23.out.mono (fun _ _ h => h.elim)).trans HS4.out (fun _ _ h => h))
      have HR4 : Hid (∀ W', Mod (fun j => j = g) w4 W' → RdsSlot W' s2 A4 n4 P4 m4) := Lib.hid (fun W' h => by
        obtain ⟨z1, _, _, z2, _, _⟩ := HZ4.out
        exact reads_own HO4.out HP4.out z1.out z2.out (by have := z1.out; have := Hsm.out; omega) (by have := z2.out; have := Hsm.out; omega) Hlt4.out.1 h)
      have HT1 : Hid (∀ W', DirV (fun _ => True) g (5 * i) W' d2 → Calls Try.prog 9 #[.pointer (some ⟨g, 0, none⟩), .int .i64 (q : Int), .int .i64 (who : Int)] W' fun e w' => e = .returned (.bool true) ∧ DirV (fun _ => True) g (5 * i + 1) w' dt ∧ Mod (fun j => j = g) W' w') := Lib.hid (fun W' h1 => call_dtake (ok := true) E2.out h1 (by have := Hik.out; have := HM.out; omega))
      have HT2 : Hid (∀ W', DirV (fun _ => True) g (5 * i + 1) W' dt → Calls Try.prog 9 #[.pointer (some ⟨g, 0, none⟩), .int .i64 (q : Int), .int .i64 (who : Int)] W' fun e w' => e = .returned (.bool false) ∧ DirV (fun _ => True) g (5 * i + 2) w' dt ∧ Mod (fun j => j = g) W' w') := Lib.hid (fun W' h1 => call_dtake (ok := false) E3.out h1 (by have := Hik.out; have := HM.out; omega))
      have HT3 : Hid (∀ W', DirV (fun _ => True) g (5 * i + 2) W' dt → Mod (fun j => j = g) w4 W' → Calls Try.prog 10 #[.pointer (some ⟨g, 0, none⟩), .int .i64 (q : Int), .int .i64 ((who : Int) + 1), .agg #[.bool s2.there, .bool s2.shut, .int .i64 s2.life, .int .i64 s2.ver, .bool s2.opn.any, .int .i64 s2.opn.last, .slice A4 n4 c4, .slice P4 m4 d4]] W' fun e w' => e = .returned (.bool false) ∧ DirV (fun _ => True) g (5 * i + 3) w' dt ∧ Mod (fun j => j = g) W' w') := Lib.hid (fun W' h1 h2 => call_dleave (s := s2) (c := c4) (c2 := d4) (ok := false) E6.out h1 (by have := Hik.out; have := HM.out; omega) (HR4.out _ h2) (fun _ _ => trivial))
      go_cut [82] from 44 to 82 (fun s82 wx => s82 = .bool false ∧ DirV (fun _ => True) g (5 * i + 3) wx dt ∧ Mod (fun j => j = g) w4 wx)
      case first =>
        as_aux_lemma =>
          have HX : Hid (∀ W', Mod (fun j => j = g) w4 W' → Mod (fun j => j = g) w4 W' ∧ W'.cell? ⟨g4, 0, none⟩ = some (.bool s2.there) ∧ W'.cell? ⟨g4, 1, none⟩ = some (.bool s2.shut) ∧ W'.cell? ⟨g4, 2, none⟩ = some (.int .i64 s2.life) ∧ W'.cell? ⟨g4, 3, none⟩ = some (.int .i64 s2.ver) ∧ W'.cell? ⟨g4, 4, none⟩ = some (.bool s2.opn.any) ∧ W'.cell? ⟨g4, 5, none⟩ = some (.int .i64 s2.opn.last) ∧ W'.cell? ⟨g4, 6, none⟩ = some (.slice A4 n4 c4) ∧ W'.cell? ⟨g4, 7, none⟩ = some (.slice P4 m4 d4) ∧ W'.cell? ⟨gv, q, none⟩ = some (.int .i64 s2.ver) ∧ W'.cell? ⟨gl, q, none⟩ = some (.int .i64 s2.life)) := Lib.hid (fun W' h => ⟨h, (HB4.out W' h).cell 0, (HB4.out W' h).cell 1, (HB4.out W' h).cell 2, (HB4.out W' h).cell 3, (HB4.out W' h).cell 4, (HB4.out W' h).cell 5, (HB4.out W' h).cell 6, (HB4.out W' h).cell 7, HAvc.out W' (H24.out.trans h (fun _ _ h => h)), HAlc.out W' (H24.out.trans h (fun _ _ h => h))⟩)
          have S0 := Lib.hid (HX.out _ (Mod.refl (fun j => j = g) w4).drew)
          go_region_held_law (fun W' => Mod (fun j => j = g) w4 W' ∧ W'.cell? ⟨g4, 0, none⟩ = some (.bool s2.there) ∧ W'.cell? ⟨g4, 1, none⟩ = some (.bool s2.shut) ∧ W'.cell? ⟨g4, 2, none⟩ = some (.int .i64 s2.life) ∧ W'.cell? ⟨g4, 3, none⟩ = some (.int .i64 s2.ver) ∧ W'.cell? ⟨g4, 4, none⟩ = some (.bool s2.opn.any) ∧ W'.cell? ⟨g4, 5, none⟩ = some (.int .i64 s2.opn.last) ∧ W'.cell? ⟨g4, 6, none⟩ = some (.slice A4 n4 c4) ∧ W'.cell? ⟨g4, 7, none⟩ = some (.slice P4 m4 d4) ∧ W'.cell? ⟨gv, q, none⟩ = some (.int .i64 s2.ver) ∧ W'.cell? ⟨gl, q, none⟩ = some (.int .i64 s2.life))
            (first
              | (with_reducible exact S0.out)
              | (with_reducible exact S5.out)
              | (with_reducible exact S6.out)
              | (with_reducible exact S7.out))
            (first
              | (go_at_call 9; (with_reducible refine (HT1.out _ (HD4.out.new (Mod.refl _ _).drew)).mono ?_); rintro e w5 ⟨rfl, h1, h2⟩; have HD5 := Lib.hid h1; have HS5 := Lib.hid ((Mod.refl (fun j => j = g) w4).drew.trans h2 (fun _ _ h => h)); have S5 := Lib.hid (HX.out _ HS5.out); clear h1 h2)
              | (go_at_call 9; (with_reducible refine (HT2.out _ HD5.out).mono ?_); rintro e w6 ⟨rfl, h1, h2⟩; have HD6 := Lib.hid h1; have HS6 := Lib.hid (HS5.out.trans h2 (fun _ _ h => h)); have S6 := Lib.hid (HX.out _ HS6.out); clear h1 h2)
              | (go_at_call 10; (with_reducible refine (HT3.out _ HD6.out HS6.out).mono ?_); rintro e w7 ⟨rfl, h1, h2⟩; have HD7 := Lib.hid h1; have HS7 := Lib.hid (HS6.out.trans h2 (fun _ _ h => h)); have S7 := Lib.hid (HX.out _ HS7.out); clear h1 h2))
          go_wp2_with fail
          go_meet
          exact ⟨rfl, HD7.out, HS7.out⟩
      case rest =>
        as_aux_lemma =>
          obtain ⟨rfl, hd, hm⟩ := hcut
          obtain ⟨w5, rfl⟩ : ∃ w0 : World, w0 = wc := ⟨_, rfl⟩
          have HD5 := Lib.hid hd
          have H25 : Hid (Mod (fun j => j = g) w2 w5) := Lib.hid (H24.out.trans hm (fun _ _ h => h))
          have HM5 : Hid (Mod (fun _ => False) w w5) := Lib.hid (HM4.out.trans hm (fun i hi h => by have := HNew.out; omega))
          have H45 := Lib.hid hm
          clear hd hm
          have hb := HB4.out w5 H45.out
          have Hb5 := Lib.hid hb
          have z2 := hb.cell 2
          have f2 := hb.frozen 2
          simp at z2
          have c0x := HC0.out w5 HM5.out
          clear hb
          go_upto_region 13 with fail
          obtain ⟨w6, hW⟩ : ∃ W, W = w5.setCell ⟨g4, 2, none⟩ (.int .i64 (l1 : Int)) := ⟨_, rfl⟩
          have hm56 : Mod (fun j => j = g4) w5 w6 := by rw [hW]; exact one_cell _ _ _ _
          rw [← hW]
          have hne4 : g4 ≠ g ∧ g4 ≠ gv ∧ g4 ≠ gl ∧ w.heap.size ≤ g4 := by
            have h1 := HB4.out w4 (Mod.refl _ _)
            have h2 := H24.out.blk HAv2.out (by have := Hne.out; omega)
            have h3 := H24.out.blk HAl2.out (by have := Hne.out; omega)
            refine ⟨by have := Hlt4.out; omega, fun e => ?_, fun e => ?_, by have := HM3.out.size; have := Hlt4.out; omega⟩
            · subst e; exact Blk.ne_ h1 h2 (by decide) rfl
            · subst e; exact Blk.ne_ h1 h3 (by decide) rfl
          have Hne4 := Lib.hid hne4
          have hb6 : Blk w6 g4 32 #[.bool s2.there, .bool s2.shut, .int .i64 (l1 : Int), .int .i64 s2.ver, .bool s2.opn.any, .int .i64 s2.opn.last, .slice A4 n4 c4, .slice P4 m4 d4] := by rw [hW]; have h := Hb5.out.set_ 2 (.int .i64 (l1 : Int)); simpa using h
          have HD6 : Hid (DirV (fun _ => True) g (5 * i + 3) w6 dt) := Lib.hid (HD5.out.other hm56 hne4.1 Hb5.out (by decide) (by decide))
          have HM6 : Hid (Mod (fun _ => False) w w6) := Lib.hid (HM5.out.trans hm56 (fun i hi h => by have := Hne4.out; omega))
          have H56 : Hid (Mod (fun j => j = g4) w5 w6) := Lib.hid hm56
          have c1x := HC0.out w6 HM6.out
          have v2 : w6.cell? ⟨gl, q, none⟩ = some (.int .i64 s2.life) := by
            rw [hm56.cell (a := ⟨gl, q, none⟩) (World.block_lt_of_cell? w5 _ (HAlc.out w5 H25.out)) (fun e => hne4.2.2.1 e.symm)]
            exact HAlc.out w5 H25.out
          have y2 := hb6.cell 2
          have g2x := hb6.frozen 2
          simp at y2
          have Hb6 := Lib.hid hb6
          clear hW hm56 hb6 z2 f2 c0x hne4
          by_cases hb : b1 = 1
          · have eL : L = s2.life := by rw [HL.out, if_pos hb]
            obtain ⟨w7, hW7⟩ : ∃ W, W = w6.setCell ⟨g4, 2, none⟩ (.int .i64 s2.life) := ⟨_, rfl⟩
            have H67 : Hid (Mod (fun j => j = g4) w6 w7) := Lib.hid (by rw [hW7]; exact one_cell _ _ _ _)
            have Hb7 : Hid (Blk w7 g4 32 #[.bool s2.there, .bool s2.shut, .int .i64 L, .int .i64 s2.ver, .bool s2.opn.any, .int .i64 s2.opn.last, .slice A4 n4 c4, .slice P4 m4 d4]) := Lib.hid (by rw [hW7, eL]; have h := Hb6.out.set_ 2 (.int .i64 s2.life); simpa using h)
            have HW7 := Lib.hid hW7
            subst hb
            clear hW7 eL
            go_upto_region 15 with fail
            rw [← HW7.out]
            have HD7 : Hid (DirV (fun _ => True) g (5 * i + 3) w7 dt) := Lib.hid (HD6.out.other H67.out Hne4.out.1 Hb6.out (by decide) (by decide))
            have y3 := Hb7.out.cell 3
            have g3x := Hb7.out.frozen 3
            simp at y3
            go_upto_region 16 with fail
            obtain ⟨w8, hW⟩ : ∃ W, W = w7.setCell ⟨g4, 3, none⟩ (.int .i64 (-5)) := ⟨_, rfl⟩
            rw [← hW]
            have hm78 : Mod (fun j => j = g4) w7 w8 := by rw [hW]; exact one_cell _ _ _ _
            have hb8 : Blk w8 g4 32 #[.bool s2.there, .bool s2.shut, .int .i64 L, .int .i64 (-5), .bool s2.opn.any, .int .i64 s2.opn.last, .slice A4 n4 c4, .slice P4 m4 d4] := by rw [hW]; have h := Hb7.out.set_ 3 (.int .i64 (-5)); simpa using h
            have HD8 : Hid (DirV (fun _ => True) g (5 * i + 3) w8 dt) := Lib.hid (HD7.out.other hm78 Hne4.out.1 Hb7.out (by decide) (by decide))
            have H58 : Hid (Mod (fun j => j = g4) w5 w8) := Lib.hid ((H56.out.trans H67.out (fun _ _ h => h)).trans hm78 (fun _ _ h => h))
            have HM8 : Hid (Mod (fun _ => False) w w8) := Lib.hid (HM5.out.trans H58.out (fun i hi h => by have := Hne4.out; omega))
            have HB8 : Hid (∀ W', Mod (fun j => j = g) w8 W' → Blk W' g4 32 #[.bool s2.there, .bool s2.shut, .int .i64 L, .int .i64 (-5), .bool s2.opn.any, .int .i64 s2.opn.last, .slice A4 n4 c4, .slice P4 m4 d4]) := Lib.hid (fun W' h => h.blk hb8 (fun e => by have := Hne4.out; omega))
            have HR8 : Hid (∀ W', Mod (fun j => j = g) w8 W' → RdsSlot W' { s2 with life := L, ver := -5 } A4 n4 P4 m4) := Lib.hid (fun W' h => by
              obtain ⟨z1, _, _, z2, _, _⟩ := HZ4.out
              have k1 := (OwnS.toK HO4.out).modS H45.out (fun k hk e => by have h3 := (OwnK.block (OwnS.toK HO4.out) k hk).1; have := Hlt4.out; omega)
              have k2 := OwnK.modS HP4.out H45.out (fun k hk e => by have h3 := (OwnK.block HP4.out k hk).1; have := Hlt4.out; omega)
              exact reads_own (s := { s2 with life := L, ver := -5 }) (own_other k1 H58.out Hb5.out (by decide)).toS (own_other k2 H58.out Hb5.out (by decide)) z1.out z2.out (by have := z1.out; have := Hsm.out; omega) (by have := z2.out; have := Hsm.out; omega) Hlt4.out.1 h)
            have p0 := (hb8).cell 0
            have p1 := (hb8).cell 1
            have p2 := (hb8).cell 2
            have p3 := (hb8).cell 3
            have p4 := (hb8).cell 4
            have p5 := (hb8).cell 5
            have p6 := (hb8).cell 6
            have p7 := (hb8).cell 7
            simp at p0 p1 p2 p3 p4 p5 p6 p7
            clear hW hm78 hb8 y3 g3x
            go_wp2_with fail
            refine (call_dleave (s := { s2 with life := L, ver := -5 }) (ok := true) E8.out HD8.out (by have := Hik.out; have := HM.out; omega) (HR8.out _ (Mod.refl _ _)) (fun _ _ => trivial)).mono ?_
            rintro e w9 ⟨rfl, h1, h2⟩
            have HD9 := Lib.hid h1; have HS9 := Lib.hid h2
            clear h1 h2
            have r0 := (HB8.out w9 HS9.out).cell 0
            have r1 := (HB8.out w9 HS9.out).cell 1
            have r2 := (HB8.out w9 HS9.out).cell 2
            have r3 := (HB8.out w9 HS9.out).cell 3
            have r4 := (HB8.out w9 HS9.out).cell 4
            have r5 := (HB8.out w9 HS9.out).cell 5
            have r6 := (HB8.out w9 HS9.out).cell 6
            have r7 := (HB8.out w9 HS9.out).cell 7
            simp at r0 r1 r2 r3 r4 r5 r6 r7
            go_wp2_with fail
            refine (call_dleave (s := { s2 with life := L, ver := -5 }) (ok := false) E9.out HD9.out (by have := Hik.out; have := HM.out; omega) (HR8.out _ HS9.out) (fun _ _ => trivial)).mono ?_
            rintro e w10 ⟨rfl, h1, h2⟩
            have HD10 := Lib.hid h1; have HS10 : Hid (Mod (fun j => j = g) w8 w10) := Lib.hid (HS9.out.trans h2 (fun _ _ h => h))
            clear h1 h2
            have hav5 : ArrI w10 gv 25 vs := ((HAv2.out.mod H25.out (by have := Hne.out; omega)).mod H58.out (by have := Hne4.out; omega)).mod HS10.out (by have := Hne.out; omega)
            have hal5 : ArrI w10 gl 25 ls := ((HAl2.out.mod H25.out (by have := Hne.out; omega)).mod H58.out (by have := Hne4.out; omega)).mod HS10.out (by have := Hne.out; omega)
            have HM10 : Hid (Mod (fun _ => False) w w10) := Lib.hid (HM8.out.trans HS10.out (fun i hi h => by have := HNew.out; omega))
            have t2 := (HB8.out w10 HS10.out).cell 2
            simp at t2
            have u1 := hav5.cell HVQ.out
            have u2 := hal5.cell HLQ.out
            have u3 := hav5.frozen q
            have u4 := hal5.frozen q
            have k1 : ¬ gv = gl := Hne.out.2.2.1
            have k2 : ¬ gl = gv := fun e => Hne.out.2.2.1 e.symm
            have k3 : ¬ g4 = gv := Hne4.out.2.1
            have k4 : ¬ g4 = gl := Hne4.out.2.2.1
            have Hav5 := Lib.hid hav5; have Hal5 := Lib.hid hal5
            clear hav5 hal5 p0 p1 p2 p3 p4 p5 p6 p7 r0 r1 r2 r3 r4 r5 r6 r7
            go_upto_region 18 with fail
            go_region
            all_goals (
              obtain ⟨w11, hW⟩ : ∃ W, W = (w10.setCell ⟨gv, q, none⟩ (.int .i64 (s2.ver + 2))).setCell ⟨gl, q, none⟩ (.int .i64 L) := ⟨_, rfl⟩
              have HW := Lib.hid hW
              clear hW
              go_wp2_with fail
              go_roundg (gk - 1)
              case measure => have := Hik.out; omega
              case rel =>
                rw [← HW.out]
                have a1 := Hav5.out.set_ q (s2.ver + 2)
                have hma : Mod (fun j => j = gv) w10 (w10.setCell ⟨gv, q, none⟩ (.int .i64 (s2.ver + 2))) := one_cell _ _ _ _
                have a2 := (Hal5.out.mod hma (fun e => Hne.out.2.2.1 e.symm))
                have a3 := a2.set_ q L
                have hmb : Mod (fun j => j = gl) (w10.setCell ⟨gv, q, none⟩ (.int .i64 (s2.ver + 2))) w11 := by rw [HW.out]; exact one_cell _ _ _ _
                have a4 := a1.mod hmb Hne.out.2.2.1
                have a5 := (HD10.out.other hma Hne.out.1 Hav5.out (by decide) (by decide)).other hmb Hne.out.2.1 a2 (by decide) (by decide)
                rw [← HW.out] at a3
                exact ⟨i + 1, dl, vs.set q (s2.ver + 2), ls.set q L, by have := Hik.out; omega, by go_num, by have h := a5.new (Mod.refl _ _).drew; rwa [show 5 * i + 3 + 1 + 1 = 5 * (i + 1) by omega] at h, Hvd3.out, Hgd3.out, a4, a3, ((HM10.out.trans hma (fun i hi h => by have := Hne.out; omega)).trans hmb (fun i hi h => by have := Hne.out; have := HM10.out.size; omega)).drew⟩)
          · have eL : L = (l1 : Int) := by rw [HL.out, if_neg hb]
            obtain rfl : b1 = 0 := by have := Hb2.out; omega
            obtain ⟨w7, hW7⟩ : ∃ W, W = w6 := ⟨_, rfl⟩
            have H67 : Hid (Mod (fun j => j = g4) w6 w7) := Lib.hid (by rw [hW7]; exact Mod.refl _ _)
            have Hb7 : Hid (Blk w7 g4 32 #[.bool s2.there, .bool s2.shut, .int .i64 L, .int .i64 s2.ver, .bool s2.opn.any, .int .i64 s2.opn.last, .slice A4 n4 c4, .slice P4 m4 d4]) := Lib.hid (by rw [hW7, eL]; exact Hb6.out)
            have HW7 := Lib.hid hW7
            clear hW7 eL hb
            go_upto_region 15 with fail
            rw [← HW7.out]
            have HD7 : Hid (DirV (fun _ => True) g (5 * i + 3) w7 dt) := Lib.hid (HD6.out.other H67.out Hne4.out.1 Hb6.out (by decide) (by decide))
            have y3 := Hb7.out.cell 3
            have g3x := Hb7.out.frozen 3
            simp at y3
            go_upto_region 16 with fail
            obtain ⟨w8, hW⟩ : ∃ W, W = w7.setCell ⟨g4, 3, none⟩ (.int .i64 (-5)) := ⟨_, rfl⟩
            rw [← hW]
            have hm78 : Mod (fun j => j = g4) w7 w8 := by rw [hW]; exact one_cell _ _ _ _
            have hb8 : Blk w8 g4 32 #[.bool s2.there, .bool s2.shut, .int .i64 L, .int .i64 (-5), .bool s2.opn.any, .int .i64 s2.opn.last, .slice A4 n4 c4, .slice P4 m4 d4] := by rw [hW]; have h := Hb7.out.set_ 3 (.int .i64 (-5)); simpa using h
            have HD8 : Hid (DirV (fun _ => True) g (5 * i + 3) w8 dt) := Lib.hid (HD7.out.other hm78 Hne4.out.1 Hb7.out (by decide) (by decide))
            have H58 : Hid (Mod (fun j => j = g4) w5 w8) := Lib.hid ((H56.out.trans H67.out (fun _ _ h => h)).trans hm78 (fun _ _ h => h))
            have HM8 : Hid (Mod (fun _ => False) w w8) := Lib.hid (HM5.out.trans H58.out (fun i hi h => by have := Hne4.out; omega))
            have HB8 : Hid (∀ W', Mod (fun j => j = g) w8 W' → Blk W' g4 32 #[.bool s2.there, .bool s2.shut, .int .i64 L, .int .i64 (-5), .bool s2.opn.any, .int .i64 s2.opn.last, .slice A4 n4 c4, .slice P4 m4 d4]) := Lib.hid (fun W' h => h.blk hb8 (fun e => by have := Hne4.out; omega))
            have HR8 : Hid (∀ W', Mod (fun j => j = g) w8 W' → RdsSlot W' { s2 with life := L, ver := -5 } A4 n4 P4 m4) := Lib.hid (fun W' h => by
              obtain ⟨z1, _, _, z2, _, _⟩ := HZ4.out
              have k1 := (OwnS.toK HO4.out).modS H45.out (fun k hk e => by have h3 := (OwnK.block (OwnS.toK HO4.out) k hk).1; have := Hlt4.out; omega)
              have k2 := OwnK.modS HP4.out H45.out (fun k hk e => by have h3 := (OwnK.block HP4.out k hk).1; have := Hlt4.out; omega)
              exact reads_own (s := { s2 with life := L, ver := -5 }) (own_other k1 H58.out Hb5.out (by decide)).toS (own_other k2 H58.out Hb5.out (by decide)) z1.out z2.out (by have := z1.out; have := Hsm.out; omega) (by have := z2.out; have := Hsm.out; omega) Hlt4.out.1 h)
            have p0 := (hb8).cell 0
            have p1 := (hb8).cell 1
            have p2 := (hb8).cell 2
            have p3 := (hb8).cell 3
            have p4 := (hb8).cell 4
            have p5 := (hb8).cell 5
            have p6 := (hb8).cell 6
            have p7 := (hb8).cell 7
            simp at p0 p1 p2 p3 p4 p5 p6 p7
            clear hW hm78 hb8 y3 g3x
            go_wp2_with fail
            refine (call_dleave (s := { s2 with life := L, ver := -5 }) (ok := true) E8.out HD8.out (by have := Hik.out; have := HM.out; omega) (HR8.out _ (Mod.refl _ _)) (fun _ _ => trivial)).mono ?_
            rintro e w9 ⟨rfl, h1, h2⟩
            have HD9 := Lib.hid h1; have HS9 := Lib.hid h2
            clear h1 h2
            have r0 := (HB8.out w9 HS9.out).cell 0
            have r1 := (HB8.out w9 HS9.out).cell 1
            have r2 := (HB8.out w9 HS9.out).cell 2
            have r3 := (HB8.out w9 HS9.out).cell 3
            have r4 := (HB8.out w9 HS9.out).cell 4
            have r5 := (HB8.out w9 HS9.out).cell 5
            have r6 := (HB8.out w9 HS9.out).cell 6
            have r7 := (HB8.out w9 HS9.out).cell 7
            simp at r0 r1 r2 r3 r4 r5 r6 r7
            go_wp2_with fail
            refine (call_dleave (s := { s2 with life := L, ver := -5 }) (ok := false) E9.out HD9.out (by have := Hik.out; have := HM.out; omega) (HR8.out _ HS9.out) (fun _ _ => trivial)).mono ?_
            rintro e w10 ⟨rfl, h1, h2⟩
            have HD10 := Lib.hid h1; have HS10 : Hid (Mod (fun j => j = g) w8 w10) := Lib.hid (HS9.out.trans h2 (fun _ _ h => h))
            clear h1 h2
            have hav5 : ArrI w10 gv 25 vs := ((HAv2.out.mod H25.out (by have := Hne.out; omega)).mod H58.out (by have := Hne4.out; omega)).mod HS10.out (by have := Hne.out; omega)
            have hal5 : ArrI w10 gl 25 ls := ((HAl2.out.mod H25.out (by have := Hne.out; omega)).mod H58.out (by have := Hne4.out; omega)).mod HS10.out (by have := Hne.out; omega)
            have HM10 : Hid (Mod (fun _ => False) w w10) := Lib.hid (HM8.out.trans HS10.out (fun i hi h => by have := HNew.out; omega))
            have t2 := (HB8.out w10 HS10.out).cell 2
            simp at t2
            have u1 := hav5.cell HVQ.out
            have u2 := hal5.cell HLQ.out
            have u3 := hav5.frozen q
            have u4 := hal5.frozen q
            have k1 : ¬ gv = gl := Hne.out.2.2.1
            have k2 : ¬ gl = gv := fun e => Hne.out.2.2.1 e.symm
            have k3 : ¬ g4 = gv := Hne4.out.2.1
            have k4 : ¬ g4 = gl := Hne4.out.2.2.1
            have Hav5 := Lib.hid hav5; have Hal5 := Lib.hid hal5
            clear hav5 hal5 p0 p1 p2 p3 p4 p5 p6 p7 r0 r1 r2 r3 r4 r5 r6 r7
            go_upto_region 18 with fail
            go_region
            all_goals (
              obtain ⟨w11, hW⟩ : ∃ W, W = (w10.setCell ⟨gv, q, none⟩ (.int .i64 (s2.ver + 2))).setCell ⟨gl, q, none⟩ (.int .i64 L) := ⟨_, rfl⟩
              have HW := Lib.hid hW
              clear hW
              go_wp2_with fail
              go_roundg (gk - 1)
              case measure => have := Hik.out; omega
              case rel =>
                rw [← HW.out]
                have a1 := Hav5.out.set_ q (s2.ver + 2)
                have hma : Mod (fun j => j = gv) w10 (w10.setCell ⟨gv, q, none⟩ (.int .i64 (s2.ver + 2))) := one_cell _ _ _ _
                have a2 := (Hal5.out.mod hma (fun e => Hne.out.2.2.1 e.symm))
                have a3 := a2.set_ q L
                have hmb : Mod (fun j => j = gl) (w10.setCell ⟨gv, q, none⟩ (.int .i64 (s2.ver + 2))) w11 := by rw [HW.out]; exact one_cell _ _ _ _
                have a4 := a1.mod hmb Hne.out.2.2.1
                have a5 := (HD10.out.other hma Hne.out.1 Hav5.out (by decide) (by decide)).other hmb Hne.out.2.1 a2 (by decide) (by decide)
                rw [← HW.out] at a3
                exact ⟨i + 1, dl, vs.set q (s2.ver + 2), ls.set q L, by have := Hik.out; omega, by go_num, by have h := a5.new (Mod.refl _ _).drew; rwa [show 5 * i + 3 + 1 + 1 = 5 * (i + 1) by omega] at h, Hvd3.out, Hgd3.out, a4, a3, ((HM10.out.trans hma (fun i hi h => by have := Hne.out; omega)).trans hmb (fun i hi h => by have := Hne.out; have := HM10.out.size; omega)).drew⟩)
    · have hiM : ¬ ((i : Int) < (n0 : Int) ∧ (i : Int) < 60) := by have := HM.out; have := Hik.out; omega
      by_cases hi1 : (i : Int) < (n0 : Int)
      · have hi2 : ¬ (i : Int) < 60 := fun h => hiM ⟨hi1, h⟩
        clear hiM hin
        go_wp2_with fail
        go_loopg [125, 11, 12, 13] 16 (fun gk s125 s11 s12 s13 wr => ∃ (k : Nat), k + gk = 16 ∧ s125 = .int .i64 (k : Int) ∧ DirV (fun _ => True) g (5 * i) wr d2 ∧ ArrI wr gv 25 vs ∧ ArrI wr gl 25 ls ∧ Mod (fun _ => False) w wr)
        case atStart => exact ⟨0, by omega, rfl, HD2.out, HAv2.out, HAl2.out, HM2.out⟩
        case round =>
          obtain ⟨k, hk, rfl, hd, hav, hal, hm⟩ := hrel
          obtain ⟨w12, rfl⟩ : ∃ w9, w9 = wr := ⟨_, rfl⟩
          have HD12 := Lib.hid hd; have HM12 := Lib.hid hm; have HAv12 := Lib.hid hav; have HAl12 := Lib.hid hal
          clear hd hm hav hal HD2 HM2 HAv2 HAl2
          by_cases hk16 : k < 16
          · have hk0 : (k : Int) < 16 := by omega
            obtain ⟨s2, hs2⟩ : ∃ s, d2.slot k = s := ⟨_, rfl⟩
            have hlk := look_free Hgd.out (k : Int)
            rw [Int.toNat_natCast, Hvd.out.free k hk16, if_pos ⟨inD_nat hk16, rfl⟩, hs2] at hlk
            have hvq := Hvd.out.ver k hk16
            have hlq := Hvd.out.life k hk16
            rw [hs2] at hvq hlq
            have E1 := Lib.hid hlk; have HVQ := Lib.hid hvq; have HLQ := Lib.hid hlq
            clear hs2 hlk hvq hlq
            go_wp2_with fail
            refine (call_dlook (s := s2) (o := some s2) (ok := true) E1.out rfl rfl HD12.out (by have := Hik.out; have := HM.out; omega)).mono ?_
            rintro e v13 ⟨A13, n13, c13, P13, m13, d13, rfl, hz, ho, hp, hd, hm⟩
            obtain ⟨w13, hW, hmW, hbW, hzW⟩ := new_box v13 32 #[.bool s2.there, .bool s2.shut, .int .i64 s2.life, .int .i64 s2.ver, .bool s2.opn.any, .int .i64 s2.opn.last, .slice A13 n13 c13, .slice P13 m13 d13]
            obtain ⟨g13, hg⟩ : ∃ x, x = v13.heap.size := ⟨_, rfl⟩
            rw [← hg] at hbW hzW
            have HD13 : Hid (DirV (fun _ => True) g (5 * i) w13 (d2)) := Lib.hid (hd.new hmW)
            have HM13 : Hid (Mod (fun _ => False) w w13) := Lib.hid (HM12.out.trans (hm.trans hmW (fun _ _ h => h)) (fun _ _ h => h))
            have HS13 : Hid (Mod (fun j => j = g) w12 w13) := Lib.hid ((hm.trans hmW (fun _ _ h => h)).mono (fun _ _ h => h.elim))
            have HO13 : Hid (OwnS w12.heap.size w13 (.slice A13 n13 c13) (s2).opn.list) := Lib.hid (hmW.owns ho (fun _ _ h => h))
            have HP13 : Hid (OwnPt w12.heap.size w13 40 (.slice P13 m13 d13) (s2).chunks) := Lib.hid (OwnPt.mod hp hmW)
            have HZ13 := Lib.hid hz
            have Hlt13 : Hid (g < w12.heap.size ∧ w12.heap.size ≤ g13 ∧ g13 < w13.heap.size) := Lib.hid ⟨HD12.out.lt, by have := hm.size; omega, by omega⟩
            have HB13 : Hid (∀ W', Mod (fun j => j = g) w13 W' → Blk W' g13 32 #[.bool s2.there, .bool s2.shut, .int .i64 s2.life, .int .i64 s2.ver, .bool s2.opn.any, .int .i64 s2.opn.last, .slice A13 n13 c13, .slice P13 m13 d13]) := Lib.hid (fun W' h => h.blk hbW (fun e => by have := Hlt13.out; omega))
            have HW := Lib.hid hW; have Hg := Lib.hid hg
            clear hz ho hp hd hm hW hmW hbW hzW hg
            go_upto_region 23 with fail
            rw [← HW.out, ← Hg.out]
            clear HW Hg
            have t2 := (HB13.out w13 (Mod.refl _ _)).cell 2
            have t3 := (HB13.out w13 (Mod.refl _ _)).cell 3
            simp at t2 t3
            have hav := HAv12.out.mod HS13.out (by have := Hne.out; omega)
            have hal := HAl12.out.mod HS13.out (by have := Hne.out; omega)
            have u1 := hav.cell HVQ.out
            have u2 := hal.cell HLQ.out
            have HAv13 := Lib.hid hav; have HAl13 := Lib.hid hal
            clear hav hal
            go_quiet (fail)
            go_wp2_with fail
            go_roundg (gk - 1)
            case measure => omega
            case rel => exact ⟨k + 1, by omega, by go_num, HD13.out.new ((Mod.refl _ _).drewN _), HAv13.out.mod ((Mod.refl (fun _ => False) _).drewN _) (fun h => h), HAl13.out.mod ((Mod.refl (fun _ => False) _).drewN _) (fun h => h), HM13.out.drewN _⟩
          · obtain rfl : k = 16 := by omega
            clear hk16
            go_wp2_with fail
            refine (diAwake_any w12).mono ?_
            rintro e w99 ⟨rfl, h2⟩
            have HM99 : Hid (Mod (fun _ => False) w w99) := Lib.hid (HM12.out.trans h2 (fun _ _ h => h))
            clear h2
            go_wp2_with fail
            go_ret
            exact ⟨rfl, HM99.out⟩
      · clear hiM hin
        go_wp2_with fail
        go_loopg [125, 11, 12, 13] 16 (fun gk s125 s11 s12 s13 wr => ∃ (k : Nat), k + gk = 16 ∧ s125 = .int .i64 (k : Int) ∧ DirV (fun _ => True) g (5 * i) wr d2 ∧ ArrI wr gv 25 vs ∧ ArrI wr gl 25 ls ∧ Mod (fun _ => False) w wr)
        case atStart => exact ⟨0, by omega, rfl, HD2.out, HAv2.out, HAl2.out, HM2.out⟩
        case round =>
          obtain ⟨k, hk, rfl, hd, hav, hal, hm⟩ := hrel
          obtain ⟨w12, rfl⟩ : ∃ w9, w9 = wr := ⟨_, rfl⟩
          have HD12 := Lib.hid hd; have HM12 := Lib.hid hm; have HAv12 := Lib.hid hav; have HAl12 := Lib.hid hal
          clear hd hm hav hal HD2 HM2 HAv2 HAl2
          by_cases hk16 : k < 16
          · have hk0 : (k : Int) < 16 := by omega
            obtain ⟨s2, hs2⟩ : ∃ s, d2.slot k = s := ⟨_, rfl⟩
            have hlk := look_free Hgd.out (k : Int)
            rw [Int.toNat_natCast, Hvd.out.free k hk16, if_pos ⟨inD_nat hk16, rfl⟩, hs2] at hlk
            have hvq := Hvd.out.ver k hk16
            have hlq := Hvd.out.life k hk16
            rw [hs2] at hvq hlq
            have E1 := Lib.hid hlk; have HVQ := Lib.hid hvq; have HLQ := Lib.hid hlq
            clear hs2 hlk hvq hlq
            go_wp2_with fail
            refine (call_dlook (s := s2) (o := some s2) (ok := true) E1.out rfl rfl HD12.out (by have := Hik.out; have := HM.out; omega)).mono ?_
            rintro e v13 ⟨A13, n13, c13, P13, m13, d13, rfl, hz, ho, hp, hd, hm⟩
            obtain ⟨w13, hW, hmW, hbW, hzW⟩ := new_box v13 32 #[.bool s2.there, .bool s2.shut, .int .i64 s2.life, .int .i64 s2.ver, .bool s2.opn.any, .int .i64 s2.opn.last, .slice A13 n13 c13, .slice P13 m13 d13]
            obtain ⟨g13, hg⟩ : ∃ x, x = v13.heap.size := ⟨_, rfl⟩
            rw [← hg] at hbW hzW
            have HD13 : Hid (DirV (fun _ => True) g (5 * i) w13 (d2)) := Lib.hid (hd.new hmW)
            have HM13 : Hid (Mod (fun _ => False) w w13) := Lib.hid (HM12.out.trans (hm.trans hmW (fun _ _ h => h)) (fun _ _ h => h))
            have HS13 : Hid (Mod (fun j => j = g) w12 w13) := Lib.hid ((hm.trans hmW (fun _ _ h => h)).mono (fun _ _ h => h.elim))
            have HO13 : Hid (OwnS w12.heap.size w13 (.slice A13 n13 c13) (s2).opn.list) := Lib.hid (hmW.owns ho (fun _ _ h => h))
            have HP13 : Hid (OwnPt w12.heap.size w13 40 (.slice P13 m13 d13) (s2).chunks) := Lib.hid (OwnPt.mod hp hmW)
            have HZ13 := Lib.hid hz
            have Hlt13 : Hid (g < w12.heap.size ∧ w12.heap.size ≤ g13 ∧ g13 < w13.heap.size) := Lib.hid ⟨HD12.out.lt, by have := hm.size; omega, by omega⟩
            have HB13 : Hid (∀ W', Mod (fun j => j = g) w13 W' → Blk W' g13 32 #[.bool s2.there, .bool s2.shut, .int .i64 s2.life, .int .i64 s2.ver, .bool s2.opn.any, .int .i64 s2.opn.last, .slice A13 n13 c13, .slice P13 m13 d13]) := Lib.hid (fun W' h => h.blk hbW (fun e => by have := Hlt13.out; omega))
            have HW := Lib.hid hW; have Hg := Lib.hid hg
            clear hz ho hp hd hm hW hmW hbW hzW hg
            go_upto_region 23 with fail
            rw [← HW.out, ← Hg.out]
            clear HW Hg
            have t2 := (HB13.out w13 (Mod.refl _ _)).cell 2
            have t3 := (HB13.out w13 (Mod.refl _ _)).cell 3
            simp at t2 t3
            have hav := HAv12.out.mod HS13.out (by have := Hne.out; omega)
            have hal := HAl12.out.mod HS13.out (by have := Hne.out; omega)
            have u1 := hav.cell HVQ.out
            have u2 := hal.cell HLQ.out
            have HAv13 := Lib.hid hav; have HAl13 := Lib.hid hal
            clear hav hal
            go_quiet (fail)
            go_wp2_with fail
            go_roundg (gk - 1)
            case measure => omega
            case rel => exact ⟨k + 1, by omega, by go_num, HD13.out.new ((Mod.refl _ _).drewN _), HAv13.out.mod ((Mod.refl (fun _ => False) _).drewN _) (fun h => h), HAl13.out.mod ((Mod.refl (fun _ => False) _).drewN _) (fun h => h), HM13.out.drewN _⟩
          · obtain rfl : k = 16 := by omega
            clear hk16
            go_wp2_with fail
            refine (diAwake_any w12).mono ?_
            rintro e w99 ⟨rfl, h2⟩
            have HM99 : Hid (Mod (fun _ => False) w w99) := Lib.hid (HM12.out.trans h2 (fun _ _ h => h))
            clear h2
            go_wp2_with fail
            go_ret
            exact ⟨rfl, HM99.out⟩
end Go.Proofs.Yteegdbbmamabiaa
