/- DirePlays' walk. -/
import Derived.Test.YteegdbbmamabiaaMw1
import Derived.Test.YteegdbbmamabiaaMw2
import Derived.Test.YteegdbbmamabiaaMw3
import Derived.Test.YteegdbbmamabiaaMw4
namespace Go.Proofs.Yteegdbbmamabiaa
open Go.RowKit

set_option linter.unusedSimpArgs false in
set_option maxHeartbeats 16000000 in
set_option maxRecDepth 100000 in
theorem diplays_walk (A0 : Option Addr) (n0 c0 : Nat) (zs : List Int) (A1 : Option Addr) (n1 c1 : Nat) (w : World) (hs : SeesI .i64 w w.heap.size A0 n0 zs) (hz : IsRowsZ w A1 n1) : Calls Try.prog 6 #[.slice A0 n0 c0, .slice A1 n1 c1] w fun e w' => e = .returned (.bool true) ∧ Mod (fun _ => False) w w' := by
  obtain ⟨M, hM⟩ : ∃ M, M = min n0 100 := ⟨_, rfl⟩
  have Hs := Lib.hid hs; have HM := Lib.hid hM; have Hz := Lib.hid hz
  have hn0 : (0 : Int) ≤ (n0 : Int) := by omega
  have hmm := @run_makeMap Try.prog
  clear hs hM hz
  go_enter Try.func6, Try.ntmps6
  go_wp2_with fail
  refine (diNew_any w).mono ?_
  rintro e w0 ⟨g, rfl, hc, hm0, hg0⟩
  have HD0 : Hid (DirV (fun _ => True) g 0 w0 newD) := Lib.hid (hc _)
  have HM0 := Lib.hid hm0
  have HNew : Hid (w.heap.size ≤ g) := Lib.hid hg0
  clear hc hm0 hg0
  have hz51 := zero_slots w0
  obtain ⟨Z, hZ⟩ : ∃ Z, Z = ([] ++ (zeroSlots.flatten ++ [])).toArray := ⟨_, rfl⟩
  rw [← hZ] at hz51
  obtain ⟨gs, hgs⟩ : ∃ x, x = w0.heap.size := ⟨_, rfl⟩
  obtain ⟨gm, hgm⟩ : ∃ x, x = w0.heap.size + 1 := ⟨_, rfl⟩
  obtain ⟨w1, hW⟩ : ∃ W, W = (w0.alloc (.cells Z 51)).alloc (.map #[] 0) := ⟨_, rfl⟩
  have hm01 : Mod (fun _ => False) w0 w1 := by rw [hW]; exact ((Mod.refl _ _).alloc _).alloc _
  have hbs : Blk w1 gs 51 Z := by rw [hW, hgs]; exact (Blk.new _ _ _).alloc _
  have hmz : MapZ w1 gm 0 (fun _ => none) 0 := by
    rw [hW, hgm]
    have h := MapZ.made (w0.alloc (.cells Z 51))
    have e : (w0.alloc (.cells Z 51)).heap.size = w0.heap.size + 1 := by simp
    rw [e] at h
    exact h
  have HT1 : Hid (StD w g gs gm 0 w1 newD) := Lib.hid ⟨HD0.out.new hm01, loc_new (by rw [← hZ]; exact hbs), ⟨0, by have e : flagF newD = fun _ => none := (by funext k; unfold flagF flagD newD; split <;> rfl); rw [e]; exact hmz⟩, HM0.out.trans hm01 (fun _ _ h => h), by have h1 := HD0.out.lt; have h2 := HM0.out.size; have h3 := HNew.out; omega⟩
  have HW := Lib.hid hW; have Hgs := Lib.hid hgs; have Hgm := Lib.hid hgm
  clear hZ hgs hgm hW hm01 hbs hmz
  go_upto_region 6 with fail
  rw [← HW.out, ← Hgm.out, ← Hgs.out]
  clear HW Hgm Hgs hz51 HD0 HM0 hmm
  go_wp2_with fail
  go_loopg [8, 9, 10, 11, 12, 13, 14, 15, 16, 17, 18, 19, 20] M (fun gk s8 s9 s10 s11 s12 s13 s14 s15 s16 s17 s18 s19 s20 wr => ∃ (i : Nat) (d : DirN), i + gk = M ∧ s8 = .int .i64 (i : Int) ∧ StD w g gs gm i wr d)
  case atStart => exact ⟨0, newD, by omega, rfl, HT1.out⟩
  case round =>
    obtain ⟨i, d2, hik, rfl, ht⟩ := hrel
    obtain ⟨w2, rfl⟩ : ∃ w9, w9 = wr := ⟨_, rfl⟩
    have Hik := Lib.hid hik; have HT2 := Lib.hid ht
    clear hik ht HT1
    by_cases hin : i < M
    · have hin0 : i < n0 := by have := HM.out; omega
      obtain ⟨ad, x, rfl, hx, hc0⟩ := Hs.out.at_ (w' := w2) (S := fun _ => False) hin0 (Nat.le_refl _) HT2.out.mod (fun _ _ h => h)
      have HC0 : Hid (∀ W', Mod (fun _ => False) w W' → W'.cell? (ad.add i) = some (.int .i64 x)) := Lib.hid (fun W' h => by
        obtain ⟨ad', x', e, hx', hc'⟩ := Hs.out.at_ (w' := W') (S := fun _ => False) hin0 (Nat.le_refl _) h (fun _ _ h => h)
        injection e with e
        subst e
        rw [hx] at hx'
        injection hx' with hx'
        subst hx'
        exact hc')
      obtain ⟨q0, hq0, hq032, -⟩ := and_at (x := x / 4) (m := 31) 5 rfl (by omega)
      obtain ⟨wh, hwh, hwh4, -⟩ := and_at (x := x / 128) (m := 3) 2 rfl (by omega)
      obtain ⟨op, hop, hop4, -⟩ := and_at (x := x) (m := 3) 2 rfl (by omega)
      have hin1 : (i : Int) < (n0 : Int) := by omega
      have hi0 : (0 : Int) ≤ (i : Int) := by omega
      have hi100 : (i : Int) < 100 := by have := HM.out; omega
      have hw8 : IntKind.i64.wrap ((q0 : Int) - 8) = (q0 : Int) - 8 := IntWalk.i64_in _ (by omega)
      obtain ⟨q1, hq1, hq14, -⟩ := and_at (x := (q0 : Int) - 8) (m := 3) 2 rfl (by omega)
      have Hq : Hid (q0 < 32 ∧ q1 < 4 ∧ i < 100 ∧ wh < 4) := Lib.hid ⟨hq032, hq14, by omega, by omega⟩
      have Hop : Hid (op < 4) := Lib.hid hop4
      clear hx hq032 hq14 hwh4 hop4
      go_upto_if 47 with fail
      go_cut [9] from 48 to 49 (fun s9 wx => ∃ id : Int, s9 = .int .i64 id ∧ -8 ≤ id ∧ id ≤ 23 ∧ wx = w2)
      case first =>
        as_aux_lemma =>
          by_cases hb : 0 < bits .and .i64 x 4096
          · go_wp2_with fail
            go_meet
            exact ⟨(q1 : Int), rfl, by omega, by have := Hq.out; omega, rfl⟩
          · go_wp2_with fail
            go_meet
            exact ⟨(q0 : Int) - 8, rfl, by omega, by have := Hq.out; omega, rfl⟩
      case rest =>
        as_aux_lemma =>
          obtain ⟨id, rfl, hid0, hid1, hwc⟩ := hcut
          subst hwc
          obtain ⟨w3, rfl⟩ : ∃ w9, w9 = wc := ⟨_, rfl⟩
          have Hid2 : Hid (-8 ≤ id ∧ id ≤ 23) := Lib.hid ⟨hid0, hid1⟩
          have hc0 := HC0.out w3 HT2.out.mod
          clear hid0 hid1 hq0 hq1 hw8
          go_upto_region 13 with fail
          go_cut [11] from 56 to 61 (fun s11 wx => s11 = .bool (decide (inD id)) ∧ wx = w3)
          case first =>
            as_aux_lemma =>
              by_cases h0 : 0 ≤ id
              · by_cases h1 : id < 16
                · go_wp2_with fail
                  go_meet
                  exact ⟨by rw [decide_eq_true (show inD id from ⟨by omega, by omega⟩)], rfl⟩
                · go_wp2_with fail
                  go_meet
                  exact ⟨by rw [decide_eq_false (show ¬ inD id from fun h => by have := h.2; omega)], rfl⟩
              · go_wp2_with fail
                go_meet
                exact ⟨by rw [decide_eq_false (show ¬ inD id from fun h => by have := h.1; omega)], rfl⟩
          case rest =>
            as_aux_lemma =>
              obtain ⟨rfl, hwc⟩ := hcut
              subst hwc
              obtain ⟨w4, rfl⟩ : ∃ w9, w9 = wc := ⟨_, rfl⟩
              have HT4 := HT2
              clear HT2
              have Hidf : Hid (FitI id) := Lib.hid ⟨by have := Hid2.out; omega, by have := Hid2.out; omega⟩
              have hlk := HT4.out.look Hidf.out
              obtain ⟨fl, hfl⟩ : ∃ fl, flagD d2 id = fl := ⟨_, rfl⟩
              rw [hfl] at hlk
              obtain ⟨hv0, hhv⟩ : ∃ x, fl.getD 0 = x := ⟨_, rfl⟩
              obtain ⟨tk, htk⟩ : ∃ b, fl.isSome = b := ⟨_, rfl⟩
              obtain ⟨inb, hinb⟩ : ∃ b, decide (inD id) = b := ⟨_, rfl⟩
              rw [hhv, htk] at hlk
              rw [hinb]
              have Hfl := Lib.hid hfl; have Hhv := Lib.hid hhv; have Htk := Lib.hid htk; have Hinb := Lib.hid hinb
              clear hfl hhv htk hinb
              go_upto_block 2 with fail
              go_cut [14, 15, 16] from 73 to 167 (fun s14 s15 s16 wx => ∃ d5, StD w g gs gm (i + 1) wx d5)
              case first =>
                as_aux_lemma =>
                  rcases (show op = 0 ∨ op = 1 ∨ op = 2 ∨ op = 3 by have := Hop.out; omega) with rfl | rfl | rfl | rfl
                  · as_aux_lemma =>
                      by_cases hin : inD id
                      · obtain rfl : inb = true := by rw [← Hinb.out]; exact decide_eq_true hin
                        cases fl with
                        | none =>
                          obtain rfl : tk = false := Htk.out.symm
                          obtain ⟨q, rfl, hq16⟩ := inD_some hin
                          have hf : d2.flag q = none := by have h := Hfl.out; unfold flagD at h; rw [if_pos hin, Int.toNat_natCast] at h; exact h
                          have e1 := take_yes (d := d2) (who := (wh : Int)) hin (by rw [Int.toNat_natCast]; exact hf)
                          rw [Int.toNat_natCast] at e1
                          obtain ⟨v, hv⟩ : ∃ v, (d2.slot q).ver = v := ⟨_, rfl⟩
                          have hvb := HT4.out.dir.good.ver q
                          rw [hv] at hvb
                          have hwv : IntKind.i64.wrap (v + 1) = v + 1 := IntWalk.i64_in _ (by have := Hq.out; omega)
                          have E1 := Lib.hid e1; have Hv := Lib.hid hv; have Hq16 := Lib.hid hq16
                          have hqi : (q : Int) < 16 := by omega
                          have hq0 : (0 : Int) ≤ (q : Int) := by omega
                          clear hf e1 hv hvb hq16 hin
                          go_wp2_with fail
                          refine (call_dtake (ok := true) E1.out HT4.out.dir (by have := Hq.out; omega)).mono ?_
                          rintro e w5 ⟨rfl, h1, h2⟩
                          obtain ⟨w6, hup, h3, h4⟩ := HT4.out.store (who := (wh : Int)) h2 Hidf.out (by have := Hq.out; omega)
                          obtain ⟨⟨u, h5, h6, rfl⟩, h7⟩ := HT4.out.took Hq16.out h1 h2 h3 h4
                          rw [Hv.out] at h5 h7
                          have H7 := Lib.hid h7
                          clear h1 h2 h3 h4 h7
                          go_wp2_with fail
                          go_meet
                          exact ⟨_, H7.out⟩
                        | some x0 =>
                          obtain rfl : tk = true := Htk.out.symm
                          have EN : takeD d2 id (wh : Int) = (d2, false) := take_no (fun h => by have h2 := Hfl.out; unfold flagD at h2; rw [if_pos hin, h.2] at h2; cases h2)
                          have ENh := Lib.hid EN
                          clear EN hin
                          go_wp2_with fail
                          refine (call_dtake (ok := false) ENh.out HT4.out.dir (by have := Hq.out; omega)).mono ?_
                          rintro e w5 ⟨rfl, h1, h2⟩
                          have HT5 : Hid (StD w g gs gm (i + 1) w5 d2) := Lib.hid (HT4.out.only h1 h2)
                          clear h1 h2
                          go_wp2_with fail
                          go_meet
                          exact ⟨d2, HT5.out⟩
                      · obtain rfl : inb = false := by rw [← Hinb.out]; exact decide_eq_false hin
                        have EN : takeD d2 id (wh : Int) = (d2, false) := take_no (fun h => hin h.1)
                        have ENh := Lib.hid EN
                        clear EN hin
                        go_wp2_with fail
                        refine (call_dtake (ok := false) ENh.out HT4.out.dir (by have := Hq.out; omega)).mono ?_
                        rintro e w5 ⟨rfl, h1, h2⟩
                        have HT5 : Hid (StD w g gs gm (i + 1) w5 d2) := Lib.hid (HT4.out.only h1 h2)
                        clear h1 h2
                        go_wp2_with fail
                        go_meet
                        exact ⟨d2, HT5.out⟩
                  · as_aux_lemma =>
                      by_cases hin : inD id
                      · obtain rfl : inb = true := by rw [← Hinb.out]; exact decide_eq_true hin
                        cases fl with
                        | none =>
                          obtain rfl : tk = false := Htk.out.symm
                          obtain ⟨q, rfl, hq16⟩ := inD_some hin
                          have hf : d2.flag q = none := by have h := Hfl.out; unfold flagD at h; rw [if_pos hin, Int.toNat_natCast] at h; exact h
                          have e1 := take_yes (d := d2) (who := (wh : Int)) hin (by rw [Int.toNat_natCast]; exact hf)
                          rw [Int.toNat_natCast] at e1
                          obtain ⟨v, hv⟩ : ∃ v, (d2.slot q).ver = v := ⟨_, rfl⟩
                          have hvb := HT4.out.dir.good.ver q
                          rw [hv] at hvb
                          have hwv : IntKind.i64.wrap (v + 1) = v + 1 := IntWalk.i64_in _ (by have := Hq.out; omega)
                          have E1 := Lib.hid e1; have Hv := Lib.hid hv; have Hq16 := Lib.hid hq16
                          have hqi : (q : Int) < 16 := by omega
                          have hq0 : (0 : Int) ≤ (q : Int) := by omega
                          clear hf e1 hv hvb hq16 hin
                          go_wp2_with fail
                          refine (call_dtake (ok := true) E1.out HT4.out.dir (by have := Hq.out; omega)).mono ?_
                          rintro e w5 ⟨rfl, h1, h2⟩
                          obtain ⟨w6, hup, h3, h4⟩ := HT4.out.store (who := (wh : Int)) h2 Hidf.out (by have := Hq.out; omega)
                          obtain ⟨⟨u, h5, h6, rfl⟩, h7⟩ := HT4.out.took Hq16.out h1 h2 h3 h4
                          rw [Hv.out] at h5 h7
                          have H7 := Lib.hid h7
                          clear h1 h2 h3 h4 h7
                          go_wp2_with fail
                          go_meet
                          exact ⟨_, H7.out⟩
                        | some x0 =>
                          obtain rfl : tk = true := Htk.out.symm
                          have EN : takeD d2 id (wh : Int) = (d2, false) := take_no (fun h => by have h2 := Hfl.out; unfold flagD at h2; rw [if_pos hin, h.2] at h2; cases h2)
                          have ENh := Lib.hid EN
                          clear EN hin
                          go_wp2_with fail
                          refine (call_dtake (ok := false) ENh.out HT4.out.dir (by have := Hq.out; omega)).mono ?_
                          rintro e w5 ⟨rfl, h1, h2⟩
                          have HT5 : Hid (StD w g gs gm (i + 1) w5 d2) := Lib.hid (HT4.out.only h1 h2)
                          clear h1 h2
                          go_wp2_with fail
                          go_meet
                          exact ⟨d2, HT5.out⟩
                      · obtain rfl : inb = false := by rw [← Hinb.out]; exact decide_eq_false hin
                        have EN : takeD d2 id (wh : Int) = (d2, false) := take_no (fun h => hin h.1)
                        have ENh := Lib.hid EN
                        clear EN hin
                        go_wp2_with fail
                        refine (call_dtake (ok := false) ENh.out HT4.out.dir (by have := Hq.out; omega)).mono ?_
                        rintro e w5 ⟨rfl, h1, h2⟩
                        have HT5 : Hid (StD w g gs gm (i + 1) w5 d2) := Lib.hid (HT4.out.only h1 h2)
                        clear h1 h2
                        go_wp2_with fail
                        go_meet
                        exact ⟨d2, HT5.out⟩
                  · as_aux_lemma =>
                      have hc0 := HC0.out w4 HT4.out.mod
                      have hc0d : ∀ o, (w4.alloc o).cell? (ad.add i) = some (.int .i64 x) := fun o => HC0.out _ (HT4.out.mod.alloc o)
                      have hc0e : ∀ o o2, ((w4.alloc o).alloc o2).cell? (ad.add i) = some (.int .i64 x) := fun o o2 => HC0.out _ ((HT4.out.mod.alloc o).alloc o2)
                      obtain ⟨li, hli, -⟩ := and_at (x := x / 2048) (m := 3) 2 rfl (by omega)
                      obtain ⟨th, hth⟩ : ∃ b, (bits .and .i64 (x / 512) 1 == 1) = b := ⟨_, rfl⟩
                      obtain ⟨sh, hsh⟩ : ∃ b, (bits .and .i64 (x / 1024) 1 == 1) = b := ⟨_, rfl⟩
                      go_upto_region 25 with fail
                      go_cut [15] from 100 to 127 (fun s15 wx => ∃ g15 gp, s15 = .pointer (some ⟨g15, 0, none⟩) ∧ Blk wx g15 32 #[.bool th, .bool sh, .int .i64 (li : Int), .int .i64 x, .bool false, .int .i64 0, .slice none 0 0, .slice (some ⟨gp, 0, none⟩) 1 1] ∧ Blk wx gp 40 #[.int .i64 (i : Int), .int .i64 0, .int .i64 0, .int .i64 0, .int .i64 0] ∧ Mod (fun _ => False) w4 wx ∧ w4.heap.size ≤ g15)
                      case first =>
                        as_aux_lemma =>
                          obtain ⟨wd, hwd⟩ : ∃ x, x = w4.drew := ⟨_, rfl⟩
                          have HMd : Hid (Mod (fun _ => False) w4 wd) := Lib.hid (by rw [hwd]; exact (Mod.refl _ _).drew)
                          have HX : Hid (∀ W', Mod (fun _ => False) wd W' → W'.cell? (ad.add i) = some (.int .i64 x)) := Lib.hid (fun W' h => HC0.out W' (HT4.out.mod.trans (HMd.out.trans h (fun _ _ h => h)) (fun _ _ h => h)))
                          obtain ⟨huP, ⟨ie, hie, hzP, hszP, _⟩, _, _⟩ := eltPt
                          clear hc0 hc0d hc0e
                          refine wp_region_T (fun W' => W'.cell? (ad.add i) = some (.int .i64 x)) 30 (by kernel_rfl) (by rw [← hwd]; exact HX.out _ (Mod.refl _ wd)) (fun hHeld => ?_)
                          rw [← hwd] at hHeld ⊢
                          clear hwd
                          refine wpAnyT_take (i := 0) (v := ?_) rfl (by decide) (by kernel_rfl) (by kernel_rfl) (by kernel_rfl) (by kernel_rfl) (fun _ _ _ h => h) (Or.inl ⟨by rfl, ?_⟩) hHeld ?_
                          rotate_left
                          · (intro w hSw; (try dsimp only at hSw); go_simp; first | done | with_reducible rfl)
                          simp only [Act.put, List.getElem_toArray, List.getElem_cons_succ, List.getElem_cons_zero, List.setIfInBounds_toArray, List.set_cons_zero, List.set_cons_succ]
                          refine wpAnyT_take (i := 1) (v := ?_) rfl (by decide) (by kernel_rfl) (by kernel_rfl) (by kernel_rfl) (by kernel_rfl) (fun _ _ _ h => h) (Or.inl ⟨by rfl, ?_⟩) hHeld ?_
                          rotate_left
                          · (intro w hSw; (try dsimp only at hSw); go_simp; first | done | with_reducible rfl)
                          simp only [Act.put, List.getElem_toArray, List.getElem_cons_succ, List.getElem_cons_zero, List.setIfInBounds_toArray, List.set_cons_zero, List.set_cons_succ]
                          refine wpAnyT_take (i := 2) (v := ?_) rfl (by decide) (by kernel_rfl) (by kernel_rfl) (by kernel_rfl) (by kernel_rfl) (fun _ _ _ h => h) (Or.inl ⟨by rfl, ?_⟩) hHeld ?_
                          rotate_left
                          · (intro w hSw; (try dsimp only at hSw); go_simp; first | done | with_reducible rfl)
                          simp only [Act.put, List.getElem_toArray, List.getElem_cons_succ, List.getElem_cons_zero, List.setIfInBounds_toArray, List.set_cons_zero, List.set_cons_succ]
                          refine wpAnyT_take (i := 3) (v := ?_) rfl (by decide) (by kernel_rfl) (by kernel_rfl) (by kernel_rfl) (by kernel_rfl) (fun _ _ _ h => h) (Or.inl ⟨by rfl, ?_⟩) hHeld ?_
                          rotate_left
                          · (intro w hSw; (try dsimp only at hSw); go_simp; first | done | with_reducible rfl)
                          simp only [Act.put, List.getElem_toArray, List.getElem_cons_succ, List.getElem_cons_zero, List.setIfInBounds_toArray, List.set_cons_zero, List.set_cons_succ]
                          refine wpAnyT_take (i := 4) (v := ?_) rfl (by decide) (by kernel_rfl) (by kernel_rfl) (by kernel_rfl) (by kernel_rfl) (fun _ _ _ h => h) (Or.inl ⟨by rfl, ?_⟩) hHeld ?_
                          rotate_left
                          · (intro w hSw; (try dsimp only at hSw); go_simp; first | done | with_reducible rfl)
                          simp only [Act.put, List.getElem_toArray, List.getElem_cons_succ, List.getElem_cons_zero, List.setIfInBounds_toArray, List.set_cons_zero, List.set_cons_succ]
                          refine wpAnyT_take (i := 5) (v := ?_) rfl (by decide) (by kernel_rfl) (by kernel_rfl) (by kernel_rfl) (by kernel_rfl) (fun _ _ _ h => h) (Or.inl ⟨by rfl, ?_⟩) hHeld ?_
                          rotate_left
                          · (intro w hSw; (try dsimp only at hSw); go_simp; first | done | with_reducible rfl)
                          simp only [Act.put, List.getElem_toArray, List.getElem_cons_succ, List.getElem_cons_zero, List.setIfInBounds_toArray, List.set_cons_zero, List.set_cons_succ]
                          refine wpAnyT_take (i := 6) (v := ?_) rfl (by decide) (by kernel_rfl) (by kernel_rfl) (by kernel_rfl) (by kernel_rfl) (fun _ _ _ h => h) (Or.inl ⟨by rfl, ?_⟩) hHeld ?_
                          rotate_left
                          · (intro w hSw; (try dsimp only at hSw); go_simp; first | done | with_reducible rfl)
                          simp only [Act.put, List.getElem_toArray, List.getElem_cons_succ, List.getElem_cons_zero, List.setIfInBounds_toArray, List.set_cons_zero, List.set_cons_succ]
                          refine wpAnyT_take (i := 7) (v := ?_) rfl (by decide) (by kernel_rfl) (by kernel_rfl) (by kernel_rfl) (by kernel_rfl) (fun _ _ _ h => h) (Or.inl ⟨by rfl, ?_⟩) hHeld ?_
                          rotate_left
                          · (intro w hSw; (try dsimp only at hSw); go_simp; first | done | with_reducible rfl)
                          simp only [Act.put, List.getElem_toArray, List.getElem_cons_succ, List.getElem_cons_zero, List.setIfInBounds_toArray, List.set_cons_zero, List.set_cons_succ]
                          refine wpAnyT_take (i := 8) (v := ?_) rfl (by decide) (by kernel_rfl) (by kernel_rfl) (by kernel_rfl) (by kernel_rfl) (fun _ _ _ h => h) (Or.inl ⟨by rfl, ?_⟩) hHeld ?_
                          rotate_left
                          · (intro w hSw; (try dsimp only at hSw); go_simp; first | done | with_reducible rfl)
                          simp only [Act.put, List.getElem_toArray, List.getElem_cons_succ, List.getElem_cons_zero, List.setIfInBounds_toArray, List.set_cons_zero, List.set_cons_succ]
                          refine wpAnyT_take (i := 9) (v := ?_) rfl (by decide) (by kernel_rfl) (by kernel_rfl) (by kernel_rfl) (by kernel_rfl) (fun _ _ _ h => h) (Or.inl ⟨by rfl, ?_⟩) hHeld ?_
                          rotate_left
                          · (intro w hSw; (try dsimp only at hSw); go_simp; first | done | with_reducible rfl)
                          simp only [Act.put, List.getElem_toArray, List.getElem_cons_succ, List.getElem_cons_zero, List.setIfInBounds_toArray, List.set_cons_zero, List.set_cons_succ]
                          refine wpAnyT_take (i := 10) (v := ?_) rfl (by decide) (by kernel_rfl) (by kernel_rfl) (by kernel_rfl) (by kernel_rfl) (fun _ _ _ h => h) (Or.inl ⟨by rfl, ?_⟩) hHeld ?_
                          rotate_left
                          · (intro w hSw; (try dsimp only at hSw); go_simp; first | done | with_reducible rfl)
                          simp only [Act.put, List.getElem_toArray, List.getElem_cons_succ, List.getElem_cons_zero, List.setIfInBounds_toArray, List.set_cons_zero, List.set_cons_succ]
                          refine wpAnyT_take (i := 11) (v := ?_) rfl (by decide) (by kernel_rfl) (by kernel_rfl) (by kernel_rfl) (by kernel_rfl) (fun _ _ _ h => h) (Or.inl ⟨by rfl, ?_⟩) hHeld ?_
                          rotate_left
                          · (intro w hSw; (try dsimp only at hSw); go_simp; first | done | with_reducible rfl)
                          simp only [Act.put, List.getElem_toArray, List.getElem_cons_succ, List.getElem_cons_zero, List.setIfInBounds_toArray, List.set_cons_zero, List.set_cons_succ]
                          refine wpAnyT_take (i := 12) (v := ?_) rfl (by decide) (by kernel_rfl) (by kernel_rfl) (by kernel_rfl) (by kernel_rfl) (fun _ _ _ h => h) (Or.inl ⟨by rfl, ?_⟩) hHeld ?_
                          rotate_left
                          · (intro w hSw; (try dsimp only at hSw); go_simp; first | done | with_reducible rfl)
                          simp only [Act.put, List.getElem_toArray, List.getElem_cons_succ, List.getElem_cons_zero, List.setIfInBounds_toArray, List.set_cons_zero, List.set_cons_succ]
                          refine wpAnyT_take (i := 13) (v := ?_) rfl (by decide) (by kernel_rfl) (by kernel_rfl) (by kernel_rfl) (by kernel_rfl) (fun _ _ _ h => h) (Or.inl ⟨by rfl, ?_⟩) hHeld ?_
                          rotate_left
                          · (intro w hSw; (try dsimp only at hSw); go_simp; first | done | with_reducible rfl)
                          simp only [Act.put, List.getElem_toArray, List.getElem_cons_succ, List.getElem_cons_zero, List.setIfInBounds_toArray, List.set_cons_zero, List.set_cons_succ]
                          refine wpAnyT_take (i := 14) (v := ?_) rfl (by decide) (by kernel_rfl) (by kernel_rfl) (by kernel_rfl) (by kernel_rfl) (fun _ _ _ h => h) (Or.inl ⟨by rfl, ?_⟩) hHeld ?_
                          rotate_left
                          · (intro w hSw; (try dsimp only at hSw); go_simp; first | done | with_reducible rfl)
                          simp only [Act.put, List.getElem_toArray, List.getElem_cons_succ, List.getElem_cons_zero, List.setIfInBounds_toArray, List.set_cons_zero, List.set_cons_succ]
                          refine wpAnyT_take (i := 15) (v := ?_) rfl (by decide) (by kernel_rfl) (by kernel_rfl) (by kernel_rfl) (by kernel_rfl) (fun _ _ _ h => h) (Or.inl ⟨by rfl, ?_⟩) hHeld ?_
                          rotate_left
                          · (intro w hSw; (try dsimp only at hSw); go_simp; first | done | with_reducible rfl)
                          simp only [Act.put, List.getElem_toArray, List.getElem_cons_succ, List.getElem_cons_zero, List.setIfInBounds_toArray, List.set_cons_zero, List.set_cons_succ]
                          refine wpAnyT_take (i := 16) (v := ?_) rfl (by decide) (by kernel_rfl) (by kernel_rfl) (by kernel_rfl) (by kernel_rfl) (fun _ _ _ h => h) (Or.inl ⟨by rfl, ?_⟩) hHeld ?_
                          rotate_left
                          · (intro w hSw; (try dsimp only at hSw); go_simp; first | done | with_reducible rfl)
                          simp only [Act.put, List.getElem_toArray, List.getElem_cons_succ, List.getElem_cons_zero, List.setIfInBounds_toArray, List.set_cons_zero, List.set_cons_succ]
                          refine wpAnyT_take (i := 17) (v := ?_) rfl (by decide) (by kernel_rfl) (by kernel_rfl) (by kernel_rfl) (by kernel_rfl) (fun _ _ _ h => h) (Or.inl ⟨by rfl, ?_⟩) hHeld ?_
                          rotate_left
                          · (intro w hSw; (try dsimp only at hSw); go_simp; first | done | with_reducible rfl)
                          simp only [Act.put, List.getElem_toArray, List.getElem_cons_succ, List.getElem_cons_zero, List.setIfInBounds_toArray, List.set_cons_zero, List.set_cons_succ]
                          refine wpAnyT_take (i := 18) (v := ?_) rfl (by decide) (by kernel_rfl) (by kernel_rfl) (by kernel_rfl) (by kernel_rfl) (fun _ _ _ h => h) (Or.inl ⟨by rfl, ?_⟩) hHeld ?_
                          rotate_left
                          · (intro w hSw; (try dsimp only at hSw); go_simp; first | done | with_reducible rfl)
                          simp only [Act.put, List.getElem_toArray, List.getElem_cons_succ, List.getElem_cons_zero, List.setIfInBounds_toArray, List.set_cons_zero, List.set_cons_succ]
                          refine wpAnyT_take (i := 19) (v := ?_) rfl (by decide) (by kernel_rfl) (by kernel_rfl) (by kernel_rfl) (by kernel_rfl) (fun _ _ _ h => h) (Or.inl ⟨by rfl, ?_⟩) hHeld ?_
                          rotate_left
                          · (intro w hSw; (try dsimp only at hSw); go_simp; first | done | with_reducible rfl)
                          simp only [Act.put, List.getElem_toArray, List.getElem_cons_succ, List.getElem_cons_zero, List.setIfInBounds_toArray, List.set_cons_zero, List.set_cons_succ]
                          refine wpAnyT_take (i := 20) (v := ?_) rfl (by decide) (by kernel_rfl) (by kernel_rfl) (by kernel_rfl) (by kernel_rfl) (fun _ _ _ h => h) (Or.inl ⟨by rfl, ?_⟩) hHeld ?_
                          rotate_left
                          · (intro w hSw; (try dsimp only at hSw); go_simp; first | done | with_reducible rfl)
                          simp only [Act.put, List.getElem_toArray, List.getElem_cons_succ, List.getElem_cons_zero, List.setIfInBounds_toArray, List.set_cons_zero, List.set_cons_succ]
                          refine wpAnyT_take (i := 21) (v := ?_) rfl (by decide) (by kernel_rfl) (by kernel_rfl) (by kernel_rfl) (by kernel_rfl) (fun _ _ _ h => h) (Or.inl ⟨by rfl, ?_⟩) hHeld ?_
                          rotate_left
                          · (intro w hSw; (try dsimp only at hSw); go_simp; first | done | with_reducible rfl)
                          simp only [Act.put, List.getElem_toArray, List.getElem_cons_succ, List.getElem_cons_zero, List.setIfInBounds_toArray, List.set_cons_zero, List.set_cons_succ]
                          refine wpAnyT_take (i := 22) (v := ?_) rfl (by decide) (by kernel_rfl) (by kernel_rfl) (by kernel_rfl) (by kernel_rfl) (fun _ _ _ h => h) (Or.inl ⟨by rfl, ?_⟩) hHeld ?_
                          rotate_left
                          · (intro w hSw; (try dsimp only at hSw); go_simp; first | done | with_reducible rfl)
                          simp only [Act.put, List.getElem_toArray, List.getElem_cons_succ, List.getElem_cons_zero, List.setIfInBounds_toArray, List.set_cons_zero, List.set_cons_succ]
                          refine wpAnyT_take (i := 23) (v := ?_) rfl (by decide) (by kernel_rfl) (by kernel_rfl) (by kernel_rfl) (by kernel_rfl) (fun _ _ _ h => h) (Or.inl ⟨by rfl, ?_⟩) hHeld ?_
                          rotate_left
                          · (intro w hSw; (try dsimp only at hSw); go_simp; first | done | with_reducible rfl)
                          simp only [Act.put, List.getElem_toArray, List.getElem_cons_succ, List.getElem_cons_zero, List.setIfInBounds_toArray, List.set_cons_zero, List.set_cons_succ]
                          refine wpAnyT_take (i := 24) (v := ?_) rfl (by decide) (by kernel_rfl) (by kernel_rfl) (by kernel_rfl) (by kernel_rfl) (fun _ _ _ h => h) (Or.inl ⟨by rfl, ?_⟩) hHeld ?_
                          rotate_left
                          · (intro w hSw; (try dsimp only at hSw); go_simp; first | done | with_reducible rfl)
                          simp only [Act.put, List.getElem_toArray, List.getElem_cons_succ, List.getElem_cons_zero, List.setIfInBounds_toArray, List.set_cons_zero, List.set_cons_succ]
                          refine wpAnyT_take (i := 25) (v := ?_) rfl (by decide) (by kernel_rfl) (by kernel_rfl) (by kernel_rfl) (by kernel_rfl) (fun _ _ _ h => h) (Or.inl ⟨by rfl, ?_⟩) hHeld ?_
                          rotate_left
                          · (intro w hSw; (try dsimp only at hSw); go_simp; first | done | with_reducible rfl)
                          simp only [Act.put, List.getElem_toArray, List.getElem_cons_succ, List.getElem_cons_zero, List.setIfInBounds_toArray, List.set_cons_zero, List.set_cons_succ]
                          refine wpAnyT_ready (rs := [26, 28]) (by kernel_rfl) (by simp) (AllReadyT.cons rfl (fun K hK => ?_) (AllReadyT.cons rfl (fun K hK => ?_) AllReadyT.nil))
                          · refine step_buildSlice rfl 30 40 1 _ rfl #[.int .i64 (i : Int), .int .i64 0, .int .i64 0, .int .i64 0, .int .i64 0] ie _ huP hie hzP (by rw [hszP]; decide) (by rw [hszP]; decide) (by simp only [hszP]; first | kernel_rfl | rfl) ?_
                            refine hK.out _ _ (HX.out _ ((Mod.refl (fun _ => False) wd).alloc _)) (fun hHeld => ?_)
                            clear hK K
                            simp only [Act.put, List.getElem_toArray, List.getElem_cons_succ, List.getElem_cons_zero, List.setIfInBounds_toArray, List.set_cons_zero, List.set_cons_succ]
                            refine wpAnyT_take (i := 27) (v := ?_) rfl (by decide) (by kernel_rfl) (by kernel_rfl) (by kernel_rfl) (by kernel_rfl) (fun _ _ _ h => h) (Or.inl ⟨by rfl, ?_⟩) hHeld ?_
                            rotate_left
                            · (intro w hSw; (try dsimp only at hSw); go_simp; first | done | with_reducible rfl)
                            simp only [Act.put, List.getElem_toArray, List.getElem_cons_succ, List.getElem_cons_zero, List.setIfInBounds_toArray, List.set_cons_zero, List.set_cons_succ]
                            refine wpAnyT_ready (rs := [28]) (by kernel_rfl) (by simp) (AllReadyT.cons rfl (fun K hK => ?_) AllReadyT.nil)
                            refine step_alloc rfl 32 rfl (zero_slot _) ?_
                            rw [show (wd.alloc (.cells #[.int .i64 (i : Int), .int .i64 0, .int .i64 0, .int .i64 0, .int .i64 0] 40)).heap.size = wd.heap.size + 1 by simp]
                            obtain ⟨k1, k2, k3⟩ := two_boxesB wd 40 32 #[.int .i64 (i : Int), .int .i64 0, .int .i64 0, .int .i64 0, .int .i64 0] #[.bool false, .bool false, .int .i64 0, .int .i64 0, .bool false, .int .i64 0, .slice none 0 0, .slice none 0 0]
                            have Hbp8 := Lib.hid k1; have Hzb := Lib.hid k2; have HM8 := Lib.hid k3
                            clear k1 k2 k3
                            refine hK.out _ _ (HX.out _ HM8.out) (fun hHeld => ?_)
                            clear hK K
                            simp only [Act.put, List.getElem_toArray, List.getElem_cons_succ, List.getElem_cons_zero, List.setIfInBounds_toArray, List.set_cons_zero, List.set_cons_succ]
                            refine wpAnyT_ready (rs := [29]) (by kernel_rfl) (by simp) (AllReadyT.cons rfl (fun K hK => ?_) AllReadyT.nil)
                            refine step_storeB rfl _ _ _ rfl rfl rfl rfl Hzb.out rfl (by kernel_rfl) (by simp [Value.oneCell']) ?_
                            have Hbx := Lib.hid (Blk.setCells (vs := (#[.bool th, .bool sh, .int .i64 (li : Int), .int .i64 x, .bool false, .int .i64 0, .slice none 0 0, .slice (some ⟨wd.heap.size, 0, none⟩) 1 1] : Array Value).toList) (o := 0) Hzb.out (by simp))
                            have HM9 := Lib.hid (HM8.out.trans (Mod.setCells ((wd.alloc (.cells #[.int .i64 (i : Int), .int .i64 0, .int .i64 0, .int .i64 0, .int .i64 0] 40)).alloc (.cells #[.bool false, .bool false, .int .i64 0, .int .i64 0, .bool false, .int .i64 0, .slice none 0 0, .slice none 0 0] 32)) (wd.heap.size + 1) 0 (#[.bool th, .bool sh, .int .i64 (li : Int), .int .i64 x, .bool false, .int .i64 0, .slice none 0 0, .slice (some ⟨wd.heap.size, 0, none⟩) 1 1] : Array Value).toList) (fun i hi e => by omega))
                            have Hbp9 := Lib.hid ((Mod.setCells ((wd.alloc (.cells #[.int .i64 (i : Int), .int .i64 0, .int .i64 0, .int .i64 0, .int .i64 0] 40)).alloc (.cells #[.bool false, .bool false, .int .i64 0, .int .i64 0, .bool false, .int .i64 0, .slice none 0 0, .slice none 0 0] 32)) (wd.heap.size + 1) 0 (#[.bool th, .bool sh, .int .i64 (li : Int), .int .i64 x, .bool false, .int .i64 0, .slice none 0 0, .slice (some ⟨wd.heap.size, 0, none⟩) 1 1] : Array Value).toList).blk Hbp8.out (by omega))
                            refine hK.out _ _ (HX.out _ HM9.out) (fun hHeld => ?_)
                            clear hK K hHeld
                            refine wpAnyT_rest (by kernel_rfl) ?_
                            refine wpAny_done (by kernel_rfl) ?_ _
                            go_wp2_with fail
                            go_meet
                            exact ⟨wd.heap.size + 1, wd.heap.size, rfl, by simpa [over] using Hbx.out, Hbp9.out, HMd.out.trans HM9.out (fun _ _ h => h), by have := HMd.out.size; omega⟩
                          · refine step_alloc rfl 32 rfl (zero_slot _) ?_
                            refine hK.out _ _ (HX.out _ ((Mod.refl (fun _ => False) wd).alloc _)) (fun hHeld => ?_)
                            clear hK K
                            simp only [Act.put, List.getElem_toArray, List.getElem_cons_succ, List.getElem_cons_zero, List.setIfInBounds_toArray, List.set_cons_zero, List.set_cons_succ]
                            refine wpAnyT_ready (rs := [26]) (by kernel_rfl) (by simp) (AllReadyT.cons rfl (fun K hK => ?_) AllReadyT.nil)
                            refine step_buildSlice rfl 30 40 1 _ rfl #[.int .i64 (i : Int), .int .i64 0, .int .i64 0, .int .i64 0, .int .i64 0] ie _ huP hie hzP (by rw [hszP]; decide) (by rw [hszP]; decide) (by simp only [hszP]; first | kernel_rfl | rfl) ?_
                            rw [show (wd.alloc (.cells #[.bool false, .bool false, .int .i64 0, .int .i64 0, .bool false, .int .i64 0, .slice none 0 0, .slice none 0 0] 32)).heap.size = wd.heap.size + 1 by simp]
                            obtain ⟨k1, k2, k3⟩ := two_boxesB wd 32 40 #[.bool false, .bool false, .int .i64 0, .int .i64 0, .bool false, .int .i64 0, .slice none 0 0, .slice none 0 0] #[.int .i64 (i : Int), .int .i64 0, .int .i64 0, .int .i64 0, .int .i64 0]
                            have Hbp8 := Lib.hid k2; have Hzb := Lib.hid k1; have HM8 := Lib.hid k3
                            clear k1 k2 k3
                            refine hK.out _ _ (HX.out _ HM8.out) (fun hHeld => ?_)
                            clear hK K
                            simp only [Act.put, List.getElem_toArray, List.getElem_cons_succ, List.getElem_cons_zero, List.setIfInBounds_toArray, List.set_cons_zero, List.set_cons_succ]
                            refine wpAnyT_take (i := 27) (v := ?_) rfl (by decide) (by kernel_rfl) (by kernel_rfl) (by kernel_rfl) (by kernel_rfl) (fun _ _ _ h => h) (Or.inl ⟨by rfl, ?_⟩) hHeld ?_
                            rotate_left
                            · (intro w hSw; (try dsimp only at hSw); go_simp; first | done | with_reducible rfl)
                            simp only [Act.put, List.getElem_toArray, List.getElem_cons_succ, List.getElem_cons_zero, List.setIfInBounds_toArray, List.set_cons_zero, List.set_cons_succ]
                            refine wpAnyT_ready (rs := [29]) (by kernel_rfl) (by simp) (AllReadyT.cons rfl (fun K hK => ?_) AllReadyT.nil)
                            refine step_storeB rfl _ _ _ rfl rfl rfl rfl Hzb.out rfl (by kernel_rfl) (by simp [Value.oneCell']) ?_
                            have Hbx := Lib.hid (Blk.setCells (vs := (#[.bool th, .bool sh, .int .i64 (li : Int), .int .i64 x, .bool false, .int .i64 0, .slice none 0 0, .slice (some ⟨wd.heap.size + 1, 0, none⟩) 1 1] : Array Value).toList) (o := 0) Hzb.out (by simp))
                            have HM9 := Lib.hid (HM8.out.trans (Mod.setCells ((wd.alloc (.cells #[.bool false, .bool false, .int .i64 0, .int .i64 0, .bool false, .int .i64 0, .slice none 0 0, .slice none 0 0] 32)).alloc (.cells #[.int .i64 (i : Int), .int .i64 0, .int .i64 0, .int .i64 0, .int .i64 0] 40)) (wd.heap.size) 0 (#[.bool th, .bool sh, .int .i64 (li : Int), .int .i64 x, .bool false, .int .i64 0, .slice none 0 0, .slice (some ⟨wd.heap.size + 1, 0, none⟩) 1 1] : Array Value).toList) (fun i hi e => by omega))
                            have Hbp9 := Lib.hid ((Mod.setCells ((wd.alloc (.cells #[.bool false, .bool false, .int .i64 0, .int .i64 0, .bool false, .int .i64 0, .slice none 0 0, .slice none 0 0] 32)).alloc (.cells #[.int .i64 (i : Int), .int .i64 0, .int .i64 0, .int .i64 0, .int .i64 0] 40)) (wd.heap.size) 0 (#[.bool th, .bool sh, .int .i64 (li : Int), .int .i64 x, .bool false, .int .i64 0, .slice none 0 0, .slice (some ⟨wd.heap.size + 1, 0, none⟩) 1 1] : Array Value).toList).blk Hbp8.out (by omega))
                            refine hK.out _ _ (HX.out _ HM9.out) (fun hHeld => ?_)
                            clear hK K hHeld
                            refine wpAnyT_rest (by kernel_rfl) ?_
                            refine wpAny_done (by kernel_rfl) ?_ _
                            go_wp2_with fail
                            go_meet
                            exact ⟨wd.heap.size, wd.heap.size + 1, rfl, by simpa [over] using Hbx.out, Hbp9.out, HMd.out.trans HM9.out (fun _ _ h => h), by have := HMd.out.size; omega⟩
                      case rest =>
                        as_aux_lemma =>
                          obtain ⟨g15, gp, rfl, hb, hbp, hm, hle⟩ := hcut
                          obtain ⟨w5, rfl⟩ : ∃ w9, w9 = wc := ⟨_, rfl⟩
                          have HT5 := Lib.hid (HT4.out.new hm)
                          have Hb5 := Lib.hid hb; have Hbp5 := Lib.hid hbp; have H45 := Lib.hid hm
                          have Hg15 : Hid (w.heap.size ≤ g15) := Lib.hid (Nat.le_trans HT4.out.mod.size hle)
                          clear hb hbp hm hle hc0 hc0d hc0e hth hsh hli
                          go_upto_if 130 with fail
                          obtain ⟨z1, hz1⟩ : ∃ b, decide (0 < n1) = b := ⟨_, rfl⟩
                          rw [hz1]
                          have Hz1 := Lib.hid hz1
                          clear hz1
                          go_cut [139] from 131 to 139 (fun s139 wx => ∃ (A : Option Addr) (n c : Nat) (l : List (Int × Nat)), n ≤ 8796093022208 ∧ RdsS w w.heap.size A n l ∧ Blk wx g15 32 #[.bool th, .bool sh, .int .i64 (li : Int), .int .i64 x, .bool false, .int .i64 0, .slice A n c, .slice (some ⟨gp, 0, none⟩) 1 1] ∧ Mod (fun j => j = g15) w5 wx)
                          case first =>
                            as_aux_lemma =>
                              by_cases hn1 : 0 < n1
                              · obtain rfl : z1 = true := by rw [← Hz1.out]; exact decide_eq_true hn1
                                have hn1n : 0 < n1 := hn1
                                obtain ⟨r, hr⟩ : ∃ r, i % n1 = r := ⟨_, rfl⟩
                                have hrl : r < n1 := by rw [← hr]; exact Nat.mod_lt _ hn1n
                                obtain ⟨ad1, A, m, c, rfl, _, hcell, _, _, hbig, l, hrd, _⟩ := Hz.out r hrl
                                have hc5 := cell_new HT5.out.mod hcell
                                have hrem : (i : Int) % (n1 : Int) = (r : Int) := by rw [← hr]; rfl
                                have hrem2 : Int.tmod (i : Int) (n1 : Int) = (r : Int) := by rw [Int.tmod_eq_emod_of_nonneg hi0]; exact hrem
                                have hr0 : (0 : Int) ≤ (r : Int) := by omega
                                have hr1 : (r : Int) < (n1 : Int) := by omega
                                have hne1 : ¬ (n1 : Int) = 0 := by omega
                                have z6 := Hb5.out.cell 6
                                have f6 := Hb5.out.frozen 6
                                simp at z6
                                have Hrd := Lib.hid hrd; have Hbig := Lib.hid hbig
                                clear hr hrl hcell hbig hrd hn1n hn1
                                go_wp2_with fail
                                go_meet
                                refine ⟨A, m, c, l, Hbig.out, Hrd.out, ?_, one_cell _ _ _ _⟩
                                have h := Hb5.out.set_ 6 (.slice A m c)
                                simpa using h
                              · obtain rfl : z1 = false := by rw [← Hz1.out]; exact decide_eq_false hn1
                                clear hn1
                                go_wp2_with fail
                                go_meet
                                exact ⟨none, 0, 0, [], by omega, RdsS.nil _ _ _, Hb5.out, Mod.refl _ _⟩
                          case rest =>
                            as_aux_lemma =>
                              obtain ⟨A, n, c, l, hn, hl, hb, hm⟩ := hcut
                              obtain ⟨w6, rfl⟩ : ∃ w9, w9 = wc := ⟨_, rfl⟩
                              have HT6 := Lib.hid (HT5.out.box Hb5.out hm Hg15.out (by decide) (by decide) (by decide) (by decide))
                              have Hb6 := Lib.hid hb; have Hbp6 := Lib.hid (hm.blk Hbp5.out (Blk.ne_ Hbp5.out Hb5.out (by decide)))
                              have Hn := Lib.hid hn; have Hl := Lib.hid hl
                              clear hn hl hb hm
                              go_upto_region 28 with fail
                              obtain ⟨w2b, hw2⟩ : ∃ b, decide (inD id ∧ d2.flag id.toNat = some (wh : Int)) = b := ⟨_, rfl⟩
                              have Hw2 := Lib.hid hw2
                              clear hw2
                              go_cut [16] from 140 to 148 (fun s16 wx => s16 = .bool w2b ∧ wx = w6)
                              case first =>
                                as_aux_lemma =>
                                  by_cases hin : inD id
                                  · obtain rfl : inb = true := by rw [← Hinb.out]; exact decide_eq_true hin
                                    have hff : d2.flag id.toNat = fl := by have h := Hfl.out; unfold flagD at h; rw [if_pos hin] at h; exact h
                                    cases fl with
                                    | none =>
                                      obtain rfl : tk = false := Htk.out.symm
                                      have ew : w2b = false := by rw [← Hw2.out]; exact decide_eq_false (fun h => by rw [hff] at h; cases h.2)
                                      subst ew
                                      go_wp2_with fail
                                      go_meet
                                      exact ⟨rfl, rfl⟩
                                    | some x0 =>
                                      obtain rfl : tk = true := Htk.out.symm
                                      obtain rfl : x0 = hv0 := Hhv.out
                                      by_cases hx : x0 = (wh : Int)
                                      · have ew : w2b = true := by rw [← Hw2.out]; exact decide_eq_true ⟨hin, by rw [hff, hx]⟩
                                        subst ew
                                        have hxb : (x0 == (wh : Int)) = true := by simp [hx]
                                        clear hx
                                        go_wp2_with fail
                                        go_meet
                                        exact ⟨rfl, rfl⟩
                                      · have ew : w2b = false := by rw [← Hw2.out]; exact decide_eq_false (fun h => by rw [hff] at h; injection h.2 with h; exact hx h)
                                        subst ew
                                        have hxb : (x0 == (wh : Int)) = false := by simp [hx]
                                        clear hx
                                        go_wp2_with fail
                                        go_meet
                                        exact ⟨rfl, rfl⟩
                                  · obtain rfl : inb = false := by rw [← Hinb.out]; exact decide_eq_false hin
                                    have ew : w2b = false := by rw [← Hw2.out]; exact decide_eq_false (fun h => hin h.1)
                                    subst ew
                                    go_wp2_with fail
                                    go_meet
                                    exact ⟨rfl, rfl⟩
                              case rest =>
                                as_aux_lemma =>
                                  obtain ⟨rfl, hwc⟩ := hcut
                                  subst hwc
                                  obtain ⟨w7, rfl⟩ : ∃ w9, w9 = wc := ⟨_, rfl⟩
                                  obtain ⟨s6, hs6⟩ : ∃ s, s = (⟨th, sh, (li : Int), x, ⟨false, 0, l⟩, [⟨(i : Int), 0, 0, 0, 0⟩]⟩ : SlotN) := ⟨_, rfl⟩
                                  have Hs6 := Lib.hid hs6
                                  have HR6 : Hid (RdsSlot w7 s6 A n (some ⟨gp, 0, none⟩) 1) := Lib.hid (by rw [hs6]; exact ⟨(Hl.out.mod HT6.out.mod (Nat.le_refl _) (fun _ _ h => h)).fit, rds_litI Hbp6.out, Hn.out, by omega⟩)
                                  clear hs6
                                  have z0 := (Hb6.out).cell 0
                                  have z1 := (Hb6.out).cell 1
                                  have z2 := (Hb6.out).cell 2
                                  have z3 := (Hb6.out).cell 3
                                  have z4 := (Hb6.out).cell 4
                                  have z5 := (Hb6.out).cell 5
                                  have z6 := (Hb6.out).cell 6
                                  have z7 := (Hb6.out).cell 7
                                  simp at z0 z1 z2 z3 z4 z5 z6 z7
                                  go_wp2_with fail
                                  by_cases hc : inD id ∧ d2.flag id.toNat = some (wh : Int)
                                  · obtain rfl : w2b = true := by rw [← Hw2.out]; exact decide_eq_true hc
                                    obtain ⟨hin, hf⟩ := hc
                                    obtain ⟨q, rfl, hq16⟩ := inD_some hin
                                    rw [Int.toNat_natCast] at hf
                                    obtain ⟨v, hv⟩ : ∃ v, (d2.slot q).ver = v := ⟨_, rfl⟩
                                    have e1 := leave_yes (d := d2) (who := (wh : Int)) (s := s6) hin (by rw [Int.toNat_natCast]; exact hf)
                                    rw [Int.toNat_natCast] at e1
                                    have E1 := Lib.hid e1
                                    have hvb := HT4.out.dir.good.ver q
                                    rw [hv] at hvb
                                    have hwv : IntKind.i64.wrap (v + 1) = v + 1 := IntWalk.i64_in _ (by have := Hq.out; omega)
                                    have hqi : (q : Int) < 16 := by omega
                                    have hq0 : (0 : Int) ≤ (q : Int) := by omega
                                    have HL : Hid (Calls Try.prog 10 #[.pointer (some ⟨g, 0, none⟩), .int .i64 (q : Int), .int .i64 (wh : Int), .agg #[.bool th, .bool sh, .int .i64 (li : Int), .int .i64 x, .bool false, .int .i64 0, .slice A n c, .slice (some ⟨gp, 0, none⟩) 1 1]] w7 fun e w' => e = .returned (.bool true) ∧ DirV (fun _ => True) g (i + 1) w' (putD d2 q { s6 with ver := (d2.slot q).ver + 1 } none) ∧ Mod (fun j => j = g) w7 w') := Lib.hid (by
                                      have h := call_dleave (s := s6) (c := c) (c2 := 1) (ok := true) E1.out HT6.out.dir (by have := Hq.out; omega) HR6.out (fun _ _ => trivial)
                                      rw [Hs6.out] at h ⊢
                                      exact h)
                                    have Hv := Lib.hid hv; have Hq16 := Lib.hid hq16
                                    clear hin hf e1 hv hvb hq16
                                    refine HL.out.mono ?_
                                    rintro e w8 ⟨rfl, h1, h2⟩
                                    have HD8 := Lib.hid h1; have H78 := Lib.hid h2
                                    obtain ⟨n1', n2'⟩ := not_g HT6.out
                                    have hgbox : g ≠ g15 := fun e => by obtain ⟨_, rows, h6, _⟩ := HT6.out.dir; subst e; exact Blk.ne_ h6.2 Hb6.out (by decide) rfl
                                    have hgsbox : gs ≠ g15 := fun e => by obtain ⟨rows, h6, _⟩ := HT6.out.loc; subst e; exact Blk.ne_ h6.2 Hb6.out (by decide) rfl
                                    have hb8 := h2.blk Hb6.out (fun e => hgbox e.symm)
                                    have hloc8 : LocS w gs w8 d2 := HT6.out.loc.modS h2 (fun e => HT6.out.ne.1 e.symm) (fun j cs2 hb2 e => by obtain ⟨_, rows, h6, _⟩ := HT6.out.dir; exact part_not h6.2 (by decide) hb2 e)
                                    obtain ⟨vl0, vc0, _, _, _, _, _, x3, _, _, _, _⟩ := hloc8.at_ Hq16.out
                                    rw [Hv.out] at x3
                                    have z3 := hb8.cell 3
                                    have f3 := hb8.frozen 3
                                    simp at z3
                                    have Hb8 := Lib.hid hb8; have Hloc8 := Lib.hid hloc8; have Hgbox : Hid (gs ≠ g15 ∧ gm ≠ g ∧ gm ≠ gs ∧ g ≠ g15) := Lib.hid ⟨hgsbox, n1', n2', hgbox⟩
                                    clear h1 h2 hb8 hloc8 n1' n2' hgbox hgsbox z0 z1 z2 z4 z5 z6 z7
                                    go_upto_region 33 with fail
                                    obtain ⟨w9, hW⟩ : ∃ W, W = w8.setCell ⟨g15, 3, none⟩ (.int .i64 (v + 1)) := ⟨_, rfl⟩
                                    rw [← hW]
                                    have hm89 : Mod (fun j => j = g15) w8 w9 := by rw [hW]; exact one_cell _ _ _ _
                                    have hb9 : Blk w9 g15 32 #[.bool th, .bool sh, .int .i64 (li : Int), .int .i64 (v + 1), .bool false, .int .i64 0, .slice A n c, .slice (some ⟨gp, 0, none⟩) 1 1] := by rw [hW]; have h := Hb8.out.set_ 3 (.int .i64 (v + 1)); simpa using h
                                    have hloc9 : LocS w gs w9 d2 := Hloc8.out.modS hm89 Hgbox.out.1 (fun j cs2 hb2 e => part_not Hb8.out (by decide) hb2 e)
                                    have hd9 := HD8.out.other hm89 (fun e => Hgbox.out.2.2.2 e.symm) Hb8.out (by decide) (by decide)
                                    have hmp9 : ∃ c, MapZ w9 gm (i + 1) (flagF d2) c := by
                                      obtain ⟨c5, h5⟩ := HT6.out.map_
                                      exact ⟨c5, ((h5.mod H78.out Hgbox.out.2.1).mod hm89 (fun e => by subst e; exact (h5.mod H78.out Hgbox.out.2.1).not_cells Hb8.out)).more (Nat.le_succ _)⟩
                                    have hmm9 : Mod (fun _ => False) w w9 := (HT6.out.mod.trans H78.out (fun i hi e => by have := HT6.out.ne; omega)).trans hm89 (fun i hi e => by have := Hg15.out; omega)
                                    have hbp9 : Blk w9 gp 40 #[.int .i64 (i : Int), .int .i64 0, .int .i64 0, .int .i64 0, .int .i64 0] := hm89.blk (H78.out.blk Hbp6.out (fun e => by obtain ⟨_, rows, h6, _⟩ := HT6.out.dir; subst e; exact Blk.ne_ Hbp6.out h6.2 (by decide) rfl)) (fun e => by subst e; exact Blk.ne_ Hbp6.out Hb6.out (by decide) rfl)
                                    have hlr9 : LocR w w9 { s6 with ver := (d2.slot q).ver + 1 } (.slice A n c) (.slice (some ⟨gp, 0, none⟩) 1 1) := by
                                      rw [Hs6.out]
                                      exact ⟨⟨A, n, c, rfl, Hn.out, Hl.out⟩, slip_one hbp9, by show 1 ≤ 1000000; omega⟩
                                    obtain ⟨w11, hdel, hst⟩ := StD.left1 HT6.out Hq16.out hd9 hloc9 hmp9 hmm9 hlr9
                                    obtain ⟨w10, hW10⟩ : ∃ W, W = setSlot w9 gs q { s6 with ver := (d2.slot q).ver + 1 } (.slice A n c) (.slice (some ⟨gp, 0, none⟩) 1 1) := ⟨_, rfl⟩
                                    rw [← hW10] at hdel
                                    rw [Hs6.out, Hv.out] at hW10
                                    replace hW10 : w10 = w9.setCells gs (q * 8) (#[.bool th, .bool sh, .int .i64 (li : Int), .int .i64 (v + 1), .bool false, .int .i64 0, .slice A n c, .slice (some ⟨gp, 0, none⟩) 1 1] : Array Value).toList := hW10
                                    have Hthere := Lib.hid (hloc9.there Hq16.out)
                                    have z0 := (hb9).cell 0
                                    have z1 := (hb9).cell 1
                                    have z2 := (hb9).cell 2
                                    have z3 := (hb9).cell 3
                                    have z4 := (hb9).cell 4
                                    have z5 := (hb9).cell 5
                                    have z6 := (hb9).cell 6
                                    have z7 := (hb9).cell 7
                                    simp at z0 z1 z2 z3 z4 z5 z6 z7
                                    have HW10 := Lib.hid hW10; have Hst := Lib.hid hst
                                    clear hm89 hb9 hloc9 hd9 hmp9 hmm9 hbp9 hlr9 hst hW10 hW x3
                                    have hi8 : (Try.prog.info? 32).map (·.size) = some (#[.bool th, .bool sh, .int .i64 (li : Int), .int .i64 (v + 1), .bool false, .int .i64 0, .slice A n c, .slice (some ⟨gp, 0, none⟩) 1 1] : Array Value).size := by kernel_rfl
                                    have hth8 : w9.there gs (q * 8) (#[.bool th, .bool sh, .int .i64 (li : Int), .int .i64 (v + 1), .bool false, .int .i64 0, .slice A n c, .slice (some ⟨gp, 0, none⟩) 1 1] : Array Value).size := Hthere.out
                                    have h1c8 : (#[.bool th, .bool sh, .int .i64 (li : Int), .int .i64 (v + 1), .bool false, .int .i64 0, .slice A n c, .slice (some ⟨gp, 0, none⟩) 1 1] : Array Value).all (·.oneCell') = true := by simp [Value.oneCell']
                                    have Hi8 := Lib.hid hi8; have Hth8 := Lib.hid hth8; have H1c8 := Lib.hid h1c8
                                    clear hi8 hth8 h1c8
                                    go_upto_region 34 with (with_reducible refine wpList_store_mid rfl 32 (.tmp 165) (.tmp 164) rfl gs (q * 8) #[.bool th, .bool sh, .int .i64 (li : Int), .int .i64 (v + 1), .bool false, .int .i64 0, .slice A n c, .slice (some ⟨gp, 0, none⟩) 1 1] rfl rfl Hth8.out Hi8.out H1c8.out ?_)
                                    rw [← HW10.out]
                                    have Hdel := Lib.hid hdel
                                    clear hdel
                                    go_wp2_with (at_delete; refine wpList_delete_run rfl (.tmp 166) (.tmp 167) _ _ rfl rfl rfl Hdel.out ?_)
                                    go_meet
                                    exact ⟨_, Hst.out⟩
                                  · obtain rfl : w2b = false := by rw [← Hw2.out]; exact decide_eq_false hc
                                    have e1 : leaveD d2 id (wh : Int) s6 = (d2, false) := leave_no hc
                                    have HL : Hid (Calls Try.prog 10 #[.pointer (some ⟨g, 0, none⟩), .int .i64 id, .int .i64 (wh : Int), .agg #[.bool th, .bool sh, .int .i64 (li : Int), .int .i64 x, .bool false, .int .i64 0, .slice A n c, .slice (some ⟨gp, 0, none⟩) 1 1]] w7 fun e w' => e = .returned (.bool false) ∧ DirV (fun _ => True) g (i + 1) w' d2 ∧ Mod (fun j => j = g) w7 w') := Lib.hid (by
                                      have h := call_dleave (s := s6) (c := c) (c2 := 1) (ok := false) e1 HT6.out.dir (by have := Hq.out; omega) HR6.out (fun _ _ => trivial)
                                      rw [Hs6.out] at h
                                      exact h)
                                    clear hc e1
                                    refine HL.out.mono ?_
                                    rintro e w8 ⟨rfl, h1, h2⟩
                                    have HT8 : Hid (StD w g gs gm (i + 1) w8 d2) := Lib.hid (HT6.out.only h1 h2)
                                    clear h1 h2
                                    go_wp2_with fail
                                    go_meet
                                    exact ⟨d2, HT8.out⟩
                  · go_wp2_with fail
                    go_meet
                    exact ⟨d2, HT4.out.more (Nat.le_succ _)⟩
              case rest =>
                as_aux_lemma =>
                  obtain ⟨d5, ht5⟩ := hcut
                  obtain ⟨w5, rfl⟩ : ∃ w9, w9 = wc := ⟨_, rfl⟩
                  have HT5 := Lib.hid ht5
                  clear ht5 HT4 Hfl Hhv Htk hlk
                  have hlk := HT5.out.look Hidf.out
                  by_cases hin : inD id
                  · obtain rfl : inb = true := by rw [← Hinb.out]; exact decide_eq_true hin
                    obtain ⟨q, rfl, hq16⟩ := inD_some hin
                    have hlf := look_free HT5.out.dir.good (q : Int)
                    rw [Int.toNat_natCast] at hlf
                    have hfd : flagD d5 (q : Int) = d5.flag q := by unfold flagD; rw [if_pos hin, Int.toNat_natCast]
                    have hqi : (q : Int) < 16 := by omega
                    have hq0 : (0 : Int) ≤ (q : Int) := by omega
                    have Hq16 := Lib.hid hq16
                    clear hq16
                    cases hfl : d5.flag q with
                    | none =>
                      rw [hfl] at hfd hlf
                      rw [hfd] at hlk
                      obtain ⟨s5, hs5⟩ : ∃ s, d5.slot q = s := ⟨_, rfl⟩
                      rw [if_pos ⟨hin, rfl⟩, hs5] at hlf
                      have E1 := Lib.hid hlf; have Hf5 := Lib.hid hfd; have Hs5 := Lib.hid hs5
                      clear hlf hfd hs5 hfl hin
                      as_aux_lemma =>
                        have HD5 := Lib.hid HT5.out.dir
                        have HM5 := Lib.hid HT5.out.mod
                        go_wp2_with fail
                        refine (call_dlook (s := s5) (o := some s5) (ok := true) E1.out rfl rfl HD5.out (by have := Hq.out; omega)).mono ?_
                        rintro e v6 ⟨A6, n6, c6, P6, m6, d6, rfl, hz, ho, hp, hd, hm⟩
                        obtain ⟨w6, hW, hmW, hbW, hzW⟩ := new_box v6 32 #[.bool s5.there, .bool s5.shut, .int .i64 s5.life, .int .i64 s5.ver, .bool s5.opn.any, .int .i64 s5.opn.last, .slice A6 n6 c6, .slice P6 m6 d6]
                        obtain ⟨g6, hg⟩ : ∃ x, x = v6.heap.size := ⟨_, rfl⟩
                        rw [← hg] at hbW hzW
                        have HD6 : Hid (DirV (fun _ => True) g (i + 1) w6 (d5)) := Lib.hid (hd.new hmW)
                        have HM6 : Hid (Mod (fun _ => False) w w6) := Lib.hid (HM5.out.trans (hm.trans hmW (fun _ _ h => h)) (fun _ _ h => h))
                        have HS6 : Hid (Mod (fun j => j = g) w5 w6) := Lib.hid ((hm.trans hmW (fun _ _ h => h)).mono (fun _ _ h => h.elim))
                        have HF6 : Hid (Mod (fun _ => False) w5 w6) := Lib.hid (hm.trans hmW (fun _ _ h => h))
                        have HO6 : Hid (OwnS w5.heap.size w6 (.slice A6 n6 c6) (s5).opn.list) := Lib.hid (hmW.owns ho (fun _ _ h => h))
                        have HP6 : Hid (OwnPt w5.heap.size w6 40 (.slice P6 m6 d6) (s5).chunks) := Lib.hid (OwnPt.mod hp hmW)
                        have HZ6 := Lib.hid hz
                        have Hlt6 : Hid (g < w5.heap.size ∧ w5.heap.size ≤ g6 ∧ g6 < w6.heap.size) := Lib.hid ⟨HD5.out.lt, by have := hm.size; omega, by omega⟩
                        have HB6 : Hid (∀ W', Mod (fun j => j = g) w6 W' → Blk W' g6 32 #[.bool s5.there, .bool s5.shut, .int .i64 s5.life, .int .i64 s5.ver, .bool s5.opn.any, .int .i64 s5.opn.last, .slice A6 n6 c6, .slice P6 m6 d6]) := Lib.hid (fun W' h => h.blk hbW (fun e => by have := Hlt6.out; omega))
                        have HW := Lib.hid hW; have Hg := Lib.hid hg
                        clear hz ho hp hd hm hW hmW hbW hzW hg
                        go_upto_region 37 with fail
                        rw [← HW.out, ← Hg.out]
                        clear HW Hg
                        go_wp2_with fail
                        refine (call_dflag (o := none) (v := 0) (ok := false) Hf5.out rfl rfl HD6.out (by have := Hq.out; omega)).mono ?_
                        rintro e w7 ⟨rfl, h1, h2⟩
                        have HF7 : Hid (Mod (fun _ => False) w6 w7) := Lib.hid h2
                        have HS7 : Hid (Mod (fun j => j = g) w6 w7) := Lib.hid (h2.mono (fun _ _ h => h.elim))
                        have HT7 : Hid (StD w g gs gm (i + 1) w7 d5) := Lib.hid (HT5.out.new (HF6.out.trans h2 (fun _ _ h => h)))
                        clear h1 h2
                        go_upto_region 38 with fail
                        obtain ⟨vl, vc, hlr, _, y0, y1, y2, y3, y4, y5, y6, y7⟩ := HT7.out.loc.at_ Hq16.out
                        rw [Hs5.out] at hlr y0 y1 y2 y3 y4 y5
                        obtain ⟨⟨Ak, nk, ck, rfl, hbk, hrk⟩, hpk, hck⟩ := hlr
                        obtain ⟨Pk, mk, dk, rfl, hmk, _, _, hpr⟩ := SliP.rdsPt hpk
                        obtain ⟨k1, _, _, k2, _, _⟩ := HZ6.out
                        have e1 : n6 = nk := by have h1 : s5.opn.list.length = n6 := k1.out; have h2 : s5.opn.list.length = nk := hrk.1; omega
                        subst e1
                        have e2 : m6 = mk := by have h1 : s5.chunks.length = m6 := k2.out; have h2 := hmk.out; omega
                        subst e2
                        have Hrk := Lib.hid hrk; have Hpr := Lib.hid hpr; have Hbk := Lib.hid hbk
                        have Hmk : Hid (m6 ≤ 1000000) := Lib.hid (by have := hmk.out; omega)
                        have Hy : Hid (w7.cell? ⟨gs, q * 8, none⟩ = some (.bool s5.there) ∧ w7.cell? ⟨gs, q * 8 + 1, none⟩ = some (.bool s5.shut) ∧ w7.cell? ⟨gs, q * 8 + 2, none⟩ = some (.int .i64 s5.life) ∧ w7.cell? ⟨gs, q * 8 + 3, none⟩ = some (.int .i64 s5.ver) ∧ w7.cell? ⟨gs, q * 8 + 4, none⟩ = some (.bool s5.opn.any) ∧ w7.cell? ⟨gs, q * 8 + 5, none⟩ = some (.int .i64 s5.opn.last) ∧ w7.cell? ⟨gs, q * 8 + 6, none⟩ = some (.slice Ak n6 ck) ∧ w7.cell? ⟨gs, q * 8 + 7, none⟩ = some (.slice Pk m6 dk)) := Lib.hid ⟨y0, y1, y2, y3, y4, y5, y6, y7⟩
                        clear hrk hpr hbk hmk hpk hck k1 k2 y0 y1 y2 y3 y4 y5 y6 y7
                        have HSS : Hid (∀ W', Mod (fun _ => False) w7 W' → Calls Try.prog 12 #[.agg #[.bool s5.there, .bool s5.shut, .int .i64 s5.life, .int .i64 s5.ver, .bool s5.opn.any, .int .i64 s5.opn.last, .slice A6 n6 c6, .slice P6 m6 d6], .agg #[.bool s5.there, .bool s5.shut, .int .i64 s5.life, .int .i64 s5.ver, .bool s5.opn.any, .int .i64 s5.opn.last, .slice Ak n6 ck, .slice Pk m6 dk]] W' fun e w' => e = .returned (.bool true) ∧ Mod (fun _ => False) W' w') := Lib.hid (fun W' h => sameSlot_any s5 W' (((OwnS.mod HO6.out (HF7.out.trans h (fun _ _ h => h))).rds HZ6.out.1.out)) (Hrk.out.mod (HT7.out.mod.trans h (fun _ _ h => h)) (Nat.le_refl _) (fun _ _ h => h)).fit (OwnK.rds (OwnPt.mod HP6.out (HF7.out.trans h (fun _ _ h => h))) (by rw [List.length_map]; exact HZ6.out.2.2.2.1.out)) (Hpr.out.new h).fit Hbk.out Hmk.out)
                        have HLG : Hid (∀ W', Mod (fun _ => False) w7 W' → W'.cell? ⟨g6, 0, none⟩ = some (.bool s5.there) ∧ W'.cell? ⟨g6, 1, none⟩ = some (.bool s5.shut) ∧ W'.cell? ⟨g6, 2, none⟩ = some (.int .i64 s5.life) ∧ W'.cell? ⟨g6, 3, none⟩ = some (.int .i64 s5.ver) ∧ W'.cell? ⟨g6, 4, none⟩ = some (.bool s5.opn.any) ∧ W'.cell? ⟨g6, 5, none⟩ = some (.int .i64 s5.opn.last) ∧ W'.cell? ⟨g6, 6, none⟩ = some (.slice A6 n6 c6) ∧ W'.cell? ⟨g6, 7, none⟩ = some (.slice P6 m6 d6)) := Lib.hid (fun W' h => ⟨(HB6.out W' (HS7.out.trans (h.mono (fun _ _ h => h.elim)) (fun _ _ h => h))).cell 0, (HB6.out W' (HS7.out.trans (h.mono (fun _ _ h => h.elim)) (fun _ _ h => h))).cell 1, (HB6.out W' (HS7.out.trans (h.mono (fun _ _ h => h.elim)) (fun _ _ h => h))).cell 2, (HB6.out W' (HS7.out.trans (h.mono (fun _ _ h => h.elim)) (fun _ _ h => h))).cell 3, (HB6.out W' (HS7.out.trans (h.mono (fun _ _ h => h.elim)) (fun _ _ h => h))).cell 4, (HB6.out W' (HS7.out.trans (h.mono (fun _ _ h => h.elim)) (fun _ _ h => h))).cell 5, (HB6.out W' (HS7.out.trans (h.mono (fun _ _ h => h.elim)) (fun _ _ h => h))).cell 6, (HB6.out W' (HS7.out.trans (h.mono (fun _ _ h => h.elim)) (fun _ _ h => h))).cell 7⟩)
                        have HLK : Hid (∀ W', Mod (fun _ => False) w7 W' → W'.cell? ⟨gs, q * 8, none⟩ = some (.bool s5.there) ∧ W'.cell? ⟨gs, q * 8 + 1, none⟩ = some (.bool s5.shut) ∧ W'.cell? ⟨gs, q * 8 + 2, none⟩ = some (.int .i64 s5.life) ∧ W'.cell? ⟨gs, q * 8 + 3, none⟩ = some (.int .i64 s5.ver) ∧ W'.cell? ⟨gs, q * 8 + 4, none⟩ = some (.bool s5.opn.any) ∧ W'.cell? ⟨gs, q * 8 + 5, none⟩ = some (.int .i64 s5.opn.last) ∧ W'.cell? ⟨gs, q * 8 + 6, none⟩ = some (.slice Ak n6 ck) ∧ W'.cell? ⟨gs, q * 8 + 7, none⟩ = some (.slice Pk m6 dk)) := Lib.hid (fun W' h => ⟨cell_new h Hy.out.1, cell_new h Hy.out.2.1, cell_new h Hy.out.2.2.1, cell_new h Hy.out.2.2.2.1, cell_new h Hy.out.2.2.2.2.1, cell_new h Hy.out.2.2.2.2.2.1, cell_new h Hy.out.2.2.2.2.2.2.1, cell_new h Hy.out.2.2.2.2.2.2.2⟩)
                        refine wp_region_class (fun W' => Mod (fun _ => False) w7 W') (by kernel_rfl) (by kernel_rfl) (Mod.refl _ _).drew ?_
                        iterate 10 quiet_step (exact fun _ => rfl)
                        refine wpQuiet_step (fun K hK => ?_)
                        go_simp
                        refine ⟨.agg #[.bool s5.there, .bool s5.shut, .int .i64 s5.life, .int .i64 s5.ver, .bool s5.opn.any, .int .i64 s5.opn.last, .slice A6 n6 c6, .slice P6 m6 d6], fun w2 h2 => ?_, hK _ ?_⟩
                        · obtain ⟨b0, b1, b2, b3, b4, b5, b6, b7⟩ := HLG.out w2 h2
                          simp only [b0, b1, b2, b3, b4, b5, b6, b7, Result.andThen_ok]
                          exact ⟨trivial, trivial⟩
                        clear hK K
                        iterate 2 quiet_step (exact fun _ => rfl)
                        refine wpQuiet_step (fun K hK => ?_)
                        go_simp
                        refine ⟨.agg #[.bool s5.there, .bool s5.shut, .int .i64 s5.life, .int .i64 s5.ver, .bool s5.opn.any, .int .i64 s5.opn.last, .slice Ak n6 ck, .slice Pk m6 dk], fun w2 h2 => ?_, hK _ ?_⟩
                        · obtain ⟨b0, b1, b2, b3, b4, b5, b6, b7⟩ := HLK.out w2 h2
                          simp only [b0, b1, b2, b3, b4, b5, b6, b7, Result.andThen_ok]
                          exact ⟨trivial, trivial⟩
                        clear hK K
                        refine wpQuiet_step (fun K hK => ?_)
                        go_simp
                        refine ⟨.bool true, fun w2 h2 => (HSS.out w2 h2).mono ?_, hK _ ?_⟩
                        · rintro e w3 ⟨rfl, hm⟩
                          exact ⟨rfl, h2.trans hm (fun _ _ h => h)⟩
                        clear hK K
                        iterate 7 quiet_step (exact fun _ => rfl)
                        iterate 4 ((with_reducible refine quiet_skip ?h ?_); (case h => kernel_rfl); (simp only [Act.put, List.setIfInBounds_toArray, List.set_cons_zero, List.set_cons_succ]))
                        iterate 10 quiet_step (exact fun _ => rfl)
                        iterate 3 ((with_reducible refine quiet_skip ?h ?_); (case h => kernel_rfl); (simp only [Act.put, List.setIfInBounds_toArray, List.set_cons_zero, List.set_cons_succ]))
                        iterate 2 quiet_step (exact fun _ => rfl)
                        refine wpQuiet_nil ?_
                        intro w8 H8
                        have H8 := Lib.hid H8
                        go_wp2_with fail
                        go_roundg (gk - 1)
                        case measure => have := Hik.out; omega
                        case rel => exact ⟨i + 1, d5, by have := Hik.out; omega, by go_num, HT7.out.new H8.out⟩
                    | some y0 =>
                      rw [hfl] at hfd hlf
                      rw [hfd] at hlk
                      rw [if_neg (by intro h; cases h.2)] at hlf
                      have E1 := Lib.hid hlf; have Hf5 := Lib.hid hfd
                      clear hlf hfd hfl hin
                      as_aux_lemma =>
                        have HD5 := Lib.hid HT5.out.dir
                        have HM5 := Lib.hid HT5.out.mod
                        go_wp2_with fail
                        refine (call_dlook (s := zeroSlot) (o := none) (ok := false) E1.out rfl rfl HD5.out (by have := Hq.out; omega)).mono ?_
                        rintro e v6 ⟨A6, n6, c6, P6, m6, d6, rfl, hz, ho, hp, hd, hm⟩
                        obtain ⟨w6, hW, hmW, hbW, hzW⟩ := new_box v6 32 #[.bool zeroSlot.there, .bool zeroSlot.shut, .int .i64 zeroSlot.life, .int .i64 zeroSlot.ver, .bool zeroSlot.opn.any, .int .i64 zeroSlot.opn.last, .slice A6 n6 c6, .slice P6 m6 d6]
                        obtain ⟨g6, hg⟩ : ∃ x, x = v6.heap.size := ⟨_, rfl⟩
                        rw [← hg] at hbW hzW
                        have HD6 : Hid (DirV (fun _ => True) g (i + 1) w6 (d5)) := Lib.hid (hd.new hmW)
                        have HM6 : Hid (Mod (fun _ => False) w w6) := Lib.hid (HM5.out.trans (hm.trans hmW (fun _ _ h => h)) (fun _ _ h => h))
                        have HS6 : Hid (Mod (fun j => j = g) w5 w6) := Lib.hid ((hm.trans hmW (fun _ _ h => h)).mono (fun _ _ h => h.elim))
                        have HF6 : Hid (Mod (fun _ => False) w5 w6) := Lib.hid (hm.trans hmW (fun _ _ h => h))
                        have HO6 : Hid (OwnS w5.heap.size w6 (.slice A6 n6 c6) (zeroSlot).opn.list) := Lib.hid (hmW.owns ho (fun _ _ h => h))
                        have HP6 : Hid (OwnPt w5.heap.size w6 40 (.slice P6 m6 d6) (zeroSlot).chunks) := Lib.hid (OwnPt.mod hp hmW)
                        have HZ6 := Lib.hid hz
                        have Hlt6 : Hid (g < w5.heap.size ∧ w5.heap.size ≤ g6 ∧ g6 < w6.heap.size) := Lib.hid ⟨HD5.out.lt, by have := hm.size; omega, by omega⟩
                        have HB6 : Hid (∀ W', Mod (fun j => j = g) w6 W' → Blk W' g6 32 #[.bool zeroSlot.there, .bool zeroSlot.shut, .int .i64 zeroSlot.life, .int .i64 zeroSlot.ver, .bool zeroSlot.opn.any, .int .i64 zeroSlot.opn.last, .slice A6 n6 c6, .slice P6 m6 d6]) := Lib.hid (fun W' h => h.blk hbW (fun e => by have := Hlt6.out; omega))
                        have HW := Lib.hid hW; have Hg := Lib.hid hg
                        clear hz ho hp hd hm hW hmW hbW hzW hg
                        go_upto_region 37 with fail
                        rw [← HW.out, ← Hg.out]
                        clear HW Hg
                        go_wp2_with fail
                        refine (call_dflag (o := some y0) (v := y0) (ok := true) Hf5.out rfl rfl HD6.out (by have := Hq.out; omega)).mono ?_
                        rintro e w7 ⟨rfl, h1, h2⟩
                        have HF7 : Hid (Mod (fun _ => False) w6 w7) := Lib.hid h2
                        have HS7 : Hid (Mod (fun j => j = g) w6 w7) := Lib.hid (h2.mono (fun _ _ h => h.elim))
                        have HT7 : Hid (StD w g gs gm (i + 1) w7 d5) := Lib.hid (HT5.out.new (HF6.out.trans h2 (fun _ _ h => h)))
                        clear h1 h2
                        go_upto_region 38 with fail
                        obtain ⟨k1, _, _, k2, _, _⟩ := HZ6.out
                        have e1 : 0 = n6 := k1.out
                        subst e1
                        have e2 : 0 = m6 := k2.out
                        subst e2
                        clear k1 k2
                        have HSS : Hid (∀ W', Mod (fun _ => False) w7 W' → Calls Try.prog 12 #[.agg #[.bool zeroSlot.there, .bool zeroSlot.shut, .int .i64 zeroSlot.life, .int .i64 zeroSlot.ver, .bool zeroSlot.opn.any, .int .i64 zeroSlot.opn.last, .slice A6 0 c6, .slice P6 0 d6], .agg #[.bool false, .bool false, .int .i64 0, .int .i64 0, .bool false, .int .i64 0, .slice none 0 0, .slice none 0 0]] W' fun e w' => e = .returned (.bool true) ∧ Mod (fun _ => False) W' w') := Lib.hid (fun W' h => sameSlot_any zeroSlot W' (((OwnS.mod HO6.out (HF7.out.trans h (fun _ _ h => h))).rds rfl)) (RdsS.nil _ _ _) (OwnK.rds (OwnPt.mod HP6.out (HF7.out.trans h (fun _ _ h => h))) rfl) (RdsPt.nil _ _ _) (by omega) (by omega))
                        have HLG : Hid (∀ W', Mod (fun _ => False) w7 W' → W'.cell? ⟨g6, 0, none⟩ = some (.bool zeroSlot.there) ∧ W'.cell? ⟨g6, 1, none⟩ = some (.bool zeroSlot.shut) ∧ W'.cell? ⟨g6, 2, none⟩ = some (.int .i64 zeroSlot.life) ∧ W'.cell? ⟨g6, 3, none⟩ = some (.int .i64 zeroSlot.ver) ∧ W'.cell? ⟨g6, 4, none⟩ = some (.bool zeroSlot.opn.any) ∧ W'.cell? ⟨g6, 5, none⟩ = some (.int .i64 zeroSlot.opn.last) ∧ W'.cell? ⟨g6, 6, none⟩ = some (.slice A6 0 c6) ∧ W'.cell? ⟨g6, 7, none⟩ = some (.slice P6 0 d6)) := Lib.hid (fun W' h => ⟨(HB6.out W' (HS7.out.trans (h.mono (fun _ _ h => h.elim)) (fun _ _ h => h))).cell 0, (HB6.out W' (HS7.out.trans (h.mono (fun _ _ h => h.elim)) (fun _ _ h => h))).cell 1, (HB6.out W' (HS7.out.trans (h.mono (fun _ _ h => h.elim)) (fun _ _ h => h))).cell 2, (HB6.out W' (HS7.out.trans (h.mono (fun _ _ h => h.elim)) (fun _ _ h => h))).cell 3, (HB6.out W' (HS7.out.trans (h.mono (fun _ _ h => h.elim)) (fun _ _ h => h))).cell 4, (HB6.out W' (HS7.out.trans (h.mono (fun _ _ h => h.elim)) (fun _ _ h => h))).cell 5, (HB6.out W' (HS7.out.trans (h.mono (fun _ _ h => h.elim)) (fun _ _ h => h))).cell 6, (HB6.out W' (HS7.out.trans (h.mono (fun _ _ h => h.elim)) (fun _ _ h => h))).cell 7⟩)
                        refine wp_region_class (fun W' => Mod (fun _ => False) w7 W') (by kernel_rfl) (by kernel_rfl) (Mod.refl _ _).drew ?_
                        iterate 10 quiet_step (exact fun _ => rfl)
                        iterate 6 ((with_reducible refine quiet_skip ?h ?_); (case h => kernel_rfl); (simp only [Act.put, List.setIfInBounds_toArray, List.set_cons_zero, List.set_cons_succ]))
                        iterate 6 quiet_step (exact fun _ => rfl)
                        refine wpQuiet_step (fun K hK => ?_)
                        go_simp
                        refine ⟨.agg #[.bool zeroSlot.there, .bool zeroSlot.shut, .int .i64 zeroSlot.life, .int .i64 zeroSlot.ver, .bool zeroSlot.opn.any, .int .i64 zeroSlot.opn.last, .slice A6 0 c6, .slice P6 0 d6], fun w2 h2 => ?_, hK _ ?_⟩
                        · obtain ⟨b0, b1, b2, b3, b4, b5, b6, b7⟩ := HLG.out w2 h2
                          simp only [b0, b1, b2, b3, b4, b5, b6, b7, Result.andThen_ok]
                          exact ⟨trivial, trivial⟩
                        clear hK K
                        iterate 1 quiet_step (exact fun _ => rfl)
                        refine wpQuiet_step (fun K hK => ?_)
                        go_simp
                        refine ⟨.bool true, fun w2 h2 => (HSS.out w2 h2).mono ?_, hK _ ?_⟩
                        · rintro e w3 ⟨rfl, hm⟩
                          exact ⟨rfl, h2.trans hm (fun _ _ h => h)⟩
                        clear hK K
                        iterate 16 quiet_step (exact fun _ => rfl)
                        refine wpQuiet_nil ?_
                        intro w8 H8
                        have H8 := Lib.hid H8
                        go_wp2_with fail
                        go_roundg (gk - 1)
                        case measure => have := Hik.out; omega
                        case rel => exact ⟨i + 1, d5, by have := Hik.out; omega, by go_num, HT7.out.new H8.out⟩
                  · obtain rfl : inb = false := by rw [← Hinb.out]; exact decide_eq_false hin
                    have hfd : flagD d5 id = none := by unfold flagD; rw [if_neg hin]
                    have hlf : lookD d5 id = none := by unfold lookD; rw [if_neg (fun h => hin h.1)]
                    rw [hfd] at hlk
                    have E1 := Lib.hid hlf; have Hf5 := Lib.hid hfd
                    clear hlf hfd hin
                    as_aux_lemma =>
                      have HD5 := Lib.hid HT5.out.dir
                      have HM5 := Lib.hid HT5.out.mod
                      go_wp2_with fail
                      refine (call_dlook (s := zeroSlot) (o := none) (ok := false) E1.out rfl rfl HD5.out (by have := Hq.out; omega)).mono ?_
                      rintro e v6 ⟨A6, n6, c6, P6, m6, d6, rfl, hz, ho, hp, hd, hm⟩
                      obtain ⟨w6, hW, hmW, hbW, hzW⟩ := new_box v6 32 #[.bool zeroSlot.there, .bool zeroSlot.shut, .int .i64 zeroSlot.life, .int .i64 zeroSlot.ver, .bool zeroSlot.opn.any, .int .i64 zeroSlot.opn.last, .slice A6 n6 c6, .slice P6 m6 d6]
                      obtain ⟨g6, hg⟩ : ∃ x, x = v6.heap.size := ⟨_, rfl⟩
                      rw [← hg] at hbW hzW
                      have HD6 : Hid (DirV (fun _ => True) g (i + 1) w6 (d5)) := Lib.hid (hd.new hmW)
                      have HM6 : Hid (Mod (fun _ => False) w w6) := Lib.hid (HM5.out.trans (hm.trans hmW (fun _ _ h => h)) (fun _ _ h => h))
                      have HS6 : Hid (Mod (fun j => j = g) w5 w6) := Lib.hid ((hm.trans hmW (fun _ _ h => h)).mono (fun _ _ h => h.elim))
                      have HF6 : Hid (Mod (fun _ => False) w5 w6) := Lib.hid (hm.trans hmW (fun _ _ h => h))
                      have HO6 : Hid (OwnS w5.heap.size w6 (.slice A6 n6 c6) (zeroSlot).opn.list) := Lib.hid (hmW.owns ho (fun _ _ h => h))
                      have HP6 : Hid (OwnPt w5.heap.size w6 40 (.slice P6 m6 d6) (zeroSlot).chunks) := Lib.hid (OwnPt.mod hp hmW)
                      have HZ6 := Lib.hid hz
                      have Hlt6 : Hid (g < w5.heap.size ∧ w5.heap.size ≤ g6 ∧ g6 < w6.heap.size) := Lib.hid ⟨HD5.out.lt, by have := hm.size; omega, by omega⟩
                      have HB6 : Hid (∀ W', Mod (fun j => j = g) w6 W' → Blk W' g6 32 #[.bool zeroSlot.there, .bool zeroSlot.shut, .int .i64 zeroSlot.life, .int .i64 zeroSlot.ver, .bool zeroSlot.opn.any, .int .i64 zeroSlot.opn.last, .slice A6 n6 c6, .slice P6 m6 d6]) := Lib.hid (fun W' h => h.blk hbW (fun e => by have := Hlt6.out; omega))
                      have HW := Lib.hid hW; have Hg := Lib.hid hg
                      clear hz ho hp hd hm hW hmW hbW hzW hg
                      go_upto_region 37 with fail
                      rw [← HW.out, ← Hg.out]
                      clear HW Hg
                      go_wp2_with fail
                      refine (call_dflag (o := none) (v := 0) (ok := false) Hf5.out rfl rfl HD6.out (by have := Hq.out; omega)).mono ?_
                      rintro e w7 ⟨rfl, h1, h2⟩
                      have HF7 : Hid (Mod (fun _ => False) w6 w7) := Lib.hid h2
                      have HS7 : Hid (Mod (fun j => j = g) w6 w7) := Lib.hid (h2.mono (fun _ _ h => h.elim))
                      have HT7 : Hid (StD w g gs gm (i + 1) w7 d5) := Lib.hid (HT5.out.new (HF6.out.trans h2 (fun _ _ h => h)))
                      clear h1 h2
                      go_upto_region 38 with fail
                      obtain ⟨k1, _, _, k2, _, _⟩ := HZ6.out
                      have e1 : 0 = n6 := k1.out
                      subst e1
                      have e2 : 0 = m6 := k2.out
                      subst e2
                      clear k1 k2
                      have HSS : Hid (∀ W', Mod (fun _ => False) w7 W' → Calls Try.prog 12 #[.agg #[.bool zeroSlot.there, .bool zeroSlot.shut, .int .i64 zeroSlot.life, .int .i64 zeroSlot.ver, .bool zeroSlot.opn.any, .int .i64 zeroSlot.opn.last, .slice A6 0 c6, .slice P6 0 d6], .agg #[.bool false, .bool false, .int .i64 0, .int .i64 0, .bool false, .int .i64 0, .slice none 0 0, .slice none 0 0]] W' fun e w' => e = .returned (.bool true) ∧ Mod (fun _ => False) W' w') := Lib.hid (fun W' h => sameSlot_any zeroSlot W' (((OwnS.mod HO6.out (HF7.out.trans h (fun _ _ h => h))).rds rfl)) (RdsS.nil _ _ _) (OwnK.rds (OwnPt.mod HP6.out (HF7.out.trans h (fun _ _ h => h))) rfl) (RdsPt.nil _ _ _) (by omega) (by omega))
                      have HLG : Hid (∀ W', Mod (fun _ => False) w7 W' → W'.cell? ⟨g6, 0, none⟩ = some (.bool zeroSlot.there) ∧ W'.cell? ⟨g6, 1, none⟩ = some (.bool zeroSlot.shut) ∧ W'.cell? ⟨g6, 2, none⟩ = some (.int .i64 zeroSlot.life) ∧ W'.cell? ⟨g6, 3, none⟩ = some (.int .i64 zeroSlot.ver) ∧ W'.cell? ⟨g6, 4, none⟩ = some (.bool zeroSlot.opn.any) ∧ W'.cell? ⟨g6, 5, none⟩ = some (.int .i64 zeroSlot.opn.last) ∧ W'.cell? ⟨g6, 6, none⟩ = some (.slice A6 0 c6) ∧ W'.cell? ⟨g6, 7, none⟩ = some (.slice P6 0 d6)) := Lib.hid (fun W' h => ⟨(HB6.out W' (HS7.out.trans (h.mono (fun _ _ h => h.elim)) (fun _ _ h => h))).cell 0, (HB6.out W' (HS7.out.trans (h.mono (fun _ _ h => h.elim)) (fun _ _ h => h))).cell 1, (HB6.out W' (HS7.out.trans (h.mono (fun _ _ h => h.elim)) (fun _ _ h => h))).cell 2, (HB6.out W' (HS7.out.trans (h.mono (fun _ _ h => h.elim)) (fun _ _ h => h))).cell 3, (HB6.out W' (HS7.out.trans (h.mono (fun _ _ h => h.elim)) (fun _ _ h => h))).cell 4, (HB6.out W' (HS7.out.trans (h.mono (fun _ _ h => h.elim)) (fun _ _ h => h))).cell 5, (HB6.out W' (HS7.out.trans (h.mono (fun _ _ h => h.elim)) (fun _ _ h => h))).cell 6, (HB6.out W' (HS7.out.trans (h.mono (fun _ _ h => h.elim)) (fun _ _ h => h))).cell 7⟩)
                      refine wp_region_class (fun W' => Mod (fun _ => False) w7 W') (by kernel_rfl) (by kernel_rfl) (Mod.refl _ _).drew ?_
                      iterate 3 quiet_step (exact fun _ => rfl)
                      iterate 2 ((with_reducible refine quiet_skip ?h ?_); (case h => kernel_rfl); (simp only [Act.put, List.setIfInBounds_toArray, List.set_cons_zero, List.set_cons_succ]))
                      iterate 5 quiet_step (exact fun _ => rfl)
                      iterate 6 ((with_reducible refine quiet_skip ?h ?_); (case h => kernel_rfl); (simp only [Act.put, List.setIfInBounds_toArray, List.set_cons_zero, List.set_cons_succ]))
                      iterate 6 quiet_step (exact fun _ => rfl)
                      refine wpQuiet_step (fun K hK => ?_)
                      go_simp
                      refine ⟨.agg #[.bool zeroSlot.there, .bool zeroSlot.shut, .int .i64 zeroSlot.life, .int .i64 zeroSlot.ver, .bool zeroSlot.opn.any, .int .i64 zeroSlot.opn.last, .slice A6 0 c6, .slice P6 0 d6], fun w2 h2 => ?_, hK _ ?_⟩
                      · obtain ⟨b0, b1, b2, b3, b4, b5, b6, b7⟩ := HLG.out w2 h2
                        simp only [b0, b1, b2, b3, b4, b5, b6, b7, Result.andThen_ok]
                        exact ⟨trivial, trivial⟩
                      clear hK K
                      iterate 1 quiet_step (exact fun _ => rfl)
                      refine wpQuiet_step (fun K hK => ?_)
                      go_simp
                      refine ⟨.bool true, fun w2 h2 => (HSS.out w2 h2).mono ?_, hK _ ?_⟩
                      · rintro e w3 ⟨rfl, hm⟩
                        exact ⟨rfl, h2.trans hm (fun _ _ h => h)⟩
                      clear hK K
                      iterate 11 quiet_step (exact fun _ => rfl)
                      iterate 3 ((with_reducible refine quiet_skip ?h ?_); (case h => kernel_rfl); (simp only [Act.put, List.setIfInBounds_toArray, List.set_cons_zero, List.set_cons_succ]))
                      iterate 2 quiet_step (exact fun _ => rfl)
                      refine wpQuiet_nil ?_
                      intro w8 H8
                      have H8 := Lib.hid H8
                      go_wp2_with fail
                      go_roundg (gk - 1)
                      case measure => have := Hik.out; omega
                      case rel => exact ⟨i + 1, d5, by have := Hik.out; omega, by go_num, HT7.out.new H8.out⟩
    · have hiM : ¬ ((i : Int) < (n0 : Int) ∧ (i : Int) < 100) := by have := HM.out; have := Hik.out; omega
      by_cases hi1 : (i : Int) < (n0 : Int)
      · have hi2 : ¬ (i : Int) < 100 := fun h => hiM ⟨hi1, h⟩
        clear hiM hin
        go_wp2_with fail
        go_wp2_with fail
        refine (diAwake_any w2).mono ?_
        rintro e w99 ⟨rfl, h2⟩
        have HM99 : Hid (Mod (fun _ => False) w w99) := Lib.hid (HT2.out.mod.trans h2 (fun _ _ h => h))
        clear h2
        go_wp2_with fail
        go_ret
        exact ⟨rfl, HM99.out⟩
      · clear hiM hin
        go_wp2_with fail
        go_wp2_with fail
        refine (diAwake_any w2).mono ?_
        rintro e w99 ⟨rfl, h2⟩
        have HM99 : Hid (Mod (fun _ => False) w w99) := Lib.hid (HT2.out.mod.trans h2 (fun _ _ h => h))
        clear h2
        go_wp2_with fail
        go_ret
        exact ⟨rfl, HM99.out⟩
end Go.Proofs.Yteegdbbmamabiaa
