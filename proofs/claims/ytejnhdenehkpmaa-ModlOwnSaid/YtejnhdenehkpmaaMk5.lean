/- The texts Md7, Mdo, one behind the other. -/
import Derived.Test.YtejnhdenehkpmaaMk1
import Derived.Test.YtejnhdenehkpmaaMk4
import Derived.Test.YtejnhdenehkpmaaMk2
import Derived.Test.YtejnhdenehkpmaaMk3
/- Do, as the document has it: an iterator is closed. -/
namespace Go.Proofs.Ytejnhdenehkpmaa
open Go.RowKit

set_option linter.unusedSimpArgs false in
set_option linter.unusedVariables false in
set_option maxHeartbeats 4000000 in
set_option maxRecDepth 100000 in
theorem rdo_close (A : Option Addr) (n c : Nat) (A2 : Option Addr) (n2 c2 : Nat) (m : ModN) (o : OpN) (w : World) (h : RdsM w w.heap.size A n c A2 n2 c2 m) (hK : KeepM m) (hL : LenM m 100000) (hx : m.next ≤ 1000000) (i : Nat) (hat : atI o.iter m.ite = some i) (s : IteN) (hms : m.ite[i]? = some s) (hkd : o.kind = 7) :
    Calls Try.prog 13 #[.agg #[.slice A n c, .slice A2 n2 c2, .int .i64 m.next], .agg #[.int .i64 o.kind, .int .i64 o.series, .int .i64 o.iter, .int .i64 o.t, .int .u64 (o.v : Int), .int .i64 o.from_, .int .i64 o.to_, .int .i64 o.n]] w fun e w' => DoEnd w w' (doN m o) e := by
  have HKD := Lib.hid hkd
  clear hkd
  obtain ⟨W, hW⟩ : ∃ W, W = (((w.alloc (.cells #[.slice A n c, .slice A2 n2 c2, .int .i64 m.next] 31)).alloc (.cells #[.int .i64 o.kind, .int .i64 o.series, .int .i64 o.iter, .int .i64 o.t, .int .u64 (o.v : Int), .int .i64 o.from_, .int .i64 o.to_, .int .i64 o.n] 24)).alloc (.cells #[.slice none 0 0, .slice none 0 0, .int .i64 0] 31)).alloc (.cells #[.int .i64 0, .int .i64 0, .slice none 0 0] 34) := ⟨_, rfl⟩
  obtain ⟨G0, hG0⟩ : ∃ g, g = w.heap.size := ⟨_, rfl⟩
  obtain ⟨G1, hG1⟩ : ∃ g, g = w.heap.size + 1 := ⟨_, rfl⟩
  obtain ⟨G4, hG4⟩ : ∃ g, g = w.heap.size + 1 + 1 := ⟨_, rfl⟩
  obtain ⟨G5, hG5⟩ : ∃ g, g = w.heap.size + 1 + 1 + 1 := ⟨_, rfl⟩
  have hmW : Mod (fun _ => False) w W := by rw [hW]; exact ((((Mod.refl _ _).alloc _).alloc _).alloc _).alloc _
  have hzW : W.heap.size = G5 + 1 := by rw [hW, hG5]; simp
  have hb0 : Blk W G0 31 #[.slice A n c, .slice A2 n2 c2, .int .i64 m.next] := by rw [hW, hG0]; exact (((Blk.new _ _ _).alloc _).alloc _).alloc _
  have hb1 : Blk W G1 24 #[.int .i64 o.kind, .int .i64 o.series, .int .i64 o.iter, .int .i64 o.t, .int .u64 (o.v : Int), .int .i64 o.from_, .int .i64 o.to_, .int .i64 o.n] := by
    rw [hW, hG1]
    have h := ((Blk.new (w.alloc (.cells #[.slice A n c, .slice A2 n2 c2, .int .i64 m.next] 31)) 24 #[.int .i64 o.kind, .int .i64 o.series, .int .i64 o.iter, .int .i64 o.t, .int .u64 (o.v : Int), .int .i64 o.from_, .int .i64 o.to_, .int .i64 o.n]).alloc (.cells #[.slice none 0 0, .slice none 0 0, .int .i64 0] 31)).alloc (.cells #[.int .i64 0, .int .i64 0, .slice none 0 0] 34)
    simpa using h
  have hb4 : Blk W G4 31 #[.slice none 0 0, .slice none 0 0, .int .i64 0] := by
    rw [hW, hG4]
    have h := (Blk.new ((w.alloc (.cells #[.slice A n c, .slice A2 n2 c2, .int .i64 m.next] 31)).alloc (.cells #[.int .i64 o.kind, .int .i64 o.series, .int .i64 o.iter, .int .i64 o.t, .int .u64 (o.v : Int), .int .i64 o.from_, .int .i64 o.to_, .int .i64 o.n] 24)) 31 #[.slice none 0 0, .slice none 0 0, .int .i64 0]).alloc (.cells #[.int .i64 0, .int .i64 0, .slice none 0 0] 34)
    simpa using h
  have hb5 : Blk W G5 34 #[.int .i64 0, .int .i64 0, .slice none 0 0] := by
    rw [hW, hG5]
    have h := Blk.new (((w.alloc (.cells #[.slice A n c, .slice A2 n2 c2, .int .i64 m.next] 31)).alloc (.cells #[.int .i64 o.kind, .int .i64 o.series, .int .i64 o.iter, .int .i64 o.t, .int .u64 (o.v : Int), .int .i64 o.from_, .int .i64 o.to_, .int .i64 o.n] 24)).alloc (.cells #[.slice none 0 0, .slice none 0 0, .int .i64 0] 31)) 34 #[.int .i64 0, .int .i64 0, .slice none 0 0]
    simpa using h
  obtain ⟨hl1, hl2⟩ := h.lens
  have hn : n ≤ 1000 := by have := keep_len hK; omega
  have hn2 : n2 ≤ 1000 := by have := hK.2.2.1; omega
  have z0 := hb0.cell 0
  have z1 := hb0.cell 1
  have z2 := hb0.cell 2
  simp at z0 z1 z2
  have Hr := Lib.hid (h.new hmW).fit
  have HW := Lib.hid hW; have HG0 := Lib.hid hG0; have HG1 := Lib.hid hG1; have HG4 := Lib.hid hG4; have HG5 := Lib.hid hG5; have HmW := Lib.hid hmW
  have Hb0 := Lib.hid hb0; have Hb1 := Lib.hid hb1; have Hb4 := Lib.hid hb4; have Hb5 := Lib.hid hb5; have HK := Lib.hid hK; have HL := Lib.hid hL; have Hx := Lib.hid hx
  obtain ⟨B, hBB⟩ : ∃ B, B = W.heap.size := ⟨_, rfl⟩
  have Hlt : Hid (w.heap.size = G0 ∧ G1 = G0 + 1 ∧ G4 = G0 + 2 ∧ G5 = G0 + 3 ∧ B = G0 + 4) := Lib.hid (by omega)
  clear hW hG0 hG1 hG4 hG5 hmW hzW hb0 hb1 hb4 hb5 h hl1 hl2 hK hL hx
  go_enter Try.func13, Try.ntmps13
  go_upto_region 1 with fail
  rw [← HW.out, ← HG5.out, ← HG4.out, ← HG1.out, ← HG0.out]
  go_wp2_with fail
  refine (rcopied_any A n c A2 n2 c2 m W Hr.out HL.out hn hn2).mono ?_
  rintro e w1 ⟨v, v2, rfl, hM1, hm1⟩
  rw [← hBB] at hM1
  obtain ⟨Av, nv, cv, Aw, nw, cw, rfl, rfl, hrd⟩ := hM1.rds
  have hbo := hm1.blk Hb0.out (fun h => h)
  have y0 := hbo.cell 0
  have y1 := hbo.cell 1
  have y2 := hbo.cell 2
  have p0 := hbo.frozen 0
  have p1 := hbo.frozen 1
  have p2 := hbo.frozen 2
  simp at y0 y1 y2
  obtain ⟨W1, hW1, hbn, hmo, hMo⟩ := lay_over1 hbo (.slice Av nv cv) (.slice Aw nw cw) (.int .i64 m.next)
  have hne1 : ¬ G1 = G0 := by have := Hlt.out; omega
  have hne4 : ¬ G4 = G0 := by have := Hlt.out; omega
  have hne5 : ¬ G5 = G0 := by have := Hlt.out; omega
  have HSt : Hid (RSt B w W1 G0 G1 G4 G5 (.slice Av nv cv) (.slice Aw nw cw) m o) := Lib.hid ⟨hbn, hmo.blk (hm1.blk Hb1.out (fun h => h)) hne1, hmo.blk (hm1.blk Hb4.out (fun h => h)) hne4, hmo.blk (hm1.blk Hb5.out (fun h => h)) hne5, hMo hM1, (HmW.out.trans hm1 (fun _ _ h => h)).own hmo (by have := Hlt.out; omega)⟩
  have HW1 := Lib.hid hW1
  clear z0 z1 z2 hM1 hm1 hrd hbo hW1 hbn hmo hMo Hb0 Hb1 Hb4 Hb5 HW HmW hne1 hne4 hne5
  go_upto_region 2 with fail
  rw [← HW1.out]
  clear HW1 y0 y1 y2 p0 p1 p2
  have x0 := HSt.out.1.cell 0
  have x1 := HSt.out.1.cell 1
  have x2 := HSt.out.1.cell 2
  have y1 := HSt.out.2.1.cell 1
  simp at x0 x1 x2 y1
  have hrd := HSt.out.2.2.2.2.1.rdm
  have hnv : nv ≤ 1000000 := by have := hrd.lens; have := keep_len HK.out; omega
  have hnw : nw ≤ 1000000 := by have := hrd.lens; have := HK.out.2.2.1; omega
  have Hat := Lib.hid (rat_any m Av Aw nv cv nw cw W1.heap.size o.series W1 hrd hnv)
  clear hrd
  go_wp2_with fail
  refine Hat.out.mono ?_
  rintro e w2 ⟨k, rfl, hk, hm2⟩
  have Hk := Lib.hid hk; have HS2 := Lib.hid (HSt.out.new hm2)
  clear x0 x1 x2 y1 hk hm2 HSt Hat
  have x0 := HS2.out.1.cell 0
  have x1 := HS2.out.1.cell 1
  have x2 := HS2.out.1.cell 2
  have y0 := HS2.out.2.1.cell 0
  have y1 := HS2.out.2.1.cell 1
  have y2 := HS2.out.2.1.cell 2
  have y3 := HS2.out.2.1.cell 3
  have y4 := HS2.out.2.1.cell 4
  have y5 := HS2.out.2.1.cell 5
  have y6 := HS2.out.2.1.cell 6
  have y7 := HS2.out.2.1.cell 7
  simp at x0 x1 x2 y0 y1 y2 y3 y4 y5 y6 y7
  have Hd := Lib.hid (doN_close (m := m) HKD.out hat hms)
  have hkd := HKD.out
  have Hit := Lib.hid (riter_any m Av Aw nv cv nw cw w2.heap.size o.iter w2 HS2.out.2.2.2.2.1.rdm hnw)
  have Hat := Lib.hid hat
  rw [hkd] at y0
  clear hat hkd
  go_upto_region 3 with fail
  go_cut [7] from 19 to 26 (fun s7 wx => wx = w2)
  case first =>
    by_cases hs2 : o.series ≥ 0
    · by_cases hs3 : o.series ≤ 15
      · go_wp2_with fail
        go_meet
        case rel => rfl
      · go_wp2_with fail
        go_meet
        case rel => rfl
    · go_wp2_with fail
      go_meet
      case rel => rfl
  case rest =>
    rw [hcut]
    clear hcut
    go_wp2_with fail
    refine Hit.out.mono ?_
    rintro e w3 ⟨k2, rfl, hk2, hm3⟩
    have hk3 := fstI_some hk2 Hat.out
    subst hk3
    have hi0 : (0 : Int) ≤ (i : Int) := by omega
    have HS3 := Lib.hid (HS2.out.new hm3)
    clear hk2 hm3 x0 x1 x2 y0 y1 y2 y3 y4 y5 y6 y7 HS2 Hit
    have y0 := HS3.out.2.1.cell 0
    simp at y0
    rw [HKD.out] at y0
    obtain ⟨W8, hW8, hm8, hb8, hz8⟩ := Blk.box w3 34 #[.int .i64 0, .int .i64 0, .slice none 0 0]
    obtain ⟨G8, hG8⟩ : ∃ g, g = w3.heap.size := ⟨_, rfl⟩
    rw [← hG8] at hb8
    have HS8 := Lib.hid (HS3.out.new hm8); have HW8 := Lib.hid hW8; have HG8 := Lib.hid hG8; have Hb8 := Lib.hid hb8
    have Hlt8 : Hid (B ≤ G8) := Lib.hid (by have := HS3.out.2.2.2.1.lt; have := Hlt.out; omega)
    clear hW8 hm8 hb8 hz8 hG8
    go_upto_region 21 with fail
    rw [← HW8.out, ← HG8.out]
    clear HW8 y0
    have y0 := HS8.out.2.1.cell 0
    simp at y0
    rw [HKD.out] at y0
    have x1 := HS8.out.1.cell 1
    simp at x1
    obtain ⟨ps, js, hps, hjs, hSer, hIte⟩ := HS8.out.2.2.2.2.1
    obtain ⟨A', c', e0, hnc, hcm, hR⟩ := hIte.form
    obtain ⟨nn, hnn⟩ : ∃ nn, nn = js.length := ⟨_, rfl⟩
    rw [← hnn] at e0 hnc hR
    injection e0 with e1 e2 e3
    subst e1 e2 e3
    have hin : i < nw := by
      have h1 := (List.getElem?_eq_some_iff.1 hms).1
      rw [← hjs, List.length_map, ← hnn] at h1
      exact h1
    have hn9 : nw ≤ 1000 := by have h1 := HS8.out.2.2.2.2.1.rdm.lens; have := keep_len HK.out; have := HK.out.2.2.1; omega
    obtain ⟨q, hq⟩ : ∃ q, q = i + 1 := ⟨_, rfl⟩
    obtain ⟨A8, hA8⟩ : ∃ A8, (if cw = q then Aw else Aw.map (·.add (q * 2))) = A8 := ⟨_, rfl⟩
    have hdr := (hR.drop (k := q) (by omega) hnc).1
    rw [hA8] at hdr
    have htk := (hR.take (k := i) (by omega)).1
    have hone1 : ∀ u ∈ ((js.take i).map iteC).flatten, u.oneCell' = true := iteC_one (fun p hp => hIte.2 p (List.mem_of_mem_take hp))
    have hone2 : ∀ u ∈ ((js.drop q).map iteC).flatten, u.oneCell' = true := iteC_one (fun p hp => hIte.2 p (List.mem_of_mem_drop hp))
    have hx0 := HS8.out.1.cell 1
    simp at hx0
    have HX : Hid (∀ W' : World, Mod (fun _ => False) W8 W' → W'.cell? ⟨G0, 1, none⟩ = some (.slice Aw nw cw)) := Lib.hid (fun W' h => by
      have h0 := (h.blk HS8.out.1 (fun h => h)).cell 1
      simpa using h0)
    have hwq : IntKind.i64.wrap ((i : Int) + 1) = (q : Int) := by rw [IntWalk.i64_in _ (by omega)]; omega
    have b1 : (i : Int) ≤ (nw : Int) := by omega
    have b2 : (i : Int) ≤ (cw : Int) := by omega
    have b3 : (q : Int) ≤ (nw : Int) := by omega
    have b4 : (q : Int) ≤ (cw : Int) := by omega
    have b5 : (0 : Int) ≤ (q : Int) := by omega
    have b6 : (nw : Int) ≤ (cw : Int) := by omega
    have b7 : ((nw - q : Nat) : Int) = (nw : Int) - (q : Int) := by omega
    have hr1 : ([] : List (List Value)).length + i ≤ maxLen := by unfold maxLen; simp; omega
    have hr2 : (([] : List (List Value)).length + i) * 32 ≤ 140737488355328 := by simp; omega
    have hlt : ((js.take i).map iteC).length = i := by rw [List.length_map, List.length_take]; omega
    have hr3 : (([] : List (List Value)) ++ (js.take i).map iteC).length + (nw - q) ≤ maxLen := by rw [List.nil_append, hlt]; unfold maxLen; omega
    have hr4 : ((([] : List (List Value)) ++ (js.take i).map iteC).length + (nw - q)) * 32 ≤ 140737488355328 := by rw [List.nil_append, hlt]; omega
    have HBw : Hid (B ≤ W8.heap.size) := Lib.hid (by have := HS8.out.2.2.2.1.lt; have := Hlt.out; omega)
    have Hlit : Hid (OwnK 2 W8.heap.size (W8.alloc (.cells #[] 50)).drew 50 (.slice (some ⟨W8.heap.size, 0, none⟩) 0 0) []) := Lib.hid (own_litK (Nat.le_refl _)).drew
    have Htk := Lib.hid (htk.fit.alloc (Nat.le_refl _) (.cells #[] 50)).drew
    have hszL : W8.heap.size ≤ (W8.alloc (.cells #[] 50)).drew.heap.size := by show W8.heap.size ≤ (W8.alloc _).heap.size; simp
    have Hdr := Lib.hid hdr; have Hone1 := Lib.hid hone1; have Hone2 := Lib.hid hone2; have Hps := Lib.hid hps; have Hjs := Lib.hid hjs; have HSer := Lib.hid hSer; have HIte := Lib.hid hIte; have Hq := Lib.hid hq
    clear hps hjs hSer hIte hnc hcm hR hnn hin hn9 hq hdr htk hone1 hone2 hx0 hlt hms
    go_upto_region 51 with fail
    refine wp_region_T (fun W' => W'.cell? ⟨G0, 1, none⟩ = some (.slice Aw nw cw)) 12 (by kernel_rfl) (HX.out _ (Mod.refl _ W8).drew) (fun hHeld => ?_)
    refine wpAnyT_take (i := 1) (v := ?_) rfl (by decide) (by kernel_rfl) (by kernel_rfl) (by kernel_rfl) (by kernel_rfl) (fun _ _ _ h => h) (Or.inl ⟨by rfl, ?_⟩) hHeld ?_
    rotate_left
    · (intro w hSw; (try dsimp only at hSw); go_simp; first | done | with_reducible rfl)
    simp only [Act.put, List.setIfInBounds_toArray, List.set_cons_zero, List.set_cons_succ]
    refine wpAnyT_take (i := 2) (v := ?_) rfl (by decide) (by kernel_rfl) (by kernel_rfl) (by kernel_rfl) (by kernel_rfl) (fun _ _ _ h => h) (Or.inl ⟨by rfl, ?_⟩) hHeld ?_
    rotate_left
    · (intro w hSw; (try dsimp only at hSw); go_simp; first | done | with_reducible rfl)
    simp only [Act.put, List.setIfInBounds_toArray, List.set_cons_zero, List.set_cons_succ]
    refine wpAnyT_take (i := 3) (v := ?_) rfl (by decide) (by kernel_rfl) (by kernel_rfl) (by kernel_rfl) (by kernel_rfl) (fun _ _ _ h => h) (Or.inl ⟨by rfl, ?_⟩) hHeld ?_
    rotate_left
    · (intro w hSw; (try dsimp only at hSw); go_simp; first | done | with_reducible rfl)
    simp only [Act.put, List.setIfInBounds_toArray, List.set_cons_zero, List.set_cons_succ]
    refine wpAnyT_take (i := 4) (v := ?_) rfl (by decide) (by kernel_rfl) (by kernel_rfl) (by kernel_rfl) (by kernel_rfl) (fun _ _ _ h => h) (Or.inl ⟨by rfl, ?_⟩) hHeld ?_
    rotate_left
    · (intro w hSw; (try dsimp only at hSw); go_simp; first | done | with_reducible rfl)
    simp only [Act.put, List.setIfInBounds_toArray, List.set_cons_zero, List.set_cons_succ]
    refine wpAnyT_take (i := 6) (v := ?_) rfl (by decide) (by kernel_rfl) (by kernel_rfl) (by kernel_rfl) (by kernel_rfl) (fun _ _ _ h => h) (Or.inl ⟨by rfl, ?_⟩) hHeld ?_
    rotate_left
    · (intro w hSw; (try dsimp only at hSw); go_simp; first | done | with_reducible rfl)
    simp only [Act.put, List.setIfInBounds_toArray, List.set_cons_zero, List.set_cons_succ]
    refine wpAnyT_take (i := 7) (v := ?_) rfl (by decide) (by kernel_rfl) (by kernel_rfl) (by kernel_rfl) (by kernel_rfl) (fun _ _ _ h => h) (Or.inl ⟨by rfl, ?_⟩) hHeld ?_
    rotate_left
    · (intro w hSw; (try dsimp only at hSw); go_simp; first | done | with_reducible rfl)
    simp only [Act.put, List.setIfInBounds_toArray, List.set_cons_zero, List.set_cons_succ]
    refine wpAnyT_take (i := 8) (v := ?_) rfl (by decide) (by kernel_rfl) (by kernel_rfl) (by kernel_rfl) (by kernel_rfl) (fun _ _ _ h => h) (Or.inl ⟨by rfl, ?_⟩) hHeld ?_
    rotate_left
    · (intro w hSw; (try dsimp only at hSw); go_simp; first | done | with_reducible rfl)
    simp only [Act.put, List.setIfInBounds_toArray, List.set_cons_zero, List.set_cons_succ]
    refine wpAnyT_take (i := 9) (v := ?_) rfl (by decide) (by kernel_rfl) (by kernel_rfl) (by kernel_rfl) (by kernel_rfl) (fun _ _ _ h => h) (Or.inl ⟨by rfl, ?_⟩) hHeld ?_
    rotate_left
    · (intro w hSw; (try dsimp only at hSw); go_simp; first | done | with_reducible rfl)
    simp only [Act.put, List.setIfInBounds_toArray, List.set_cons_zero, List.set_cons_succ]
    refine wpAnyT_take (i := 10) (v := ?_) rfl (by decide) (by kernel_rfl) (by kernel_rfl) (by kernel_rfl) (by kernel_rfl) (fun _ _ _ h => h) (Or.inl ⟨by rfl, ?_⟩) hHeld ?_
    rotate_left
    · (intro w hSw; (try dsimp only at hSw); go_simp; first | done | with_reducible rfl)
    simp only [Act.put, List.setIfInBounds_toArray, List.set_cons_zero, List.set_cons_succ]
    refine wpAnyT_ready (rs := [0]) (by kernel_rfl) (by simp) (AllReadyT.cons rfl (fun K hK => ?_) AllReadyT.nil)
    go_simp
    refine hK.out _ _ (HX.out _ (((Mod.refl _ W8).alloc _).drew)) (fun hHeld => ?_)
    clear hK K
    refine wpAnyT_ready (rs := [5]) (by kernel_rfl) (by simp) (AllReadyT.cons rfl (fun K hK => ?_) AllReadyT.nil)
    refine step_appK (v := .slice (some ⟨W8.heap.size, 0, none⟩) 0 0) (news := (js.take i).map iteC) rfl (.tmp 251) (.tmp 255) _ rfl eltIte rfl Hlit.out rfl Htk.out Hone1.out hr1 hr2 hszL ?_
    intro v10 w10 HO10 HMo10 HOb10
    obtain ⟨A10, n10, c10, rfl, _⟩ := HO10.out.formN
    have hm10 : Mod (fun _ => False) W8 w10 := (((((Mod.refl (fun j => W8.heap.size ≤ j) W8).alloc _).drew).trans HMo10.out (fun j _ e => (Hlit.out.block j e).1))).mono (fun j hj h => by omega)
    refine hK.out _ _ (HX.out _ hm10) (fun hHeld => ?_)
    clear hK K
    have Hm10 := Lib.hid hm10
    have Hdr10 := Lib.hid (Hdr.out.new hm10)
    have hsz10 : W8.heap.size ≤ w10.heap.size := hm10.size
    clear hm10
    refine wpAnyT_ready (rs := [11]) (by kernel_rfl) (by simp) (AllReadyT.cons rfl (fun K hK => ?_) AllReadyT.nil)
    refine step_appK (v := .slice A10 n10 c10) (news := (js.drop q).map iteC) rfl (.tmp 256) (.tmp 261) _ rfl eltIte rfl HO10.out rfl Hdr10.out Hone2.out hr3 hr4 hsz10 ?_
    intro v11 w11 HO11 HMo11 HOb11
    obtain ⟨A11, n11, c11, rfl, _⟩ := HO11.out.formN
    have hm11 : Mod (fun _ => False) W8 w11 := ((Hm10.out.mono (fun _ _ h => h.elim) : Mod (fun j => W8.heap.size ≤ j) W8 w10).trans HMo11.out (fun j _ e => (HO10.out.block j e).1)).mono (fun j hj h => by omega)
    refine hK.out _ _ (HX.out _ hm11) (fun hHeld => ?_)
    clear hK K hHeld
    have hSt11 := HS8.out.new hm11
    have k0 := hSt11.1.cell 1
    have f0 := hSt11.1.frozen 1
    simp at k0
    have Hm11 := Lib.hid hm11; have HSt11 := Lib.hid hSt11
    clear hm11 hSt11
    refine wpAnyT_rest (by kernel_rfl) ?_
    refine wpAny_take (i := 12) (v := ?_) rfl (by kernel_rfl) (by kernel_rfl) (by kernel_rfl) (fun _ _ _ h => h) (Or.inl ⟨by rfl, ?_⟩) ?_
    rotate_left
    · (intro w; go_simp; first | done | with_reducible rfl)
    simp only [Act.put, List.setIfInBounds_toArray, List.set_cons_zero, List.set_cons_succ]
    refine wpAny_ready (rs := [13]) (by kernel_rfl) (by simp) (AllReady.cons rfl (fun K hK => ?_) AllReady.nil)
    go_simp
    refine hK _ _ ?_
    clear hK K
    refine wpAny_done (by kernel_rfl) ?_ _
    obtain ⟨W12, hW12⟩ : ∃ W12, W12 = w11.setCell ⟨G0, 1, none⟩ (.slice A11 n11 c11) := ⟨_, rfl⟩
    have hb012 : Blk W12 G0 31 #[.slice Av nv cv, .slice A11 n11 c11, .int .i64 m.next] := by rw [hW12]; have h := HSt11.out.1.set_ 1 (.slice A11 n11 c11); simpa using h
    have hm12 : Mod (fun j => j = G0) w11 W12 := by rw [hW12]; exact (Mod.refl (fun j => j = G0) w11).setCell (p := ⟨G0, 1, none⟩) (fun _ => rfl) _
    have hM11 : HavM B w11 (.slice Av nv cv) (.slice A11 n11 c11) { m with ite := m.ite.take i ++ m.ite.drop (i + 1) } := ⟨ps, js.take i ++ js.drop q, Hps.out, by rw [Hq.out, ← Hjs.out]; simp, HSer.out.new Hm11.out, ⟨by have h := HO11.out; rw [List.nil_append, ← List.map_append] at h; exact h.mono HBw.out, fun p hp => by
      rcases List.mem_append.1 hp with hp | hp
      · exact (HIte.out.2 p (List.mem_of_mem_take hp)).new Hm11.out
      · exact (HIte.out.2 p (List.mem_of_mem_drop hp)).new Hm11.out⟩⟩
    have Hb012 := Lib.hid hb012; have Hb412 := Lib.hid (hm12.blk HSt11.out.2.2.1 (by have := Hlt.out; omega)); have Hb512 := Lib.hid (hm12.blk HSt11.out.2.2.2.1 (by have := Hlt.out; omega)); have Hb812 := Lib.hid (hm12.blk (Hm11.out.blk Hb8.out (fun h => h)) (by have := Hlt.out; have := Hlt8.out; omega))
    have HM12 := Lib.hid (hM11.far hm12 (Far.one HSt11.out.1 (by decide) (by decide) (by decide))); have Hmw12 := Lib.hid (HSt11.out.2.2.2.2.2.own hm12 (by have := Hlt.out; omega)); have HW12 := Lib.hid hW12
    clear hW12 hb012 hm12 hM11 k0 f0
    go_upto_region 52 with fail
    rw [← HW12.out]
    have c0 := Hb012.out.cell 0
    have c1 := Hb012.out.cell 1
    have c2 := Hb012.out.cell 2
    simp at c0 c1 c2
    have d0 := Hb812.out.cell 0
    have d1 := Hb812.out.cell 1
    have d2 := Hb812.out.cell 2
    simp at d0 d1 d2
    have r0 := Hb412.out.cell 0
    have r1 := Hb412.out.cell 1
    have r2 := Hb412.out.cell 2
    simp at r0 r1 r2
    have f0 := Hb412.out.frozen 0
    have f1 := Hb412.out.frozen 1
    have f2 := Hb412.out.frozen 2
    have q0 := Hb512.out.cell 0
    have q1 := Hb512.out.cell 1
    have q2 := Hb512.out.cell 2
    simp at q0 q1 q2
    have h0 := Hb512.out.frozen 0
    have h1 := Hb512.out.frozen 1
    have h2 := Hb512.out.frozen 2
    obtain ⟨W6, hW6, hb46, hb56, hm6⟩ := six_lay (cs4 := (.slice none 0 0, .slice none 0 0, .int .i64 0)) (cs5 := (.int .i64 0, .int .i64 0, .slice none 0 0)) Hb412.out Hb512.out (.slice Av nv cv) (.slice A11 n11 c11) (.int .i64 m.next) (.int .i64 0) (.int .i64 0) (.slice none 0 0)
    have HW6 := Lib.hid hW6; have Hb46 := Lib.hid hb46.drew; have Hb56 := Lib.hid hb56.drew; have Hm6 := Lib.hid hm6.drew
    have h45 : ¬ G4 = G5 := by have := Hlt.out; omega
    have h54 : ¬ G5 = G4 := fun h => h45 h.symm
    have h04 : ¬ G0 = G4 := by have := Hlt.out; omega
    have h05 : ¬ G0 = G5 := by have := Hlt.out; omega
    have h84 : ¬ G8 = G4 := by have := Hlt.out; have := Hlt8.out; omega
    have h85 : ¬ G8 = G5 := by have := Hlt.out; have := Hlt8.out; omega
    clear hW6 hb46 hb56 hm6
    go_region
    all_goals (
      rw [← HW6.out]
      obtain ⟨W7, hW7⟩ : ∃ W7, W7 = W6.drew := ⟨_, rfl⟩
      have Hb47 : Hid (Blk W7 G4 31 #[.slice Av nv cv, .slice A11 n11 c11, .int .i64 m.next]) := Lib.hid (by rw [hW7]; exact Hb46.out)
      have Hb57 : Hid (Blk W7 G5 34 #[.int .i64 0, .int .i64 0, .slice none 0 0]) := Lib.hid (by rw [hW7]; exact Hb56.out)
      have Hm7 : Hid (Mod (fun j => j = G4 ∨ j = G5) W12 W7) := Lib.hid (by rw [hW7]; exact Hm6.out)
      rw [← hW7]
      clear hW7
      have a0 := Hb47.out.cell 0
      have a1 := Hb47.out.cell 1
      have a2 := Hb47.out.cell 2
      simp at a0 a1 a2
      have b0 := Hb57.out.cell 0
      have b1 := Hb57.out.cell 1
      have b2 := Hb57.out.cell 2
      simp at b0 b1 b2
      go_wp2_with fail
      refine bodyPost_ret (v := .tuple #[.agg #[.slice Av nv cv, .slice A11 n11 c11, .int .i64 m.next], .agg #[.int .i64 0, .int .i64 0, .slice none 0 0]]) (by simp [results, Try.results13, go_sem, a0, a1, a2, b0, b1, b2]) rfl ?_
      exact rdo_fin (by have := Hlt.out; omega) (by have := Hlt.out; omega) (by have := Hlt.out; omega) Hb412.out Hb512.out HM12.out (SliH.nil _ _) Hmw12.out Hd.out rfl Hm7.out)
end Go.Proofs.Ytejnhdenehkpmaa

/- Do, as the document has it: any op. -/
namespace Go.Proofs.Ytejnhdenehkpmaa
open Go.RowKit

theorem rdo_any (A : Option Addr) (n c : Nat) (A2 : Option Addr) (n2 c2 : Nat) (m : ModN) (o : OpN) (w : World) (h : RdsM w w.heap.size A n c A2 n2 c2 m) (hK : KeepM m) (hL : LenM m 100000) (hx : m.next ≤ 1000000) :
    Calls Try.prog 13 #[.agg #[.slice A n c, .slice A2 n2 c2, .int .i64 m.next], .agg #[.int .i64 o.kind, .int .i64 o.series, .int .i64 o.iter, .int .i64 o.t, .int .u64 (o.v : Int), .int .i64 o.from_, .int .i64 o.to_, .int .i64 o.n]] w fun e w' => DoEnd w w' (doN m o) e := by
  by_cases h15 : 1 ≤ o.kind ∧ o.kind ≤ 5
  · by_cases hs0 : o.series < 0 ∨ 15 < o.series
    · exact rdo_unnamed A n c A2 n2 c2 m o w h hK hL hx h15 hs0
    · cases hat : atS o.series m.ser with
      | none =>
        by_cases hk1 : o.kind = 1
        · exact rdo_put A n c A2 n2 c2 m o w h hK hL hx hs0 (.inl hat) hk1
        · exact rdo_nowhere A n c A2 n2 c2 m o w h hK hL hx (by omega) hs0 hat
      | some i =>
        obtain ⟨s, hms, _⟩ := atS_some hat
        by_cases hk1 : o.kind = 1
        · cases hse : s.sea with
          | true => exact rdo_sealed A n c A2 n2 c2 m o w h hK hL hx i hat hs0 s hms hse hk1
          | false =>
            by_cases hor : s.any = true ∧ o.t ≤ s.last
            · exact rdo_order A n c A2 n2 c2 m o w h hK hL hx i hat hs0 s hms hse hor hk1
            · exact rdo_put A n c A2 n2 c2 m o w h hK hL hx hs0 (.inr ⟨i, s, hat, hms, hse, hor⟩) hk1
        by_cases hk2 : o.kind = 2
        · exact rdo_read A n c A2 n2 c2 m o w h hK hL hx i hat hs0 s hms hk2
        by_cases hk3 : o.kind = 3
        · exact rdo_seal A n c A2 n2 c2 m o w h hK hL hx i hat hs0 s hms hk3
        by_cases hk4 : o.kind = 4
        · exact rdo_delete A n c A2 n2 c2 m o w h hK hL hx i hat hs0 s hms hk4
        exact rdo_open A n c A2 n2 c2 m o w h hK hL hx i hat hs0 s hms (by omega)
  · by_cases h67 : o.kind = 6 ∨ o.kind = 7
    · cases hat : atI o.iter m.ite with
      | none => exact rdo_iterless A n c A2 n2 c2 m o w h hK hL hx h67 hat
      | some i =>
        obtain ⟨s, hms, _⟩ := atI_some hat
        by_cases hk6 : o.kind = 6
        · exact rdo_next A n c A2 n2 c2 m o w h hK hL hx i hat s hms hk6
        · exact rdo_close A n c A2 n2 c2 m o w h hK hL hx i hat s hms (by omega)
    · exact rdo_kindless A n c A2 n2 c2 m o w h hK hL hx (by omega)
theorem rdo_did {B : Nat} (A : Option Addr) (n c : Nat) (A2 : Option Addr) (n2 c2 : Nat) (m : ModN) (o : OpN) (N : Int) (k : Nat) (W : World) (h : HavM B W (.slice A n c) (.slice A2 n2 c2) m) (hK : KeepM m) (hL : LenM m k) (hk : k ≤ 1000) (hx : m.next ≤ 1000) (hN : m.next = N)
    {m' : ModN} {N' x y : Int} {l : List (Int × Nat)} (hd : doN m o = (m', ⟨x, y, l⟩)) (hN' : m'.next = N') :
    Calls Try.prog 13 #[.agg #[.slice A n c, .slice A2 n2 c2, .int .i64 N], .agg #[.int .i64 o.kind, .int .i64 o.series, .int .i64 o.iter, .int .i64 o.t, .int .u64 (o.v : Int), .int .i64 o.from_, .int .i64 o.to_, .int .i64 o.n]] W fun e w' => DidM W w' m' N' x y l e := by
  subst hN
  exact (rdo_any A n c A2 n2 c2 m o W h.rdm hK (hL.more (by omega)) (by omega)).mono (fun e w' h => h.did hd hN')
end Go.Proofs.Ytejnhdenehkpmaa
