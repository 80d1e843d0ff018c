/- The texts Mda, Mdb, Mdd, Mde, Md1, Md1e, Md2, Md3, Md4, Md5, Md6, Moa, Moc, one behind the other. -/
import Derived.Test.YtejnhdenehkpmaaMk1
import Derived.Test.YtejnhdenehkpmaaMk2
import Derived.Test.YtejnhdenehkpmaaMk3
import Derived.Deep.CutBlock
/- copied, as the document has it. -/
namespace Go.Proofs.Ytejnhdenehkpmaa
open Go.RowKit

set_option linter.unusedSimpArgs false in
set_option maxHeartbeats 2000000 in
set_option maxRecDepth 100000 in
theorem rcopied_any (A : Option Addr) (n c : Nat) (A2 : Option Addr) (n2 c2 : Nat) (m : ModN) (w : World) (h : RdsM w w.heap.size A n c A2 n2 c2 m) (hL : LenM m 100000) (hn : n ≤ 1000) (hn2 : n2 ≤ 1000) :
    Calls Try.prog 20 #[.agg #[.slice A n c, .slice A2 n2 c2, .int .i64 m.next]] w fun e w' => ∃ v v2, e = .returned (.agg #[v, v2, .int .i64 m.next]) ∧ HavM w.heap.size w' v v2 m ∧ Mod (fun _ => False) w w' := by
  obtain ⟨ps, is, hps, his, hR, hR2, hnc, hcm, hnc2, hcm2⟩ := h
  obtain ⟨N, hN⟩ : ∃ N, N = m.next := ⟨_, rfl⟩
  obtain ⟨W1, hW1⟩ : ∃ W, W = (w.alloc (.cells #[.slice A n c, .slice A2 n2 c2, .int .i64 N] 31)).alloc (.cells #[.slice none 0 0, .slice none 0 0, .int .i64 0] 31) := ⟨_, rfl⟩
  obtain ⟨G0, hG0⟩ : ∃ g, g = w.heap.size := ⟨_, rfl⟩
  obtain ⟨G, hG⟩ : ∃ g, g = w.heap.size + 1 := ⟨_, rfl⟩
  have hb01 : Blk W1 G0 31 #[.slice A n c, .slice A2 n2 c2, .int .i64 N] := by rw [hW1, hG0]; exact (Blk.new _ _ _).alloc _
  have hbG1 : Blk W1 G 31 #[.slice none 0 0, .slice none 0 0, .int .i64 0] := by
    rw [hW1, hG]
    have h := Blk.new (w.alloc (.cells #[.slice A n c, .slice A2 n2 c2, .int .i64 N] 31)) 31 #[.slice none 0 0, .slice none 0 0, .int .i64 0]
    simpa using h
  have hm1 : Mod (fun _ => False) w W1 := by rw [hW1]; exact ((Mod.refl _ _).alloc _).alloc _
  obtain ⟨W, hW, hmW, hb3, hzW⟩ := Blk.box W1 31 #[.slice none 0 0, .slice none 0 0, .int .i64 N]
  obtain ⟨G3, hG3⟩ : ∃ g, g = W1.heap.size := ⟨_, rfl⟩
  rw [← hG3] at hb3
  have hb0 := hmW.blk hb01 (fun h => h)
  have hbG := hmW.blk hbG1 (fun h => h)
  have hmw := hm1.trans hmW (fun _ _ h => h)
  have z2 := hb01.cell 2
  simp at z2
  have hz1 : w.heap.size ≤ W1.heap.size := hm1.size
  have Hlt : Hid (w.heap.size = G0 ∧ G = G0 + 1 ∧ G3 = G0 + 2 ∧ W.heap.size = G0 + 3) := Lib.hid (by
    have h1 : W1.heap.size = w.heap.size + 1 + 1 := by rw [hW1]; simp
    omega)
  have hl1 := hR.len
  have hl2 := hR2.len
  have hrow : ∀ s ∈ m.ser, s.l.length ≤ 100000 := fun s hs => (hL.1 s hs).1
  have hrow2 : ∀ s ∈ m.ite, s.rest.length ≤ 100000 := fun s hs => (hL.2 s hs).1
  have Hps := Lib.hid hps; have His := Lib.hid his; have HR := Lib.hid (hR.new hmw); have HR2 := Lib.hid (hR2.new hmw); have HN := Lib.hid hN; have HW1 := Lib.hid hW1; have HW := Lib.hid hW; have HG0 := Lib.hid hG0; have HG := Lib.hid hG; have HG3 := Lib.hid hG3; have Hmw := Lib.hid hmw; have Hb0 := Lib.hid hb0; have HbG := Lib.hid hbG; have Hb3 := Lib.hid hb3; have Hl1 := Lib.hid hl1; have Hl2 := Lib.hid hl2; have Hrow := Lib.hid hrow; have Hrow2 := Lib.hid hrow2
  have hn1 : n ≤ 1000000 := by omega
  have hn3 : n2 ≤ 1000000 := by omega
  rw [← hN]
  clear hps his hR hR2 hnc hcm hnc2 hcm2 hL hN hW1 hG0 hG hb01 hbG1 hm1 hW hmW hb3 hzW hG3 hb0 hbG hmw hz1 hl1 hl2 hrow hrow2
  go_enter Try.func20, Try.ntmps20
  go_upto_region 1 with fail
  rw [← HW1.out, ← HG.out, ← HG0.out]
  go_upto_region 2 with fail
  rw [← HW.out, ← HG3.out]
  clear z2 HW HW1
  go_wp2_with fail
  go_loopg [4, 5] n (fun k s4 s5 wr => ∃ (i : Nat) (qs : List (SerN × Value)) (Av : Option Addr) (nv cv : Nat), i + k = n ∧ s4 = .int .i64 (i : Int) ∧ Blk wr G3 31 #[.slice Av nv cv, .slice none 0 0, .int .i64 N] ∧ HavSer W.heap.size wr (.slice Av nv cv) qs ∧ qs.map (·.1) = (ps.map (·.1)).take i ∧ Mod (fun j => j = G3) W wr)
  case atStart => exact ⟨0, [], none, 0, 0, by omega, rfl, Hb3.out, HavSer.nil _ _, rfl, Mod.refl _ _⟩
  case round =>
    obtain ⟨i, qs, Av, nv, cv, hik, rfl, hb, hS, hq, hm⟩ := hrel
    have Hik := Lib.hid hik; have Hb := Lib.hid hb; have HS := Lib.hid hS; have Hq := Lib.hid hq; have Hm := Lib.hid hm
    have x0 := (hm.blk Hb0.out (fun e => by have := Hlt.out; omega)).cell 0
    have x1 := (hm.blk Hb0.out (fun e => by have := Hlt.out; omega)).cell 1
    simp at x0 x1
    have hql : qs.length = i := by
      have h1 := congrArg List.length hq
      rw [List.length_map, List.length_take, List.length_map, Hl1.out] at h1
      omega
    have Hql := Lib.hid hql
    have hi1 : i ≤ n := by omega
    clear hik hb hS hq hm hql Hb3
    by_cases hin : i < n
    · have hrw := HR.out.mod Hm.out (by have := Hmw.out.size; omega) (fun j hj e => by have := Hlt.out; omega)
      obtain ⟨ad, s, A5, n5, c5, rfl, _, hp, hrd, _, _, hc0, hc1, hc2, hc3, hc4⟩ := hrw.at_ hin
      have hsl : n5 ≤ 1000000 := by
        have h1 := Hrow.out s (by rw [← Hps.out]; exact List.mem_map.2 ⟨_, List.mem_of_getElem? hp, rfl⟩)
        have h2 := hrd.1
        omega
      obtain ⟨W3, hW3, hm3, hb5, hz3⟩ := Blk.box wr 43 #[.int .i64 s.id, .bool s.sea, .bool s.any, .int .i64 s.last, .slice A5 n5 c5]
      obtain ⟨g5, hg5⟩ : ∃ g, g = wr.heap.size := ⟨_, rfl⟩
      rw [← hg5] at hb5
      have Hp := Lib.hid hp; have Hrd := Lib.hid (hrd.new hm3); have HW3 := Lib.hid hW3; have Hm3 := Lib.hid hm3; have Hb5 := Lib.hid hb5; have Hg5 := Lib.hid hg5
      have hin' : (i : Int) < (n : Int) := by omega
      have hip : (0 : Int) ≤ (i : Int) := by omega
      have y4 := hb5.cell 4
      simp at y4
      have Hown := Lib.hid (own14_any A5 n5 c5 s.l W3 (hrd.new hm3).fit hsl)
      clear hrw hp hrd hW3 hm3 hb5 hz3 hg5 hsl
      go_upto_region 6 with fail
      rw [← HW3.out, ← Hg5.out]
      clear HW3 hc0 hc1 hc2 hc3 hc4
      go_wp2_with fail
      refine Hown.out.mono ?_
      rintro e w4 ⟨v4, rfl, ho4, hm4⟩
      obtain ⟨A6, n6, c6, rfl, _⟩ := ho4.formN
      have hb54 := hm4.blk Hb5.out (fun h => h)
      have p4 := hb54.frozen 4
      have q4 := hb54.cell 4
      simp at q4
      obtain ⟨W5, hW5⟩ : ∃ W5, W5 = w4.setCell ⟨g5, 4, none⟩ (.slice A6 n6 c6) := ⟨_, rfl⟩
      have hb55 : Blk W5 g5 43 #[.int .i64 s.id, .bool s.sea, .bool s.any, .int .i64 s.last, .slice A6 n6 c6] := by rw [hW5]; have h := hb54.set_ 4 (.slice A6 n6 c6); simpa using h
      have hm45 : Mod (fun j => j = g5) w4 W5 := by rw [hW5]; exact (Mod.refl (fun j => j = g5) w4).setCell (p := ⟨g5, 4, none⟩) (fun _ => rfl) _
      have hm5 : Mod (fun _ => False) wr W5 := (Hm3.out.trans hm4 (fun _ _ h => h)).own hm45 (by have := Hg5.out; omega)
      have ho5 : OwnS W3.heap.size W5 (.slice A6 n6 c6) s.l := OwnS.besideB ho4 hb54 (by decide) hm45
      have hb35 := hm5.blk Hb.out (fun h => h)
      have Hm5 := Lib.hid hm5; have HW5 := Lib.hid hW5; have Ho5 := Lib.hid (SliH.of_own (ho5.mono (show W.heap.size ≤ W3.heap.size by have := Hm.out.size; have := Hm3.out.size; omega)))
      have HS5 := Lib.hid (HS.out.new hm5); have Hb35 := Lib.hid hb35
      clear ho4 hm4 hb54 hW5 hm45 hm5 ho5 hb35 y4
      go_upto_region 7 with fail
      rw [← HW5.out]
      clear HW5 p4 q4
      have t0 := hb55.cell 0
      have t1 := hb55.cell 1
      have t2 := hb55.cell 2
      have t3 := hb55.cell 3
      have t4 := hb55.cell 4
      simp at t0 t1 t2 t3 t4
      have k0 := Hb35.out.cell 0
      simp at k0
      have hrl : ((qs.map serC).length) + 1 ≤ maxLen := by rw [List.length_map, Hql.out]; unfold maxLen; omega
      have hrb : ((qs.map serC).length + 1) * 48 ≤ 140737488355328 := by rw [List.length_map, Hql.out]; omega
      have hszB : W.heap.size ≤ W5.heap.size := Nat.le_trans Hm.out.size Hm5.out.size
      have hone := serC_cells s (.slice A6 n6 c6) ⟨_, _, _, rfl⟩
      have Hone := Lib.hid hone
      clear hb55 hone
      go_wp2_with (at_builtin; refine wpList_appK1g (v := .slice Av nv cv) (r := serC (s, .slice A6 n6 c6)) rfl (.tmp 27) (.tmp 29) _ rfl eltSer rfl HS5.out.1 rfl rfl rfl Hone.out hrl hrb hszB ?_; intro v6 w6 HO HMo HOb; obtain ⟨A7, n7, c7, rfl, _⟩ := HO.out.formN; have hb36 := HMo.out.blk Hb35.out (ownK_ne HS5.out.1 Hb35.out (by decide)); have hS6 := HS5.out.snoc HO.out HMo.out Ho5.out; have k0 := hb36.cell 0; have f0 := hb36.frozen 0; simp at k0; have HS6 := Lib.hid hS6; have Hb36 := Lib.hid hb36; clear hb36 hS6)
      go_roundg (gk - 1)
      case measure => have := Hik.out; omega
      case rel =>
        have h1 := Hb36.out.set_ 0 (.slice A7 n7 c7)
        have hmc : Mod (fun j => j = G3) w6 (w6.setCell ⟨G3, 0, none⟩ (.slice A7 n7 c7)) := (Mod.refl (fun j => j = G3) w6).setCell (p := ⟨G3, 0, none⟩) (fun _ => rfl) _
        refine ⟨i + 1, qs ++ [(s, .slice A6 n6 c6)], A7, n7, c7, by have := Hik.out; omega, by go_num, by simpa using h1, HS6.out.modT hmc (fun k cs hb e => by rw [e] at hb; exact Blk.ne_ Hb36.out hb (by decide) rfl) (fun k cs hb e => by rw [e] at hb; exact Blk.ne_ Hb36.out hb (by decide) rfl), ?_, ?_⟩
        · rw [List.map_append, Hq.out, take_succ_map (·.1) Hp.out]
          rfl
        · have h2 : Mod (fun j => j = G3) W W5 := Hm.out.trans Hm5.out (fun _ _ h => h.elim)
          have h3 : Mod (fun j => j = G3) W w6 := h2.trans HMo.out (fun j hj e => by
            have h4 := (HS5.out.1.block j e).1
            omega)
          exact h3.trans hmc (fun _ _ h => h)
    · have hin' : ¬ (i : Int) < (n : Int) := by omega
      have hin2 : i = n := by omega
      have hq2 : qs.map (·.1) = ps.map (·.1) := by rw [Hq.out, List.take_of_length_le (by rw [List.length_map, Hl1.out]; omega)]
      have Hq2 := Lib.hid hq2
      obtain ⟨wB, rfl⟩ : ∃ wB : World, wB = wr := ⟨_, rfl⟩
      obtain ⟨qsB, hqsB⟩ : ∃ q, q = qs := ⟨_, rfl⟩
      clear hq2 Hq Hql hin hin2
      go_wp2_with fail
      go_loopg [6] n2 (fun k s6 wr => ∃ (i : Nat) (js : List (IteN × Value)) (Aw : Option Addr) (nw cw : Nat), i + k = n2 ∧ s6 = .int .i64 (i : Int) ∧ Blk wr G3 31 #[.slice Av nv cv, .slice Aw nw cw, .int .i64 N] ∧ HavSer W.heap.size wr (.slice Av nv cv) qs ∧ HavIte W.heap.size wr (.slice Aw nw cw) js ∧ js.map (·.1) = (is.map (·.1)).take i ∧ Mod (fun j => j = G3) W wr)
      case atStart => exact ⟨0, [], none, 0, 0, by omega, rfl, Hb.out, HS.out, HavIte.nil _ _, rfl, Hm.out⟩
      case round =>
        clear Hb HS Hm Hik hi1
        obtain ⟨i, js, Aw, nw, cw, hik, rfl, hb, hS, hI, hq, hm⟩ := hrel
        have Hik := Lib.hid hik; have Hb := Lib.hid hb; have HS := Lib.hid hS; have HI := Lib.hid hI; have Hq := Lib.hid hq; have Hm := Lib.hid hm
        have x1 := (hm.blk Hb0.out (fun e => by have := Hlt.out; omega)).cell 1
        simp at x1
        have hql : js.length = i := by
          have h1 := congrArg List.length hq
          rw [List.length_map, List.length_take, List.length_map, Hl2.out] at h1
          omega
        have Hql := Lib.hid hql
        have hi1 : i ≤ n2 := by omega
        clear hik hb hS hI hq hm hql
        by_cases hin : i < n2
        · have hrw := HR2.out.mod Hm.out (by have := Hmw.out.size; omega) (fun j hj e => by have := Hlt.out; omega)
          obtain ⟨ad, s, A5, n5, c5, rfl, hadb, hp, hrd, _, _, hc0, hc1⟩ := hrw.at_ hin
          have hsl : n5 ≤ 1000000 := by
            have h1 := Hrow2.out s (by rw [← His.out]; exact List.mem_map.2 ⟨_, List.mem_of_getElem? hp, rfl⟩)
            have h2 := hrd.1
            omega
          have hadr : ad.block < wr.heap.size := by have := Hm.out.size; have := Hmw.out.size; omega
          have hown0 : ∀ k, (Value.slice Aw nw cw).ownBlock = some k → W.heap.size ≤ k := fun k hk => (HI.out.1.block k hk).1
          have HX : Hid (∀ W' : World, Mod (fun j => (Value.slice Aw nw cw).ownBlock = some j) wr W' → W'.cell? ⟨G3, 1, none⟩ = some (.slice Aw nw cw) ∧ W'.cell? ⟨G0, 1, none⟩ = some (.slice (some ad) n2 c2) ∧ W'.cell? (ad.add (i * 2)) = some (.int .i64 s.id) ∧ W'.cell? ⟨(ad.add (i * 2)).block, (ad.add (i * 2)).off + 1, none⟩ = some (.slice A5 n5 c5)) := Lib.hid (fun W' h => by
            have h1 := (h.blk Hb.out (fun e => by have := hown0 _ e; have := Hlt.out; omega)).cell 1
            have hg0 : G0 < wr.heap.size := by have := Hm.out.size; have := Hlt.out; omega
            have h2 := (h.cell (a := ⟨G0, 1, none⟩) hg0 (fun e => by have := hown0 G0 e; have := Hlt.out; omega)).trans x1
            simp at h1
            have hna : ∀ k, k = (ad.add (i * 2)).block → ¬ (Value.slice Aw nw cw).ownBlock = some k := fun k hk e => by
              have h3 := hown0 _ e
              rw [hk, add_block] at h3
              have := Hmw.out.size
              omega
            exact ⟨h1, h2, (h.cell (by show (Addr.add _ _).block < _; rw [add_block]; exact hadr) (hna _ rfl)).trans hc0, (h.cell (a := ⟨(ad.add (i * 2)).block, (ad.add (i * 2)).off + 1, none⟩) (by show (Addr.add _ _).block < _; rw [add_block]; exact hadr) (hna _ rfl)).trans hc1⟩)
          have Hown : Hid (Calls Try.prog 24 #[.slice A5 n5 c5] wr.drew fun e w' => ∃ A6 n6 c6, e = .returned (.slice A6 n6 c6) ∧ SliH W.heap.size w' (.slice A6 n6 c6) s.rest ∧ Mod (fun _ => False) wr w') := Lib.hid (by
            refine (own14_any A5 n5 c5 s.rest wr.drew hrd.fit hsl).mono ?_
            rintro e w4 ⟨v4, rfl, ho4, hm4⟩
            obtain ⟨A6, n6, c6, rfl, _⟩ := ho4.formN
            exact ⟨A6, n6, c6, rfl, SliH.of_own (ho4.mono (by show W.heap.size ≤ wr.heap.size; exact Hm.out.size)), (Mod.refl _ wr).drew.trans hm4 (fun _ _ h => h)⟩)
          have Hp := Lib.hid hp
          have hin' : (i : Int) < (n2 : Int) := by omega
          have hip : (0 : Int) ≤ (i : Int) := by omega
          have hrl : ((js.map iteC).length) + 1 ≤ maxLen := by rw [List.length_map, Hql.out]; unfold maxLen; omega
          have hrb : ((js.map iteC).length + 1) * 32 ≤ 140737488355328 := by rw [List.length_map, Hql.out]; omega
          have hszB : W.heap.size ≤ wr.heap.size := Hm.out.size
          clear hrw hp hrd hsl hadb hadr hc0 hc1 hown0
          go_upto_region 11 with fail
          clear x1
          refine wp_region_T (fun W' => W'.cell? ⟨G3, 1, none⟩ = some (.slice Aw nw cw) ∧ W'.cell? ⟨G0, 1, none⟩ = some (.slice (some ad) n2 c2) ∧ W'.cell? (ad.add (i * 2)) = some (.int .i64 s.id) ∧ W'.cell? ⟨(ad.add (i * 2)).block, (ad.add (i * 2)).off + 1, none⟩ = some (.slice A5 n5 c5)) 18 (by kernel_rfl) (HX.out _ (Mod.refl _ wr).drew) (fun hHeld => ?_)
          refine wpAnyT_take (i := 0) (v := ?_) rfl (by decide) (by kernel_rfl) (by kernel_rfl) (by kernel_rfl) (by kernel_rfl) (fun _ _ _ h => h) (Or.inl ⟨by rfl, ?_⟩) hHeld ?_
          rotate_left
          · (intro w hSw; (try dsimp only at hSw); go_simp; first | done | with_reducible rfl)
          simp only [Act.put, List.setIfInBounds_toArray, List.set_cons_zero, List.set_cons_succ]
          refine wpAnyT_take (i := 1) (v := ?_) rfl (by decide) (by kernel_rfl) (by kernel_rfl) (by kernel_rfl) (by kernel_rfl) (fun _ _ _ h => h) (Or.inl ⟨by rfl, ?_⟩) hHeld ?_
          rotate_left
          · (intro w hSw; (try dsimp only at hSw); go_simp; first | done | with_reducible rfl)
          simp only [Act.put, List.setIfInBounds_toArray, List.set_cons_zero, List.set_cons_succ]
          refine wpAnyT_take (i := 2) (v := ?_) rfl (by decide) (by kernel_rfl) (by kernel_rfl) (by kernel_rfl) (by kernel_rfl) (fun _ _ _ h => h) (Or.inl ⟨by rfl, ?_⟩) hHeld ?_
          rotate_left
          · (intro w hSw; (try dsimp only at hSw); go_simp; first | done | with_reducible rfl)
          simp only [Act.put, List.setIfInBounds_toArray, List.set_cons_zero, List.set_cons_succ]
          refine wpAnyT_take (i := 3) (v := ?_) rfl (by decide) (by kernel_rfl) (by kernel_rfl) (by kernel_rfl) (by kernel_rfl) (fun _ _ _ h => h) (Or.inl ⟨by rfl, ?_⟩) hHeld ?_
          rotate_left
          · (intro w hSw; (try dsimp only at hSw); go_simp; first | done | with_reducible rfl)
          simp only [Act.put, List.setIfInBounds_toArray, List.set_cons_zero, List.set_cons_succ]
          refine wpAnyT_take (i := 4) (v := ?_) rfl (by decide) (by kernel_rfl) (by kernel_rfl) (by kernel_rfl) (by kernel_rfl) (fun _ _ _ h => h) (Or.inl ⟨by rfl, ?_⟩) hHeld ?_
          rotate_left
          · (intro w hSw; (try dsimp only at hSw); go_simp; first | done | with_reducible rfl)
          simp only [Act.put, List.setIfInBounds_toArray, List.set_cons_zero, List.set_cons_succ]
          refine wpAnyT_take (i := 5) (v := ?_) rfl (by decide) (by kernel_rfl) (by kernel_rfl) (by kernel_rfl) (by kernel_rfl) (fun _ _ _ h => h) (Or.inl ⟨by rfl, ?_⟩) hHeld ?_
          rotate_left
          · (intro w hSw; (try dsimp only at hSw); go_simp; first | done | with_reducible rfl)
          simp only [Act.put, List.setIfInBounds_toArray, List.set_cons_zero, List.set_cons_succ]
          refine wpAnyT_take (i := 6) (v := ?_) rfl (by decide) (by kernel_rfl) (by kernel_rfl) (by kernel_rfl) (by kernel_rfl) (fun _ _ _ h => h) (Or.inl ⟨by rfl, ?_⟩) hHeld ?_
          rotate_left
          · (intro w hSw; (try dsimp only at hSw); go_simp; first | done | with_reducible rfl)
          simp only [Act.put, List.setIfInBounds_toArray, List.set_cons_zero, List.set_cons_succ]
          refine wpAnyT_take (i := 7) (v := ?_) rfl (by decide) (by kernel_rfl) (by kernel_rfl) (by kernel_rfl) (by kernel_rfl) (fun _ _ _ h => h) (Or.inl ⟨by rfl, ?_⟩) hHeld ?_
          rotate_left
          · (intro w hSw; (try dsimp only at hSw); go_simp; first | done | with_reducible rfl)
          simp only [Act.put, List.setIfInBounds_toArray, List.set_cons_zero, List.set_cons_succ]
          refine wpAnyT_take (i := 8) (v := ?_) rfl (by decide) (by kernel_rfl) (by kernel_rfl) (by kernel_rfl) (by kernel_rfl) (fun _ _ _ h => h) (Or.inl ⟨by rfl, ?_⟩) hHeld ?_
          rotate_left
          · (intro w hSw; (try dsimp only at hSw); go_simp; first | done | with_reducible rfl)
          simp only [Act.put, List.setIfInBounds_toArray, List.set_cons_zero, List.set_cons_succ]
          refine wpAnyT_take (i := 9) (v := ?_) rfl (by decide) (by kernel_rfl) (by kernel_rfl) (by kernel_rfl) (by kernel_rfl) (fun _ _ _ h => h) (Or.inl ⟨by rfl, ?_⟩) hHeld ?_
          rotate_left
          · (intro w hSw; (try dsimp only at hSw); go_simp; first | done | with_reducible rfl)
          simp only [Act.put, List.setIfInBounds_toArray, List.set_cons_zero, List.set_cons_succ]
          refine wpAnyT_take (i := 10) (v := ?_) rfl (by decide) (by kernel_rfl) (by kernel_rfl) (by kernel_rfl) (by kernel_rfl) (fun _ _ _ h => h) (Or.inl ⟨by rfl, ?_⟩) hHeld ?_
          rotate_left
          · (intro w hSw; (try dsimp only at hSw); go_simp; first | done | with_reducible rfl)
          simp only [Act.put, List.setIfInBounds_toArray, List.set_cons_zero, List.set_cons_succ]
          refine wpAnyT_take (i := 11) (v := ?_) rfl (by decide) (by kernel_rfl) (by kernel_rfl) (by kernel_rfl) (by kernel_rfl) (fun _ _ _ h => h) (Or.inl ⟨by rfl, ?_⟩) hHeld ?_
          rotate_left
          · (intro w hSw; (try dsimp only at hSw); go_simp; first | done | with_reducible rfl)
          simp only [Act.put, List.setIfInBounds_toArray, List.set_cons_zero, List.set_cons_succ]
          refine wpAnyT_take (i := 12) (v := ?_) rfl (by decide) (by kernel_rfl) (by kernel_rfl) (by kernel_rfl) (by kernel_rfl) (fun _ _ _ h => h) (Or.inl ⟨by rfl, ?_⟩) hHeld ?_
          rotate_left
          · (intro w hSw; (try dsimp only at hSw); go_simp; first | done | with_reducible rfl)
          simp only [Act.put, List.setIfInBounds_toArray, List.set_cons_zero, List.set_cons_succ]
          refine wpAnyT_take (i := 13) (v := ?_) rfl (by decide) (by kernel_rfl) (by kernel_rfl) (by kernel_rfl) (by kernel_rfl) (fun _ _ _ h => h) (Or.inl ⟨by rfl, ?_⟩) hHeld ?_
          rotate_left
          · (intro w hSw; (try dsimp only at hSw); go_simp; first | done | with_reducible rfl)
          simp only [Act.put, List.setIfInBounds_toArray, List.set_cons_zero, List.set_cons_succ]
          refine wpAnyT_ready (rs := [14]) (by kernel_rfl) (by simp) (AllReadyT.cons rfl (fun K hK => ?_) AllReadyT.nil)
          go_simp
          go_at_call 24
          refine Hown.out.mono ?_
          rintro e w4 ⟨A6, n6, c6, rfl, ho4, hm4⟩
          go_simp
          refine hK.out _ _ (HX.out _ (hm4.mono (fun _ _ h => h.elim))) (fun hHeld => ?_)
          clear hK K
          refine wpAnyT_take (i := 15) (v := ?_) rfl (by decide) (by kernel_rfl) (by kernel_rfl) (by kernel_rfl) (by kernel_rfl) (fun _ _ _ h => h) (Or.inl ⟨by rfl, ?_⟩) hHeld ?_
          rotate_left
          · (intro w hSw; (try dsimp only at hSw); go_simp; first | done | with_reducible rfl)
          simp only [Act.put, List.setIfInBounds_toArray, List.set_cons_zero, List.set_cons_succ]
          refine wpAnyT_ready (rs := [16]) (by kernel_rfl) (by simp) (AllReadyT.cons rfl (fun K hK => ?_) AllReadyT.nil)
          go_simp
          refine hK.out _ _ (HX.out _ ((hm4.alloc _).mono (fun _ _ h => h.elim))) (fun hHeld => ?_)
          clear hK K
          have HM4 := Lib.hid (hm4.alloc (.cells #[.int .i64 s.id, .slice A6 n6 c6] 50))
          have HI4 := Lib.hid (HI.out.new HM4.out)
          have hszB4 : W.heap.size ≤ (w4.alloc (.cells #[.int .i64 s.id, .slice A6 n6 c6] 50)).heap.size := Nat.le_trans hszB HM4.out.size
          have Hone := Lib.hid (iteC_cells s (.slice A6 n6 c6) ⟨_, _, _, rfl⟩)
          refine wpAnyT_ready (rs := [17]) (by kernel_rfl) (by simp) (AllReadyT.cons rfl (fun K hK => ?_) AllReadyT.nil)
          refine step_appK (v := .slice Aw nw cw) (news := [iteC (s, .slice A6 n6 c6)]) rfl (.tmp 40) (.tmp 55) _ rfl eltIte rfl HI4.out.1 rfl (RdsK.lit1 w4 50 (iteC (s, .slice A6 n6 c6))) (by simpa using Hone.out) hrl hrb hszB4 ?_
          intro v6 w6 HO HMo HOb
          obtain ⟨A7, n7, c7, rfl, _⟩ := HO.out.formN
          have hm6 : Mod (fun j => (Value.slice Aw nw cw).ownBlock = some j) wr w6 := (HM4.out.mono (fun _ _ h => h.elim)).trans HMo.out (fun _ _ h => h)
          have hlow : ∀ k, (Value.slice Aw nw cw).ownBlock = some k → W.heap.size ≤ k := fun k hk => (HI.out.1.block k hk).1
          have hb36 := hm6.blk Hb.out (fun e => by have := hlow _ e; have := Hlt.out; omega)
          have k1 := hb36.cell 1
          have f1 := hb36.frozen 1
          simp at k1
          refine hK.out _ _ (HX.out _ hm6) (fun hHeld => ?_)
          clear hK K hHeld
          have HS6 := Lib.hid (HS.out.modT hm6 (fun k cs hb e => by obtain ⟨cs', hcs⟩ := own_blk HI.out.1 k e; exact Blk.ne_ hb hcs (by decide) rfl) (fun k cs hb e => by obtain ⟨cs', hcs⟩ := own_blk HI.out.1 k e; exact Blk.ne_ hb hcs (by decide) rfl))
          have HI6 := Lib.hid (HI4.out.snoc HO.out HMo.out (ho4.new ((Mod.refl _ w4).alloc _)))
          have Hm6 := Lib.hid (Hm.out.trans hm6 (fun j hj e => by have := hlow j e; omega)); have Hb36 := Lib.hid hb36
          clear hm6 hlow hb36 ho4 hm4
          refine wpAnyT_rest (by kernel_rfl) ?_
          refine wpAny_take (i := 18) (v := ?_) rfl (by kernel_rfl) (by kernel_rfl) (by kernel_rfl) (fun _ _ _ h => h) (Or.inl ⟨by rfl, ?_⟩) ?_
          rotate_left
          · (intro w; go_simp; first | done | with_reducible rfl)
          simp only [Act.put, List.setIfInBounds_toArray, List.set_cons_zero, List.set_cons_succ]
          refine wpAny_ready (rs := [19]) (by kernel_rfl) (by simp) (AllReady.cons rfl (fun K hK => ?_) AllReady.nil)
          go_simp
          refine hK _ _ ?_
          clear hK K
          refine wpAny_done (by kernel_rfl) ?_ _
          go_wp2_with fail
          go_roundg (gk - 1)
          case measure => have := Hik.out; omega
          case rel =>
            have h1 := Hb36.out.set_ 1 (.slice A7 n7 c7)
            have hmc : Mod (fun j => j = G3) w6 (w6.setCell ⟨G3, 1, none⟩ (.slice A7 n7 c7)) := (Mod.refl (fun j => j = G3) w6).setCell (p := ⟨G3, 1, none⟩) (fun _ => rfl) _
            refine ⟨i + 1, js ++ [(s, .slice A6 n6 c6)], A7, n7, c7, by have := Hik.out; omega, by go_num, by simpa using h1, HS6.out.modT hmc (fun k cs hb e => by rw [e] at hb; exact Blk.ne_ Hb36.out hb (by decide) rfl) (fun k cs hb e => by rw [e] at hb; exact Blk.ne_ Hb36.out hb (by decide) rfl), HI6.out.modT hmc (fun k cs hb e => by rw [e] at hb; exact Blk.ne_ Hb36.out hb (by decide) rfl) (fun k cs hb e => by rw [e] at hb; exact Blk.ne_ Hb36.out hb (by decide) rfl), ?_, Hm6.out.trans hmc (fun _ _ h => h)⟩
            rw [List.map_append, Hq.out, take_succ_map (·.1) Hp.out]
            rfl
        · have hin' : ¬ (i : Int) < (n2 : Int) := by omega
          have hq3 : js.map (·.1) = is.map (·.1) := by rw [Hq.out, List.take_of_length_le (by rw [List.length_map, Hl2.out]; omega)]
          have hrb := Hm.out.blk HbG.out (fun e => by have := Hlt.out; omega)
          have c0 := Hb.out.cell 0
          have c1 := Hb.out.cell 1
          have c2_ := Hb.out.cell 2
          have r0 := hrb.cell 0
          have r1 := hrb.cell 1
          have r2 := hrb.cell 2
          have f0 := hrb.frozen 0
          have f1 := hrb.frozen 1
          have f2 := hrb.frozen 2
          simp at c0 c1 c2_ r0 r1 r2
          have Hrb := Lib.hid hrb
          have Hfin : Hid (HavM W.heap.size wr (.slice Av nv cv) (.slice Aw nw cw) m) := Lib.hid ⟨qs, js, by rw [Hq2.out, Hps.out], by rw [hq3, His.out], HS.out, HI.out⟩
          have hne9 : ¬ G3 = G := by have := Hlt.out; omega
          have hne8 : ¬ G = G3 := fun h => hne9 h.symm
          clear hq3 hrb
          go_wp2_with fail
          refine bodyPost_ret (v := .agg #[.slice Av nv cv, .slice Aw nw cw, .int .i64 N]) (by have h := Hrb.out.three (.slice Av nv cv) (.slice Aw nw cw) (.int .i64 N); simp [results, Try.results20, go_sem, h.1, h.2.1, h.2.2.1]) rfl ?_
          have h3 := Mod.three_one wr G (.slice Av nv cv) (.slice Aw nw cw) (.int .i64 N)
          refine ⟨_, _, rfl, (Hfin.out.far h3 (Far.one Hrb.out (by decide) (by decide) (by decide))).mono Hmw.out.size, ?_⟩
          have h4 := ((Hmw.out.mono (fun _ _ h => h.elim) : Mod (fun j => w.heap.size ≤ j) w W).trans Hm.out (fun j _ e => by have := Hlt.out; omega)).trans h3 (fun j _ e => by have := Hlt.out; omega)
          exact h4.mono (fun j hj h => by omega)
end Go.Proofs.Ytejnhdenehkpmaa

/- begun, as the document has it. -/
namespace Go.Proofs.Ytejnhdenehkpmaa
open Go.RowKit

def newS (id : Int) : SerN × Value := (⟨id, false, false, 0, []⟩, .slice none 0 0)
theorem begunS_here {id : Int} {ss : List SerN} {s : SerN} (h : ss[cutS id ss]? = some s) (hs : s.id = id) : begunS id ss = ss := by
  unfold begunS
  rw [h]
  simp only
  rw [if_pos hs]
theorem begunS_new {id : Int} {ss : List SerN} (h : ∀ s, ss[cutS id ss]? = some s → s.id ≠ id) : begunS id ss = ss.take (cutS id ss) ++ [⟨id, false, false, 0, []⟩] ++ ss.drop (cutS id ss) := by
  unfold begunS
  cases hc : ss[cutS id ss]? with
  | none => simp
  | some s =>
    simp only
    rw [if_neg (h s hc)]
    simp
set_option linter.unusedSimpArgs false in
set_option maxHeartbeats 2000000 in
set_option maxRecDepth 100000 in
theorem rbegun_any (B : Nat) (A : Option Addr) (n c : Nat) (v2 : Value) (N : Int) (ps : List (SerN × Value)) (id : Int) (w : World) (hS : HavSer B w (.slice A n c) ps) (hB : B ≤ w.heap.size) (hn : n ≤ 1000) (hv2 : ∃ A2 n2 c2, v2 = .slice A2 n2 c2) :
    Calls Try.prog 23 #[.agg #[.slice A n c, v2, .int .i64 N], .int .i64 id] w fun e w' => ∃ (A' : Option Addr) (n' c' : Nat) (ps' : List (SerN × Value)) (k : Nat), e = .returned (.tuple #[.agg #[.slice A' n' c', v2, .int .i64 N], .int .i64 (k : Int)]) ∧ HavSer B w' (.slice A' n' c') ps' ∧ ps'.map (·.1) = begunS id (ps.map (·.1)) ∧ k = cutS id (ps.map (·.1)) ∧ Mod (fun _ => False) w w' := by
  obtain ⟨A2, n2, c2, rfl⟩ := hv2
  obtain ⟨A', c', e0, hnc, hcm, hR⟩ := hS.form
  injection e0 with e1 e2 e3
  subst e1 e2 e3
  obtain ⟨n, hnn⟩ : ∃ n, n = ps.length := ⟨_, rfl⟩
  rw [← hnn] at hS hnc hR hn ⊢
  obtain ⟨W, hW⟩ : ∃ W, W = (w.alloc (.cells #[.slice A n c, .slice A2 n2 c2, .int .i64 N] 31)).alloc (.cells #[.slice none 0 0, .slice none 0 0, .int .i64 0] 31) := ⟨_, rfl⟩
  obtain ⟨G0, hG0⟩ : ∃ g, g = w.heap.size := ⟨_, rfl⟩
  obtain ⟨G, hG⟩ : ∃ g, g = w.heap.size + 1 := ⟨_, rfl⟩
  have hb0 : Blk W G0 31 #[.slice A n c, .slice A2 n2 c2, .int .i64 N] := by rw [hW, hG0]; exact (Blk.new _ _ _).alloc _
  have hbG : Blk W G 31 #[.slice none 0 0, .slice none 0 0, .int .i64 0] := by
    rw [hW, hG]
    have h := Blk.new (w.alloc (.cells #[.slice A n c, .slice A2 n2 c2, .int .i64 N] 31)) 31 #[.slice none 0 0, .slice none 0 0, .int .i64 0]
    simpa using h
  have hmW : Mod (fun _ => False) w W := by rw [hW]; exact ((Mod.refl _ _).alloc _).alloc _
  obtain ⟨ss, hss⟩ : ∃ ss, ss = ps.map (·.1) := ⟨_, rfl⟩
  have hsl : ss.length = n := by rw [hss, List.length_map, hnn]
  have Hss := Lib.hid hss; have Hsl := Lib.hid hsl; have HW := Lib.hid hW; have HG0 := Lib.hid hG0; have HG := Lib.hid hG; have Hb0 := Lib.hid hb0; have HbG := Lib.hid hbG; have HmW := Lib.hid hmW; have HR := Lib.hid (hR.new hmW); have HS := Lib.hid (hS.new hmW); have Hnn := Lib.hid hnn; have HBW : Hid (B ≤ W.heap.size) := Lib.hid (Nat.le_trans hB hmW.size)
  have hneG : ¬ G = G0 := by omega
  have hneG2 : ¬ G0 = G := fun h => hneG h.symm
  rw [← hss]
  clear hss hsl hW hG0 hG hb0 hbG hmW hR hS hnn hB
  go_enter Try.func23, Try.ntmps23
  go_upto_region 1 with fail
  rw [← HW.out, ← HG.out, ← HG0.out]
  go_upto_block 0 with fail
  go_cut [6] (fun s6 wc => ∃ i : Nat, s6 = .int .i64 (i : Int) ∧ i ≤ n ∧ (∀ (j : Nat) (q : SerN), j < i → ss[j]? = some q → q.id < id) ∧ (i = n ∨ ∃ s, ss[i]? = some s ∧ ¬ s.id < id) ∧ Mod (fun _ => False) W wc)
  case first =>
    go_wp2_with fail
    go_loopg [6] n (fun k s6 wr => ∃ i : Nat, i + k = n ∧ s6 = .int .i64 (i : Int) ∧ (∀ (j : Nat) (q : SerN), j < i → ss[j]? = some q → q.id < id) ∧ Mod (fun _ => False) W wr)
    case atStart => exact ⟨0, by omega, rfl, (fun j q h => by omega), Mod.refl _ _⟩
    case round =>
      obtain ⟨i, hik, rfl, hr, hm⟩ := hrel
      have x0 := (hm.blk Hb0.out (fun h => h)).cell 0
      simp at x0
      have Hik := Lib.hid hik; have Hr := Lib.hid hr; have Hm := Lib.hid hm
      have hi1 : i ≤ n := by omega
      clear hik hr hm
      by_cases hin : i < n
      · obtain ⟨ad, s, A5, n5, c5, rfl, _, hp, _, _, _, hc0, hc1, hc2, hc3, hc4⟩ := (HR.out.new Hm.out).at_ hin
        have Hp : Hid (ss[i]? = some s) := Lib.hid (by rw [Hss.out, List.getElem?_map, hp]; rfl)
        have hin' : (i : Int) < (n : Int) := by omega
        clear hp hc1 hc2 hc3 hc4
        by_cases he : s.id < id
        · have He := Lib.hid he
          go_wp2_with fail
          go_roundg (gk - 1)
          case measure => have := Hik.out; omega
          case rel => exact ⟨i + 1, by have := Hik.out; omega, by go_num, (fun j q hj hq => by
            rcases Nat.lt_or_ge j i with h | h
            · exact Hr.out j q h hq
            · obtain rfl : j = i := by omega
              rw [Hp.out] at hq
              rw [← Option.some.inj hq]
              exact He.out), Hm.out⟩
        · have He := Lib.hid he
          go_wp2_with fail
          go_meet
          case rel => exact ⟨i, rfl, hi1, Hr.out, .inr ⟨s, Hp.out, He.out⟩, Hm.out⟩
      · have hin' : ¬ (i : Int) < (n : Int) := by omega
        go_wp2_with fail
        go_meet
        case rel => exact ⟨i, rfl, hi1, Hr.out, .inl (by have := Hik.out; omega), Hm.out⟩
  case rest =>
    obtain ⟨i, rfl, hi1, hr, hend, hm⟩ := hcut
    obtain ⟨w0, rfl⟩ : ∃ w0 : World, w0 = wc := ⟨_, rfl⟩
    have hcut : cutS id ss = i := cutS_of hr (hend.imp (fun h => by rw [Hsl.out]; exact h) (fun h => h)) (by rw [Hsl.out]; exact hi1)
    have x0 := (hm.blk Hb0.out (fun h => h)).cell 0
    have x1 := (hm.blk Hb0.out (fun h => h)).cell 1
    have x2 := (hm.blk Hb0.out (fun h => h)).cell 2
    simp at x0 x1 x2
    have Hcut := Lib.hid hcut; have Hm := Lib.hid hm
    clear hcut hr hm
    go_upto_region 4 with fail
    go_cut [39] (fun s39 wx => ∃ b : Bool, s39 = .bool b ∧ (b = true ↔ ∃ s, ss[i]? = some s ∧ s.id = id) ∧ wx = w0)
    case first =>
      by_cases hin : i < n
      · obtain ⟨ad, s, A5, n5, c5, rfl, _, hp, _, _, _, hc0, hc1, hc2, hc3, hc4⟩ := (HR.out.new Hm.out).at_ hin
        have Hp : Hid (ss[i]? = some s) := Lib.hid (by rw [Hss.out, List.getElem?_map, hp]; rfl)
        have hin' : (i : Int) < (n : Int) := by omega
        clear hp hc1 hc2 hc3 hc4 hend
        go_wp2_with fail
        go_meet
        case rel => exact ⟨_, rfl, by rw [Hp.out]; simp, rfl⟩
      · have hin' : ¬ (i : Int) < (n : Int) := by omega
        have Hno : Hid (ss[i]? = none) := Lib.hid (List.getElem?_eq_none (by rw [Hsl.out]; omega))
        clear hend
        go_wp2_with fail
        go_meet
        case rel => exact ⟨false, by simp, by rw [Hno.out]; simp, rfl⟩
    case rest =>
      obtain ⟨b, rfl, hb, hwc⟩ := hcut
      rw [hwc]
      clear hwc hend
      have Hb := Lib.hid hb
      clear hb
      cases b with
      | true =>
        have hrb := Hm.out.blk HbG.out (fun h => h)
        have r0 := hrb.cell 0
        have r1 := hrb.cell 1
        have r2 := hrb.cell 2
        simp at r0 r1 r2
        have f0 := hrb.frozen 0
        have f1 := hrb.frozen 1
        have f2 := hrb.frozen 2
        have Hrb := Lib.hid hrb
        clear hrb
        go_wp2_with fail
        refine bodyPost_ret (v := .tuple #[.agg #[.slice A n c, .slice A2 n2 c2, .int .i64 N], .int .i64 (i : Int)]) (by have h := Hrb.out.three (.slice A n c) (.slice A2 n2 c2) (.int .i64 N); simp [results, Try.results23, go_sem, h.1, h.2.1, h.2.2.1]) rfl ?_
        obtain ⟨s, hs1, hs2⟩ : ∃ s, ss[i]? = some s ∧ s.id = id := by simpa using Hb.out
        have h3 := Mod.three_one w0 G (.slice A n c) (.slice A2 n2 c2) (.int .i64 N)
        exact ⟨A, n, c, ps, i, rfl, (HS.out.new Hm.out).far h3 (Far.one Hrb.out (by decide) (by decide) (by decide)), by rw [begunS_here (by rw [Hcut.out]; exact hs1) hs2, Hss.out], Hcut.out.symm, (HmW.out.trans Hm.out (fun _ _ h => h)).own (g := G) h3 (by have := HG.out; omega)⟩
      | false =>
        have hno : ∀ s, ss[cutS id ss]? = some s → s.id ≠ id := fun s hs e => by
          rw [Hcut.out] at hs
          have h := Hb.out
          simp at h
          exact h s hs e
        have Hno := Lib.hid hno
        have hRw := HR.out.new Hm.out
        have hSw := HS.out.new Hm.out
        have Htk := Lib.hid (hRw.take hi1).1.fit
        have hic : (i : Int) ≤ (c : Int) := by omega
        have hin : (i : Int) ≤ (n : Int) := by omega
        have hip : (0 : Int) ≤ (i : Int) := by omega
        have hnc' : (n : Int) ≤ (c : Int) := by omega
        have HSw := Lib.hid hSw; have HRw := Lib.hid hRw
        have Hb0c := Lib.hid (Hm.out.blk Hb0.out (fun h => h))
        have hone1 : ∀ u ∈ ((ps.take i).map serC).flatten, u.oneCell' = true := serC_one (fun p hp => HSw.out.2 p (List.mem_of_mem_take hp))
        have hone2 : ∀ u ∈ ((ps.drop i).map serC).flatten, u.oneCell' = true := serC_one (fun p hp => HSw.out.2 p (List.mem_of_mem_drop hp))
        have Hone1 := Lib.hid hone1; have Hone2 := Lib.hid hone2
        have hr1 : ([] : List (List Value)).length + i ≤ maxLen := by unfold maxLen; simp; omega
        have hr2 : (([] : List (List Value)).length + i) * 48 ≤ 140737488355328 := by simp; omega
        have hBc : B ≤ w0.heap.size := Nat.le_trans HBW.out Hm.out.size
        have Hlit : Hid (OwnK 5 w0.heap.size (w0.alloc (.cells #[] 43)) 43 (.slice (some ⟨w0.heap.size, 0, none⟩) 0 0) []) := Lib.hid (own_litK (Nat.le_refl _))
        have Htk1 := Lib.hid (Htk.out.alloc (Nat.le_refl _) (.cells #[] 43))
        have hszL : w0.heap.size ≤ (w0.alloc (.cells #[] 43)).heap.size := by simp
        have x0a : (w0.alloc (.cells #[] 43)).cell? ⟨G0, 0, none⟩ = some (.slice A n c) := by have h := (Hb0c.out.alloc (.cells #[] 43)).cell 0; simpa using h
        clear hRw hSw hone1 hone2 hno x1 x2
        go_upto_region 6 with fail
        go_cut [7] (fun s7 wx => ∃ A7 c7, s7 = .slice A7 i c7 ∧ OwnK 5 w0.heap.size wx 43 (.slice A7 i c7) ((ps.take i).map serC) ∧ Mod (fun _ => False) w0 wx)
        case first =>
          go_wp2_with (at_builtin; refine wpList_appK rfl (.tmp 42) (.tmp 46) _ rfl eltSer rfl Hlit.out rfl Htk1.out Hone1.out hr1 hr2 hszL ?_; intro v4 w4 HO HBl HG4)
          obtain ⟨A7, c7, e7, _⟩ := HO.out.form
          rw [List.nil_append, List.length_map, List.length_take, Nat.min_eq_left (by rw [← Hnn.out]; exact hi1)] at e7
          subst e7
          go_meet
          case rel => exact ⟨A7, c7, rfl, by have h := HO.out; rw [List.nil_append] at h; exact h, ((Mod.refl (fun _ => False) w0).alloc _).trans (Mod.of_below HBl.out) (fun j hj h => by omega)⟩
        case rest =>
          obtain ⟨A7, c7, rfl, hO7, hm7⟩ := hcut
          obtain ⟨w7, rfl⟩ : ∃ w7 : World, w7 = wc := ⟨_, rfl⟩
          obtain ⟨A8, hA8⟩ : ∃ A8, (if c = i then A else A.map (·.add (i * 5))) = A8 := ⟨_, rfl⟩
          have hdr : RdsSer w7 w0.heap.size A8 (n - i) (ps.drop i) := by rw [← hA8]; exact ((HRw.out.drop hi1 hnc).new hm7)
          have hb07 := hm7.blk Hb0c.out (fun h => h)
          have HX : Hid (∀ W' : World, Mod (fun j => (Value.slice A7 i c7).ownBlock = some j) w7 W' → W'.cell? ⟨G0, 0, none⟩ = some (.slice A n c)) := Lib.hid (fun W' h => by
            have h1 := (h.blk hb07 (ownK_ne hO7 hb07 (by decide))).cell 0
            simpa using h1)
          have HO7 := Lib.hid hO7; have Hm7 := Lib.hid hm7; have Hdr := Lib.hid hdr; have Hb07 := Lib.hid hb07
          have hr1 : ((ps.take i).map serC).length + 1 ≤ maxLen := by rw [List.length_map, List.length_take]; unfold maxLen; omega
          have hr2 : (((ps.take i).map serC).length + 1) * 48 ≤ 140737488355328 := by rw [List.length_map, List.length_take]; omega
          have hr3 : ((ps.take i).map serC ++ [serC (newS id)]).length + (n - i) ≤ maxLen := by rw [List.length_append, List.length_map, List.length_take]; unfold maxLen; simp; omega
          have hr4 : (((ps.take i).map serC ++ [serC (newS id)]).length + (n - i)) * 48 ≤ 140737488355328 := by rw [List.length_append, List.length_map, List.length_take]; simp; omega
          have hone3 := serC_cells ⟨id, false, false, 0, []⟩ (.slice none 0 0) ⟨_, _, _, rfl⟩
          have Hone3 := Lib.hid hone3
          have hsub : ((n - i : Nat) : Int) = (n : Int) - (i : Int) := by omega
          clear hO7 hm7 hdr hb07 x0 x0a hone3
          go_upto_region 7 with fail
          refine wp_region_T (fun W' => W'.cell? ⟨G0, 0, none⟩ = some (.slice A n c)) 10 (by kernel_rfl) (HX.out _ (Mod.refl _ w7).drew) (fun hHeld => ?_)
          refine wpAnyT_take (i := 0) (v := ?_) rfl (by decide) (by kernel_rfl) (by kernel_rfl) (by kernel_rfl) (by kernel_rfl) (fun _ _ _ h => h) (Or.inl ⟨by rfl, ?_⟩) hHeld ?_
          rotate_left
          · (intro w hSw; (try dsimp only at hSw); go_simp; first | done | with_reducible rfl)
          simp only [Act.put, List.setIfInBounds_toArray, List.set_cons_zero, List.set_cons_succ]
          refine wpAnyT_take (i := 1) (v := ?_) rfl (by decide) (by kernel_rfl) (by kernel_rfl) (by kernel_rfl) (by kernel_rfl) (fun _ _ _ h => h) (Or.inl ⟨by rfl, ?_⟩) hHeld ?_
          rotate_left
          · (intro w hSw; (try dsimp only at hSw); go_simp; first | done | with_reducible rfl)
          simp only [Act.put, List.setIfInBounds_toArray, List.set_cons_zero, List.set_cons_succ]
          refine wpAnyT_take (i := 2) (v := ?_) rfl (by decide) (by kernel_rfl) (by kernel_rfl) (by kernel_rfl) (by kernel_rfl) (fun _ _ _ h => h) (Or.inl ⟨by rfl, ?_⟩) hHeld ?_
          rotate_left
          · (intro w hSw; (try dsimp only at hSw); go_simp; first | done | with_reducible rfl)
          simp only [Act.put, List.setIfInBounds_toArray, List.set_cons_zero, List.set_cons_succ]
          refine wpAnyT_take (i := 5) (v := ?_) rfl (by decide) (by kernel_rfl) (by kernel_rfl) (by kernel_rfl) (by kernel_rfl) (fun _ _ _ h => h) (Or.inl ⟨by rfl, ?_⟩) hHeld ?_
          rotate_left
          · (intro w hSw; (try dsimp only at hSw); go_simp; first | done | with_reducible rfl)
          simp only [Act.put, List.setIfInBounds_toArray, List.set_cons_zero, List.set_cons_succ]
          refine wpAnyT_take (i := 6) (v := ?_) rfl (by decide) (by kernel_rfl) (by kernel_rfl) (by kernel_rfl) (by kernel_rfl) (fun _ _ _ h => h) (Or.inl ⟨by rfl, ?_⟩) hHeld ?_
          rotate_left
          · (intro w hSw; (try dsimp only at hSw); go_simp; first | done | with_reducible rfl)
          simp only [Act.put, List.setIfInBounds_toArray, List.set_cons_zero, List.set_cons_succ]
          refine wpAnyT_take (i := 7) (v := ?_) rfl (by decide) (by kernel_rfl) (by kernel_rfl) (by kernel_rfl) (by kernel_rfl) (fun _ _ _ h => h) (Or.inl ⟨by rfl, ?_⟩) hHeld ?_
          rotate_left
          · (intro w hSw; (try dsimp only at hSw); go_simp; first | done | with_reducible rfl)
          simp only [Act.put, List.setIfInBounds_toArray, List.set_cons_zero, List.set_cons_succ]
          refine wpAnyT_take (i := 8) (v := ?_) rfl (by decide) (by kernel_rfl) (by kernel_rfl) (by kernel_rfl) (by kernel_rfl) (fun _ _ _ h => h) (Or.inl ⟨by rfl, ?_⟩) hHeld ?_
          rotate_left
          · (intro w hSw; (try dsimp only at hSw); go_simp; first | done | with_reducible rfl)
          simp only [Act.put, List.setIfInBounds_toArray, List.set_cons_zero, List.set_cons_succ]
          refine wpAnyT_ready (rs := [3]) (by kernel_rfl) (by simp) (AllReadyT.cons rfl (fun K hK => ?_) AllReadyT.nil)
          go_simp
          refine hK.out _ _ (HX.out _ (((Mod.refl _ w7).alloc _).drew)) (fun hHeld => ?_)
          clear hK K
          obtain ⟨w8, hw8⟩ : ∃ w8, w8 = (w7.alloc (.cells #[.int .i64 id, .bool false, .bool false, .int .i64 0, .slice none 0 0] 43)).drew := ⟨_, rfl⟩
          have hm8 : Mod (fun _ => False) w7 w8 := by rw [hw8]; exact ((Mod.refl _ w7).alloc _).drew
          have Hw8 := Lib.hid hw8; have Hm8 := Lib.hid hm8; have HO8 := Lib.hid (HO7.out.mod hm8)
          have hsz8 : w0.heap.size ≤ w8.heap.size := Nat.le_trans Hm7.out.size hm8.size
          have Hlit8 : Hid (RdsK 5 w8 w8.heap.size (some ⟨w7.heap.size, 0, none⟩) 1 [serC (newS id)]) := Lib.hid (by rw [hw8]; have h := RdsK.lit1 w7 43 (serC (newS id)); exact h.fit.drew)
          rw [← hw8]
          clear hw8 hm8
          refine wpAnyT_ready (rs := [4]) (by kernel_rfl) (by simp) (AllReadyT.cons rfl (fun K hK => ?_) AllReadyT.nil)
          refine step_appK (v := .slice A7 i c7) (news := [serC (newS id)]) rfl (.tmp 48) (.tmp 51) _ rfl eltSer rfl HO8.out rfl Hlit8.out (fun u hu => Hone3.out u (by rw [List.flatten_cons, List.flatten_nil, List.append_nil] at hu; exact hu)) hr1 hr2 hsz8 ?_
          intro v9 w9 HO9 HMo9 HOb9
          have hm79 : Mod (fun j => (Value.slice A7 i c7).ownBlock = some j) w7 w9 := (Hm8.out.mono (fun _ _ h => h.elim)).trans HMo9.out (fun _ _ h => h)
          obtain ⟨A9, n9, c9, rfl, _⟩ := HO9.out.formN
          refine hK.out _ _ (HX.out _ hm79) (fun hHeld => ?_)
          clear hK K
          have Hm79 := Lib.hid hm79
          have hdr9 : RdsK 5 w9 w0.heap.size A8 (n - i) ((ps.drop i).map serC) := (Hdr.out.1.mod hm79 (Hm7.out.size) (fun j hj e => by have h := (HO7.out.block j e).1; omega))
          have Hdr9 := Lib.hid hdr9
          have hsz9 : w0.heap.size ≤ w9.heap.size := Nat.le_trans Hm7.out.size hm79.size
          clear hm79 hdr9
          refine wpAnyT_ready (rs := [9]) (by kernel_rfl) (by simp) (AllReadyT.cons rfl (fun K hK => ?_) AllReadyT.nil)
          refine step_appK (v := .slice A9 n9 c9) (news := (ps.drop i).map serC) rfl (.tmp 52) (.tmp 56) _ rfl eltSer rfl HO9.out rfl Hdr9.out Hone2.out hr3 hr4 hsz9 ?_
          intro v10 w10 HO10 HMo10 HOb10
          obtain ⟨A10, n10, c10, rfl, _⟩ := HO10.out.formN
          have hm710 : Mod (fun _ => False) w0 w10 := ((Hm7.out.mono (fun _ _ h => h.elim)).trans Hm79.out (S := fun j => w0.heap.size ≤ j) (fun j _ e => (HO7.out.block j e).1)).trans HMo10.out (fun j _ e => (HO9.out.block j e).1) |>.mono (fun j hj h => by omega)
          have hb010 := hm710.blk Hb0c.out (fun h => h)
          have k0 := hb010.cell 0
          simp at k0
          refine hK.out _ _ k0 (fun hHeld => ?_)
          clear hK K hHeld
          have Hm10 := Lib.hid hm710; have Hb10 := Lib.hid hb010
          refine wpAnyT_rest (by kernel_rfl) ?_
          refine wpAny_take (i := 10) (v := ?_) rfl (by kernel_rfl) (by kernel_rfl) (by kernel_rfl) (fun _ _ _ h => h) (Or.inl ⟨by rfl, ?_⟩) ?_
          rotate_left
          · (intro w; go_simp; first | done | with_reducible rfl)
          simp only [Act.put, List.setIfInBounds_toArray, List.set_cons_zero, List.set_cons_succ]
          refine wpAny_done (by kernel_rfl) ?_ _
          have k0 := hb010.cell 0
          have k1 := hb010.cell 1
          have k2 := hb010.cell 2
          simp at k0 k1 k2
          have p0 := hb010.frozen 0
          have p1 := hb010.frozen 1
          have p2 := hb010.frozen 2
          clear hm710 hb010
          obtain ⟨W11, hW11⟩ : ∃ W11, W11 = w10.setCell ⟨G0, 0, none⟩ (.slice A10 n10 c10) := ⟨_, rfl⟩
          have hb011 : Blk W11 G0 31 #[.slice A10 n10 c10, .slice A2 n2 c2, .int .i64 N] := by rw [hW11]; have h := Hb10.out.set_ 0 (.slice A10 n10 c10); simpa using h
          have hm11 : Mod (fun j => j = G0) w10 W11 := by rw [hW11]; exact (Mod.refl (fun j => j = G0) w10).setCell (p := ⟨G0, 0, none⟩) (fun _ => rfl) _
          have hrb := hm11.blk (Hm10.out.blk (Hm.out.blk HbG.out (fun h => h)) (fun h => h)) hneG
          have HS11 : Hid (HavSer B W11 (.slice A10 n10 c10) (ps.take i ++ [newS id] ++ ps.drop i)) := Lib.hid (by
            have h9 : HavSer B w10 (.slice A10 n10 c10) (ps.take i ++ [newS id] ++ ps.drop i) := by
              refine ⟨by rw [List.map_append, List.map_append]; exact HO10.out.mono hBc, fun p hp => ?_⟩
              have h0 : ∀ p ∈ ps, SliH B w10 p.2 p.1.l := fun p hp => (HSw.out.2 p hp).new Hm10.out
              rcases List.mem_append.1 hp with hp | hp
              · rcases List.mem_append.1 hp with hp | hp
                · exact h0 p (List.mem_of_mem_take hp)
                · rw [List.mem_singleton.1 hp]; exact SliH.nil _ _
              · exact h0 p (List.mem_of_mem_drop hp)
            exact h9.far hm11 (Far.one Hb10.out (by decide) (by decide) (by decide)))
          have HW11 := Lib.hid hW11; have Hb11 := Lib.hid hb011; have Hrb := Lib.hid hrb; have Hm11 := Lib.hid hm11
          clear hW11 hm11
          go_upto_region 9 with fail
          rw [← HW11.out]
          clear HW11 k0 k1 k2 p0 p1 p2
          have k0 := hb011.cell 0
          have k1 := hb011.cell 1
          have k2 := hb011.cell 2
          simp at k0 k1 k2
          have r0 := hrb.cell 0
          have r1 := hrb.cell 1
          have r2 := hrb.cell 2
          simp at r0 r1 r2
          have f0 := hrb.frozen 0
          have f1 := hrb.frozen 1
          have f2 := hrb.frozen 2
          clear hb011 hrb
          go_wp2_with fail
          refine bodyPost_ret (v := .tuple #[.agg #[.slice A10 n10 c10, .slice A2 n2 c2, .int .i64 N], .int .i64 (i : Int)]) (by have h := Hrb.out.three (.slice A10 n10 c10) (.slice A2 n2 c2) (.int .i64 N); simp [results, Try.results23, go_sem, h.1, h.2.1, h.2.2.1]) rfl ?_
          have h3 := Mod.three_one W11 G (.slice A10 n10 c10) (.slice A2 n2 c2) (.int .i64 N)
          refine ⟨A10, n10, c10, _, i, rfl, HS11.out.far h3 (Far.one Hrb.out (by decide) (by decide) (by decide)), ?_, Hcut.out.symm, ((HmW.out.trans Hm.out (fun _ _ h => h)).trans Hm10.out (fun _ _ h => h) |>.own (g := G0) Hm11.out (by have := HG0.out; omega)).own (g := G) h3 (by have := HG.out; omega)⟩
          rw [begunS_new Hno.out, Hcut.out, Hss.out, List.map_append, List.map_append, List.map_take, List.map_drop]
          rfl
end Go.Proofs.Ytejnhdenehkpmaa

/- Do, as the document has it: what all ops have in common. -/
namespace Go.Proofs.Ytejnhdenehkpmaa
open Go.RowKit

theorem rdo_fin {B G4 G5 : Nat} {w w3 w' : World} {v v2 : Value} {m m' : ModN} {o : OpN} {N' x y : Int} {A3 : Option Addr} {n3 c3 : Nat} {l : List (Int × Nat)} {cs4 cs5 : Array Value} (hB : w.heap.size ≤ B) (h4 : w.heap.size ≤ G4) (h5 : w.heap.size ≤ G5)
    (hb4 : Blk w3 G4 31 cs4) (hb5 : Blk w3 G5 34 cs5) (hM : HavM B w3 v v2 m') (hS : SliH B w3 (.slice A3 n3 c3) l) (hm : Mod (fun _ => False) w w3) (hd : doN m o = (m', ⟨x, y, l⟩)) (hN : m'.next = N') (hm' : Mod (fun j => j = G4 ∨ j = G5) w3 w') :
    DoEnd w w' (doN m o) (.returned (.tuple #[.agg #[v, v2, .int .i64 N'], .agg #[.int .i64 x, .int .i64 y, .slice A3 n3 c3]])) := by
  have hfar : Far (fun j => j = G4 ∨ j = G5) w3 := by
    rintro k t cs hk ht (rfl | rfl)
    · rcases ht with rfl | rfl | rfl
      · exact Blk.ne_ hb4 hk (by decide) rfl
      · exact Blk.ne_ hb4 hk (by decide) rfl
      · exact Blk.ne_ hb4 hk (by decide) rfl
    · rcases ht with rfl | rfl | rfl
      · exact Blk.ne_ hb5 hk (by decide) rfl
      · exact Blk.ne_ hb5 hk (by decide) rfl
      · exact Blk.ne_ hb5 hk (by decide) rfl
  rw [hd]
  subst hN
  refine ⟨v, v2, A3, n3, c3, rfl, (hM.far hm' hfar).mono hB, (hS.mod hm' (fun k cs _ hb => hfar k _ cs hb (.inr (.inr rfl)))).mono hB, ?_⟩
  exact hm.trans hm' (fun i hi h => by omega)
theorem six_lay {w3 : World} {G4 G5 : Nat} {cs4 cs5 : Value × Value × Value} (hb4 : Blk w3 G4 31 #[cs4.1, cs4.2.1, cs4.2.2]) (hb5 : Blk w3 G5 34 #[cs5.1, cs5.2.1, cs5.2.2]) (a b c d e f : Value) :
    ∃ W, W = (((((w3.setCell ⟨G4, 0, none⟩ a).setCell ⟨G4, 1, none⟩ b).setCell ⟨G4, 2, none⟩ c).setCell ⟨G5, 0, none⟩ d).setCell ⟨G5, 1, none⟩ e).setCell ⟨G5, 2, none⟩ f ∧ Blk W G4 31 #[a, b, c] ∧ Blk W G5 34 #[d, e, f] ∧ Mod (fun j => j = G4 ∨ j = G5) w3 W := by
  have hne : ¬ G4 = G5 := fun h => by rw [h] at hb4; exact Blk.ne_ hb4 hb5 (by decide) rfl
  have k1 := (hb4.three a b c).2.2.2
  have m1 := Mod.three_one w3 G4 a b c
  have k2 := m1.blk hb5 (fun h => hne h.symm)
  have k3 := (k2.three d e f).2.2.2
  have m2 := Mod.three_one (((w3.setCell ⟨G4, 0, none⟩ a).setCell ⟨G4, 1, none⟩ b).setCell ⟨G4, 2, none⟩ c) G5 d e f
  exact ⟨_, rfl, m2.blk k1 hne, k3, (m1.mono (fun _ _ h => .inl h)).trans m2 (fun _ _ h => .inr h)⟩
/-- Where an op's walk stands: the model of the call's own in a struct, the op, both results. -/
def RSt (B : Nat) (w wr : World) (G0 G1 G4 G5 : Nat) (v v2 : Value) (m : ModN) (o : OpN) : Prop :=
  Blk wr G0 31 #[v, v2, .int .i64 m.next] ∧ Blk wr G1 24 #[.int .i64 o.kind, .int .i64 o.series, .int .i64 o.iter, .int .i64 o.t, .int .u64 (o.v : Int), .int .i64 o.from_, .int .i64 o.to_, .int .i64 o.n] ∧ Blk wr G4 31 #[.slice none 0 0, .slice none 0 0, .int .i64 0] ∧ Blk wr G5 34 #[.int .i64 0, .int .i64 0, .slice none 0 0] ∧ HavM B wr v v2 m ∧ Mod (fun _ => False) w wr
theorem RSt.new {B : Nat} {w wr w' : World} {G0 G1 G4 G5 : Nat} {v v2 : Value} {m : ModN} {o : OpN} (h : RSt B w wr G0 G1 G4 G5 v v2 m o) (hm : Mod (fun _ => False) wr w') : RSt B w w' G0 G1 G4 G5 v v2 m o :=
  ⟨hm.blk h.1 (fun h => h), hm.blk h.2.1 (fun h => h), hm.blk h.2.2.1 (fun h => h), hm.blk h.2.2.2.1 (fun h => h), h.2.2.2.2.1.new hm, h.2.2.2.2.2.trans hm (fun _ _ h => h)⟩
end Go.Proofs.Ytejnhdenehkpmaa

/- Do, as the document has it: what is refused at once. -/
namespace Go.Proofs.Ytejnhdenehkpmaa
open Go.RowKit

set_option linter.unusedSimpArgs false in
set_option linter.unusedVariables false in
set_option maxHeartbeats 4000000 in
set_option maxRecDepth 100000 in
theorem rdo_unnamed (A : Option Addr) (n c : Nat) (A2 : Option Addr) (n2 c2 : Nat) (m : ModN) (o : OpN) (w : World) (h : RdsM w w.heap.size A n c A2 n2 c2 m) (hK : KeepM m) (hL : LenM m 100000) (hx : m.next ≤ 1000000) (hkd : 1 ≤ o.kind ∧ o.kind ≤ 5) (hs0 : o.series < 0 ∨ 15 < o.series) :
    Calls Try.prog 13 #[.agg #[.slice A n c, .slice A2 n2 c2, .int .i64 m.next], .agg #[.int .i64 o.kind, .int .i64 o.series, .int .i64 o.iter, .int .i64 o.t, .int .u64 (o.v : Int), .int .i64 o.from_, .int .i64 o.to_, .int .i64 o.n]] w fun e w' => DoEnd w w' (doN m o) e := by
  obtain ⟨W, hW⟩ : ∃ W, W = (((w.alloc (.cells #[.slice A n c, .slice A2 n2 c2, .int .i64 m.next] 31)).alloc (.cells #[.int .i64 o.kind, .int .i64 o.series, .int .i64 o.iter, .int .i64 o.t, .int .u64 (o.v : Int), .int .i64 o.from_, .int .i64 o.to_, .int .i64 o.n] 24)).alloc (.cells #[.slice none 0 0, .slice none 0 0, .int .i64 0] 31)).alloc (.cells #[.int .i64 0, .int .i64 0, .slice none 0 0] 34) := ⟨_, rfl⟩
  obtain ⟨G0, hG0⟩ : ∃ g, g = w.heap.size := ⟨_, rfl⟩
  obtain ⟨G1, hG1⟩ : ∃ g, g = w.heap.size + 1 := ⟨_, rfl⟩
  obtain ⟨G4, hG4⟩ : ∃ g, g = w.heap.size + 1 + 1 := ⟨_, rfl⟩
  obtain ⟨G5, hG5⟩ : ∃ g, g = w.heap.size + 1 + 1 + 1 := ⟨_, rfl⟩
  have hmW : Mod (fun _ => False) w W := by rw [hW]; exact ((((Mod.refl _ _).alloc _).alloc _).alloc _).alloc _
  have hzW : W.heap.size = G5 + 1 := by rw [hW, hG5]; simp
  have hb0 : Blk W G0 31 #[.slice A n c, .slice A2 n2 c2, .int .i64 m.next] := by rw [hW, hG0]; exact (((Blk.new _ _ _).alloc _).alloc _).alloc _
  have hb1 : Blk W G1 24 #[.int .i64 o.kind, .int .i64 o.series, .int .i64 o.iter, .int .i64 o.t, .int .u64 (o.v : Int), .int .i64 o.from_, .int .i64 o.to_, .int .i64 o.n] := by
    rw [hW, hG1]
    have h := ((Blk.new (w.alloc (.cells #[.slice A n c, .slice A2 n2 c2, .int .i64 m.next] 31)) 24 #[.int .i64 o.kind, .int .i64 o.series, .int .i64 o.iter, .int .i64 o.t, .int .u64 (o.v : Int), .int .i64 o.from_, .int .i64 o.to_, .int .i64 o.n]).alloc (.cells #[.slice none 0 0, .slice none 0 0, .int .i64 0] 31)).alloc (.cells #[.int .i64 0, .int .i64 0, .slice none 0 0] 34)
    simpa using h
  have hb4 : Blk W G4 31 #[.slice none 0 0, .slice none 0 0, .int .i64 0] := by
    rw [hW, hG4]
    have h := (Blk.new ((w.alloc (.cells #[.slice A n c, .slice A2 n2 c2, .int .i64 m.next] 31)).alloc (.cells #[.int .i64 o.kind, .int .i64 o.series, .int .i64 o.iter, .int .i64 o.t, .int .u64 (o.v : Int), .int .i64 o.from_, .int .i64 o.to_, .int .i64 o.n] 24)) 31 #[.slice none 0 0, .slice none 0 0, .int .i64 0]).alloc (.cells #[.int .i64 0, .int .i64 0, .slice none 0 0] 34)
    simpa using h
  have hb5 : Blk W G5 34 #[.int .i64 0, .int .i64 0, .slice none 0 0] := by
    rw [hW, hG5]
    have h := Blk.new (((w.alloc (.cells #[.slice A n c, .slice A2 n2 c2, .int .i64 m.next] 31)).alloc (.cells #[.int .i64 o.kind, .int .i64 o.series, .int .i64 o.iter, .int .i64 o.t, .int .u64 (o.v : Int), .int .i64 o.from_, .int .i64 o.to_, .int .i64 o.n] 24)).alloc (.cells #[.slice none 0 0, .slice none 0 0, .int .i64 0] 31)) 34 #[.int .i64 0, .int .i64 0, .slice none 0 0]
    simpa using h
  obtain ⟨hl1, hl2⟩ := h.lens
  have hn : n ≤ 1000 := by have := keep_len hK; omega
  have hn2 : n2 ≤ 1000 := by have := hK.2.2.1; omega
  have z0 := hb0.cell 0
  have z1 := hb0.cell 1
  have z2 := hb0.cell 2
  simp at z0 z1 z2
  have Hr := Lib.hid (h.new hmW).fit
  have HW := Lib.hid hW; have HG0 := Lib.hid hG0; have HG1 := Lib.hid hG1; have HG4 := Lib.hid hG4; have HG5 := Lib.hid hG5; have HmW := Lib.hid hmW
  have Hb0 := Lib.hid hb0; have Hb1 := Lib.hid hb1; have Hb4 := Lib.hid hb4; have Hb5 := Lib.hid hb5; have HK := Lib.hid hK; have HL := Lib.hid hL; have Hx := Lib.hid hx
  obtain ⟨B, hBB⟩ : ∃ B, B = W.heap.size := ⟨_, rfl⟩
  have Hlt : Hid (w.heap.size = G0 ∧ G1 = G0 + 1 ∧ G4 = G0 + 2 ∧ G5 = G0 + 3 ∧ B = G0 + 4) := Lib.hid (by omega)
  clear hW hG0 hG1 hG4 hG5 hmW hzW hb0 hb1 hb4 hb5 h hl1 hl2 hK hL hx
  go_enter Try.func13, Try.ntmps13
  go_upto_region 1 with fail
  rw [← HW.out, ← HG5.out, ← HG4.out, ← HG1.out, ← HG0.out]
  go_wp2_with fail
  refine (rcopied_any A n c A2 n2 c2 m W Hr.out HL.out hn hn2).mono ?_
  rintro e w1 ⟨v, v2, rfl, hM1, hm1⟩
  rw [← hBB] at hM1
  obtain ⟨Av, nv, cv, Aw, nw, cw, rfl, rfl, hrd⟩ := hM1.rds
  have hbo := hm1.blk Hb0.out (fun h => h)
  have y0 := hbo.cell 0
  have y1 := hbo.cell 1
  have y2 := hbo.cell 2
  have p0 := hbo.frozen 0
  have p1 := hbo.frozen 1
  have p2 := hbo.frozen 2
  simp at y0 y1 y2
  obtain ⟨W1, hW1, hbn, hmo, hMo⟩ := lay_over1 hbo (.slice Av nv cv) (.slice Aw nw cw) (.int .i64 m.next)
  have hne1 : ¬ G1 = G0 := by have := Hlt.out; omega
  have hne4 : ¬ G4 = G0 := by have := Hlt.out; omega
  have hne5 : ¬ G5 = G0 := by have := Hlt.out; omega
  have HSt : Hid (RSt B w W1 G0 G1 G4 G5 (.slice Av nv cv) (.slice Aw nw cw) m o) := Lib.hid ⟨hbn, hmo.blk (hm1.blk Hb1.out (fun h => h)) hne1, hmo.blk (hm1.blk Hb4.out (fun h => h)) hne4, hmo.blk (hm1.blk Hb5.out (fun h => h)) hne5, hMo hM1, (HmW.out.trans hm1 (fun _ _ h => h)).own hmo (by have := Hlt.out; omega)⟩
  have HW1 := Lib.hid hW1
  clear z0 z1 z2 hM1 hm1 hrd hbo hW1 hbn hmo hMo Hb0 Hb1 Hb4 Hb5 HW HmW hne1 hne4 hne5
  go_upto_region 2 with fail
  rw [← HW1.out]
  clear HW1 y0 y1 y2 p0 p1 p2
  have x0 := HSt.out.1.cell 0
  have x1 := HSt.out.1.cell 1
  have x2 := HSt.out.1.cell 2
  have y1 := HSt.out.2.1.cell 1
  simp at x0 x1 x2 y1
  have hrd := HSt.out.2.2.2.2.1.rdm
  have hnv : nv ≤ 1000000 := by have := hrd.lens; have := keep_len HK.out; omega
  have hnw : nw ≤ 1000000 := by have := hrd.lens; have := HK.out.2.2.1; omega
  have Hat := Lib.hid (rat_any m Av Aw nv cv nw cw W1.heap.size o.series W1 hrd hnv)
  clear hrd
  go_wp2_with fail
  refine Hat.out.mono ?_
  rintro e w2 ⟨k, rfl, hk, hm2⟩
  have Hk := Lib.hid hk; have HS2 := Lib.hid (HSt.out.new hm2)
  clear x0 x1 x2 y1 hk hm2 HSt Hat
  have x0 := HS2.out.1.cell 0
  have x1 := HS2.out.1.cell 1
  have x2 := HS2.out.1.cell 2
  have y0 := HS2.out.2.1.cell 0
  have y1 := HS2.out.2.1.cell 1
  have y2 := HS2.out.2.1.cell 2
  have y3 := HS2.out.2.1.cell 3
  have y4 := HS2.out.2.1.cell 4
  have y5 := HS2.out.2.1.cell 5
  have y6 := HS2.out.2.1.cell 6
  have y7 := HS2.out.2.1.cell 7
  simp at x0 x1 x2 y0 y1 y2 y3 y4 y5 y6 y7
  have Hd := Lib.hid (doN_unnamed (m := m) hkd hs0)
  have hk5 : o.kind = 1 ∨ o.kind = 2 ∨ o.kind = 3 ∨ o.kind = 4 ∨ o.kind = 5 := by omega
  clear hkd
  go_upto_region 3 with fail
  go_cut [7] (fun s7 wx => s7 = .bool false ∧ wx = w2)
  case first =>
    by_cases hs1 : o.series < 0
    · have hs2 : ¬ (o.series ≥ 0) := by omega
      clear hs0
      go_wp2_with fail
      go_meet
      case rel => exact ⟨by simp, rfl⟩
    · have hs2 : o.series ≥ 0 := by omega
      have hs3 : ¬ (o.series ≤ 15) := by omega
      clear hs0
      go_wp2_with fail
      go_meet
      case rel => exact ⟨by simp, rfl⟩
  case rest =>
    obtain ⟨rfl, hwc⟩ := hcut
    rw [hwc]
    clear hwc hs0
    rcases hk5 with hkd | hkd | hkd | hkd | hkd
    all_goals (
      rw [hkd] at y0
      clear hkd
      have r0 := HS2.out.2.2.1.cell 0
      have r1 := HS2.out.2.2.1.cell 1
      have r2 := HS2.out.2.2.1.cell 2
      simp at r0 r1 r2
      have f0 := HS2.out.2.2.1.frozen 0
      have f1 := HS2.out.2.2.1.frozen 1
      have f2 := HS2.out.2.2.1.frozen 2
      have q0 := HS2.out.2.2.2.1.cell 0
      have q1 := HS2.out.2.2.2.1.cell 1
      have q2 := HS2.out.2.2.2.1.cell 2
      simp at q0 q1 q2
      have g0 := HS2.out.2.2.2.1.frozen 0
      have g1 := HS2.out.2.2.2.1.frozen 1
      have g2 := HS2.out.2.2.2.1.frozen 2
      obtain ⟨W6, hW6, hb46, hb56, hm6⟩ := six_lay (cs4 := (.slice none 0 0, .slice none 0 0, .int .i64 0)) (cs5 := (.int .i64 0, .int .i64 0, .slice none 0 0)) HS2.out.2.2.1 HS2.out.2.2.2.1 (.slice Av nv cv) (.slice Aw nw cw) (.int .i64 m.next) (.int .i64 4) (.int .i64 0) (.slice none 0 0)
      have HW6 := Lib.hid hW6; have Hb46 := Lib.hid hb46; have Hb56 := Lib.hid hb56; have Hm6 := Lib.hid hm6
      have h45 : ¬ G4 = G5 := by have := Hlt.out; omega
      have h54 : ¬ G5 = G4 := fun h => h45 h.symm
      clear hW6 hb46 hb56 hm6
      go_wp2_with fail
      rw [← HW6.out]
      have a0 := Hb46.out.cell 0
      have a1 := Hb46.out.cell 1
      have a2 := Hb46.out.cell 2
      simp at a0 a1 a2
      have b0 := Hb56.out.cell 0
      have b1 := Hb56.out.cell 1
      have b2 := Hb56.out.cell 2
      simp at b0 b1 b2
      refine bodyPost_ret (v := .tuple #[.agg #[.slice Av nv cv, .slice Aw nw cw, .int .i64 m.next], .agg #[.int .i64 4, .int .i64 0, .slice none 0 0]]) (by simp [results, Try.results13, go_sem, a0, a1, a2, b0, b1, b2]) rfl ?_
      exact rdo_fin (by have := Hlt.out; omega) (by have := Hlt.out; omega) (by have := Hlt.out; omega) HS2.out.2.2.1 HS2.out.2.2.2.1 HS2.out.2.2.2.2.1 (SliH.nil _ _) HS2.out.2.2.2.2.2 Hd.out rfl Hm6.out
    )
set_option linter.unusedSimpArgs false in
set_option linter.unusedVariables false in
set_option maxHeartbeats 4000000 in
set_option maxRecDepth 100000 in
theorem rdo_nowhere (A : Option Addr) (n c : Nat) (A2 : Option Addr) (n2 c2 : Nat) (m : ModN) (o : OpN) (w : World) (h : RdsM w w.heap.size A n c A2 n2 c2 m) (hK : KeepM m) (hL : LenM m 100000) (hx : m.next ≤ 1000000) (hkd : 2 ≤ o.kind ∧ o.kind ≤ 5) (hs0 : ¬ (o.series < 0 ∨ 15 < o.series)) (hat : atS o.series m.ser = none) :
    Calls Try.prog 13 #[.agg #[.slice A n c, .slice A2 n2 c2, .int .i64 m.next], .agg #[.int .i64 o.kind, .int .i64 o.series, .int .i64 o.iter, .int .i64 o.t, .int .u64 (o.v : Int), .int .i64 o.from_, .int .i64 o.to_, .int .i64 o.n]] w fun e w' => DoEnd w w' (doN m o) e := by
  obtain ⟨W, hW⟩ : ∃ W, W = (((w.alloc (.cells #[.slice A n c, .slice A2 n2 c2, .int .i64 m.next] 31)).alloc (.cells #[.int .i64 o.kind, .int .i64 o.series, .int .i64 o.iter, .int .i64 o.t, .int .u64 (o.v : Int), .int .i64 o.from_, .int .i64 o.to_, .int .i64 o.n] 24)).alloc (.cells #[.slice none 0 0, .slice none 0 0, .int .i64 0] 31)).alloc (.cells #[.int .i64 0, .int .i64 0, .slice none 0 0] 34) := ⟨_, rfl⟩
  obtain ⟨G0, hG0⟩ : ∃ g, g = w.heap.size := ⟨_, rfl⟩
  obtain ⟨G1, hG1⟩ : ∃ g, g = w.heap.size + 1 := ⟨_, rfl⟩
  obtain ⟨G4, hG4⟩ : ∃ g, g = w.heap.size + 1 + 1 := ⟨_, rfl⟩
  obtain ⟨G5, hG5⟩ : ∃ g, g = w.heap.size + 1 + 1 + 1 := ⟨_, rfl⟩
  have hmW : Mod (fun _ => False) w W := by rw [hW]; exact ((((Mod.refl _ _).alloc _).alloc _).alloc _).alloc _
  have hzW : W.heap.size = G5 + 1 := by rw [hW, hG5]; simp
  have hb0 : Blk W G0 31 #[.slice A n c, .slice A2 n2 c2, .int .i64 m.next] := by rw [hW, hG0]; exact (((Blk.new _ _ _).alloc _).alloc _).alloc _
  have hb1 : Blk W G1 24 #[.int .i64 o.kind, .int .i64 o.series, .int .i64 o.iter, .int .i64 o.t, .int .u64 (o.v : Int), .int .i64 o.from_, .int .i64 o.to_, .int .i64 o.n] := by
    rw [hW, hG1]
    have h := ((Blk.new (w.alloc (.cells #[.slice A n c, .slice A2 n2 c2, .int .i64 m.next] 31)) 24 #[.int .i64 o.kind, .int .i64 o.series, .int .i64 o.iter, .int .i64 o.t, .int .u64 (o.v : Int), .int .i64 o.from_, .int .i64 o.to_, .int .i64 o.n]).alloc (.cells #[.slice none 0 0, .slice none 0 0, .int .i64 0] 31)).alloc (.cells #[.int .i64 0, .int .i64 0, .slice none 0 0] 34)
    simpa using h
  have hb4 : Blk W G4 31 #[.slice none 0 0, .slice none 0 0, .int .i64 0] := by
    rw [hW, hG4]
    have h := (Blk.new ((w.alloc (.cells #[.slice A n c, .slice A2 n2 c2, .int .i64 m.next] 31)).alloc (.cells #[.int .i64 o.kind, .int .i64 o.series, .int .i64 o.iter, .int .i64 o.t, .int .u64 (o.v : Int), .int .i64 o.from_, .int .i64 o.to_, .int .i64 o.n] 24)) 31 #[.slice none 0 0, .slice none 0 0, .int .i64 0]).alloc (.cells #[.int .i64 0, .int .i64 0, .slice none 0 0] 34)
    simpa using h
  have hb5 : Blk W G5 34 #[.int .i64 0, .int .i64 0, .slice none 0 0] := by
    rw [hW, hG5]
    have h := Blk.new (((w.alloc (.cells #[.slice A n c, .slice A2 n2 c2, .int .i64 m.next] 31)).alloc (.cells #[.int .i64 o.kind, .int .i64 o.series, .int .i64 o.iter, .int .i64 o.t, .int .u64 (o.v : Int), .int .i64 o.from_, .int .i64 o.to_, .int .i64 o.n] 24)).alloc (.cells #[.slice none 0 0, .slice none 0 0, .int .i64 0] 31)) 34 #[.int .i64 0, .int .i64 0, .slice none 0 0]
    simpa using h
  obtain ⟨hl1, hl2⟩ := h.lens
  have hn : n ≤ 1000 := by have := keep_len hK; omega
  have hn2 : n2 ≤ 1000 := by have := hK.2.2.1; omega
  have z0 := hb0.cell 0
  have z1 := hb0.cell 1
  have z2 := hb0.cell 2
  simp at z0 z1 z2
  have Hr := Lib.hid (h.new hmW).fit
  have HW := Lib.hid hW; have HG0 := Lib.hid hG0; have HG1 := Lib.hid hG1; have HG4 := Lib.hid hG4; have HG5 := Lib.hid hG5; have HmW := Lib.hid hmW
  have Hb0 := Lib.hid hb0; have Hb1 := Lib.hid hb1; have Hb4 := Lib.hid hb4; have Hb5 := Lib.hid hb5; have HK := Lib.hid hK; have HL := Lib.hid hL; have Hx := Lib.hid hx
  obtain ⟨B, hBB⟩ : ∃ B, B = W.heap.size := ⟨_, rfl⟩
  have Hlt : Hid (w.heap.size = G0 ∧ G1 = G0 + 1 ∧ G4 = G0 + 2 ∧ G5 = G0 + 3 ∧ B = G0 + 4) := Lib.hid (by omega)
  clear hW hG0 hG1 hG4 hG5 hmW hzW hb0 hb1 hb4 hb5 h hl1 hl2 hK hL hx
  go_enter Try.func13, Try.ntmps13
  go_upto_region 1 with fail
  rw [← HW.out, ← HG5.out, ← HG4.out, ← HG1.out, ← HG0.out]
  go_wp2_with fail
  refine (rcopied_any A n c A2 n2 c2 m W Hr.out HL.out hn hn2).mono ?_
  rintro e w1 ⟨v, v2, rfl, hM1, hm1⟩
  rw [← hBB] at hM1
  obtain ⟨Av, nv, cv, Aw, nw, cw, rfl, rfl, hrd⟩ := hM1.rds
  have hbo := hm1.blk Hb0.out (fun h => h)
  have y0 := hbo.cell 0
  have y1 := hbo.cell 1
  have y2 := hbo.cell 2
  have p0 := hbo.frozen 0
  have p1 := hbo.frozen 1
  have p2 := hbo.frozen 2
  simp at y0 y1 y2
  obtain ⟨W1, hW1, hbn, hmo, hMo⟩ := lay_over1 hbo (.slice Av nv cv) (.slice Aw nw cw) (.int .i64 m.next)
  have hne1 : ¬ G1 = G0 := by have := Hlt.out; omega
  have hne4 : ¬ G4 = G0 := by have := Hlt.out; omega
  have hne5 : ¬ G5 = G0 := by have := Hlt.out; omega
  have HSt : Hid (RSt B w W1 G0 G1 G4 G5 (.slice Av nv cv) (.slice Aw nw cw) m o) := Lib.hid ⟨hbn, hmo.blk (hm1.blk Hb1.out (fun h => h)) hne1, hmo.blk (hm1.blk Hb4.out (fun h => h)) hne4, hmo.blk (hm1.blk Hb5.out (fun h => h)) hne5, hMo hM1, (HmW.out.trans hm1 (fun _ _ h => h)).own hmo (by have := Hlt.out; omega)⟩
  have HW1 := Lib.hid hW1
  clear z0 z1 z2 hM1 hm1 hrd hbo hW1 hbn hmo hMo Hb0 Hb1 Hb4 Hb5 HW HmW hne1 hne4 hne5
  go_upto_region 2 with fail
  rw [← HW1.out]
  clear HW1 y0 y1 y2 p0 p1 p2
  have x0 := HSt.out.1.cell 0
  have x1 := HSt.out.1.cell 1
  have x2 := HSt.out.1.cell 2
  have y1 := HSt.out.2.1.cell 1
  simp at x0 x1 x2 y1
  have hrd := HSt.out.2.2.2.2.1.rdm
  have hnv : nv ≤ 1000000 := by have := hrd.lens; have := keep_len HK.out; omega
  have hnw : nw ≤ 1000000 := by have := hrd.lens; have := HK.out.2.2.1; omega
  have Hat := Lib.hid (rat_any m Av Aw nv cv nw cw W1.heap.size o.series W1 hrd hnv)
  clear hrd
  go_wp2_with fail
  refine Hat.out.mono ?_
  rintro e w2 ⟨k, rfl, hk, hm2⟩
  have Hk := Lib.hid hk; have HS2 := Lib.hid (HSt.out.new hm2)
  clear x0 x1 x2 y1 hk hm2 HSt Hat
  have x0 := HS2.out.1.cell 0
  have x1 := HS2.out.1.cell 1
  have x2 := HS2.out.1.cell 2
  have y0 := HS2.out.2.1.cell 0
  have y1 := HS2.out.2.1.cell 1
  have y2 := HS2.out.2.1.cell 2
  have y3 := HS2.out.2.1.cell 3
  have y4 := HS2.out.2.1.cell 4
  have y5 := HS2.out.2.1.cell 5
  have y6 := HS2.out.2.1.cell 6
  have y7 := HS2.out.2.1.cell 7
  simp at x0 x1 x2 y0 y1 y2 y3 y4 y5 y6 y7
  have Hd := Lib.hid (doN_nowhere hkd hs0 hat)
  have hk5 : o.kind = 2 ∨ o.kind = 3 ∨ o.kind = 4 ∨ o.kind = 5 := by omega
  have hk1 := fst_none Hk.out hat
  subst hk1
  have hs2 : o.series ≥ 0 := by omega
  have hs3 : o.series ≤ 15 := by omega
  clear hkd hs0
  rcases hk5 with hkd | hkd | hkd | hkd
  all_goals (
    rw [hkd] at y0
    clear hkd
    have r0 := HS2.out.2.2.1.cell 0
    have r1 := HS2.out.2.2.1.cell 1
    have r2 := HS2.out.2.2.1.cell 2
    simp at r0 r1 r2
    have f0 := HS2.out.2.2.1.frozen 0
    have f1 := HS2.out.2.2.1.frozen 1
    have f2 := HS2.out.2.2.1.frozen 2
    have q0 := HS2.out.2.2.2.1.cell 0
    have q1 := HS2.out.2.2.2.1.cell 1
    have q2 := HS2.out.2.2.2.1.cell 2
    simp at q0 q1 q2
    have g0 := HS2.out.2.2.2.1.frozen 0
    have g1 := HS2.out.2.2.2.1.frozen 1
    have g2 := HS2.out.2.2.2.1.frozen 2
    obtain ⟨W6, hW6, hb46, hb56, hm6⟩ := six_lay (cs4 := (.slice none 0 0, .slice none 0 0, .int .i64 0)) (cs5 := (.int .i64 0, .int .i64 0, .slice none 0 0)) HS2.out.2.2.1 HS2.out.2.2.2.1 (.slice Av nv cv) (.slice Aw nw cw) (.int .i64 m.next) (.int .i64 3) (.int .i64 0) (.slice none 0 0)
    have HW6 := Lib.hid hW6; have Hb46 := Lib.hid hb46; have Hb56 := Lib.hid hb56; have Hm6 := Lib.hid hm6
    have h45 : ¬ G4 = G5 := by have := Hlt.out; omega
    have h54 : ¬ G5 = G4 := fun h => h45 h.symm
    clear hW6 hb46 hb56 hm6
    go_wp2_with fail
    rw [← HW6.out]
    have a0 := Hb46.out.cell 0
    have a1 := Hb46.out.cell 1
    have a2 := Hb46.out.cell 2
    simp at a0 a1 a2
    have b0 := Hb56.out.cell 0
    have b1 := Hb56.out.cell 1
    have b2 := Hb56.out.cell 2
    simp at b0 b1 b2
    refine bodyPost_ret (v := .tuple #[.agg #[.slice Av nv cv, .slice Aw nw cw, .int .i64 m.next], .agg #[.int .i64 3, .int .i64 0, .slice none 0 0]]) (by simp [results, Try.results13, go_sem, a0, a1, a2, b0, b1, b2]) rfl ?_
    exact rdo_fin (by have := Hlt.out; omega) (by have := Hlt.out; omega) (by have := Hlt.out; omega) HS2.out.2.2.1 HS2.out.2.2.2.1 HS2.out.2.2.2.2.1 (SliH.nil _ _) HS2.out.2.2.2.2.2 Hd.out rfl Hm6.out
  )
set_option linter.unusedSimpArgs false in
set_option linter.unusedVariables false in
set_option maxHeartbeats 4000000 in
set_option maxRecDepth 100000 in
theorem rdo_iterless (A : Option Addr) (n c : Nat) (A2 : Option Addr) (n2 c2 : Nat) (m : ModN) (o : OpN) (w : World) (h : RdsM w w.heap.size A n c A2 n2 c2 m) (hK : KeepM m) (hL : LenM m 100000) (hx : m.next ≤ 1000000) (hkd : o.kind = 6 ∨ o.kind = 7) (hat : atI o.iter m.ite = none) :
    Calls Try.prog 13 #[.agg #[.slice A n c, .slice A2 n2 c2, .int .i64 m.next], .agg #[.int .i64 o.kind, .int .i64 o.series, .int .i64 o.iter, .int .i64 o.t, .int .u64 (o.v : Int), .int .i64 o.from_, .int .i64 o.to_, .int .i64 o.n]] w fun e w' => DoEnd w w' (doN m o) e := by
  obtain ⟨W, hW⟩ : ∃ W, W = (((w.alloc (.cells #[.slice A n c, .slice A2 n2 c2, .int .i64 m.next] 31)).alloc (.cells #[.int .i64 o.kind, .int .i64 o.series, .int .i64 o.iter, .int .i64 o.t, .int .u64 (o.v : Int), .int .i64 o.from_, .int .i64 o.to_, .int .i64 o.n] 24)).alloc (.cells #[.slice none 0 0, .slice none 0 0, .int .i64 0] 31)).alloc (.cells #[.int .i64 0, .int .i64 0, .slice none 0 0] 34) := ⟨_, rfl⟩
  obtain ⟨G0, hG0⟩ : ∃ g, g = w.heap.size := ⟨_, rfl⟩
  obtain ⟨G1, hG1⟩ : ∃ g, g = w.heap.size + 1 := ⟨_, rfl⟩
  obtain ⟨G4, hG4⟩ : ∃ g, g = w.heap.size + 1 + 1 := ⟨_, rfl⟩
  obtain ⟨G5, hG5⟩ : ∃ g, g = w.heap.size + 1 + 1 + 1 := ⟨_, rfl⟩
  have hmW : Mod (fun _ => False) w W := by rw [hW]; exact ((((Mod.refl _ _).alloc _).alloc _).alloc _).alloc _
  have hzW : W.heap.size = G5 + 1 := by rw [hW, hG5]; simp
  have hb0 : Blk W G0 31 #[.slice A n c, .slice A2 n2 c2, .int .i64 m.next] := by rw [hW, hG0]; exact (((Blk.new _ _ _).alloc _).alloc _).alloc _
  have hb1 : Blk W G1 24 #[.int .i64 o.kind, .int .i64 o.series, .int .i64 o.iter, .int .i64 o.t, .int .u64 (o.v : Int), .int .i64 o.from_, .int .i64 o.to_, .int .i64 o.n] := by
    rw [hW, hG1]
    have h := ((Blk.new (w.alloc (.cells #[.slice A n c, .slice A2 n2 c2, .int .i64 m.next] 31)) 24 #[.int .i64 o.kind, .int .i64 o.series, .int .i64 o.iter, .int .i64 o.t, .int .u64 (o.v : Int), .int .i64 o.from_, .int .i64 o.to_, .int .i64 o.n]).alloc (.cells #[.slice none 0 0, .slice none 0 0, .int .i64 0] 31)).alloc (.cells #[.int .i64 0, .int .i64 0, .slice none 0 0] 34)
    simpa using h
  have hb4 : Blk W G4 31 #[.slice none 0 0, .slice none 0 0, .int .i64 0] := by
    rw [hW, hG4]
    have h := (Blk.new ((w.alloc (.cells #[.slice A n c, .slice A2 n2 c2, .int .i64 m.next] 31)).alloc (.cells #[.int .i64 o.kind, .int .i64 o.series, .int .i64 o.iter, .int .i64 o.t, .int .u64 (o.v : Int), .int .i64 o.from_, .int .i64 o.to_, .int .i64 o.n] 24)) 31 #[.slice none 0 0, .slice none 0 0, .int .i64 0]).alloc (.cells #[.int .i64 0, .int .i64 0, .slice none 0 0] 34)
    simpa using h
  have hb5 : Blk W G5 34 #[.int .i64 0, .int .i64 0, .slice none 0 0] := by
    rw [hW, hG5]
    have h := Blk.new (((w.alloc (.cells #[.slice A n c, .slice A2 n2 c2, .int .i64 m.next] 31)).alloc (.cells #[.int .i64 o.kind, .int .i64 o.series, .int .i64 o.iter, .int .i64 o.t, .int .u64 (o.v : Int), .int .i64 o.from_, .int .i64 o.to_, .int .i64 o.n] 24)).alloc (.cells #[.slice none 0 0, .slice none 0 0, .int .i64 0] 31)) 34 #[.int .i64 0, .int .i64 0, .slice none 0 0]
    simpa using h
  obtain ⟨hl1, hl2⟩ := h.lens
  have hn : n ≤ 1000 := by have := keep_len hK; omega
  have hn2 : n2 ≤ 1000 := by have := hK.2.2.1; omega
  have z0 := hb0.cell 0
  have z1 := hb0.cell 1
  have z2 := hb0.cell 2
  simp at z0 z1 z2
  have Hr := Lib.hid (h.new hmW).fit
  have HW := Lib.hid hW; have HG0 := Lib.hid hG0; have HG1 := Lib.hid hG1; have HG4 := Lib.hid hG4; have HG5 := Lib.hid hG5; have HmW := Lib.hid hmW
  have Hb0 := Lib.hid hb0; have Hb1 := Lib.hid hb1; have Hb4 := Lib.hid hb4; have Hb5 := Lib.hid hb5; have HK := Lib.hid hK; have HL := Lib.hid hL; have Hx := Lib.hid hx
  obtain ⟨B, hBB⟩ : ∃ B, B = W.heap.size := ⟨_, rfl⟩
  have Hlt : Hid (w.heap.size = G0 ∧ G1 = G0 + 1 ∧ G4 = G0 + 2 ∧ G5 = G0 + 3 ∧ B = G0 + 4) := Lib.hid (by omega)
  clear hW hG0 hG1 hG4 hG5 hmW hzW hb0 hb1 hb4 hb5 h hl1 hl2 hK hL hx
  go_enter Try.func13, Try.ntmps13
  go_upto_region 1 with fail
  rw [← HW.out, ← HG5.out, ← HG4.out, ← HG1.out, ← HG0.out]
  go_wp2_with fail
  refine (rcopied_any A n c A2 n2 c2 m W Hr.out HL.out hn hn2).mono ?_
  rintro e w1 ⟨v, v2, rfl, hM1, hm1⟩
  rw [← hBB] at hM1
  obtain ⟨Av, nv, cv, Aw, nw, cw, rfl, rfl, hrd⟩ := hM1.rds
  have hbo := hm1.blk Hb0.out (fun h => h)
  have y0 := hbo.cell 0
  have y1 := hbo.cell 1
  have y2 := hbo.cell 2
  have p0 := hbo.frozen 0
  have p1 := hbo.frozen 1
  have p2 := hbo.frozen 2
  simp at y0 y1 y2
  obtain ⟨W1, hW1, hbn, hmo, hMo⟩ := lay_over1 hbo (.slice Av nv cv) (.slice Aw nw cw) (.int .i64 m.next)
  have hne1 : ¬ G1 = G0 := by have := Hlt.out; omega
  have hne4 : ¬ G4 = G0 := by have := Hlt.out; omega
  have hne5 : ¬ G5 = G0 := by have := Hlt.out; omega
  have HSt : Hid (RSt B w W1 G0 G1 G4 G5 (.slice Av nv cv) (.slice Aw nw cw) m o) := Lib.hid ⟨hbn, hmo.blk (hm1.blk Hb1.out (fun h => h)) hne1, hmo.blk (hm1.blk Hb4.out (fun h => h)) hne4, hmo.blk (hm1.blk Hb5.out (fun h => h)) hne5, hMo hM1, (HmW.out.trans hm1 (fun _ _ h => h)).own hmo (by have := Hlt.out; omega)⟩
  have HW1 := Lib.hid hW1
  clear z0 z1 z2 hM1 hm1 hrd hbo hW1 hbn hmo hMo Hb0 Hb1 Hb4 Hb5 HW HmW hne1 hne4 hne5
  go_upto_region 2 with fail
  rw [← HW1.out]
  clear HW1 y0 y1 y2 p0 p1 p2
  have x0 := HSt.out.1.cell 0
  have x1 := HSt.out.1.cell 1
  have x2 := HSt.out.1.cell 2
  have y1 := HSt.out.2.1.cell 1
  simp at x0 x1 x2 y1
  have hrd := HSt.out.2.2.2.2.1.rdm
  have hnv : nv ≤ 1000000 := by have := hrd.lens; have := keep_len HK.out; omega
  have hnw : nw ≤ 1000000 := by have := hrd.lens; have := HK.out.2.2.1; omega
  have Hat := Lib.hid (rat_any m Av Aw nv cv nw cw W1.heap.size o.series W1 hrd hnv)
  clear hrd
  go_wp2_with fail
  refine Hat.out.mono ?_
  rintro e w2 ⟨k, rfl, hk, hm2⟩
  have Hk := Lib.hid hk; have HS2 := Lib.hid (HSt.out.new hm2)
  clear x0 x1 x2 y1 hk hm2 HSt Hat
  have x0 := HS2.out.1.cell 0
  have x1 := HS2.out.1.cell 1
  have x2 := HS2.out.1.cell 2
  have y0 := HS2.out.2.1.cell 0
  have y1 := HS2.out.2.1.cell 1
  have y2 := HS2.out.2.1.cell 2
  have y3 := HS2.out.2.1.cell 3
  have y4 := HS2.out.2.1.cell 4
  have y5 := HS2.out.2.1.cell 5
  have y6 := HS2.out.2.1.cell 6
  have y7 := HS2.out.2.1.cell 7
  simp at x0 x1 x2 y0 y1 y2 y3 y4 y5 y6 y7
  have Hd := Lib.hid (doN_iterless (m := m) hkd hat)
  have Hit := Lib.hid (riter_any m Av Aw nv cv nw cw w2.heap.size o.iter w2 HS2.out.2.2.2.2.1.rdm hnw)
  have Hat := Lib.hid hat
  go_upto_region 3 with fail
  go_cut [7] (fun s7 wx => wx = w2)
  case first =>
    by_cases hs2 : o.series ≥ 0
    · by_cases hs3 : o.series ≤ 15
      · go_wp2_with fail
        go_meet
        case rel => rfl
      · go_wp2_with fail
        go_meet
        case rel => rfl
    · go_wp2_with fail
      go_meet
      case rel => rfl
  case rest =>
    rw [hcut]
    clear hcut hat
    rcases hkd with hkd | hkd
    all_goals (
      rw [hkd] at y0
      clear hkd
      go_wp2_with fail
      refine Hit.out.mono ?_
      rintro e w3 ⟨k2, rfl, hk2, hm3⟩
      have hk3 : k2 = -1 := by
        rcases hk2 with ⟨j, rfl, s, h1, h2, h3⟩ | ⟨h0, _⟩
        · exact absurd h2 (atI_none Hat.out s (List.mem_of_getElem? h1))
        · exact h0
      subst hk3
      have HS3 := Lib.hid (HS2.out.new hm3)
      clear hk2 hm3 x0 x1 x2 y0 y1 y2 y3 y4 y5 y6 y7
      have x0 := HS3.out.1.cell 0
      have x1 := HS3.out.1.cell 1
      have x2 := HS3.out.1.cell 2
      simp at x0 x1 x2
      have r0 := HS3.out.2.2.1.cell 0
      have r1 := HS3.out.2.2.1.cell 1
      have r2 := HS3.out.2.2.1.cell 2
      simp at r0 r1 r2
      have f0 := HS3.out.2.2.1.frozen 0
      have f1 := HS3.out.2.2.1.frozen 1
      have f2 := HS3.out.2.2.1.frozen 2
      have q0 := HS3.out.2.2.2.1.cell 0
      have q1 := HS3.out.2.2.2.1.cell 1
      have q2 := HS3.out.2.2.2.1.cell 2
      simp at q0 q1 q2
      have g0 := HS3.out.2.2.2.1.frozen 0
      have g1 := HS3.out.2.2.2.1.frozen 1
      have g2 := HS3.out.2.2.2.1.frozen 2
      obtain ⟨W6, hW6, hb46, hb56, hm6⟩ := six_lay (cs4 := (.slice none 0 0, .slice none 0 0, .int .i64 0)) (cs5 := (.int .i64 0, .int .i64 0, .slice none 0 0)) HS3.out.2.2.1 HS3.out.2.2.2.1 (.slice Av nv cv) (.slice Aw nw cw) (.int .i64 m.next) (.int .i64 3) (.int .i64 0) (.slice none 0 0)
      have HW6 := Lib.hid hW6; have Hb46 := Lib.hid hb46; have Hb56 := Lib.hid hb56; have Hm6 := Lib.hid hm6
      have h45 : ¬ G4 = G5 := by have := Hlt.out; omega
      have h54 : ¬ G5 = G4 := fun h => h45 h.symm
      clear hW6 hb46 hb56 hm6
      go_wp2_with fail
      rw [← HW6.out]
      have a0 := Hb46.out.cell 0
      have a1 := Hb46.out.cell 1
      have a2 := Hb46.out.cell 2
      simp at a0 a1 a2
      have b0 := Hb56.out.cell 0
      have b1 := Hb56.out.cell 1
      have b2 := Hb56.out.cell 2
      simp at b0 b1 b2
      refine bodyPost_ret (v := .tuple #[.agg #[.slice Av nv cv, .slice Aw nw cw, .int .i64 m.next], .agg #[.int .i64 3, .int .i64 0, .slice none 0 0]]) (by simp [results, Try.results13, go_sem, a0, a1, a2, b0, b1, b2]) rfl ?_
      exact rdo_fin (by have := Hlt.out; omega) (by have := Hlt.out; omega) (by have := Hlt.out; omega) HS3.out.2.2.1 HS3.out.2.2.2.1 HS3.out.2.2.2.2.1 (SliH.nil _ _) HS3.out.2.2.2.2.2 Hd.out rfl Hm6.out
    )
set_option linter.unusedSimpArgs false in
set_option linter.unusedVariables false in
set_option maxHeartbeats 4000000 in
set_option maxRecDepth 100000 in
theorem rdo_kindless (A : Option Addr) (n c : Nat) (A2 : Option Addr) (n2 c2 : Nat) (m : ModN) (o : OpN) (w : World) (h : RdsM w w.heap.size A n c A2 n2 c2 m) (hK : KeepM m) (hL : LenM m 100000) (hx : m.next ≤ 1000000) (hkd : o.kind < 1 ∨ 7 < o.kind) :
    Calls Try.prog 13 #[.agg #[.slice A n c, .slice A2 n2 c2, .int .i64 m.next], .agg #[.int .i64 o.kind, .int .i64 o.series, .int .i64 o.iter, .int .i64 o.t, .int .u64 (o.v : Int), .int .i64 o.from_, .int .i64 o.to_, .int .i64 o.n]] w fun e w' => DoEnd w w' (doN m o) e := by
  obtain ⟨W, hW⟩ : ∃ W, W = (((w.alloc (.cells #[.slice A n c, .slice A2 n2 c2, .int .i64 m.next] 31)).alloc (.cells #[.int .i64 o.kind, .int .i64 o.series, .int .i64 o.iter, .int .i64 o.t, .int .u64 (o.v : Int), .int .i64 o.from_, .int .i64 o.to_, .int .i64 o.n] 24)).alloc (.cells #[.slice none 0 0, .slice none 0 0, .int .i64 0] 31)).alloc (.cells #[.int .i64 0, .int .i64 0, .slice none 0 0] 34) := ⟨_, rfl⟩
  obtain ⟨G0, hG0⟩ : ∃ g, g = w.heap.size := ⟨_, rfl⟩
  obtain ⟨G1, hG1⟩ : ∃ g, g = w.heap.size + 1 := ⟨_, rfl⟩
  obtain ⟨G4, hG4⟩ : ∃ g, g = w.heap.size + 1 + 1 := ⟨_, rfl⟩
  obtain ⟨G5, hG5⟩ : ∃ g, g = w.heap.size + 1 + 1 + 1 := ⟨_, rfl⟩
  have hmW : Mod (fun _ => False) w W := by rw [hW]; exact ((((Mod.refl _ _).alloc _).alloc _).alloc _).alloc _
  have hzW : W.heap.size = G5 + 1 := by rw [hW, hG5]; simp
  have hb0 : Blk W G0 31 #[.slice A n c, .slice A2 n2 c2, .int .i64 m.next] := by rw [hW, hG0]; exact (((Blk.new _ _ _).alloc _).alloc _).alloc _
  have hb1 : Blk W G1 24 #[.int .i64 o.kind, .int .i64 o.series, .int .i64 o.iter, .int .i64 o.t, .int .u64 (o.v : Int), .int .i64 o.from_, .int .i64 o.to_, .int .i64 o.n] := by
    rw [hW, hG1]
    have h := ((Blk.new (w.alloc (.cells #[.slice A n c, .slice A2 n2 c2, .int .i64 m.next] 31)) 24 #[.int .i64 o.kind, .int .i64 o.series, .int .i64 o.iter, .int .i64 o.t, .int .u64 (o.v : Int), .int .i64 o.from_, .int .i64 o.to_, .int .i64 o.n]).alloc (.cells #[.slice none 0 0, .slice none 0 0, .int .i64 0] 31)).alloc (.cells #[.int .i64 0, .int .i64 0, .slice none 0 0] 34)
    simpa using h
  have hb4 : Blk W G4 31 #[.slice none 0 0, .slice none 0 0, .int .i64 0] := by
    rw [hW, hG4]
    have h := (Blk.new ((w.alloc (.cells #[.slice A n c, .slice A2 n2 c2, .int .i64 m.next] 31)).alloc (.cells #[.int .i64 o.kind, .int .i64 o.series, .int .i64 o.iter, .int .i64 o.t, .int .u64 (o.v : Int), .int .i64 o.from_, .int .i64 o.to_, .int .i64 o.n] 24)) 31 #[.slice none 0 0, .slice none 0 0, .int .i64 0]).alloc (.cells #[.int .i64 0, .int .i64 0, .slice none 0 0] 34)
    simpa using h
  have hb5 : Blk W G5 34 #[.int .i64 0, .int .i64 0, .slice none 0 0] := by
    rw [hW, hG5]
    have h := Blk.new (((w.alloc (.cells #[.slice A n c, .slice A2 n2 c2, .int .i64 m.next] 31)).alloc (.cells #[.int .i64 o.kind, .int .i64 o.series, .int .i64 o.iter, .int .i64 o.t, .int .u64 (o.v : Int), .int .i64 o.from_, .int .i64 o.to_, .int .i64 o.n] 24)).alloc (.cells #[.slice none 0 0, .slice none 0 0, .int .i64 0] 31)) 34 #[.int .i64 0, .int .i64 0, .slice none 0 0]
    simpa using h
  obtain ⟨hl1, hl2⟩ := h.lens
  have hn : n ≤ 1000 := by have := keep_len hK; omega
  have hn2 : n2 ≤ 1000 := by have := hK.2.2.1; omega
  have z0 := hb0.cell 0
  have z1 := hb0.cell 1
  have z2 := hb0.cell 2
  simp at z0 z1 z2
  have Hr := Lib.hid (h.new hmW).fit
  have HW := Lib.hid hW; have HG0 := Lib.hid hG0; have HG1 := Lib.hid hG1; have HG4 := Lib.hid hG4; have HG5 := Lib.hid hG5; have HmW := Lib.hid hmW
  have Hb0 := Lib.hid hb0; have Hb1 := Lib.hid hb1; have Hb4 := Lib.hid hb4; have Hb5 := Lib.hid hb5; have HK := Lib.hid hK; have HL := Lib.hid hL; have Hx := Lib.hid hx
  obtain ⟨B, hBB⟩ : ∃ B, B = W.heap.size := ⟨_, rfl⟩
  have Hlt : Hid (w.heap.size = G0 ∧ G1 = G0 + 1 ∧ G4 = G0 + 2 ∧ G5 = G0 + 3 ∧ B = G0 + 4) := Lib.hid (by omega)
  clear hW hG0 hG1 hG4 hG5 hmW hzW hb0 hb1 hb4 hb5 h hl1 hl2 hK hL hx
  go_enter Try.func13, Try.ntmps13
  go_upto_region 1 with fail
  rw [← HW.out, ← HG5.out, ← HG4.out, ← HG1.out, ← HG0.out]
  go_wp2_with fail
  refine (rcopied_any A n c A2 n2 c2 m W Hr.out HL.out hn hn2).mono ?_
  rintro e w1 ⟨v, v2, rfl, hM1, hm1⟩
  rw [← hBB] at hM1
  obtain ⟨Av, nv, cv, Aw, nw, cw, rfl, rfl, hrd⟩ := hM1.rds
  have hbo := hm1.blk Hb0.out (fun h => h)
  have y0 := hbo.cell 0
  have y1 := hbo.cell 1
  have y2 := hbo.cell 2
  have p0 := hbo.frozen 0
  have p1 := hbo.frozen 1
  have p2 := hbo.frozen 2
  simp at y0 y1 y2
  obtain ⟨W1, hW1, hbn, hmo, hMo⟩ := lay_over1 hbo (.slice Av nv cv) (.slice Aw nw cw) (.int .i64 m.next)
  have hne1 : ¬ G1 = G0 := by have := Hlt.out; omega
  have hne4 : ¬ G4 = G0 := by have := Hlt.out; omega
  have hne5 : ¬ G5 = G0 := by have := Hlt.out; omega
  have HSt : Hid (RSt B w W1 G0 G1 G4 G5 (.slice Av nv cv) (.slice Aw nw cw) m o) := Lib.hid ⟨hbn, hmo.blk (hm1.blk Hb1.out (fun h => h)) hne1, hmo.blk (hm1.blk Hb4.out (fun h => h)) hne4, hmo.blk (hm1.blk Hb5.out (fun h => h)) hne5, hMo hM1, (HmW.out.trans hm1 (fun _ _ h => h)).own hmo (by have := Hlt.out; omega)⟩
  have HW1 := Lib.hid hW1
  clear z0 z1 z2 hM1 hm1 hrd hbo hW1 hbn hmo hMo Hb0 Hb1 Hb4 Hb5 HW HmW hne1 hne4 hne5
  go_upto_region 2 with fail
  rw [← HW1.out]
  clear HW1 y0 y1 y2 p0 p1 p2
  have x0 := HSt.out.1.cell 0
  have x1 := HSt.out.1.cell 1
  have x2 := HSt.out.1.cell 2
  have y1 := HSt.out.2.1.cell 1
  simp at x0 x1 x2 y1
  have hrd := HSt.out.2.2.2.2.1.rdm
  have hnv : nv ≤ 1000000 := by have := hrd.lens; have := keep_len HK.out; omega
  have hnw : nw ≤ 1000000 := by have := hrd.lens; have := HK.out.2.2.1; omega
  have Hat := Lib.hid (rat_any m Av Aw nv cv nw cw W1.heap.size o.series W1 hrd hnv)
  clear hrd
  go_wp2_with fail
  refine Hat.out.mono ?_
  rintro e w2 ⟨k, rfl, hk, hm2⟩
  have Hk := Lib.hid hk; have HS2 := Lib.hid (HSt.out.new hm2)
  clear x0 x1 x2 y1 hk hm2 HSt Hat
  have x0 := HS2.out.1.cell 0
  have x1 := HS2.out.1.cell 1
  have x2 := HS2.out.1.cell 2
  have y0 := HS2.out.2.1.cell 0
  have y1 := HS2.out.2.1.cell 1
  have y2 := HS2.out.2.1.cell 2
  have y3 := HS2.out.2.1.cell 3
  have y4 := HS2.out.2.1.cell 4
  have y5 := HS2.out.2.1.cell 5
  have y6 := HS2.out.2.1.cell 6
  have y7 := HS2.out.2.1.cell 7
  simp at x0 x1 x2 y0 y1 y2 y3 y4 y5 y6 y7
  have Hd := Lib.hid (doN_kindless (m := m) hkd)
  have b1 : (o.kind == 1) = false := by simp; omega
  have b2 : (o.kind == 2) = false := by simp; omega
  have b3 : (o.kind == 3) = false := by simp; omega
  have b4 : (o.kind == 4) = false := by simp; omega
  have b5 : (o.kind == 5) = false := by simp; omega
  have b6 : (o.kind == 6) = false := by simp; omega
  have b7 : (o.kind == 7) = false := by simp; omega
  clear hkd
  go_upto_region 3 with fail
  go_cut [7] (fun s7 wx => wx = w2)
  case first =>
    by_cases hs2 : o.series ≥ 0
    · by_cases hs3 : o.series ≤ 15
      · go_wp2_with fail
        go_meet
        case rel => rfl
      · go_wp2_with fail
        go_meet
        case rel => rfl
    · go_wp2_with fail
      go_meet
      case rel => rfl
  case rest =>
    rw [hcut]
    clear hcut
    have r0 := HS2.out.2.2.1.cell 0
    have r1 := HS2.out.2.2.1.cell 1
    have r2 := HS2.out.2.2.1.cell 2
    simp at r0 r1 r2
    have f0 := HS2.out.2.2.1.frozen 0
    have f1 := HS2.out.2.2.1.frozen 1
    have f2 := HS2.out.2.2.1.frozen 2
    have q0 := HS2.out.2.2.2.1.cell 0
    have q1 := HS2.out.2.2.2.1.cell 1
    have q2 := HS2.out.2.2.2.1.cell 2
    simp at q0 q1 q2
    have g0 := HS2.out.2.2.2.1.frozen 0
    have g1 := HS2.out.2.2.2.1.frozen 1
    have g2 := HS2.out.2.2.2.1.frozen 2
    obtain ⟨W6, hW6, hb46, hb56, hm6⟩ := six_lay (cs4 := (.slice none 0 0, .slice none 0 0, .int .i64 0)) (cs5 := (.int .i64 0, .int .i64 0, .slice none 0 0)) HS2.out.2.2.1 HS2.out.2.2.2.1 (.slice Av nv cv) (.slice Aw nw cw) (.int .i64 m.next) (.int .i64 4) (.int .i64 0) (.slice none 0 0)
    have HW6 := Lib.hid hW6; have Hb46 := Lib.hid hb46; have Hb56 := Lib.hid hb56; have Hm6 := Lib.hid hm6
    have h45 : ¬ G4 = G5 := by have := Hlt.out; omega
    have h54 : ¬ G5 = G4 := fun h => h45 h.symm
    clear hW6 hb46 hb56 hm6
    go_wp2_with fail
    rw [← HW6.out]
    have a0 := Hb46.out.cell 0
    have a1 := Hb46.out.cell 1
    have a2 := Hb46.out.cell 2
    simp at a0 a1 a2
    have b0 := Hb56.out.cell 0
    have b1 := Hb56.out.cell 1
    have b2 := Hb56.out.cell 2
    simp at b0 b1 b2
    refine bodyPost_ret (v := .tuple #[.agg #[.slice Av nv cv, .slice Aw nw cw, .int .i64 m.next], .agg #[.int .i64 4, .int .i64 0, .slice none 0 0]]) (by simp [results, Try.results13, go_sem, a0, a1, a2, b0, b1, b2]) rfl ?_
    exact rdo_fin (by have := Hlt.out; omega) (by have := Hlt.out; omega) (by have := Hlt.out; omega) HS2.out.2.2.1 HS2.out.2.2.2.1 HS2.out.2.2.2.2.1 (SliH.nil _ _) HS2.out.2.2.2.2.2 Hd.out rfl Hm6.out
end Go.Proofs.Ytejnhdenehkpmaa

/- Do, as the document has it: an append. -/
namespace Go.Proofs.Ytejnhdenehkpmaa
open Go.RowKit

theorem HavSer.cell0 {B g n c i : Nat} {w1 : World} {ps : List (SerN × Value)} {s : SerN} {u4 : Value} (hS : HavSer B w1 (.slice (some ⟨g, 0, none⟩) n c) ps) (hp : ps[i]? = some (s, u4)) : w1.cell? ⟨g, i * 5, none⟩ = some (.int .i64 s.id) := by
  obtain ⟨cur, hb, _, hr, _, _, _, _⟩ := hS.1.blk
  have hi := (List.getElem?_eq_some_iff.1 hp).1
  obtain ⟨ad, r, e, _, h1, _, h2⟩ := (hS.1.rds hr).at_ (i := i) (by rw [← hr, List.length_map]; exact hi) (by decide)
  injection e with e
  subst e
  rw [List.getElem?_map, hp] at h1
  injection h1 with h1
  subst h1
  have h3 := h2 0 _ rfl
  rw [add_addr, Nat.zero_add] at h3
  exact h3
set_option linter.unusedSimpArgs false in
set_option linter.unusedVariables false in
set_option maxHeartbeats 4000000 in
set_option maxRecDepth 100000 in
theorem rdo_put (A : Option Addr) (n c : Nat) (A2 : Option Addr) (n2 c2 : Nat) (m : ModN) (o : OpN) (w : World) (h : RdsM w w.heap.size A n c A2 n2 c2 m) (hK : KeepM m) (hL : LenM m 100000) (hx : m.next ≤ 1000000) (hs0 : ¬ (o.series < 0 ∨ 15 < o.series)) (hcase : atS o.series m.ser = none ∨ ∃ i s, atS o.series m.ser = some i ∧ m.ser[i]? = some s ∧ s.sea = false ∧ ¬ (s.any = true ∧ o.t ≤ s.last)) (hkd : o.kind = 1) :
    Calls Try.prog 13 #[.agg #[.slice A n c, .slice A2 n2 c2, .int .i64 m.next], .agg #[.int .i64 o.kind, .int .i64 o.series, .int .i64 o.iter, .int .i64 o.t, .int .u64 (o.v : Int), .int .i64 o.from_, .int .i64 o.to_, .int .i64 o.n]] w fun e w' => DoEnd w w' (doN m o) e := by
  have HKD := Lib.hid hkd
  clear hkd
  obtain ⟨W, hW⟩ : ∃ W, W = (((w.alloc (.cells #[.slice A n c, .slice A2 n2 c2, .int .i64 m.next] 31)).alloc (.cells #[.int .i64 o.kind, .int .i64 o.series, .int .i64 o.iter, .int .i64 o.t, .int .u64 (o.v : Int), .int .i64 o.from_, .int .i64 o.to_, .int .i64 o.n] 24)).alloc (.cells #[.slice none 0 0, .slice none 0 0, .int .i64 0] 31)).alloc (.cells #[.int .i64 0, .int .i64 0, .slice none 0 0] 34) := ⟨_, rfl⟩
  obtain ⟨G0, hG0⟩ : ∃ g, g = w.heap.size := ⟨_, rfl⟩
  obtain ⟨G1, hG1⟩ : ∃ g, g = w.heap.size + 1 := ⟨_, rfl⟩
  obtain ⟨G4, hG4⟩ : ∃ g, g = w.heap.size + 1 + 1 := ⟨_, rfl⟩
  obtain ⟨G5, hG5⟩ : ∃ g, g = w.heap.size + 1 + 1 + 1 := ⟨_, rfl⟩
  have hmW : Mod (fun _ => False) w W := by rw [hW]; exact ((((Mod.refl _ _).alloc _).alloc _).alloc _).alloc _
  have hzW : W.heap.size = G5 + 1 := by rw [hW, hG5]; simp
  have hb0 : Blk W G0 31 #[.slice A n c, .slice A2 n2 c2, .int .i64 m.next] := by rw [hW, hG0]; exact (((Blk.new _ _ _).alloc _).alloc _).alloc _
  have hb1 : Blk W G1 24 #[.int .i64 o.kind, .int .i64 o.series, .int .i64 o.iter, .int .i64 o.t, .int .u64 (o.v : Int), .int .i64 o.from_, .int .i64 o.to_, .int .i64 o.n] := by
    rw [hW, hG1]
    have h := ((Blk.new (w.alloc (.cells #[.slice A n c, .slice A2 n2 c2, .int .i64 m.next] 31)) 24 #[.int .i64 o.kind, .int .i64 o.series, .int .i64 o.iter, .int .i64 o.t, .int .u64 (o.v : Int), .int .i64 o.from_, .int .i64 o.to_, .int .i64 o.n]).alloc (.cells #[.slice none 0 0, .slice none 0 0, .int .i64 0] 31)).alloc (.cells #[.int .i64 0, .int .i64 0, .slice none 0 0] 34)
    simpa using h
  have hb4 : Blk W G4 31 #[.slice none 0 0, .slice none 0 0, .int .i64 0] := by
    rw [hW, hG4]
    have h := (Blk.new ((w.alloc (.cells #[.slice A n c, .slice A2 n2 c2, .int .i64 m.next] 31)).alloc (.cells #[.int .i64 o.kind, .int .i64 o.series, .int .i64 o.iter, .int .i64 o.t, .int .u64 (o.v : Int), .int .i64 o.from_, .int .i64 o.to_, .int .i64 o.n] 24)) 31 #[.slice none 0 0, .slice none 0 0, .int .i64 0]).alloc (.cells #[.int .i64 0, .int .i64 0, .slice none 0 0] 34)
    simpa using h
  have hb5 : Blk W G5 34 #[.int .i64 0, .int .i64 0, .slice none 0 0] := by
    rw [hW, hG5]
    have h := Blk.new (((w.alloc (.cells #[.slice A n c, .slice A2 n2 c2, .int .i64 m.next] 31)).alloc (.cells #[.int .i64 o.kind, .int .i64 o.series, .int .i64 o.iter, .int .i64 o.t, .int .u64 (o.v : Int), .int .i64 o.from_, .int .i64 o.to_, .int .i64 o.n] 24)).alloc (.cells #[.slice none 0 0, .slice none 0 0, .int .i64 0] 31)) 34 #[.int .i64 0, .int .i64 0, .slice none 0 0]
    simpa using h
  obtain ⟨hl1, hl2⟩ := h.lens
  have hn : n ≤ 1000 := by have := keep_len hK; omega
  have hn2 : n2 ≤ 1000 := by have := hK.2.2.1; omega
  have z0 := hb0.cell 0
  have z1 := hb0.cell 1
  have z2 := hb0.cell 2
  simp at z0 z1 z2
  have Hr := Lib.hid (h.new hmW).fit
  have HW := Lib.hid hW; have HG0 := Lib.hid hG0; have HG1 := Lib.hid hG1; have HG4 := Lib.hid hG4; have HG5 := Lib.hid hG5; have HmW := Lib.hid hmW
  have Hb0 := Lib.hid hb0; have Hb1 := Lib.hid hb1; have Hb4 := Lib.hid hb4; have Hb5 := Lib.hid hb5; have HK := Lib.hid hK; have HL := Lib.hid hL; have Hx := Lib.hid hx
  obtain ⟨B, hBB⟩ : ∃ B, B = W.heap.size := ⟨_, rfl⟩
  have Hlt : Hid (w.heap.size = G0 ∧ G1 = G0 + 1 ∧ G4 = G0 + 2 ∧ G5 = G0 + 3 ∧ B = G0 + 4) := Lib.hid (by omega)
  clear hW hG0 hG1 hG4 hG5 hmW hzW hb0 hb1 hb4 hb5 h hl1 hl2 hK hL hx
  go_enter Try.func13, Try.ntmps13
  go_upto_region 1 with fail
  rw [← HW.out, ← HG5.out, ← HG4.out, ← HG1.out, ← HG0.out]
  go_wp2_with fail
  refine (rcopied_any A n c A2 n2 c2 m W Hr.out HL.out hn hn2).mono ?_
  rintro e w1 ⟨v, v2, rfl, hM1, hm1⟩
  rw [← hBB] at hM1
  obtain ⟨Av, nv, cv, Aw, nw, cw, rfl, rfl, hrd⟩ := hM1.rds
  have hbo := hm1.blk Hb0.out (fun h => h)
  have y0 := hbo.cell 0
  have y1 := hbo.cell 1
  have y2 := hbo.cell 2
  have p0 := hbo.frozen 0
  have p1 := hbo.frozen 1
  have p2 := hbo.frozen 2
  simp at y0 y1 y2
  obtain ⟨W1, hW1, hbn, hmo, hMo⟩ := lay_over1 hbo (.slice Av nv cv) (.slice Aw nw cw) (.int .i64 m.next)
  have hne1 : ¬ G1 = G0 := by have := Hlt.out; omega
  have hne4 : ¬ G4 = G0 := by have := Hlt.out; omega
  have hne5 : ¬ G5 = G0 := by have := Hlt.out; omega
  have HSt : Hid (RSt B w W1 G0 G1 G4 G5 (.slice Av nv cv) (.slice Aw nw cw) m o) := Lib.hid ⟨hbn, hmo.blk (hm1.blk Hb1.out (fun h => h)) hne1, hmo.blk (hm1.blk Hb4.out (fun h => h)) hne4, hmo.blk (hm1.blk Hb5.out (fun h => h)) hne5, hMo hM1, (HmW.out.trans hm1 (fun _ _ h => h)).own hmo (by have := Hlt.out; omega)⟩
  have HW1 := Lib.hid hW1
  clear z0 z1 z2 hM1 hm1 hrd hbo hW1 hbn hmo hMo Hb0 Hb1 Hb4 Hb5 HW HmW hne1 hne4 hne5
  go_upto_region 2 with fail
  rw [← HW1.out]
  clear HW1 y0 y1 y2 p0 p1 p2
  have x0 := HSt.out.1.cell 0
  have x1 := HSt.out.1.cell 1
  have x2 := HSt.out.1.cell 2
  have y1 := HSt.out.2.1.cell 1
  simp at x0 x1 x2 y1
  have hrd := HSt.out.2.2.2.2.1.rdm
  have hnv : nv ≤ 1000000 := by have := hrd.lens; have := keep_len HK.out; omega
  have hnw : nw ≤ 1000000 := by have := hrd.lens; have := HK.out.2.2.1; omega
  have Hat := Lib.hid (rat_any m Av Aw nv cv nw cw W1.heap.size o.series W1 hrd hnv)
  clear hrd
  go_wp2_with fail
  refine Hat.out.mono ?_
  rintro e w2 ⟨k, rfl, hk, hm2⟩
  have Hk := Lib.hid hk; have HS2 := Lib.hid (HSt.out.new hm2)
  clear x0 x1 x2 y1 hk hm2 HSt Hat
  have x0 := HS2.out.1.cell 0
  have x1 := HS2.out.1.cell 1
  have x2 := HS2.out.1.cell 2
  have y0 := HS2.out.2.1.cell 0
  have y1 := HS2.out.2.1.cell 1
  have y2 := HS2.out.2.1.cell 2
  have y3 := HS2.out.2.1.cell 3
  have y4 := HS2.out.2.1.cell 4
  have y5 := HS2.out.2.1.cell 5
  have y6 := HS2.out.2.1.cell 6
  have y7 := HS2.out.2.1.cell 7
  simp at x0 x1 x2 y0 y1 y2 y3 y4 y5 y6 y7
  have hkd := HKD.out
  have Hd : Hid (doN m o = (putN m o, ⟨0, 0, []⟩)) := Lib.hid (by
    rcases hcase with h | ⟨i, s, h1, h2, h3, h4⟩
    · exact doN_begin hkd hs0 h
    · exact doN_put hkd hs0 h1 h2 h3 h4)
  have hs2 : o.series ≥ 0 := by omega
  have hs3 : o.series ≤ 15 := by omega
  obtain ⟨W8, hW8, hm8, hb8, hz8⟩ := Blk.box w2 34 #[.int .i64 0, .int .i64 0, .slice none 0 0]
  obtain ⟨G8, hG8⟩ : ∃ g, g = w2.heap.size := ⟨_, rfl⟩
  rw [← hG8] at hb8
  have HS8 := Lib.hid (HS2.out.new hm8); have HW8 := Lib.hid hW8; have HG8 := Lib.hid hG8; have Hb8 := Lib.hid hb8; have Hcase := Lib.hid hcase
  have Hlt8 : Hid (B ≤ G8) := Lib.hid (by have := HS2.out.2.2.2.1.lt; have := Hlt.out; omega)
  have hkc : (k : Int) = -1 ∨ ∃ i : Nat, k = (i : Int) := by
    rcases hcase with h | ⟨i, s, h1, h2, h3, h4⟩
    · exact .inl (fst_none Hk.out h)
    · exact .inr ⟨i, fst_some Hk.out h1⟩
  rw [hkd] at y0
  clear hW8 hm8 hb8 hz8 hG8 hs0 hkd hcase
  go_upto_region 13 with fail
  go_cut [47] from 41 to 47 (fun s47 wx => s47 = .bool false ∧ wx = w2)
  case first =>
    rcases hkc with rfl | ⟨i, rfl⟩
    · go_wp2_with fail
      go_meet
      case rel => exact ⟨by simp, rfl⟩
    · have hi0 : (0 : Int) ≤ (i : Int) := by omega
      go_wp2_with fail
      go_meet
      case rel => exact ⟨by simp, rfl⟩
  case rest =>
    obtain ⟨rfl, hwc⟩ := hcut
    rw [hwc]
    clear hwc
    go_upto_region 21 with fail
    rw [← HW8.out, ← HG8.out]
    clear HW8 x0 x1 x2 y0 y1 y2 y3 y4 y5 y6 y7 HS2 hs2 hs3
    have x0 := HS8.out.1.cell 0
    have x1 := HS8.out.1.cell 1
    have x2 := HS8.out.1.cell 2
    have y0 := HS8.out.2.1.cell 0
    have y1 := HS8.out.2.1.cell 1
    have y3 := HS8.out.2.1.cell 3
    have y4 := HS8.out.2.1.cell 4
    simp at x0 x1 x2 y0 y1 y3 y4
    rw [HKD.out] at y0
    go_upto_region 23 with fail
    go_cut [75] from 66 to 75 (fun s75 wx => s75 = .bool false ∧ wx = W8)
    case first =>
      rcases Hcase.out with h | ⟨i, s, h1, h2, h3, h4⟩
      · have hk1 := fst_none Hk.out h
        subst hk1
        clear h hkc Hcase Hk Hd
        go_wp2_with fail
        go_meet
        case rel => exact ⟨by simp, rfl⟩
      · have hk1 := fst_some Hk.out h1
        subst hk1
        obtain ⟨ps, is, hps, his, hR, _⟩ := HS8.out.2.2.2.2.1.rdm
        have hin : i < nv := by
          have h5 := (List.getElem?_eq_some_iff.1 h2).1
          rw [← hps, List.length_map, hR.len] at h5
          exact h5
        obtain ⟨ad, s', A5, n5, c5, rfl, _, hp, _, _, _, hc0, hc1, hc2, hc3, hc4⟩ := hR.at_ hin
        have hss : s' = s := by
          rw [← hps, List.getElem?_map, hp] at h2
          injection h2 with h2
        subst hss
        rw [h3] at hc1
        have hi0 : (0 : Int) ≤ (i : Int) := by omega
        have hi1 : (i : Int) < (nv : Int) := by omega
        clear h1 h2 h3 h4 hps his hR hin hp hc0 hc2 hc3 hc4 hkc Hcase Hk Hd
        go_wp2_with fail
        go_meet
        case rel => exact ⟨by simp, rfl⟩
    case rest =>
      obtain ⟨rfl, hwc⟩ := hcut
      rw [hwc]
      clear hwc
      go_upto_region 25 with fail
      go_cut [98] from 78 to 98 (fun s98 wx => s98 = .bool false ∧ Mod (fun _ => False) W8 wx)
      case first =>
        rcases Hcase.out with h | ⟨i, s, h1, h2, h3, h4⟩
        · have hk1 := fst_none Hk.out h
          subst hk1
          clear h hkc Hcase Hk Hd
          go_quiet (fail)
          go_wp2_with fail
          go_meet
          exact ⟨by simp, (Mod.refl _ W8).drewN _⟩
        · have hk1 := fst_some Hk.out h1
          subst hk1
          obtain ⟨ps, is, hps, his, hR, _⟩ := HS8.out.2.2.2.2.1.rdm
          have hin : i < nv := by
            have h5 := (List.getElem?_eq_some_iff.1 h2).1
            rw [← hps, List.length_map, hR.len] at h5
            exact h5
          obtain ⟨ad, s', A5, n5, c5, rfl, _, hp, _, _, _, hc0, hc1, hc2, hc3, hc4⟩ := hR.at_ hin
          have hss : s' = s := by
            rw [← hps, List.getElem?_map, hp] at h2
            injection h2 with h2
          subst hss
          have hi0 : (0 : Int) ≤ (i : Int) := by omega
          have hi1 : (i : Int) < (nv : Int) := by omega
          clear h1 h2 h3 hps his hR hin hp hc0 hc1 hc4 hkc Hcase Hk Hd
          cases hany : s'.any with
          | false =>
            rw [hany] at hc2
            clear h4 hany
            go_quiet (fail)
            go_wp2_with fail
            go_meet
            exact ⟨by simp, (Mod.refl _ W8).drewN _⟩
          | true =>
            have hle : ¬ o.t ≤ s'.last := fun h => h4 ⟨hany, h⟩
            rw [hany] at hc2
            clear h4 hany
            go_quiet (fail)
            go_wp2_with fail
            go_meet
            exact ⟨by simp [hle], (Mod.refl _ W8).drewN _⟩
      case rest =>
        obtain ⟨rfl, hm9⟩ := hcut
        obtain ⟨w9, rfl⟩ : ∃ w9 : World, w9 = wc := ⟨_, rfl⟩
        have HS9 := Lib.hid (HS8.out.new hm9); have Hb89 := Lib.hid (hm9.blk Hb8.out (fun h => h))
        clear hm9 x0 x1 x2 y0 y1 y3 y4 HS8 Hb8 hkc Hcase Hk
        obtain ⟨ps, js, hps, hjs, hSer, hIte⟩ := HS9.out.2.2.2.2.1
        have hBw : B ≤ w9.heap.size := by have := HS9.out.2.2.2.1.lt; have := Hlt.out; omega
        have hnv9 : nv ≤ 1000 := by
          have h1 := keep_len HK.out
          obtain ⟨A', c', e0, _⟩ := hSer.form
          injection e0 with _ e2 _
          rw [← hps, List.length_map] at h1
          omega
        have Hbg := Lib.hid (rbegun_any B Av nv cv (.slice Aw nw cw) m.next ps o.series w9 hSer hBw hnv9 ⟨_, _, _, rfl⟩)
        have Hps := Lib.hid hps; have Hjs := Lib.hid hjs; have HIte := Lib.hid hIte; have HBw := Lib.hid hBw
        clear hps hjs hSer hIte hBw hnv9
        have x0 := HS9.out.1.cell 0
        have x1 := HS9.out.1.cell 1
        have x2 := HS9.out.1.cell 2
        simp at x0 x1 x2
        have y1 := HS9.out.2.1.cell 1
        have y3 := HS9.out.2.1.cell 3
        have y4 := HS9.out.2.1.cell 4
        simp at y1 y3 y4
        go_upto_region 27 with fail
        go_wp2_with fail
        refine Hbg.out.mono ?_
        rintro e w10 ⟨A', n', c', qs, kc, rfl, hS10, hq10, hkc, hm10⟩
        obtain ⟨W10, hW10, hmW10, hb9, hz10⟩ := Blk.box w10 31 #[.slice A' n' c', .slice Aw nw cw, .int .i64 m.next]
        obtain ⟨G9, hG9⟩ : ∃ g, g = w10.heap.size := ⟨_, rfl⟩
        rw [← hG9] at hb9
        have h910 := hm10.trans hmW10 (fun _ _ h => h)
        have HS10 := Lib.hid (hS10.new hmW10); have Hq10 := Lib.hid hq10; have Hkc := Lib.hid hkc; have HSt10 := Lib.hid (HS9.out.new h910); have Hb810 := Lib.hid (h910.blk Hb89.out (fun h => h)); have HIte10 := Lib.hid (HIte.out.new h910); have Hb9 := Lib.hid hb9; have HW10 := Lib.hid hW10; have HG9 := Lib.hid hG9
        have hg90 : ¬ G9 = G0 := by have := hm10.size; have := HBw.out; have := Hlt.out; omega
        clear hS10 hq10 hkc hm10 hW10 hmW10 hz10 hG9 h910 x0 x1 x2 y1 y3 y4
        go_upto_region 28 with fail
        rw [← HW10.out, ← HG9.out]
        clear HW10
        have z0 := hb9.cell 0
        have z1 := hb9.cell 1
        have z2 := hb9.cell 2
        simp at z0 z1 z2
        have x0 := HSt10.out.1.cell 0
        have x1 := HSt10.out.1.cell 1
        have x2 := HSt10.out.1.cell 2
        simp at x0 x1 x2
        have p0 := HSt10.out.1.frozen 0
        have p1 := HSt10.out.1.frozen 1
        have p2 := HSt10.out.1.frozen 2
        obtain ⟨W11, hW11, hb011, hm11, _⟩ := lay_over1 HSt10.out.1 (.slice A' n' c') (.slice Aw nw cw) (.int .i64 m.next)
        have hne : ∀ G, G = G0 + 1 ∨ G0 + 2 ≤ G → ¬ G = G0 := fun G h => by omega
        have hb111 := hm11.blk HSt10.out.2.1 (hne G1 (by have := Hlt.out; omega))
        have hb411 := hm11.blk HSt10.out.2.2.1 (hne G4 (by have := Hlt.out; omega))
        have hb511 := hm11.blk HSt10.out.2.2.2.1 (hne G5 (by have := Hlt.out; omega))
        have hb811 := hm11.blk Hb810.out (hne G8 (by have := Hlt.out; have := Hlt8.out; omega))
        have hfar := Far.one HSt10.out.1 (by decide) (by decide) (by decide)
        have HS11 := Lib.hid (HS10.out.far hm11 hfar); have HIte11 := Lib.hid (HIte10.out.far hm11 hfar); have Hmw11 := Lib.hid (HSt10.out.2.2.2.2.2.own hm11 (by have := Hlt.out; omega)); have Hb011 := Lib.hid hb011; have Hb111 := Lib.hid hb111; have Hb411 := Lib.hid hb411; have Hb511 := Lib.hid hb511; have Hb811 := Lib.hid hb811; have HW11 := Lib.hid hW11
        clear hb9 hW11 hm11 hne hfar HS10 HIte10 HSt10 Hb810 HS9
        go_upto_region 29 with fail
        rw [← HW11.out]
        clear HW11 z0 z1 z2 x0 x1 x2 p0 p1 p2
        obtain ⟨q, hq, hqid⟩ := begunS_at o.series m.ser
        have hqk : (qs.map (·.1))[kc]? = some q := by rw [Hq10.out, Hkc.out, Hps.out]; exact hq
        have hqm : q.l.length ≤ 100000 := by
          rcases begunS_mem (List.mem_of_getElem? hq) with h | h
          · exact (HL.out.1 q h).1
          · rw [h]; exact Nat.zero_le _
        obtain ⟨g, n', c', u4, e0, hp, hin, hnc', hpn⟩ := HS11.out.some_ (m := ⟨qs.map (·.1), [], 0⟩) rfl hqk
        injection e0 with e1 e2 e3
        subst e1 e2 e3
        obtain ⟨A4, n4, c4, hu4, hjunk⟩ := HS11.out.2 _ (List.mem_of_getElem? hp)
        simp only at hu4
        subst hu4
        clear hjunk
        obtain ⟨s1, s2, s3, s4, sf⟩ := HS11.out.cells hp
        have s0 := HS11.out.cell0 hp
        have hat5 : (⟨g, 0, none⟩ : Addr).add (kc * 5) = ⟨g, kc * 5, none⟩ := by rw [add_addr, Nat.zero_add]
        have hi0 : (0 : Int) ≤ (kc : Int) := by omega
        have hi1 : (kc : Int) < (n' : Int) := by omega
        have x0 := Hb011.out.cell 0
        simp at x0
        obtain ⟨W12, hW12, hm12, hb1112, hz12⟩ := Blk.box W11 43 #[.int .i64 q.id, .bool q.sea, .bool q.any, .int .i64 q.last, .slice A4 n4 c4]
        obtain ⟨G11, hG11⟩ : ∃ g, g = W11.heap.size := ⟨_, rfl⟩
        rw [← hG11] at hb1112
        have hrd4 := ((HS11.out.2 _ (List.mem_of_getElem? hp)).new hm12).rds
        have hn4 : n4 ≤ 1000000 := by have h := hrd4.1; simp only at h; omega
        have hB12 : B ≤ W12.heap.size ∧ B ≤ G11 ∧ g < G11 := by
          have h1 := HBw.out
          have h2 := hb1112.lt
          obtain ⟨⟨cs, hcs⟩, hBg, _, _⟩ := HS11.out.at_
          have h3 := hcs.lt
          have h4 := hm12.size
          omega
        have hb112 := hm12.blk Hb111.out (fun h => h)
        have HX : Hid (∀ W' : World, Mod (fun _ => False) W12 W' → W'.cell? ⟨G1, 3, none⟩ = some (.int .i64 o.t) ∧ W'.cell? ⟨G1, 4, none⟩ = some (.int .u64 (o.v : Int)) ∧ W'.cell? ⟨G11, 4, none⟩ = some (.slice A4 n4 c4)) := Lib.hid (fun W' h => by
          have h3 := (h.blk hb112 (fun h => h)).cell 3
          have h4 := (h.blk hb112 (fun h => h)).cell 4
          have h5 := (h.blk hb1112 (fun h => h)).cell 4
          simp at h3 h4 h5
          exact ⟨h3, h4, h5⟩)
        have Hown : Hid (∀ W', Mod (fun _ => False) W12 W' → Calls Try.prog 24 #[.slice A4 n4 c4] W' fun e w' => ∃ A5 n5 c5, e = .returned (.slice A5 n5 c5) ∧ OwnS W12.heap.size w' (.slice A5 n5 c5) q.l ∧ Mod (fun _ => False) W12 w' ∧ Mod (fun _ => False) W' w') := Lib.hid (fun W' h => by
          refine (own14_any A4 n4 c4 q.l W' (hrd4.2.2.2.new h).fit hn4).mono ?_
          rintro e w4 ⟨v4, rfl, ho4, hm4⟩
          obtain ⟨A6, n6, c6, rfl, _⟩ := ho4.formN
          exact ⟨A6, n6, c6, rfl, ho4.mono h.size, h.trans hm4 (fun _ _ h => h), hm4⟩)
        have hrl : (rowsS q.l).length + 1 ≤ maxLen := by rw [rowsS_len]; unfold maxLen; omega
        have hrb : ((rowsS q.l).length + 1) * 16 ≤ 140737488355328 := by rw [rowsS_len]; omega
        have Hp := Lib.hid hp; have Hq := Lib.hid hq; have Hqk := Lib.hid hqk; have HW12 := Lib.hid hW12; have HG11 := Lib.hid hG11; have Hm12 := Lib.hid hm12; have Hb1112 := Lib.hid hb1112; have HB12 := Lib.hid hB12; have Hpn := Lib.hid hpn
        clear hq hqid hqk hqm hp hnc' hpn hrd4 hn4 hW12 hm12 hb1112 hz12 hG11 hb112 hin hB12
        go_upto_region 30 with fail
        rw [← HW12.out, ← HG11.out]
        clear HW12 s0 s1 s2 s3 s4 x0
        go_cut [10] from 114 to 128 (fun s10 wx => s10 = .int .i64 (kc : Int) ∧ ∃ A9 n9 c9, Blk wx G11 43 #[.int .i64 q.id, .bool q.sea, .bool true, .int .i64 o.t, .slice A9 n9 c9] ∧ OwnS W12.heap.size wx (.slice A9 n9 c9) (q.l ++ [(o.t, o.v)]) ∧ Mod (fun j => j = G11) W12 wx)
        case first =>
          have Hfin : Hid (∀ w15 A9 n9 c9, OwnK 2 W12.heap.size w15 48 (.slice A9 n9 c9) (rowsS q.l ++ [[.int .i64 o.t, .int .u64 (o.v : Int)]]) → Mod (fun _ => False) W12 w15 → ∃ A9' n9' c9', Blk (((w15.setCell ⟨G11, 2, none⟩ (.bool true)).setCell ⟨G11, 3, none⟩ (.int .i64 o.t)).setCell ⟨G11, 4, none⟩ (.slice A9 n9 c9)) G11 43 #[.int .i64 q.id, .bool q.sea, .bool true, .int .i64 o.t, .slice A9' n9' c9'] ∧ OwnS W12.heap.size (((w15.setCell ⟨G11, 2, none⟩ (.bool true)).setCell ⟨G11, 3, none⟩ (.int .i64 o.t)).setCell ⟨G11, 4, none⟩ (.slice A9 n9 c9)) (.slice A9' n9' c9') (q.l ++ [(o.t, o.v)]) ∧ Mod (fun j => j = G11) W12 (((w15.setCell ⟨G11, 2, none⟩ (.bool true)).setCell ⟨G11, 3, none⟩ (.int .i64 o.t)).setCell ⟨G11, 4, none⟩ (.slice A9 n9 c9))) := Lib.hid (fun w15 A9 n9 c9 hO hm => by
            have hb := hm.blk Hb1112.out (fun h => h)
            have h1 := ((hb.set_ 2 (.bool true)).set_ 3 (.int .i64 o.t)).set_ 4 (.slice A9 n9 c9)
            have hm3 : Mod (fun j => j = G11) w15 (((w15.setCell ⟨G11, 2, none⟩ (.bool true)).setCell ⟨G11, 3, none⟩ (.int .i64 o.t)).setCell ⟨G11, 4, none⟩ (.slice A9 n9 c9)) := (((Mod.refl (fun j => j = G11) w15).setCell (p := ⟨G11, 2, none⟩) (fun _ => rfl) _).setCell (p := ⟨G11, 3, none⟩) (fun _ => rfl) _).setCell (p := ⟨G11, 4, none⟩) (fun _ => rfl) _
            rw [show rowsS q.l ++ [[Value.int .i64 o.t, .int .u64 (o.v : Int)]] = rowsS (q.l ++ [(o.t, o.v)]) from rowsS_snoc q.l (o.t, o.v)] at hO
            exact ⟨A9, n9, c9, by simpa using h1, OwnS.besideB hO.toS hb (by decide) hm3, (hm.mono (fun _ _ h => h.elim)).trans hm3 (fun _ _ h => h)⟩)
          have HXs : Hid (∀ (W' : World) (j : Nat) (u : Value), j ≠ 4 → (W'.cell? ⟨G1, 3, none⟩ = some (.int .i64 o.t) ∧ W'.cell? ⟨G1, 4, none⟩ = some (.int .u64 (o.v : Int)) ∧ W'.cell? ⟨G11, 4, none⟩ = some (.slice A4 n4 c4)) → ((W'.setCell ⟨G11, j, none⟩ u).cell? ⟨G1, 3, none⟩ = some (.int .i64 o.t) ∧ (W'.setCell ⟨G11, j, none⟩ u).cell? ⟨G1, 4, none⟩ = some (.int .u64 (o.v : Int)) ∧ (W'.setCell ⟨G11, j, none⟩ u).cell? ⟨G11, 4, none⟩ = some (.slice A4 n4 c4))) := Lib.hid (fun W' j u hj h => by
            have hne : ¬ G1 = G11 := by have h1 := Hb111.out.lt; have h2 := HG11.out; omega
            exact ⟨(World.cell?_setCell_other _ _ _ _ (by first | (simp; done) | (simp; omega))).trans h.1, (World.cell?_setCell_other _ _ _ _ (by first | (simp; done) | (simp; omega))).trans h.2.1, (World.cell?_setCell_other _ _ _ _ (by first | (simp; done) | (simp; omega))).trans h.2.2⟩)
          refine wp_region_T (fun W' => W'.cell? ⟨G1, 3, none⟩ = some (.int .i64 o.t) ∧ W'.cell? ⟨G1, 4, none⟩ = some (.int .u64 (o.v : Int)) ∧ W'.cell? ⟨G11, 4, none⟩ = some (.slice A4 n4 c4)) 17 (by kernel_rfl) (HX.out _ (Mod.refl _ W12).drew) (fun hHeld => ?_)
          refine wpAnyT_take (i := 0) (v := ?_) rfl (by decide) (by kernel_rfl) (by kernel_rfl) (by kernel_rfl) (by kernel_rfl) (fun _ _ _ h => h) (Or.inl ⟨by rfl, ?_⟩) hHeld ?_
          rotate_left
          · (intro w hSw; (try dsimp only at hSw); go_simp; first | done | with_reducible rfl)
          simp only [Act.put, List.setIfInBounds_toArray, List.set_cons_zero, List.set_cons_succ]
          refine wpAnyT_take (i := 1) (v := ?_) rfl (by decide) (by kernel_rfl) (by kernel_rfl) (by kernel_rfl) (by kernel_rfl) (fun _ _ _ h => h) (Or.inl ⟨by rfl, ?_⟩) hHeld ?_
          rotate_left
          · (intro w hSw; (try dsimp only at hSw); go_simp; first | done | with_reducible rfl)
          simp only [Act.put, List.setIfInBounds_toArray, List.set_cons_zero, List.set_cons_succ]
          refine wpAnyT_take (i := 2) (v := ?_) rfl (by decide) (by kernel_rfl) (by kernel_rfl) (by kernel_rfl) (by kernel_rfl) (fun _ _ _ h => h) (Or.inl ⟨by rfl, ?_⟩) hHeld ?_
          rotate_left
          · (intro w hSw; (try dsimp only at hSw); go_simp; first | done | with_reducible rfl)
          simp only [Act.put, List.setIfInBounds_toArray, List.set_cons_zero, List.set_cons_succ]
          refine wpAnyT_take (i := 3) (v := ?_) rfl (by decide) (by kernel_rfl) (by kernel_rfl) (by kernel_rfl) (by kernel_rfl) (fun _ _ _ h => h) (Or.inl ⟨by rfl, ?_⟩) hHeld ?_
          rotate_left
          · (intro w hSw; (try dsimp only at hSw); go_simp; first | done | with_reducible rfl)
          simp only [Act.put, List.setIfInBounds_toArray, List.set_cons_zero, List.set_cons_succ]
          refine wpAnyT_take (i := 5) (v := ?_) rfl (by decide) (by kernel_rfl) (by kernel_rfl) (by kernel_rfl) (by kernel_rfl) (fun _ _ _ h => h) (Or.inl ⟨by rfl, ?_⟩) hHeld ?_
          rotate_left
          · (intro w hSw; (try dsimp only at hSw); go_simp; first | done | with_reducible rfl)
          simp only [Act.put, List.setIfInBounds_toArray, List.set_cons_zero, List.set_cons_succ]
          refine wpAnyT_take (i := 6) (v := ?_) rfl (by decide) (by kernel_rfl) (by kernel_rfl) (by kernel_rfl) (by kernel_rfl) (fun _ _ _ h => h) (Or.inl ⟨by rfl, ?_⟩) hHeld ?_
          rotate_left
          · (intro w hSw; (try dsimp only at hSw); go_simp; first | done | with_reducible rfl)
          simp only [Act.put, List.setIfInBounds_toArray, List.set_cons_zero, List.set_cons_succ]
          refine wpAnyT_take (i := 7) (v := ?_) rfl (by decide) (by kernel_rfl) (by kernel_rfl) (by kernel_rfl) (by kernel_rfl) (fun _ _ _ h => h) (Or.inl ⟨by rfl, ?_⟩) hHeld ?_
          rotate_left
          · (intro w hSw; (try dsimp only at hSw); go_simp; first | done | with_reducible rfl)
          simp only [Act.put, List.setIfInBounds_toArray, List.set_cons_zero, List.set_cons_succ]
          refine wpAnyT_take (i := 8) (v := ?_) rfl (by decide) (by kernel_rfl) (by kernel_rfl) (by kernel_rfl) (by kernel_rfl) (fun _ _ _ h => h) (Or.inl ⟨by rfl, ?_⟩) hHeld ?_
          rotate_left
          · (intro w hSw; (try dsimp only at hSw); go_simp; first | done | with_reducible rfl)
          simp only [Act.put, List.setIfInBounds_toArray, List.set_cons_zero, List.set_cons_succ]
          refine wpAnyT_take (i := 9) (v := ?_) rfl (by decide) (by kernel_rfl) (by kernel_rfl) (by kernel_rfl) (by kernel_rfl) (fun _ _ _ h => h) (Or.inl ⟨by rfl, ?_⟩) hHeld ?_
          rotate_left
          · (intro w hSw; (try dsimp only at hSw); go_simp; first | done | with_reducible rfl)
          simp only [Act.put, List.setIfInBounds_toArray, List.set_cons_zero, List.set_cons_succ]
          refine wpAnyT_take (i := 12) (v := ?_) rfl (by decide) (by kernel_rfl) (by kernel_rfl) (by kernel_rfl) (by kernel_rfl) (fun _ _ _ h => h) (Or.inl ⟨by rfl, ?_⟩) hHeld ?_
          rotate_left
          · (intro w hSw; (try dsimp only at hSw); go_simp; first | done | with_reducible rfl)
          simp only [Act.put, List.setIfInBounds_toArray, List.set_cons_zero, List.set_cons_succ]
          refine wpAnyT_ready (rs := [4, 10]) (by kernel_rfl) (by simp) (AllReadyT.cons rfl (fun K hK => ?_) (AllReadyT.cons rfl (fun K hK => ?_) AllReadyT.nil))
          · go_simp
            go_at_call 24
            refine (Hown.out _ (Mod.refl _ W12).drew).mono ?_
            rintro e w13 ⟨A5, n5, c5, rfl, ho13, hm13, hmx⟩
            clear hmx
            go_simp
            refine hK.out _ _ (HX.out _ hm13) (fun hHeld => ?_)
            clear hK K
            refine wpAnyT_ready (rs := [10]) (by kernel_rfl) (by simp) (AllReadyT.cons rfl (fun K hK => ?_) AllReadyT.nil)
            go_simp
            refine hK.out _ _ (HX.out _ (hm13.alloc _)) (fun hHeld => ?_)
            clear hK K
            have Hm14 := Lib.hid (hm13.alloc (.cells #[.int .i64 o.t, .int .u64 (o.v : Int)] 48))
            have Ho14 : Hid (OwnS W12.heap.size (w13.alloc (.cells #[.int .i64 o.t, .int .u64 (o.v : Int)] 48)) (.slice A5 n5 c5) q.l) := Lib.hid (ho13.alloc _)
            have Hl14 := Lib.hid (RdsK.lit1 w13 48 [.int .i64 o.t, .int .u64 (o.v : Int)])
            have hsz14 : W12.heap.size ≤ (w13.alloc (.cells #[.int .i64 o.t, .int .u64 (o.v : Int)] 48)).heap.size := Hm14.out.size
            clear ho13 hm13
            refine wpAnyT_ready (rs := [11]) (by kernel_rfl) (by simp) (AllReadyT.cons rfl (fun K hK => ?_) AllReadyT.nil)
            refine step_appK (v := .slice A5 n5 c5) (news := [[.int .i64 o.t, .int .u64 (o.v : Int)]]) rfl (.tmp 118) (.tmp 124) _ rfl eltS2 rfl Ho14.out.toK rfl Hl14.out (fun u hu => by simp at hu; rcases hu with rfl | rfl <;> rfl) hrl hrb hsz14 ?_
            intro v15 w15 HO HMo HOb
            obtain ⟨A9, n9, c9, rfl, _⟩ := HO.out.formN
            have hm15 : Mod (fun _ => False) W12 w15 := ((Hm14.out.mono (fun _ _ h => h.elim) : Mod (fun j => W12.heap.size ≤ j) W12 _).trans HMo.out (fun j _ e => (Ho14.out.block j e).1)).mono (fun j hj h => by omega)
            refine hK.out _ _ (HX.out _ hm15) (fun hHeld => ?_)
            clear hK K
            have Hm15 := Lib.hid hm15
            have hb15 := hm15.blk Hb1112.out (fun h => h)
            have k2 := hb15.cell 2
            have k3 := hb15.cell 3
            have k4 := hb15.cell 4
            have f2 := hb15.frozen 2
            have f3 := hb15.frozen 3
            have f4 := hb15.frozen 4
            simp at k2 k3 k4
            clear hm15 hb15
            refine wpAnyT_ready (rs := [13]) (by kernel_rfl) (by simp) (AllReadyT.cons rfl (fun K hK => ?_) AllReadyT.nil)
            go_simp
            refine hK.out _ _ (HXs.out _ 2 _ (by decide) hHeld) (fun hHeld => ?_)
            clear hK K
            refine wpAnyT_take (i := 14) (v := ?_) rfl (by decide) (by kernel_rfl) (by kernel_rfl) (by kernel_rfl) (by kernel_rfl) (fun _ _ _ h => h) (Or.inl ⟨by rfl, ?_⟩) hHeld ?_
            rotate_left
            · (intro w hSw; (try dsimp only at hSw); go_simp; first | done | with_reducible rfl)
            simp only [Act.put, List.setIfInBounds_toArray, List.set_cons_zero, List.set_cons_succ]
            refine wpAnyT_ready (rs := [15]) (by kernel_rfl) (by simp) (AllReadyT.cons rfl (fun K hK => ?_) AllReadyT.nil)
            go_simp
            refine hK.out _ _ (HXs.out _ 3 _ (by decide) hHeld) (fun hHeld => ?_)
            clear hK K
            refine wpAnyT_take (i := 16) (v := ?_) rfl (by decide) (by kernel_rfl) (by kernel_rfl) (by kernel_rfl) (by kernel_rfl) (fun _ _ _ h => h) (Or.inl ⟨by rfl, ?_⟩) hHeld ?_
            rotate_left
            · (intro w hSw; (try dsimp only at hSw); go_simp; first | done | with_reducible rfl)
            simp only [Act.put, List.setIfInBounds_toArray, List.set_cons_zero, List.set_cons_succ]
            refine wpAnyT_rest (by kernel_rfl) ?_
            refine wpAny_ready (rs := [17]) (by kernel_rfl) (by simp) (AllReady.cons rfl (fun K hK => ?_) AllReady.nil)
            go_simp
            refine hK _ _ ?_
            clear hK K
            refine wpAny_done (by kernel_rfl) ?_ _
            go_wp2_with fail
            go_meet
            exact ⟨rfl, Hfin.out _ _ _ _ HO.out Hm15.out⟩
          · go_simp
            refine hK.out _ _ (HX.out _ (((Mod.refl _ W12).alloc _).drew)) (fun hHeld => ?_)
            clear hK K
            refine wpAnyT_ready (rs := [4]) (by kernel_rfl) (by simp) (AllReadyT.cons rfl (fun K hK => ?_) AllReadyT.nil)
            go_simp
            go_at_call 24
            refine (Hown.out _ (((Mod.refl _ W12).alloc _).drew)).mono ?_
            rintro e w14 ⟨A5, n5, c5, rfl, ho14, hm14, hmx⟩
            go_simp
            refine hK.out _ _ (HX.out _ hm14) (fun hHeld => ?_)
            clear hK K
            have Hm14 := Lib.hid hm14
            have Ho14 := Lib.hid ho14
            have Hl14 := Lib.hid ((RdsK.lit1 W12 48 [.int .i64 o.t, .int .u64 (o.v : Int)]).drew.fit.new hmx)
            have hsz14 : W12.heap.size ≤ w14.heap.size := hm14.size
            clear ho14 hm14 hmx
            refine wpAnyT_ready (rs := [11]) (by kernel_rfl) (by simp) (AllReadyT.cons rfl (fun K hK => ?_) AllReadyT.nil)
            refine step_appK (v := .slice A5 n5 c5) (news := [[.int .i64 o.t, .int .u64 (o.v : Int)]]) rfl (.tmp 118) (.tmp 124) _ rfl eltS2 rfl Ho14.out.toK rfl Hl14.out (fun u hu => by simp at hu; rcases hu with rfl | rfl <;> rfl) hrl hrb hsz14 ?_
            intro v15 w15 HO HMo HOb
            obtain ⟨A9, n9, c9, rfl, _⟩ := HO.out.formN
            have hm15 : Mod (fun _ => False) W12 w15 := ((Hm14.out.mono (fun _ _ h => h.elim) : Mod (fun j => W12.heap.size ≤ j) W12 _).trans HMo.out (fun j _ e => (Ho14.out.block j e).1)).mono (fun j hj h => by omega)
            refine hK.out _ _ (HX.out _ hm15) (fun hHeld => ?_)
            clear hK K
            have Hm15 := Lib.hid hm15
            have hb15 := hm15.blk Hb1112.out (fun h => h)
            have k2 := hb15.cell 2
            have k3 := hb15.cell 3
            have k4 := hb15.cell 4
            have f2 := hb15.frozen 2
            have f3 := hb15.frozen 3
            have f4 := hb15.frozen 4
            simp at k2 k3 k4
            clear hm15 hb15
            refine wpAnyT_ready (rs := [13]) (by kernel_rfl) (by simp) (AllReadyT.cons rfl (fun K hK => ?_) AllReadyT.nil)
            go_simp
            refine hK.out _ _ (HXs.out _ 2 _ (by decide) hHeld) (fun hHeld => ?_)
            clear hK K
            refine wpAnyT_take (i := 14) (v := ?_) rfl (by decide) (by kernel_rfl) (by kernel_rfl) (by kernel_rfl) (by kernel_rfl) (fun _ _ _ h => h) (Or.inl ⟨by rfl, ?_⟩) hHeld ?_
            rotate_left
            · (intro w hSw; (try dsimp only at hSw); go_simp; first | done | with_reducible rfl)
            simp only [Act.put, List.setIfInBounds_toArray, List.set_cons_zero, List.set_cons_succ]
            refine wpAnyT_ready (rs := [15]) (by kernel_rfl) (by simp) (AllReadyT.cons rfl (fun K hK => ?_) AllReadyT.nil)
            go_simp
            refine hK.out _ _ (HXs.out _ 3 _ (by decide) hHeld) (fun hHeld => ?_)
            clear hK K
            refine wpAnyT_take (i := 16) (v := ?_) rfl (by decide) (by kernel_rfl) (by kernel_rfl) (by kernel_rfl) (by kernel_rfl) (fun _ _ _ h => h) (Or.inl ⟨by rfl, ?_⟩) hHeld ?_
            rotate_left
            · (intro w hSw; (try dsimp only at hSw); go_simp; first | done | with_reducible rfl)
            simp only [Act.put, List.setIfInBounds_toArray, List.set_cons_zero, List.set_cons_succ]
            refine wpAnyT_rest (by kernel_rfl) ?_
            refine wpAny_ready (rs := [17]) (by kernel_rfl) (by simp) (AllReady.cons rfl (fun K hK => ?_) AllReady.nil)
            go_simp
            refine hK _ _ ?_
            clear hK K
            refine wpAny_done (by kernel_rfl) ?_ _
            go_wp2_with fail
            go_meet
            exact ⟨rfl, Hfin.out _ _ _ _ HO.out Hm15.out⟩
        case rest =>
          obtain ⟨rfl, A9, n9, c9, hb9, ho9, hm15⟩ := hcut
          obtain ⟨w15, rfl⟩ : ∃ w15 : World, w15 = wc := ⟨_, rfl⟩
          have h11 : Mod (fun _ => False) W11 w15 := Hm12.out.own hm15 (by have := HG11.out; omega)
          have HS15 := Lib.hid (HS11.out.new h11); have HIte15 := Lib.hid (HIte11.out.new h11); have Hmw15 := Lib.hid (Hmw11.out.trans h11 (fun _ _ h => h))
          have Hb015 := Lib.hid (h11.blk Hb011.out (fun h => h)); have Hb415 := Lib.hid (h11.blk Hb411.out (fun h => h)); have Hb515 := Lib.hid (h11.blk Hb511.out (fun h => h)); have Hb815 := Lib.hid (h11.blk Hb811.out (fun h => h)); have Hb9 := Lib.hid hb9
          have Hu9 := Lib.hid ((SliH.of_own ho9).mono (HB12.out.1) : SliH B w15 (.slice A9 n9 c9) (q.l ++ [(o.t, o.v)]))
          clear hm15 h11 ho9 HS11 HIte11 Hmw11 Hb011 Hb111 Hb411 Hb511 Hb811
          obtain ⟨s1, s2, s3, s4, sf⟩ := HS15.out.cells Hp.out
          have s0 := HS15.out.cell0 Hp.out
          have sf0 := sf 0
          have sf1 := sf 1
          have sf2 := sf 2
          have sf3 := sf 3
          have sf4 := sf 4
          simp only [Nat.add_zero] at sf0
          have x0 := Hb015.out.cell 0
          simp at x0
          have z0 := hb9.cell 0
          have z1 := hb9.cell 1
          have z2 := hb9.cell 2
          have z3 := hb9.cell 3
          have z4 := hb9.cell 4
          simp at z0 z1 z2 z3 z4
          clear hb9
          obtain ⟨W16, hW16⟩ : ∃ W, W = ((((w15.setCell ⟨g, kc * 5, none⟩ (.int .i64 q.id)).setCell ⟨g, kc * 5 + 1, none⟩ (.bool q.sea)).setCell ⟨g, kc * 5 + 2, none⟩ (.bool true)).setCell ⟨g, kc * 5 + 3, none⟩ (.int .i64 o.t)).setCell ⟨g, kc * 5 + 4, none⟩ (.slice A9 n9 c9) := ⟨_, rfl⟩
          have hc16 : W16 = cellsTo w15 g (kc * 5) 0 (serC (q.put o.t o.v, .slice A9 n9 c9)) := hW16
          have hm16 : Mod (fun j => j = g) w15 W16 := by rw [hc16]; exact mod_cellsTo _ _ _ _ _
          obtain ⟨cs, hcs⟩ := HS15.out.at_.1
          have hg9 := HS15.out.at_.2.1
          have hO16 : OwnK 5 B W16 43 (.slice (some ⟨g, 0, none⟩) n' c') ((qs.set kc (q.put o.t o.v, .slice A9 n9 c9)).map serC) := by
            rw [hc16, List.map_set]
            exact HS15.out.1.whole (by rw [List.length_map]; exact Hpn.out) (show (qs.map serC)[kc]? = some (serC (q, .slice A4 n4 c4)) by rw [List.getElem?_map, Hp.out]; rfl) rfl
          have hns : ∀ k cs', Blk w15 k 48 cs' → ¬ k = g := fun k cs' hb e => by rw [e] at hb; exact Blk.ne_ hb hcs (by decide) rfl
          have hS16 : HavSer B W16 (.slice (some ⟨g, 0, none⟩) n' c') (qs.set kc (q.put o.t o.v, .slice A9 n9 c9)) := ⟨hO16, fun p hp => by
            rcases List.mem_or_eq_of_mem_set hp with hp | rfl
            · exact (HS15.out.2 p hp).mod hm16 (fun k cs' _ hb => hns k cs' hb)
            · exact Hu9.out.mod hm16 (fun k cs' _ hb => hns k cs' hb)⟩
          have hI16 := HIte15.out.modT hm16 (fun k cs' hb e => by rw [e] at hb; exact Blk.ne_ hb hcs (by decide) rfl) hns
          have HM16 : Hid (HavM B W16 (.slice (some ⟨g, 0, none⟩) n' c') (.slice Aw nw cw) (putN m o)) := Lib.hid ⟨_, js, by rw [putN_ser Hq.out, List.map_set, Hq10.out, Hps.out, Hkc.out, Hps.out], Hjs.out, hS16, hI16⟩
          have hng : ∀ G, G < B ∨ G = G8 → ¬ G = g := fun G h e => by
            rcases h with h | h
            · omega
            · rw [← e, h] at hcs
              exact Blk.ne_ hcs Hb815.out (by decide) rfl
          have Hb016 := Lib.hid (hm16.blk Hb015.out (hng G0 (by have := Hlt.out; omega))); have Hb816 := Lib.hid (hm16.blk Hb815.out (hng G8 (.inr rfl))); have Hb416 := Lib.hid (hm16.blk Hb415.out (hng G4 (by have := Hlt.out; omega))); have Hb516 := Lib.hid (hm16.blk Hb515.out (hng G5 (by have := Hlt.out; omega)))
          have Hmw16 := Lib.hid (Hmw15.out.own hm16 (by have := Hlt.out; omega)); have HW16 := Lib.hid hW16
          clear hW16 hc16 hm16 hcs hg9 hO16 hns hS16 hI16 hng
          go_upto_region 52 with fail
          rw [← HW16.out]
          clear s0 s1 s2 s3 s4 sf sf0 sf1 sf2 sf3 sf4 x0 z0 z1 z2 z3 z4
          have c0 := Hb016.out.cell 0
          have c1 := Hb016.out.cell 1
          have c2 := Hb016.out.cell 2
          simp at c0 c1 c2
          have d0 := Hb816.out.cell 0
          have d1 := Hb816.out.cell 1
          have d2 := Hb816.out.cell 2
          simp at d0 d1 d2
          have r0 := Hb416.out.cell 0
          have r1 := Hb416.out.cell 1
          have r2 := Hb416.out.cell 2
          simp at r0 r1 r2
          have f0 := Hb416.out.frozen 0
          have f1 := Hb416.out.frozen 1
          have f2 := Hb416.out.frozen 2
          have q0 := Hb516.out.cell 0
          have q1 := Hb516.out.cell 1
          have q2 := Hb516.out.cell 2
          simp at q0 q1 q2
          have h0 := Hb516.out.frozen 0
          have h1 := Hb516.out.frozen 1
          have h2 := Hb516.out.frozen 2
          obtain ⟨W6, hW6, hb46, hb56, hm6⟩ := six_lay (cs4 := (.slice none 0 0, .slice none 0 0, .int .i64 0)) (cs5 := (.int .i64 0, .int .i64 0, .slice none 0 0)) Hb416.out Hb516.out (.slice (some ⟨g, 0, none⟩) n' c') (.slice Aw nw cw) (.int .i64 m.next) (.int .i64 0) (.int .i64 0) (.slice none 0 0)
          have HW6 := Lib.hid hW6; have Hb46 := Lib.hid hb46.drew; have Hb56 := Lib.hid hb56.drew; have Hm6 := Lib.hid hm6.drew
          have h45 : ¬ G4 = G5 := by have := Hlt.out; omega
          have h54 : ¬ G5 = G4 := fun h => h45 h.symm
          have h04 : ¬ G0 = G4 := by have := Hlt.out; omega
          have h05 : ¬ G0 = G5 := by have := Hlt.out; omega
          have h84 : ¬ G8 = G4 := by have := Hlt.out; have := Hlt8.out; omega
          have h85 : ¬ G8 = G5 := by have := Hlt.out; have := Hlt8.out; omega
          clear hW6 hb46 hb56 hm6
          go_region
          all_goals (
            rw [← HW6.out]
            obtain ⟨W7, hW7⟩ : ∃ W7, W7 = W6.drew := ⟨_, rfl⟩
            have Hb47 : Hid (Blk W7 G4 31 #[.slice (some ⟨g, 0, none⟩) n' c', .slice Aw nw cw, .int .i64 m.next]) := Lib.hid (by rw [hW7]; exact Hb46.out)
            have Hb57 : Hid (Blk W7 G5 34 #[.int .i64 0, .int .i64 0, .slice none 0 0]) := Lib.hid (by rw [hW7]; exact Hb56.out)
            have Hm7 : Hid (Mod (fun j => j = G4 ∨ j = G5) W16 W7) := Lib.hid (by rw [hW7]; exact Hm6.out)
            rw [← hW7]
            clear hW7
            have a0 := Hb47.out.cell 0
            have a1 := Hb47.out.cell 1
            have a2 := Hb47.out.cell 2
            simp at a0 a1 a2
            have b0 := Hb57.out.cell 0
            have b1 := Hb57.out.cell 1
            have b2 := Hb57.out.cell 2
            simp at b0 b1 b2
            go_wp2_with fail
            refine bodyPost_ret (v := .tuple #[.agg #[.slice (some ⟨g, 0, none⟩) n' c', .slice Aw nw cw, .int .i64 m.next], .agg #[.int .i64 0, .int .i64 0, .slice none 0 0]]) (by simp [results, Try.results13, go_sem, a0, a1, a2, b0, b1, b2]) rfl ?_
            exact rdo_fin (by have := Hlt.out; omega) (by have := Hlt.out; omega) (by have := Hlt.out; omega) Hb416.out Hb516.out HM16.out (SliH.nil _ _) Hmw16.out Hd.out rfl Hm7.out)
end Go.Proofs.Ytejnhdenehkpmaa

/- Do, as the document has it: an append that is refused. -/
namespace Go.Proofs.Ytejnhdenehkpmaa
open Go.RowKit

set_option linter.unusedSimpArgs false in
set_option linter.unusedVariables false in
set_option maxHeartbeats 4000000 in
set_option maxRecDepth 100000 in
theorem rdo_sealed (A : Option Addr) (n c : Nat) (A2 : Option Addr) (n2 c2 : Nat) (m : ModN) (o : OpN) (w : World) (h : RdsM w w.heap.size A n c A2 n2 c2 m) (hK : KeepM m) (hL : LenM m 100000) (hx : m.next ≤ 1000000) (i : Nat) (hat : atS o.series m.ser = some i) (hs0 : ¬ (o.series < 0 ∨ 15 < o.series)) (s : SerN) (hms : m.ser[i]? = some s) (hse : s.sea = true) (hkd : o.kind = 1) :
    Calls Try.prog 13 #[.agg #[.slice A n c, .slice A2 n2 c2, .int .i64 m.next], .agg #[.int .i64 o.kind, .int .i64 o.series, .int .i64 o.iter, .int .i64 o.t, .int .u64 (o.v : Int), .int .i64 o.from_, .int .i64 o.to_, .int .i64 o.n]] w fun e w' => DoEnd w w' (doN m o) e := by
  have HKD := Lib.hid hkd
  clear hkd
  obtain ⟨W, hW⟩ : ∃ W, W = (((w.alloc (.cells #[.slice A n c, .slice A2 n2 c2, .int .i64 m.next] 31)).alloc (.cells #[.int .i64 o.kind, .int .i64 o.series, .int .i64 o.iter, .int .i64 o.t, .int .u64 (o.v : Int), .int .i64 o.from_, .int .i64 o.to_, .int .i64 o.n] 24)).alloc (.cells #[.slice none 0 0, .slice none 0 0, .int .i64 0] 31)).alloc (.cells #[.int .i64 0, .int .i64 0, .slice none 0 0] 34) := ⟨_, rfl⟩
  obtain ⟨G0, hG0⟩ : ∃ g, g = w.heap.size := ⟨_, rfl⟩
  obtain ⟨G1, hG1⟩ : ∃ g, g = w.heap.size + 1 := ⟨_, rfl⟩
  obtain ⟨G4, hG4⟩ : ∃ g, g = w.heap.size + 1 + 1 := ⟨_, rfl⟩
  obtain ⟨G5, hG5⟩ : ∃ g, g = w.heap.size + 1 + 1 + 1 := ⟨_, rfl⟩
  have hmW : Mod (fun _ => False) w W := by rw [hW]; exact ((((Mod.refl _ _).alloc _).alloc _).alloc _).alloc _
  have hzW : W.heap.size = G5 + 1 := by rw [hW, hG5]; simp
  have hb0 : Blk W G0 31 #[.slice A n c, .slice A2 n2 c2, .int .i64 m.next] := by rw [hW, hG0]; exact (((Blk.new _ _ _).alloc _).alloc _).alloc _
  have hb1 : Blk W G1 24 #[.int .i64 o.kind, .int .i64 o.series, .int .i64 o.iter, .int .i64 o.t, .int .u64 (o.v : Int), .int .i64 o.from_, .int .i64 o.to_, .int .i64 o.n] := by
    rw [hW, hG1]
    have h := ((Blk.new (w.alloc (.cells #[.slice A n c, .slice A2 n2 c2, .int .i64 m.next] 31)) 24 #[.int .i64 o.kind, .int .i64 o.series, .int .i64 o.iter, .int .i64 o.t, .int .u64 (o.v : Int), .int .i64 o.from_, .int .i64 o.to_, .int .i64 o.n]).alloc (.cells #[.slice none 0 0, .slice none 0 0, .int .i64 0] 31)).alloc (.cells #[.int .i64 0, .int .i64 0, .slice none 0 0] 34)
    simpa using h
  have hb4 : Blk W G4 31 #[.slice none 0 0, .slice none 0 0, .int .i64 0] := by
    rw [hW, hG4]
    have h := (Blk.new ((w.alloc (.cells #[.slice A n c, .slice A2 n2 c2, .int .i64 m.next] 31)).alloc (.cells #[.int .i64 o.kind, .int .i64 o.series, .int .i64 o.iter, .int .i64 o.t, .int .u64 (o.v : Int), .int .i64 o.from_, .int .i64 o.to_, .int .i64 o.n] 24)) 31 #[.slice none 0 0, .slice none 0 0, .int .i64 0]).alloc (.cells #[.int .i64 0, .int .i64 0, .slice none 0 0] 34)
    simpa using h
  have hb5 : Blk W G5 34 #[.int .i64 0, .int .i64 0, .slice none 0 0] := by
    rw [hW, hG5]
    have h := Blk.new (((w.alloc (.cells #[.slice A n c, .slice A2 n2 c2, .int .i64 m.next] 31)).alloc (.cells #[.int .i64 o.kind, .int .i64 o.series, .int .i64 o.iter, .int .i64 o.t, .int .u64 (o.v : Int), .int .i64 o.from_, .int .i64 o.to_, .int .i64 o.n] 24)).alloc (.cells #[.slice none 0 0, .slice none 0 0, .int .i64 0] 31)) 34 #[.int .i64 0, .int .i64 0, .slice none 0 0]
    simpa using h
  obtain ⟨hl1, hl2⟩ := h.lens
  have hn : n ≤ 1000 := by have := keep_len hK; omega
  have hn2 : n2 ≤ 1000 := by have := hK.2.2.1; omega
  have z0 := hb0.cell 0
  have z1 := hb0.cell 1
  have z2 := hb0.cell 2
  simp at z0 z1 z2
  have Hr := Lib.hid (h.new hmW).fit
  have HW := Lib.hid hW; have HG0 := Lib.hid hG0; have HG1 := Lib.hid hG1; have HG4 := Lib.hid hG4; have HG5 := Lib.hid hG5; have HmW := Lib.hid hmW
  have Hb0 := Lib.hid hb0; have Hb1 := Lib.hid hb1; have Hb4 := Lib.hid hb4; have Hb5 := Lib.hid hb5; have HK := Lib.hid hK; have HL := Lib.hid hL; have Hx := Lib.hid hx
  obtain ⟨B, hBB⟩ : ∃ B, B = W.heap.size := ⟨_, rfl⟩
  have Hlt : Hid (w.heap.size = G0 ∧ G1 = G0 + 1 ∧ G4 = G0 + 2 ∧ G5 = G0 + 3 ∧ B = G0 + 4) := Lib.hid (by omega)
  clear hW hG0 hG1 hG4 hG5 hmW hzW hb0 hb1 hb4 hb5 h hl1 hl2 hK hL hx
  go_enter Try.func13, Try.ntmps13
  go_upto_region 1 with fail
  rw [← HW.out, ← HG5.out, ← HG4.out, ← HG1.out, ← HG0.out]
  go_wp2_with fail
  refine (rcopied_any A n c A2 n2 c2 m W Hr.out HL.out hn hn2).mono ?_
  rintro e w1 ⟨v, v2, rfl, hM1, hm1⟩
  rw [← hBB] at hM1
  obtain ⟨Av, nv, cv, Aw, nw, cw, rfl, rfl, hrd⟩ := hM1.rds
  have hbo := hm1.blk Hb0.out (fun h => h)
  have y0 := hbo.cell 0
  have y1 := hbo.cell 1
  have y2 := hbo.cell 2
  have p0 := hbo.frozen 0
  have p1 := hbo.frozen 1
  have p2 := hbo.frozen 2
  simp at y0 y1 y2
  obtain ⟨W1, hW1, hbn, hmo, hMo⟩ := lay_over1 hbo (.slice Av nv cv) (.slice Aw nw cw) (.int .i64 m.next)
  have hne1 : ¬ G1 = G0 := by have := Hlt.out; omega
  have hne4 : ¬ G4 = G0 := by have := Hlt.out; omega
  have hne5 : ¬ G5 = G0 := by have := Hlt.out; omega
  have HSt : Hid (RSt B w W1 G0 G1 G4 G5 (.slice Av nv cv) (.slice Aw nw cw) m o) := Lib.hid ⟨hbn, hmo.blk (hm1.blk Hb1.out (fun h => h)) hne1, hmo.blk (hm1.blk Hb4.out (fun h => h)) hne4, hmo.blk (hm1.blk Hb5.out (fun h => h)) hne5, hMo hM1, (HmW.out.trans hm1 (fun _ _ h => h)).own hmo (by have := Hlt.out; omega)⟩
  have HW1 := Lib.hid hW1
  clear z0 z1 z2 hM1 hm1 hrd hbo hW1 hbn hmo hMo Hb0 Hb1 Hb4 Hb5 HW HmW hne1 hne4 hne5
  go_upto_region 2 with fail
  rw [← HW1.out]
  clear HW1 y0 y1 y2 p0 p1 p2
  have x0 := HSt.out.1.cell 0
  have x1 := HSt.out.1.cell 1
  have x2 := HSt.out.1.cell 2
  have y1 := HSt.out.2.1.cell 1
  simp at x0 x1 x2 y1
  have hrd := HSt.out.2.2.2.2.1.rdm
  have hnv : nv ≤ 1000000 := by have := hrd.lens; have := keep_len HK.out; omega
  have hnw : nw ≤ 1000000 := by have := hrd.lens; have := HK.out.2.2.1; omega
  have Hat := Lib.hid (rat_any m Av Aw nv cv nw cw W1.heap.size o.series W1 hrd hnv)
  clear hrd
  go_wp2_with fail
  refine Hat.out.mono ?_
  rintro e w2 ⟨k, rfl, hk, hm2⟩
  have Hk := Lib.hid hk; have HS2 := Lib.hid (HSt.out.new hm2)
  clear x0 x1 x2 y1 hk hm2 HSt Hat
  have x0 := HS2.out.1.cell 0
  have x1 := HS2.out.1.cell 1
  have x2 := HS2.out.1.cell 2
  have y0 := HS2.out.2.1.cell 0
  have y1 := HS2.out.2.1.cell 1
  have y2 := HS2.out.2.1.cell 2
  have y3 := HS2.out.2.1.cell 3
  have y4 := HS2.out.2.1.cell 4
  have y5 := HS2.out.2.1.cell 5
  have y6 := HS2.out.2.1.cell 6
  have y7 := HS2.out.2.1.cell 7
  simp at x0 x1 x2 y0 y1 y2 y3 y4 y5 y6 y7
  have hkd := HKD.out
  have Hd := Lib.hid (doN_sealed hkd hs0 hat hms hse)
  have hk1 := fst_some Hk.out hat
  subst hk1
  have hs2 : o.series ≥ 0 := by omega
  have hs3 : o.series ≤ 15 := by omega
  have hi0 : (0 : Int) ≤ (i : Int) := by omega
  obtain ⟨W8, hW8, hm8, hb8, hz8⟩ := Blk.box w2 34 #[.int .i64 0, .int .i64 0, .slice none 0 0]
  obtain ⟨G8, hG8⟩ : ∃ g, g = w2.heap.size := ⟨_, rfl⟩
  rw [← hG8] at hb8
  have HS8 := Lib.hid (HS2.out.new hm8); have HW8 := Lib.hid hW8; have HG8 := Lib.hid hG8; have Hb8 := Lib.hid hb8
  have Hlt8 : Hid (B ≤ G8) := Lib.hid (by have := HS2.out.2.2.2.1.lt; have := Hlt.out; omega)
  rw [hkd] at y0
  clear hW8 hm8 hb8 hz8 hG8 hs0 hkd
  go_upto_region 21 with fail
  rw [← HW8.out, ← HG8.out]
  clear HW8 x0 x1 x2 y0 y1 y2 y3 y4 y5 y6 y7 HS2 hs2 hs3 Hk
  obtain ⟨ps, hps, hS0, hput0⟩ := HS8.out.2.2.2.2.1.ser
  obtain ⟨g, n', c', u4, e0, hp, hin, hnc', hpn⟩ := hS0.some_ hps hms
  injection e0 with e1 e2 e3
  subst e1 e2 e3
  obtain ⟨A4, n4, c4, hu4, hjunk⟩ := hS0.2 _ (List.mem_of_getElem? hp)
  simp only at hu4
  subst hu4
  clear hjunk
  have Hrd4 := Lib.hid (hS0.2 _ (List.mem_of_getElem? hp)).rds
  have Hn4 : Hid (n4 ≤ 100000) := Lib.hid (by
    have h1 := (HL.out.1 s (List.mem_of_getElem? hms)).1
    have h2 := Hrd4.out.1
    simp only at h2
    omega)
  have hi1 : (i : Int) < (nv : Int) := by omega
  have hat5 : (⟨g, 0, none⟩ : Addr).add (i * 5) = ⟨g, i * 5, none⟩ := by rw [add_addr, Nat.zero_add]
  obtain ⟨s1, s2, s3, s4, sf⟩ := hS0.cells hp
  have Hps := Lib.hid hps; have HS0 := Lib.hid hS0; have Hput0 := Lib.hid hput0; have Hp := Lib.hid hp; have Hpn := Lib.hid hpn; have Hms := Lib.hid hms; have Hat9 := Lib.hid hat
  have Hgl : Hid (B ≤ g ∧ g < W8.heap.size) := Lib.hid (by obtain ⟨⟨cs, hcs⟩, hBg, _, _⟩ := hS0.at_; exact ⟨hBg, hcs.lt⟩)
  clear hps hS0 hput0 hp hpn hat hms
  have x0 := HS8.out.1.cell 0
  have x1 := HS8.out.1.cell 1
  have x2 := HS8.out.1.cell 2
  have y0 := HS8.out.2.1.cell 0
  have y1 := HS8.out.2.1.cell 1
  have y3 := HS8.out.2.1.cell 3
  have y4 := HS8.out.2.1.cell 4
  have y5 := HS8.out.2.1.cell 5
  have y6 := HS8.out.2.1.cell 6
  simp at x0 x1 x2 y0 y1 y3 y4 y5 y6
  rw [HKD.out] at y0
  rw [hse] at s1
  clear hse
  have r0 := HS8.out.2.2.1.cell 0
  have r1 := HS8.out.2.2.1.cell 1
  have r2 := HS8.out.2.2.1.cell 2
  simp at r0 r1 r2
  have f0 := HS8.out.2.2.1.frozen 0
  have f1 := HS8.out.2.2.1.frozen 1
  have f2 := HS8.out.2.2.1.frozen 2
  have q0 := HS8.out.2.2.2.1.cell 0
  have q1 := HS8.out.2.2.2.1.cell 1
  have q2 := HS8.out.2.2.2.1.cell 2
  simp at q0 q1 q2
  have g0 := HS8.out.2.2.2.1.frozen 0
  have g1 := HS8.out.2.2.2.1.frozen 1
  have g2 := HS8.out.2.2.2.1.frozen 2
  obtain ⟨W6, hW6, hb46, hb56, hm6⟩ := six_lay (cs4 := (.slice none 0 0, .slice none 0 0, .int .i64 0)) (cs5 := (.int .i64 0, .int .i64 0, .slice none 0 0)) HS8.out.2.2.1 HS8.out.2.2.2.1 (.slice (some ⟨g, 0, none⟩) nv cv) (.slice Aw nw cw) (.int .i64 m.next) (.int .i64 2) (.int .i64 0) (.slice none 0 0)
  have HW6 := Lib.hid hW6; have Hb46 := Lib.hid hb46; have Hb56 := Lib.hid hb56; have Hm6 := Lib.hid hm6
  have h45 : ¬ G4 = G5 := by have := Hlt.out; omega
  have h54 : ¬ G5 = G4 := fun h => h45 h.symm
  clear hW6 hb46 hb56 hm6
  go_wp2_with fail
  rw [← HW6.out]
  have a0 := Hb46.out.cell 0
  have a1 := Hb46.out.cell 1
  have a2 := Hb46.out.cell 2
  simp at a0 a1 a2
  have b0 := Hb56.out.cell 0
  have b1 := Hb56.out.cell 1
  have b2 := Hb56.out.cell 2
  simp at b0 b1 b2
  refine bodyPost_ret (v := .tuple #[.agg #[.slice (some ⟨g, 0, none⟩) nv cv, .slice Aw nw cw, .int .i64 m.next], .agg #[.int .i64 2, .int .i64 0, .slice none 0 0]]) (by simp [results, Try.results13, go_sem, a0, a1, a2, b0, b1, b2]) rfl ?_
  exact rdo_fin (by have := Hlt.out; omega) (by have := Hlt.out; omega) (by have := Hlt.out; omega) HS8.out.2.2.1 HS8.out.2.2.2.1 HS8.out.2.2.2.2.1 (SliH.nil _ _) HS8.out.2.2.2.2.2 Hd.out rfl Hm6.out
set_option linter.unusedSimpArgs false in
set_option linter.unusedVariables false in
set_option maxHeartbeats 4000000 in
set_option maxRecDepth 100000 in
theorem rdo_order (A : Option Addr) (n c : Nat) (A2 : Option Addr) (n2 c2 : Nat) (m : ModN) (o : OpN) (w : World) (h : RdsM w w.heap.size A n c A2 n2 c2 m) (hK : KeepM m) (hL : LenM m 100000) (hx : m.next ≤ 1000000) (i : Nat) (hat : atS o.series m.ser = some i) (hs0 : ¬ (o.series < 0 ∨ 15 < o.series)) (s : SerN) (hms : m.ser[i]? = some s) (hse : s.sea = false) (hor : s.any = true ∧ o.t ≤ s.last) (hkd : o.kind = 1) :
    Calls Try.prog 13 #[.agg #[.slice A n c, .slice A2 n2 c2, .int .i64 m.next], .agg #[.int .i64 o.kind, .int .i64 o.series, .int .i64 o.iter, .int .i64 o.t, .int .u64 (o.v : Int), .int .i64 o.from_, .int .i64 o.to_, .int .i64 o.n]] w fun e w' => DoEnd w w' (doN m o) e := by
  have HKD := Lib.hid hkd
  clear hkd
  obtain ⟨W, hW⟩ : ∃ W, W = (((w.alloc (.cells #[.slice A n c, .slice A2 n2 c2, .int .i64 m.next] 31)).alloc (.cells #[.int .i64 o.kind, .int .i64 o.series, .int .i64 o.iter, .int .i64 o.t, .int .u64 (o.v : Int), .int .i64 o.from_, .int .i64 o.to_, .int .i64 o.n] 24)).alloc (.cells #[.slice none 0 0, .slice none 0 0, .int .i64 0] 31)).alloc (.cells #[.int .i64 0, .int .i64 0, .slice none 0 0] 34) := ⟨_, rfl⟩
  obtain ⟨G0, hG0⟩ : ∃ g, g = w.heap.size := ⟨_, rfl⟩
  obtain ⟨G1, hG1⟩ : ∃ g, g = w.heap.size + 1 := ⟨_, rfl⟩
  obtain ⟨G4, hG4⟩ : ∃ g, g = w.heap.size + 1 + 1 := ⟨_, rfl⟩
  obtain ⟨G5, hG5⟩ : ∃ g, g = w.heap.size + 1 + 1 + 1 := ⟨_, rfl⟩
  have hmW : Mod (fun _ => False) w W := by rw [hW]; exact ((((Mod.refl _ _).alloc _).alloc _).alloc _).alloc _
  have hzW : W.heap.size = G5 + 1 := by rw [hW, hG5]; simp
  have hb0 : Blk W G0 31 #[.slice A n c, .slice A2 n2 c2, .int .i64 m.next] := by rw [hW, hG0]; exact (((Blk.new _ _ _).alloc _).alloc _).alloc _
  have hb1 : Blk W G1 24 #[.int .i64 o.kind, .int .i64 o.series, .int .i64 o.iter, .int .i64 o.t, .int .u64 (o.v : Int), .int .i64 o.from_, .int .i64 o.to_, .int .i64 o.n] := by
    rw [hW, hG1]
    have h := ((Blk.new (w.alloc (.cells #[.slice A n c, .slice A2 n2 c2, .int .i64 m.next] 31)) 24 #[.int .i64 o.kind, .int .i64 o.series, .int .i64 o.iter, .int .i64 o.t, .int .u64 (o.v : Int), .int .i64 o.from_, .int .i64 o.to_, .int .i64 o.n]).alloc (.cells #[.slice none 0 0, .slice none 0 0, .int .i64 0] 31)).alloc (.cells #[.int .i64 0, .int .i64 0, .slice none 0 0] 34)
    simpa using h
  have hb4 : Blk W G4 31 #[.slice none 0 0, .slice none 0 0, .int .i64 0] := by
    rw [hW, hG4]
    have h := (Blk.new ((w.alloc (.cells #[.slice A n c, .slice A2 n2 c2, .int .i64 m.next] 31)).alloc (.cells #[.int .i64 o.kind, .int .i64 o.series, .int .i64 o.iter, .int .i64 o.t, .int .u64 (o.v : Int), .int .i64 o.from_, .int .i64 o.to_, .int .i64 o.n] 24)) 31 #[.slice none 0 0, .slice none 0 0, .int .i64 0]).alloc (.cells #[.int .i64 0, .int .i64 0, .slice none 0 0] 34)
    simpa using h
  have hb5 : Blk W G5 34 #[.int .i64 0, .int .i64 0, .slice none 0 0] := by
    rw [hW, hG5]
    have h := Blk.new (((w.alloc (.cells #[.slice A n c, .slice A2 n2 c2, .int .i64 m.next] 31)).alloc (.cells #[.int .i64 o.kind, .int .i64 o.series, .int .i64 o.iter, .int .i64 o.t, .int .u64 (o.v : Int), .int .i64 o.from_, .int .i64 o.to_, .int .i64 o.n] 24)).alloc (.cells #[.slice none 0 0, .slice none 0 0, .int .i64 0] 31)) 34 #[.int .i64 0, .int .i64 0, .slice none 0 0]
    simpa using h
  obtain ⟨hl1, hl2⟩ := h.lens
  have hn : n ≤ 1000 := by have := keep_len hK; omega
  have hn2 : n2 ≤ 1000 := by have := hK.2.2.1; omega
  have z0 := hb0.cell 0
  have z1 := hb0.cell 1
  have z2 := hb0.cell 2
  simp at z0 z1 z2
  have Hr := Lib.hid (h.new hmW).fit
  have HW := Lib.hid hW; have HG0 := Lib.hid hG0; have HG1 := Lib.hid hG1; have HG4 := Lib.hid hG4; have HG5 := Lib.hid hG5; have HmW := Lib.hid hmW
  have Hb0 := Lib.hid hb0; have Hb1 := Lib.hid hb1; have Hb4 := Lib.hid hb4; have Hb5 := Lib.hid hb5; have HK := Lib.hid hK; have HL := Lib.hid hL; have Hx := Lib.hid hx
  obtain ⟨B, hBB⟩ : ∃ B, B = W.heap.size := ⟨_, rfl⟩
  have Hlt : Hid (w.heap.size = G0 ∧ G1 = G0 + 1 ∧ G4 = G0 + 2 ∧ G5 = G0 + 3 ∧ B = G0 + 4) := Lib.hid (by omega)
  clear hW hG0 hG1 hG4 hG5 hmW hzW hb0 hb1 hb4 hb5 h hl1 hl2 hK hL hx
  go_enter Try.func13, Try.ntmps13
  go_upto_region 1 with fail
  rw [← HW.out, ← HG5.out, ← HG4.out, ← HG1.out, ← HG0.out]
  go_wp2_with fail
  refine (rcopied_any A n c A2 n2 c2 m W Hr.out HL.out hn hn2).mono ?_
  rintro e w1 ⟨v, v2, rfl, hM1, hm1⟩
  rw [← hBB] at hM1
  obtain ⟨Av, nv, cv, Aw, nw, cw, rfl, rfl, hrd⟩ := hM1.rds
  have hbo := hm1.blk Hb0.out (fun h => h)
  have y0 := hbo.cell 0
  have y1 := hbo.cell 1
  have y2 := hbo.cell 2
  have p0 := hbo.frozen 0
  have p1 := hbo.frozen 1
  have p2 := hbo.frozen 2
  simp at y0 y1 y2
  obtain ⟨W1, hW1, hbn, hmo, hMo⟩ := lay_over1 hbo (.slice Av nv cv) (.slice Aw nw cw) (.int .i64 m.next)
  have hne1 : ¬ G1 = G0 := by have := Hlt.out; omega
  have hne4 : ¬ G4 = G0 := by have := Hlt.out; omega
  have hne5 : ¬ G5 = G0 := by have := Hlt.out; omega
  have HSt : Hid (RSt B w W1 G0 G1 G4 G5 (.slice Av nv cv) (.slice Aw nw cw) m o) := Lib.hid ⟨hbn, hmo.blk (hm1.blk Hb1.out (fun h => h)) hne1, hmo.blk (hm1.blk Hb4.out (fun h => h)) hne4, hmo.blk (hm1.blk Hb5.out (fun h => h)) hne5, hMo hM1, (HmW.out.trans hm1 (fun _ _ h => h)).own hmo (by have := Hlt.out; omega)⟩
  have HW1 := Lib.hid hW1
  clear z0 z1 z2 hM1 hm1 hrd hbo hW1 hbn hmo hMo Hb0 Hb1 Hb4 Hb5 HW HmW hne1 hne4 hne5
  go_upto_region 2 with fail
  rw [← HW1.out]
  clear HW1 y0 y1 y2 p0 p1 p2
  have x0 := HSt.out.1.cell 0
  have x1 := HSt.out.1.cell 1
  have x2 := HSt.out.1.cell 2
  have y1 := HSt.out.2.1.cell 1
  simp at x0 x1 x2 y1
  have hrd := HSt.out.2.2.2.2.1.rdm
  have hnv : nv ≤ 1000000 := by have := hrd.lens; have := keep_len HK.out; omega
  have hnw : nw ≤ 1000000 := by have := hrd.lens; have := HK.out.2.2.1; omega
  have Hat := Lib.hid (rat_any m Av Aw nv cv nw cw W1.heap.size o.series W1 hrd hnv)
  clear hrd
  go_wp2_with fail
  refine Hat.out.mono ?_
  rintro e w2 ⟨k, rfl, hk, hm2⟩
  have Hk := Lib.hid hk; have HS2 := Lib.hid (HSt.out.new hm2)
  clear x0 x1 x2 y1 hk hm2 HSt Hat
  have x0 := HS2.out.1.cell 0
  have x1 := HS2.out.1.cell 1
  have x2 := HS2.out.1.cell 2
  have y0 := HS2.out.2.1.cell 0
  have y1 := HS2.out.2.1.cell 1
  have y2 := HS2.out.2.1.cell 2
  have y3 := HS2.out.2.1.cell 3
  have y4 := HS2.out.2.1.cell 4
  have y5 := HS2.out.2.1.cell 5
  have y6 := HS2.out.2.1.cell 6
  have y7 := HS2.out.2.1.cell 7
  simp at x0 x1 x2 y0 y1 y2 y3 y4 y5 y6 y7
  have hkd := HKD.out
  have Hd := Lib.hid (doN_order hkd hs0 hat hms hse hor)
  have hk1 := fst_some Hk.out hat
  subst hk1
  have hs2 : o.series ≥ 0 := by omega
  have hs3 : o.series ≤ 15 := by omega
  have hi0 : (0 : Int) ≤ (i : Int) := by omega
  obtain ⟨W8, hW8, hm8, hb8, hz8⟩ := Blk.box w2 34 #[.int .i64 0, .int .i64 0, .slice none 0 0]
  obtain ⟨G8, hG8⟩ : ∃ g, g = w2.heap.size := ⟨_, rfl⟩
  rw [← hG8] at hb8
  have HS8 := Lib.hid (HS2.out.new hm8); have HW8 := Lib.hid hW8; have HG8 := Lib.hid hG8; have Hb8 := Lib.hid hb8
  have Hlt8 : Hid (B ≤ G8) := Lib.hid (by have := HS2.out.2.2.2.1.lt; have := Hlt.out; omega)
  rw [hkd] at y0
  clear hW8 hm8 hb8 hz8 hG8 hs0 hkd
  go_upto_region 21 with fail
  rw [← HW8.out, ← HG8.out]
  clear HW8 x0 x1 x2 y0 y1 y2 y3 y4 y5 y6 y7 HS2 hs2 hs3 Hk
  obtain ⟨ps, hps, hS0, hput0⟩ := HS8.out.2.2.2.2.1.ser
  obtain ⟨g, n', c', u4, e0, hp, hin, hnc', hpn⟩ := hS0.some_ hps hms
  injection e0 with e1 e2 e3
  subst e1 e2 e3
  obtain ⟨A4, n4, c4, hu4, hjunk⟩ := hS0.2 _ (List.mem_of_getElem? hp)
  simp only at hu4
  subst hu4
  clear hjunk
  have Hrd4 := Lib.hid (hS0.2 _ (List.mem_of_getElem? hp)).rds
  have Hn4 : Hid (n4 ≤ 100000) := Lib.hid (by
    have h1 := (HL.out.1 s (List.mem_of_getElem? hms)).1
    have h2 := Hrd4.out.1
    simp only at h2
    omega)
  have hi1 : (i : Int) < (nv : Int) := by omega
  have hat5 : (⟨g, 0, none⟩ : Addr).add (i * 5) = ⟨g, i * 5, none⟩ := by rw [add_addr, Nat.zero_add]
  obtain ⟨s1, s2, s3, s4, sf⟩ := hS0.cells hp
  have Hps := Lib.hid hps; have HS0 := Lib.hid hS0; have Hput0 := Lib.hid hput0; have Hp := Lib.hid hp; have Hpn := Lib.hid hpn; have Hms := Lib.hid hms; have Hat9 := Lib.hid hat
  have Hgl : Hid (B ≤ g ∧ g < W8.heap.size) := Lib.hid (by obtain ⟨⟨cs, hcs⟩, hBg, _, _⟩ := hS0.at_; exact ⟨hBg, hcs.lt⟩)
  clear hps hS0 hput0 hp hpn hat hms
  have x0 := HS8.out.1.cell 0
  have x1 := HS8.out.1.cell 1
  have x2 := HS8.out.1.cell 2
  have y0 := HS8.out.2.1.cell 0
  have y1 := HS8.out.2.1.cell 1
  have y3 := HS8.out.2.1.cell 3
  have y4 := HS8.out.2.1.cell 4
  have y5 := HS8.out.2.1.cell 5
  have y6 := HS8.out.2.1.cell 6
  simp at x0 x1 x2 y0 y1 y3 y4 y5 y6
  rw [HKD.out] at y0
  rw [hse] at s1
  rw [hor.1] at s2
  have hle : o.t ≤ s.last := hor.2
  clear hse hor
  go_upto_region 25 with fail
  go_cut [98] (fun s98 wx => s98 = .bool true ∧ Mod (fun _ => False) W8 wx)
  case first =>
    go_quiet (fail)
    go_wp2_with fail
    go_meet
    exact ⟨by simp [hle], (Mod.refl _ W8).drewN _⟩
  case rest =>
    obtain ⟨rfl, hm9⟩ := hcut
    have HS9 := Lib.hid (HS8.out.new hm9)
    clear hm9 x0 x1 x2 y0 y1 y3 y4 y5 y6 s1 s2 s3 s4 sf
    have x0 := HS9.out.1.cell 0
    have x1 := HS9.out.1.cell 1
    have x2 := HS9.out.1.cell 2
    simp at x0 x1 x2
    have r0 := HS9.out.2.2.1.cell 0
    have r1 := HS9.out.2.2.1.cell 1
    have r2 := HS9.out.2.2.1.cell 2
    simp at r0 r1 r2
    have f0 := HS9.out.2.2.1.frozen 0
    have f1 := HS9.out.2.2.1.frozen 1
    have f2 := HS9.out.2.2.1.frozen 2
    have q0 := HS9.out.2.2.2.1.cell 0
    have q1 := HS9.out.2.2.2.1.cell 1
    have q2 := HS9.out.2.2.2.1.cell 2
    simp at q0 q1 q2
    have g0 := HS9.out.2.2.2.1.frozen 0
    have g1 := HS9.out.2.2.2.1.frozen 1
    have g2 := HS9.out.2.2.2.1.frozen 2
    obtain ⟨W6, hW6, hb46, hb56, hm6⟩ := six_lay (cs4 := (.slice none 0 0, .slice none 0 0, .int .i64 0)) (cs5 := (.int .i64 0, .int .i64 0, .slice none 0 0)) HS9.out.2.2.1 HS9.out.2.2.2.1 (.slice (some ⟨g, 0, none⟩) nv cv) (.slice Aw nw cw) (.int .i64 m.next) (.int .i64 1) (.int .i64 0) (.slice none 0 0)
    have HW6 := Lib.hid hW6; have Hb46 := Lib.hid hb46; have Hb56 := Lib.hid hb56; have Hm6 := Lib.hid hm6
    have h45 : ¬ G4 = G5 := by have := Hlt.out; omega
    have h54 : ¬ G5 = G4 := fun h => h45 h.symm
    clear hW6 hb46 hb56 hm6
    go_wp2_with fail
    rw [← HW6.out]
    have a0 := Hb46.out.cell 0
    have a1 := Hb46.out.cell 1
    have a2 := Hb46.out.cell 2
    simp at a0 a1 a2
    have b0 := Hb56.out.cell 0
    have b1 := Hb56.out.cell 1
    have b2 := Hb56.out.cell 2
    simp at b0 b1 b2
    refine bodyPost_ret (v := .tuple #[.agg #[.slice (some ⟨g, 0, none⟩) nv cv, .slice Aw nw cw, .int .i64 m.next], .agg #[.int .i64 1, .int .i64 0, .slice none 0 0]]) (by simp [results, Try.results13, go_sem, a0, a1, a2, b0, b1, b2]) rfl ?_
    exact rdo_fin (by have := Hlt.out; omega) (by have := Hlt.out; omega) (by have := Hlt.out; omega) HS9.out.2.2.1 HS9.out.2.2.2.1 HS9.out.2.2.2.2.1 (SliH.nil _ _) HS9.out.2.2.2.2.2 Hd.out rfl Hm6.out
end Go.Proofs.Ytejnhdenehkpmaa

/- Do, as the document has it: a span is read. -/
namespace Go.Proofs.Ytejnhdenehkpmaa
open Go.RowKit

set_option linter.unusedSimpArgs false in
set_option linter.unusedVariables false in
set_option maxHeartbeats 4000000 in
set_option maxRecDepth 100000 in
theorem rdo_read (A : Option Addr) (n c : Nat) (A2 : Option Addr) (n2 c2 : Nat) (m : ModN) (o : OpN) (w : World) (h : RdsM w w.heap.size A n c A2 n2 c2 m) (hK : KeepM m) (hL : LenM m 100000) (hx : m.next ≤ 1000000) (i : Nat) (hat : atS o.series m.ser = some i) (hs0 : ¬ (o.series < 0 ∨ 15 < o.series)) (s : SerN) (hms : m.ser[i]? = some s) (hkd : o.kind = 2) :
    Calls Try.prog 13 #[.agg #[.slice A n c, .slice A2 n2 c2, .int .i64 m.next], .agg #[.int .i64 o.kind, .int .i64 o.series, .int .i64 o.iter, .int .i64 o.t, .int .u64 (o.v : Int), .int .i64 o.from_, .int .i64 o.to_, .int .i64 o.n]] w fun e w' => DoEnd w w' (doN m o) e := by
  have HKD := Lib.hid hkd
  clear hkd
  obtain ⟨W, hW⟩ : ∃ W, W = (((w.alloc (.cells #[.slice A n c, .slice A2 n2 c2, .int .i64 m.next] 31)).alloc (.cells #[.int .i64 o.kind, .int .i64 o.series, .int .i64 o.iter, .int .i64 o.t, .int .u64 (o.v : Int), .int .i64 o.from_, .int .i64 o.to_, .int .i64 o.n] 24)).alloc (.cells #[.slice none 0 0, .slice none 0 0, .int .i64 0] 31)).alloc (.cells #[.int .i64 0, .int .i64 0, .slice none 0 0] 34) := ⟨_, rfl⟩
  obtain ⟨G0, hG0⟩ : ∃ g, g = w.heap.size := ⟨_, rfl⟩
  obtain ⟨G1, hG1⟩ : ∃ g, g = w.heap.size + 1 := ⟨_, rfl⟩
  obtain ⟨G4, hG4⟩ : ∃ g, g = w.heap.size + 1 + 1 := ⟨_, rfl⟩
  obtain ⟨G5, hG5⟩ : ∃ g, g = w.heap.size + 1 + 1 + 1 := ⟨_, rfl⟩
  have hmW : Mod (fun _ => False) w W := by rw [hW]; exact ((((Mod.refl _ _).alloc _).alloc _).alloc _).alloc _
  have hzW : W.heap.size = G5 + 1 := by rw [hW, hG5]; simp
  have hb0 : Blk W G0 31 #[.slice A n c, .slice A2 n2 c2, .int .i64 m.next] := by rw [hW, hG0]; exact (((Blk.new _ _ _).alloc _).alloc _).alloc _
  have hb1 : Blk W G1 24 #[.int .i64 o.kind, .int .i64 o.series, .int .i64 o.iter, .int .i64 o.t, .int .u64 (o.v : Int), .int .i64 o.from_, .int .i64 o.to_, .int .i64 o.n] := by
    rw [hW, hG1]
    have h := ((Blk.new (w.alloc (.cells #[.slice A n c, .slice A2 n2 c2, .int .i64 m.next] 31)) 24 #[.int .i64 o.kind, .int .i64 o.series, .int .i64 o.iter, .int .i64 o.t, .int .u64 (o.v : Int), .int .i64 o.from_, .int .i64 o.to_, .int .i64 o.n]).alloc (.cells #[.slice none 0 0, .slice none 0 0, .int .i64 0] 31)).alloc (.cells #[.int .i64 0, .int .i64 0, .slice none 0 0] 34)
    simpa using h
  have hb4 : Blk W G4 31 #[.slice none 0 0, .slice none 0 0, .int .i64 0] := by
    rw [hW, hG4]
    have h := (Blk.new ((w.alloc (.cells #[.slice A n c, .slice A2 n2 c2, .int .i64 m.next] 31)).alloc (.cells #[.int .i64 o.kind, .int .i64 o.series, .int .i64 o.iter, .int .i64 o.t, .int .u64 (o.v : Int), .int .i64 o.from_, .int .i64 o.to_, .int .i64 o.n] 24)) 31 #[.slice none 0 0, .slice none 0 0, .int .i64 0]).alloc (.cells #[.int .i64 0, .int .i64 0, .slice none 0 0] 34)
    simpa using h
  have hb5 : Blk W G5 34 #[.int .i64 0, .int .i64 0, .slice none 0 0] := by
    rw [hW, hG5]
    have h := Blk.new (((w.alloc (.cells #[.slice A n c, .slice A2 n2 c2, .int .i64 m.next] 31)).alloc (.cells #[.int .i64 o.kind, .int .i64 o.series, .int .i64 o.iter, .int .i64 o.t, .int .u64 (o.v : Int), .int .i64 o.from_, .int .i64 o.to_, .int .i64 o.n] 24)).alloc (.cells #[.slice none 0 0, .slice none 0 0, .int .i64 0] 31)) 34 #[.int .i64 0, .int .i64 0, .slice none 0 0]
    simpa using h
  obtain ⟨hl1, hl2⟩ := h.lens
  have hn : n ≤ 1000 := by have := keep_len hK; omega
  have hn2 : n2 ≤ 1000 := by have := hK.2.2.1; omega
  have z0 := hb0.cell 0
  have z1 := hb0.cell 1
  have z2 := hb0.cell 2
  simp at z0 z1 z2
  have Hr := Lib.hid (h.new hmW).fit
  have HW := Lib.hid hW; have HG0 := Lib.hid hG0; have HG1 := Lib.hid hG1; have HG4 := Lib.hid hG4; have HG5 := Lib.hid hG5; have HmW := Lib.hid hmW
  have Hb0 := Lib.hid hb0; have Hb1 := Lib.hid hb1; have Hb4 := Lib.hid hb4; have Hb5 := Lib.hid hb5; have HK := Lib.hid hK; have HL := Lib.hid hL; have Hx := Lib.hid hx
  obtain ⟨B, hBB⟩ : ∃ B, B = W.heap.size := ⟨_, rfl⟩
  have Hlt : Hid (w.heap.size = G0 ∧ G1 = G0 + 1 ∧ G4 = G0 + 2 ∧ G5 = G0 + 3 ∧ B = G0 + 4) := Lib.hid (by omega)
  clear hW hG0 hG1 hG4 hG5 hmW hzW hb0 hb1 hb4 hb5 h hl1 hl2 hK hL hx
  go_enter Try.func13, Try.ntmps13
  go_upto_region 1 with fail
  rw [← HW.out, ← HG5.out, ← HG4.out, ← HG1.out, ← HG0.out]
  go_wp2_with fail
  refine (rcopied_any A n c A2 n2 c2 m W Hr.out HL.out hn hn2).mono ?_
  rintro e w1 ⟨v, v2, rfl, hM1, hm1⟩
  rw [← hBB] at hM1
  obtain ⟨Av, nv, cv, Aw, nw, cw, rfl, rfl, hrd⟩ := hM1.rds
  have hbo := hm1.blk Hb0.out (fun h => h)
  have y0 := hbo.cell 0
  have y1 := hbo.cell 1
  have y2 := hbo.cell 2
  have p0 := hbo.frozen 0
  have p1 := hbo.frozen 1
  have p2 := hbo.frozen 2
  simp at y0 y1 y2
  obtain ⟨W1, hW1, hbn, hmo, hMo⟩ := lay_over1 hbo (.slice Av nv cv) (.slice Aw nw cw) (.int .i64 m.next)
  have hne1 : ¬ G1 = G0 := by have := Hlt.out; omega
  have hne4 : ¬ G4 = G0 := by have := Hlt.out; omega
  have hne5 : ¬ G5 = G0 := by have := Hlt.out; omega
  have HSt : Hid (RSt B w W1 G0 G1 G4 G5 (.slice Av nv cv) (.slice Aw nw cw) m o) := Lib.hid ⟨hbn, hmo.blk (hm1.blk Hb1.out (fun h => h)) hne1, hmo.blk (hm1.blk Hb4.out (fun h => h)) hne4, hmo.blk (hm1.blk Hb5.out (fun h => h)) hne5, hMo hM1, (HmW.out.trans hm1 (fun _ _ h => h)).own hmo (by have := Hlt.out; omega)⟩
  have HW1 := Lib.hid hW1
  clear z0 z1 z2 hM1 hm1 hrd hbo hW1 hbn hmo hMo Hb0 Hb1 Hb4 Hb5 HW HmW hne1 hne4 hne5
  go_upto_region 2 with fail
  rw [← HW1.out]
  clear HW1 y0 y1 y2 p0 p1 p2
  have x0 := HSt.out.1.cell 0
  have x1 := HSt.out.1.cell 1
  have x2 := HSt.out.1.cell 2
  have y1 := HSt.out.2.1.cell 1
  simp at x0 x1 x2 y1
  have hrd := HSt.out.2.2.2.2.1.rdm
  have hnv : nv ≤ 1000000 := by have := hrd.lens; have := keep_len HK.out; omega
  have hnw : nw ≤ 1000000 := by have := hrd.lens; have := HK.out.2.2.1; omega
  have Hat := Lib.hid (rat_any m Av Aw nv cv nw cw W1.heap.size o.series W1 hrd hnv)
  clear hrd
  go_wp2_with fail
  refine Hat.out.mono ?_
  rintro e w2 ⟨k, rfl, hk, hm2⟩
  have Hk := Lib.hid hk; have HS2 := Lib.hid (HSt.out.new hm2)
  clear x0 x1 x2 y1 hk hm2 HSt Hat
  have x0 := HS2.out.1.cell 0
  have x1 := HS2.out.1.cell 1
  have x2 := HS2.out.1.cell 2
  have y0 := HS2.out.2.1.cell 0
  have y1 := HS2.out.2.1.cell 1
  have y2 := HS2.out.2.1.cell 2
  have y3 := HS2.out.2.1.cell 3
  have y4 := HS2.out.2.1.cell 4
  have y5 := HS2.out.2.1.cell 5
  have y6 := HS2.out.2.1.cell 6
  have y7 := HS2.out.2.1.cell 7
  simp at x0 x1 x2 y0 y1 y2 y3 y4 y5 y6 y7
  have hkd := HKD.out
  have Hd := Lib.hid (doN_read hkd hs0 hat hms)
  have hk1 := fst_some Hk.out hat
  subst hk1
  have hs2 : o.series ≥ 0 := by omega
  have hs3 : o.series ≤ 15 := by omega
  have hi0 : (0 : Int) ≤ (i : Int) := by omega
  obtain ⟨W8, hW8, hm8, hb8, hz8⟩ := Blk.box w2 34 #[.int .i64 0, .int .i64 0, .slice none 0 0]
  obtain ⟨G8, hG8⟩ : ∃ g, g = w2.heap.size := ⟨_, rfl⟩
  rw [← hG8] at hb8
  have HS8 := Lib.hid (HS2.out.new hm8); have HW8 := Lib.hid hW8; have HG8 := Lib.hid hG8; have Hb8 := Lib.hid hb8
  have Hlt8 : Hid (B ≤ G8) := Lib.hid (by have := HS2.out.2.2.2.1.lt; have := Hlt.out; omega)
  rw [hkd] at y0
  clear hW8 hm8 hb8 hz8 hG8 hs0 hkd
  go_upto_region 21 with fail
  rw [← HW8.out, ← HG8.out]
  clear HW8 x0 x1 x2 y0 y1 y2 y3 y4 y5 y6 y7 HS2 hs2 hs3 Hk
  obtain ⟨ps, hps, hS0, hput0⟩ := HS8.out.2.2.2.2.1.ser
  obtain ⟨g, n', c', u4, e0, hp, hin, hnc', hpn⟩ := hS0.some_ hps hms
  injection e0 with e1 e2 e3
  subst e1 e2 e3
  obtain ⟨A4, n4, c4, hu4, hjunk⟩ := hS0.2 _ (List.mem_of_getElem? hp)
  simp only at hu4
  subst hu4
  clear hjunk
  have Hrd4 := Lib.hid (hS0.2 _ (List.mem_of_getElem? hp)).rds
  have Hn4 : Hid (n4 ≤ 100000) := Lib.hid (by
    have h1 := (HL.out.1 s (List.mem_of_getElem? hms)).1
    have h2 := Hrd4.out.1
    simp only at h2
    omega)
  have hi1 : (i : Int) < (nv : Int) := by omega
  have hat5 : (⟨g, 0, none⟩ : Addr).add (i * 5) = ⟨g, i * 5, none⟩ := by rw [add_addr, Nat.zero_add]
  obtain ⟨s1, s2, s3, s4, sf⟩ := hS0.cells hp
  have Hps := Lib.hid hps; have HS0 := Lib.hid hS0; have Hput0 := Lib.hid hput0; have Hp := Lib.hid hp; have Hpn := Lib.hid hpn; have Hms := Lib.hid hms; have Hat9 := Lib.hid hat
  have Hgl : Hid (B ≤ g ∧ g < W8.heap.size) := Lib.hid (by obtain ⟨⟨cs, hcs⟩, hBg, _, _⟩ := hS0.at_; exact ⟨hBg, hcs.lt⟩)
  clear hps hS0 hput0 hp hpn hat hms
  have x0 := HS8.out.1.cell 0
  have x1 := HS8.out.1.cell 1
  have x2 := HS8.out.1.cell 2
  have y0 := HS8.out.2.1.cell 0
  have y1 := HS8.out.2.1.cell 1
  have y3 := HS8.out.2.1.cell 3
  have y4 := HS8.out.2.1.cell 4
  have y5 := HS8.out.2.1.cell 5
  have y6 := HS8.out.2.1.cell 6
  simp at x0 x1 x2 y0 y1 y3 y4 y5 y6
  rw [HKD.out] at y0
  have HX : Hid (∀ W' : World, Mod (fun _ => False) W8 W' → W'.cell? ⟨G0, 0, none⟩ = some (.slice (some ⟨g, 0, none⟩) nv cv) ∧ W'.cell? ⟨g, i * 5 + 4, none⟩ = some (.slice A4 n4 c4) ∧ W'.cell? ⟨G1, 5, none⟩ = some (.int .i64 o.from_) ∧ W'.cell? ⟨G1, 6, none⟩ = some (.int .i64 o.to_)) := Lib.hid (fun W' h => by
    have h0 := (h.blk HS8.out.1 (fun h => h)).cell 0
    have h5 := (h.blk HS8.out.2.1 (fun h => h)).cell 5
    have h6 := (h.blk HS8.out.2.1 (fun h => h)).cell 6
    simp at h0 h5 h6
    exact ⟨h0, (h.cell (a := ⟨g, i * 5 + 4, none⟩) Hgl.out.2 (fun h => h)).trans s4, h5, h6⟩)
  have Hw : Hid (Calls Try.prog 25 #[.slice A4 n4 c4, .int .i64 o.from_, .int .i64 o.to_] W8.drew fun e w' => ∃ A5 n5 c5, e = .returned (.slice A5 n5 c5) ∧ SliH B w' (.slice A5 n5 c5) (spanN o.from_ o.to_ s.l) ∧ Mod (fun _ => False) W8 w') := Lib.hid (by
    refine (rwithin_any A4 n4 c4 s.l o.from_ o.to_ W8.drew Hrd4.out.2.2.2 (by have := Hn4.out; omega)).mono ?_
    rintro e w' ⟨v5, rfl, h1, h2⟩
    obtain ⟨A5, n5, c5, rfl, _⟩ := h1.formN
    exact ⟨A5, n5, c5, rfl, (SliH.of_own h1).mono (by show B ≤ W8.heap.size; have := Hgl.out; omega), (Mod.refl _ W8).drew.trans h2 (fun _ _ h => h)⟩)
  clear s1 s2 s3 s4 sf y3 y4
  go_upto_region 33 with fail
  refine wp_region_T (fun W' => W'.cell? ⟨G0, 0, none⟩ = some (.slice (some ⟨g, 0, none⟩) nv cv) ∧ W'.cell? ⟨g, i * 5 + 4, none⟩ = some (.slice A4 n4 c4) ∧ W'.cell? ⟨G1, 5, none⟩ = some (.int .i64 o.from_) ∧ W'.cell? ⟨G1, 6, none⟩ = some (.int .i64 o.to_)) 11 (by kernel_rfl) (HX.out _ (Mod.refl _ W8).drew) (fun hHeld => ?_)
  refine wpAnyT_take (i := 0) (v := ?_) rfl (by decide) (by kernel_rfl) (by kernel_rfl) (by kernel_rfl) (by kernel_rfl) (fun _ _ _ h => h) (Or.inl ⟨by rfl, ?_⟩) hHeld ?_
  rotate_left
  · (intro w hSw; (try dsimp only at hSw); go_simp; first | done | with_reducible rfl)
  simp only [Act.put, List.setIfInBounds_toArray, List.set_cons_zero, List.set_cons_succ]
  refine wpAnyT_take (i := 1) (v := ?_) rfl (by decide) (by kernel_rfl) (by kernel_rfl) (by kernel_rfl) (by kernel_rfl) (fun _ _ _ h => h) (Or.inl ⟨by rfl, ?_⟩) hHeld ?_
  rotate_left
  · (intro w hSw; (try dsimp only at hSw); go_simp; first | done | with_reducible rfl)
  simp only [Act.put, List.setIfInBounds_toArray, List.set_cons_zero, List.set_cons_succ]
  refine wpAnyT_take (i := 2) (v := ?_) rfl (by decide) (by kernel_rfl) (by kernel_rfl) (by kernel_rfl) (by kernel_rfl) (fun _ _ _ h => h) (Or.inl ⟨by rfl, ?_⟩) hHeld ?_
  rotate_left
  · (intro w hSw; (try dsimp only at hSw); go_simp; first | done | with_reducible rfl)
  simp only [Act.put, List.setIfInBounds_toArray, List.set_cons_zero, List.set_cons_succ]
  refine wpAnyT_take (i := 3) (v := ?_) rfl (by decide) (by kernel_rfl) (by kernel_rfl) (by kernel_rfl) (by kernel_rfl) (fun _ _ _ h => h) (Or.inl ⟨by rfl, ?_⟩) hHeld ?_
  rotate_left
  · (intro w hSw; (try dsimp only at hSw); go_simp; first | done | with_reducible rfl)
  simp only [Act.put, List.setIfInBounds_toArray, List.set_cons_zero, List.set_cons_succ]
  refine wpAnyT_take (i := 4) (v := ?_) rfl (by decide) (by kernel_rfl) (by kernel_rfl) (by kernel_rfl) (by kernel_rfl) (fun _ _ _ h => h) (Or.inl ⟨by rfl, ?_⟩) hHeld ?_
  rotate_left
  · (intro w hSw; (try dsimp only at hSw); go_simp; first | done | with_reducible rfl)
  simp only [Act.put, List.setIfInBounds_toArray, List.set_cons_zero, List.set_cons_succ]
  refine wpAnyT_take (i := 5) (v := ?_) rfl (by decide) (by kernel_rfl) (by kernel_rfl) (by kernel_rfl) (by kernel_rfl) (fun _ _ _ h => h) (Or.inl ⟨by rfl, ?_⟩) hHeld ?_
  rotate_left
  · (intro w hSw; (try dsimp only at hSw); go_simp; first | done | with_reducible rfl)
  simp only [Act.put, List.setIfInBounds_toArray, List.set_cons_zero, List.set_cons_succ]
  refine wpAnyT_take (i := 6) (v := ?_) rfl (by decide) (by kernel_rfl) (by kernel_rfl) (by kernel_rfl) (by kernel_rfl) (fun _ _ _ h => h) (Or.inl ⟨by rfl, ?_⟩) hHeld ?_
  rotate_left
  · (intro w hSw; (try dsimp only at hSw); go_simp; first | done | with_reducible rfl)
  simp only [Act.put, List.setIfInBounds_toArray, List.set_cons_zero, List.set_cons_succ]
  refine wpAnyT_take (i := 7) (v := ?_) rfl (by decide) (by kernel_rfl) (by kernel_rfl) (by kernel_rfl) (by kernel_rfl) (fun _ _ _ h => h) (Or.inl ⟨by rfl, ?_⟩) hHeld ?_
  rotate_left
  · (intro w hSw; (try dsimp only at hSw); go_simp; first | done | with_reducible rfl)
  simp only [Act.put, List.setIfInBounds_toArray, List.set_cons_zero, List.set_cons_succ]
  refine wpAnyT_take (i := 8) (v := ?_) rfl (by decide) (by kernel_rfl) (by kernel_rfl) (by kernel_rfl) (by kernel_rfl) (fun _ _ _ h => h) (Or.inl ⟨by rfl, ?_⟩) hHeld ?_
  rotate_left
  · (intro w hSw; (try dsimp only at hSw); go_simp; first | done | with_reducible rfl)
  simp only [Act.put, List.setIfInBounds_toArray, List.set_cons_zero, List.set_cons_succ]
  refine wpAnyT_take (i := 9) (v := ?_) rfl (by decide) (by kernel_rfl) (by kernel_rfl) (by kernel_rfl) (by kernel_rfl) (fun _ _ _ h => h) (Or.inl ⟨by rfl, ?_⟩) hHeld ?_
  rotate_left
  · (intro w hSw; (try dsimp only at hSw); go_simp; first | done | with_reducible rfl)
  simp only [Act.put, List.setIfInBounds_toArray, List.set_cons_zero, List.set_cons_succ]
  refine wpAnyT_ready (rs := [10]) (by kernel_rfl) (by simp) (AllReadyT.cons rfl (fun K hK => ?_) AllReadyT.nil)
  go_simp
  go_at_call 25
  refine Hw.out.mono ?_
  rintro e w9 ⟨A5, n5, c5, rfl, ho9, hm9⟩
  go_simp
  refine hK.out _ _ (HX.out _ hm9) (fun hHeld => ?_)
  clear hK K hHeld
  have hb89 := hm9.blk Hb8.out (fun h => h)
  have d2 := hb89.cell 2
  have h2 := hb89.frozen 2
  simp at d2
  clear x0 x1 x2 y0 y1 y5 y6
  refine wpAnyT_rest (by kernel_rfl) ?_
  refine wpAny_take (i := 11) (v := ?_) rfl (by kernel_rfl) (by kernel_rfl) (by kernel_rfl) (fun _ _ _ h => h) (Or.inl ⟨by rfl, ?_⟩) ?_
  rotate_left
  · (intro w; go_simp; first | done | with_reducible rfl)
  simp only [Act.put, List.setIfInBounds_toArray, List.set_cons_zero, List.set_cons_succ]
  refine wpAny_ready (rs := [12]) (by kernel_rfl) (by simp) (AllReady.cons rfl (fun K hK => ?_) AllReady.nil)
  go_simp
  refine hK _ _ ?_
  clear hK K
  refine wpAny_done (by kernel_rfl) ?_ _
  obtain ⟨W10, hW10⟩ : ∃ W10, W10 = w9.setCell ⟨G8, 2, none⟩ (.slice A5 n5 c5) := ⟨_, rfl⟩
  have hb810 : Blk W10 G8 34 #[.int .i64 0, .int .i64 0, .slice A5 n5 c5] := by rw [hW10]; have h := hb89.set_ 2 (.slice A5 n5 c5); simpa using h
  have hm10 : Mod (fun j => j = G8) w9 W10 := by rw [hW10]; exact (Mod.refl (fun j => j = G8) w9).setCell (p := ⟨G8, 2, none⟩) (fun _ => rfl) _
  have hSt9 := HS8.out.new hm9
  have hne08 : ¬ G0 = G8 := by have := Hlt.out; have := Hlt8.out; omega
  have hne48 : ¬ G4 = G8 := by have := Hlt.out; have := Hlt8.out; omega
  have hne58 : ¬ G5 = G8 := by have := Hlt.out; have := Hlt8.out; omega
  have Hb09 := Lib.hid (hm10.blk hSt9.1 hne08); have Hb49 := Lib.hid (hm10.blk hSt9.2.2.1 hne48); have Hb59 := Lib.hid (hm10.blk hSt9.2.2.2.1 hne58); have Hb89 := Lib.hid hb810
  have hfar := Far.one hb89 (by decide) (by decide) (by decide)
  have HM9 := Lib.hid (hSt9.2.2.2.2.1.far hm10 hfar); have HS9 := Lib.hid (ho9.mod hm10 (fun k cs _ hb => hfar k _ cs hb (.inr (.inr rfl)))); have Hm9 := Lib.hid (hSt9.2.2.2.2.2.own hm10 (by have := Hlt.out; have := Hlt8.out; omega)); have HW10 := Lib.hid hW10
  clear hW10 hb810 hm10 hSt9 hne08 hne48 hne58 hfar hb89 hm9 ho9 d2 h2
  go_upto_region 52 with fail
  rw [← HW10.out]
  have c0 := Hb09.out.cell 0
  have c1 := Hb09.out.cell 1
  have c2 := Hb09.out.cell 2
  simp at c0 c1 c2
  have d0 := Hb89.out.cell 0
  have d1 := Hb89.out.cell 1
  have d2 := Hb89.out.cell 2
  simp at d0 d1 d2
  have r0 := Hb49.out.cell 0
  have r1 := Hb49.out.cell 1
  have r2 := Hb49.out.cell 2
  simp at r0 r1 r2
  have f0 := Hb49.out.frozen 0
  have f1 := Hb49.out.frozen 1
  have f2 := Hb49.out.frozen 2
  have q0 := Hb59.out.cell 0
  have q1 := Hb59.out.cell 1
  have q2 := Hb59.out.cell 2
  simp at q0 q1 q2
  have h0 := Hb59.out.frozen 0
  have h1 := Hb59.out.frozen 1
  have h2 := Hb59.out.frozen 2
  obtain ⟨W6, hW6, hb46, hb56, hm6⟩ := six_lay (cs4 := (.slice none 0 0, .slice none 0 0, .int .i64 0)) (cs5 := (.int .i64 0, .int .i64 0, .slice none 0 0)) Hb49.out Hb59.out (.slice (some ⟨g, 0, none⟩) nv cv) (.slice Aw nw cw) (.int .i64 m.next) (.int .i64 0) (.int .i64 0) (.slice A5 n5 c5)
  have HW6 := Lib.hid hW6; have Hb46 := Lib.hid hb46.drew; have Hb56 := Lib.hid hb56.drew; have Hm6 := Lib.hid hm6.drew
  have h45 : ¬ G4 = G5 := by have := Hlt.out; omega
  have h54 : ¬ G5 = G4 := fun h => h45 h.symm
  have h04 : ¬ G0 = G4 := by have := Hlt.out; omega
  have h05 : ¬ G0 = G5 := by have := Hlt.out; omega
  have h84 : ¬ G8 = G4 := by have := Hlt.out; have := Hlt8.out; omega
  have h85 : ¬ G8 = G5 := by have := Hlt.out; have := Hlt8.out; omega
  clear hW6 hb46 hb56 hm6
  go_region
  all_goals (
    rw [← HW6.out]
    obtain ⟨W7, hW7⟩ : ∃ W7, W7 = W6.drew := ⟨_, rfl⟩
    have Hb47 : Hid (Blk W7 G4 31 #[.slice (some ⟨g, 0, none⟩) nv cv, .slice Aw nw cw, .int .i64 m.next]) := Lib.hid (by rw [hW7]; exact Hb46.out)
    have Hb57 : Hid (Blk W7 G5 34 #[.int .i64 0, .int .i64 0, .slice A5 n5 c5]) := Lib.hid (by rw [hW7]; exact Hb56.out)
    have Hm7 : Hid (Mod (fun j => j = G4 ∨ j = G5) W10 W7) := Lib.hid (by rw [hW7]; exact Hm6.out)
    rw [← hW7]
    clear hW7
    have a0 := Hb47.out.cell 0
    have a1 := Hb47.out.cell 1
    have a2 := Hb47.out.cell 2
    simp at a0 a1 a2
    have b0 := Hb57.out.cell 0
    have b1 := Hb57.out.cell 1
    have b2 := Hb57.out.cell 2
    simp at b0 b1 b2
    go_wp2_with fail
    refine bodyPost_ret (v := .tuple #[.agg #[.slice (some ⟨g, 0, none⟩) nv cv, .slice Aw nw cw, .int .i64 m.next], .agg #[.int .i64 0, .int .i64 0, .slice A5 n5 c5]]) (by simp [results, Try.results13, go_sem, a0, a1, a2, b0, b1, b2]) rfl ?_
    exact rdo_fin (by have := Hlt.out; omega) (by have := Hlt.out; omega) (by have := Hlt.out; omega) Hb49.out Hb59.out HM9.out HS9.out Hm9.out Hd.out rfl Hm7.out)
end Go.Proofs.Ytejnhdenehkpmaa

/- Do, as the document has it: a series is sealed. -/
namespace Go.Proofs.Ytejnhdenehkpmaa
open Go.RowKit

set_option linter.unusedSimpArgs false in
set_option linter.unusedVariables false in
set_option maxHeartbeats 4000000 in
set_option maxRecDepth 100000 in
theorem rdo_seal (A : Option Addr) (n c : Nat) (A2 : Option Addr) (n2 c2 : Nat) (m : ModN) (o : OpN) (w : World) (h : RdsM w w.heap.size A n c A2 n2 c2 m) (hK : KeepM m) (hL : LenM m 100000) (hx : m.next ≤ 1000000) (i : Nat) (hat : atS o.series m.ser = some i) (hs0 : ¬ (o.series < 0 ∨ 15 < o.series)) (s : SerN) (hms : m.ser[i]? = some s) (hkd : o.kind = 3) :
    Calls Try.prog 13 #[.agg #[.slice A n c, .slice A2 n2 c2, .int .i64 m.next], .agg #[.int .i64 o.kind, .int .i64 o.series, .int .i64 o.iter, .int .i64 o.t, .int .u64 (o.v : Int), .int .i64 o.from_, .int .i64 o.to_, .int .i64 o.n]] w fun e w' => DoEnd w w' (doN m o) e := by
  have HKD := Lib.hid hkd
  clear hkd
  obtain ⟨W, hW⟩ : ∃ W, W = (((w.alloc (.cells #[.slice A n c, .slice A2 n2 c2, .int .i64 m.next] 31)).alloc (.cells #[.int .i64 o.kind, .int .i64 o.series, .int .i64 o.iter, .int .i64 o.t, .int .u64 (o.v : Int), .int .i64 o.from_, .int .i64 o.to_, .int .i64 o.n] 24)).alloc (.cells #[.slice none 0 0, .slice none 0 0, .int .i64 0] 31)).alloc (.cells #[.int .i64 0, .int .i64 0, .slice none 0 0] 34) := ⟨_, rfl⟩
  obtain ⟨G0, hG0⟩ : ∃ g, g = w.heap.size := ⟨_, rfl⟩
  obtain ⟨G1, hG1⟩ : ∃ g, g = w.heap.size + 1 := ⟨_, rfl⟩
  obtain ⟨G4, hG4⟩ : ∃ g, g = w.heap.size + 1 + 1 := ⟨_, rfl⟩
  obtain ⟨G5, hG5⟩ : ∃ g, g = w.heap.size + 1 + 1 + 1 := ⟨_, rfl⟩
  have hmW : Mod (fun _ => False) w W := by rw [hW]; exact ((((Mod.refl _ _).alloc _).alloc _).alloc _).alloc _
  have hzW : W.heap.size = G5 + 1 := by rw [hW, hG5]; simp
  have hb0 : Blk W G0 31 #[.slice A n c, .slice A2 n2 c2, .int .i64 m.next] := by rw [hW, hG0]; exact (((Blk.new _ _ _).alloc _).alloc _).alloc _
  have hb1 : Blk W G1 24 #[.int .i64 o.kind, .int .i64 o.series, .int .i64 o.iter, .int .i64 o.t, .int .u64 (o.v : Int), .int .i64 o.from_, .int .i64 o.to_, .int .i64 o.n] := by
    rw [hW, hG1]
    have h := ((Blk.new (w.alloc (.cells #[.slice A n c, .slice A2 n2 c2, .int .i64 m.next] 31)) 24 #[.int .i64 o.kind, .int .i64 o.series, .int .i64 o.iter, .int .i64 o.t, .int .u64 (o.v : Int), .int .i64 o.from_, .int .i64 o.to_, .int .i64 o.n]).alloc (.cells #[.slice none 0 0, .slice none 0 0, .int .i64 0] 31)).alloc (.cells #[.int .i64 0, .int .i64 0, .slice none 0 0] 34)
    simpa using h
  have hb4 : Blk W G4 31 #[.slice none 0 0, .slice none 0 0, .int .i64 0] := by
    rw [hW, hG4]
    have h := (Blk.new ((w.alloc (.cells #[.slice A n c, .slice A2 n2 c2, .int .i64 m.next] 31)).alloc (.cells #[.int .i64 o.kind, .int .i64 o.series, .int .i64 o.iter, .int .i64 o.t, .int .u64 (o.v : Int), .int .i64 o.from_, .int .i64 o.to_, .int .i64 o.n] 24)) 31 #[.slice none 0 0, .slice none 0 0, .int .i64 0]).alloc (.cells #[.int .i64 0, .int .i64 0, .slice none 0 0] 34)
    simpa using h
  have hb5 : Blk W G5 34 #[.int .i64 0, .int .i64 0, .slice none 0 0] := by
    rw [hW, hG5]
    have h := Blk.new (((w.alloc (.cells #[.slice A n c, .slice A2 n2 c2, .int .i64 m.next] 31)).alloc (.cells #[.int .i64 o.kind, .int .i64 o.series, .int .i64 o.iter, .int .i64 o.t, .int .u64 (o.v : Int), .int .i64 o.from_, .int .i64 o.to_, .int .i64 o.n] 24)).alloc (.cells #[.slice none 0 0, .slice none 0 0, .int .i64 0] 31)) 34 #[.int .i64 0, .int .i64 0, .slice none 0 0]
    simpa using h
  obtain ⟨hl1, hl2⟩ := h.lens
  have hn : n ≤ 1000 := by have := keep_len hK; omega
  have hn2 : n2 ≤ 1000 := by have := hK.2.2.1; omega
  have z0 := hb0.cell 0
  have z1 := hb0.cell 1
  have z2 := hb0.cell 2
  simp at z0 z1 z2
  have Hr := Lib.hid (h.new hmW).fit
  have HW := Lib.hid hW; have HG0 := Lib.hid hG0; have HG1 := Lib.hid hG1; have HG4 := Lib.hid hG4; have HG5 := Lib.hid hG5; have HmW := Lib.hid hmW
  have Hb0 := Lib.hid hb0; have Hb1 := Lib.hid hb1; have Hb4 := Lib.hid hb4; have Hb5 := Lib.hid hb5; have HK := Lib.hid hK; have HL := Lib.hid hL; have Hx := Lib.hid hx
  obtain ⟨B, hBB⟩ : ∃ B, B = W.heap.size := ⟨_, rfl⟩
  have Hlt : Hid (w.heap.size = G0 ∧ G1 = G0 + 1 ∧ G4 = G0 + 2 ∧ G5 = G0 + 3 ∧ B = G0 + 4) := Lib.hid (by omega)
  clear hW hG0 hG1 hG4 hG5 hmW hzW hb0 hb1 hb4 hb5 h hl1 hl2 hK hL hx
  go_enter Try.func13, Try.ntmps13
  go_upto_region 1 with fail
  rw [← HW.out, ← HG5.out, ← HG4.out, ← HG1.out, ← HG0.out]
  go_wp2_with fail
  refine (rcopied_any A n c A2 n2 c2 m W Hr.out HL.out hn hn2).mono ?_
  rintro e w1 ⟨v, v2, rfl, hM1, hm1⟩
  rw [← hBB] at hM1
  obtain ⟨Av, nv, cv, Aw, nw, cw, rfl, rfl, hrd⟩ := hM1.rds
  have hbo := hm1.blk Hb0.out (fun h => h)
  have y0 := hbo.cell 0
  have y1 := hbo.cell 1
  have y2 := hbo.cell 2
  have p0 := hbo.frozen 0
  have p1 := hbo.frozen 1
  have p2 := hbo.frozen 2
  simp at y0 y1 y2
  obtain ⟨W1, hW1, hbn, hmo, hMo⟩ := lay_over1 hbo (.slice Av nv cv) (.slice Aw nw cw) (.int .i64 m.next)
  have hne1 : ¬ G1 = G0 := by have := Hlt.out; omega
  have hne4 : ¬ G4 = G0 := by have := Hlt.out; omega
  have hne5 : ¬ G5 = G0 := by have := Hlt.out; omega
  have HSt : Hid (RSt B w W1 G0 G1 G4 G5 (.slice Av nv cv) (.slice Aw nw cw) m o) := Lib.hid ⟨hbn, hmo.blk (hm1.blk Hb1.out (fun h => h)) hne1, hmo.blk (hm1.blk Hb4.out (fun h => h)) hne4, hmo.blk (hm1.blk Hb5.out (fun h => h)) hne5, hMo hM1, (HmW.out.trans hm1 (fun _ _ h => h)).own hmo (by have := Hlt.out; omega)⟩
  have HW1 := Lib.hid hW1
  clear z0 z1 z2 hM1 hm1 hrd hbo hW1 hbn hmo hMo Hb0 Hb1 Hb4 Hb5 HW HmW hne1 hne4 hne5
  go_upto_region 2 with fail
  rw [← HW1.out]
  clear HW1 y0 y1 y2 p0 p1 p2
  have x0 := HSt.out.1.cell 0
  have x1 := HSt.out.1.cell 1
  have x2 := HSt.out.1.cell 2
  have y1 := HSt.out.2.1.cell 1
  simp at x0 x1 x2 y1
  have hrd := HSt.out.2.2.2.2.1.rdm
  have hnv : nv ≤ 1000000 := by have := hrd.lens; have := keep_len HK.out; omega
  have hnw : nw ≤ 1000000 := by have := hrd.lens; have := HK.out.2.2.1; omega
  have Hat := Lib.hid (rat_any m Av Aw nv cv nw cw W1.heap.size o.series W1 hrd hnv)
  clear hrd
  go_wp2_with fail
  refine Hat.out.mono ?_
  rintro e w2 ⟨k, rfl, hk, hm2⟩
  have Hk := Lib.hid hk; have HS2 := Lib.hid (HSt.out.new hm2)
  clear x0 x1 x2 y1 hk hm2 HSt Hat
  have x0 := HS2.out.1.cell 0
  have x1 := HS2.out.1.cell 1
  have x2 := HS2.out.1.cell 2
  have y0 := HS2.out.2.1.cell 0
  have y1 := HS2.out.2.1.cell 1
  have y2 := HS2.out.2.1.cell 2
  have y3 := HS2.out.2.1.cell 3
  have y4 := HS2.out.2.1.cell 4
  have y5 := HS2.out.2.1.cell 5
  have y6 := HS2.out.2.1.cell 6
  have y7 := HS2.out.2.1.cell 7
  simp at x0 x1 x2 y0 y1 y2 y3 y4 y5 y6 y7
  have hkd := HKD.out
  have Hd := Lib.hid (doN_seal hkd hs0 hat hms)
  have hk1 := fst_some Hk.out hat
  subst hk1
  have hs2 : o.series ≥ 0 := by omega
  have hs3 : o.series ≤ 15 := by omega
  have hi0 : (0 : Int) ≤ (i : Int) := by omega
  obtain ⟨W8, hW8, hm8, hb8, hz8⟩ := Blk.box w2 34 #[.int .i64 0, .int .i64 0, .slice none 0 0]
  obtain ⟨G8, hG8⟩ : ∃ g, g = w2.heap.size := ⟨_, rfl⟩
  rw [← hG8] at hb8
  have HS8 := Lib.hid (HS2.out.new hm8); have HW8 := Lib.hid hW8; have HG8 := Lib.hid hG8; have Hb8 := Lib.hid hb8
  have Hlt8 : Hid (B ≤ G8) := Lib.hid (by have := HS2.out.2.2.2.1.lt; have := Hlt.out; omega)
  rw [hkd] at y0
  clear hW8 hm8 hb8 hz8 hG8 hs0 hkd
  go_upto_region 21 with fail
  rw [← HW8.out, ← HG8.out]
  clear HW8 x0 x1 x2 y0 y1 y2 y3 y4 y5 y6 y7 HS2 hs2 hs3 Hk
  obtain ⟨ps, hps, hS0, hput0⟩ := HS8.out.2.2.2.2.1.ser
  obtain ⟨g, n', c', u4, e0, hp, hin, hnc', hpn⟩ := hS0.some_ hps hms
  injection e0 with e1 e2 e3
  subst e1 e2 e3
  obtain ⟨A4, n4, c4, hu4, hjunk⟩ := hS0.2 _ (List.mem_of_getElem? hp)
  simp only at hu4
  subst hu4
  clear hjunk
  have Hrd4 := Lib.hid (hS0.2 _ (List.mem_of_getElem? hp)).rds
  have Hn4 : Hid (n4 ≤ 100000) := Lib.hid (by
    have h1 := (HL.out.1 s (List.mem_of_getElem? hms)).1
    have h2 := Hrd4.out.1
    simp only at h2
    omega)
  have hi1 : (i : Int) < (nv : Int) := by omega
  have hat5 : (⟨g, 0, none⟩ : Addr).add (i * 5) = ⟨g, i * 5, none⟩ := by rw [add_addr, Nat.zero_add]
  obtain ⟨s1, s2, s3, s4, sf⟩ := hS0.cells hp
  have Hps := Lib.hid hps; have HS0 := Lib.hid hS0; have Hput0 := Lib.hid hput0; have Hp := Lib.hid hp; have Hpn := Lib.hid hpn; have Hms := Lib.hid hms; have Hat9 := Lib.hid hat
  have Hgl : Hid (B ≤ g ∧ g < W8.heap.size) := Lib.hid (by obtain ⟨⟨cs, hcs⟩, hBg, _, _⟩ := hS0.at_; exact ⟨hBg, hcs.lt⟩)
  clear hps hS0 hput0 hp hpn hat hms
  have x0 := HS8.out.1.cell 0
  have x1 := HS8.out.1.cell 1
  have x2 := HS8.out.1.cell 2
  have y0 := HS8.out.2.1.cell 0
  have y1 := HS8.out.2.1.cell 1
  have y3 := HS8.out.2.1.cell 3
  have y4 := HS8.out.2.1.cell 4
  have y5 := HS8.out.2.1.cell 5
  have y6 := HS8.out.2.1.cell 6
  simp at x0 x1 x2 y0 y1 y3 y4 y5 y6
  rw [HKD.out] at y0
  cases hse : s.sea with
  | true =>
    have Hd2 : Hid (doN m o = (m, ⟨2, 0, []⟩)) := Lib.hid (by rw [Hd.out, hse]; rfl)
    rw [hse] at s1
    clear hse
    have r0 := HS8.out.2.2.1.cell 0
    have r1 := HS8.out.2.2.1.cell 1
    have r2 := HS8.out.2.2.1.cell 2
    simp at r0 r1 r2
    have f0 := HS8.out.2.2.1.frozen 0
    have f1 := HS8.out.2.2.1.frozen 1
    have f2 := HS8.out.2.2.1.frozen 2
    have q0 := HS8.out.2.2.2.1.cell 0
    have q1 := HS8.out.2.2.2.1.cell 1
    have q2 := HS8.out.2.2.2.1.cell 2
    simp at q0 q1 q2
    have g0 := HS8.out.2.2.2.1.frozen 0
    have g1 := HS8.out.2.2.2.1.frozen 1
    have g2 := HS8.out.2.2.2.1.frozen 2
    obtain ⟨W6, hW6, hb46, hb56, hm6⟩ := six_lay (cs4 := (.slice none 0 0, .slice none 0 0, .int .i64 0)) (cs5 := (.int .i64 0, .int .i64 0, .slice none 0 0)) HS8.out.2.2.1 HS8.out.2.2.2.1 (.slice (some ⟨g, 0, none⟩) nv cv) (.slice Aw nw cw) (.int .i64 m.next) (.int .i64 2) (.int .i64 0) (.slice none 0 0)
    have HW6 := Lib.hid hW6; have Hb46 := Lib.hid hb46; have Hb56 := Lib.hid hb56; have Hm6 := Lib.hid hm6
    have h45 : ¬ G4 = G5 := by have := Hlt.out; omega
    have h54 : ¬ G5 = G4 := fun h => h45 h.symm
    clear hW6 hb46 hb56 hm6
    go_wp2_with fail
    rw [← HW6.out]
    have a0 := Hb46.out.cell 0
    have a1 := Hb46.out.cell 1
    have a2 := Hb46.out.cell 2
    simp at a0 a1 a2
    have b0 := Hb56.out.cell 0
    have b1 := Hb56.out.cell 1
    have b2 := Hb56.out.cell 2
    simp at b0 b1 b2
    refine bodyPost_ret (v := .tuple #[.agg #[.slice (some ⟨g, 0, none⟩) nv cv, .slice Aw nw cw, .int .i64 m.next], .agg #[.int .i64 2, .int .i64 0, .slice none 0 0]]) (by simp [results, Try.results13, go_sem, a0, a1, a2, b0, b1, b2]) rfl ?_
    exact rdo_fin (by have := Hlt.out; omega) (by have := Hlt.out; omega) (by have := Hlt.out; omega) HS8.out.2.2.1 HS8.out.2.2.2.1 HS8.out.2.2.2.2.1 (SliH.nil _ _) HS8.out.2.2.2.2.2 Hd2.out rfl Hm6.out
  | false =>
    have Hd2 : Hid (doN m o = ({ m with ser := m.ser.set i { s with sea := true } }, ⟨0, 0, []⟩)) := Lib.hid (by rw [Hd.out, hse]; rfl)
    have f1 := sf 1
    rw [hse] at s1
    obtain ⟨W9, hW9⟩ : ∃ W9, W9 = W8.setCell ⟨g, i * 5 + 1, none⟩ (.bool true) := ⟨_, rfl⟩
    obtain ⟨hM9, hm9, _⟩ := Base.cellS (u := .bool true) (j := 1) (s' := { s with sea := true }) (u4' := .slice A4 n4 c4) rfl HS8.out.2.2.2.2.1 Hps.out HS0.out Hp.out (by decide) rfl (HS0.out.2 _ (List.mem_of_getElem? Hp.out))
    rw [← hW9] at hM9 hm9
    have hng : ∀ G, G < B ∨ G = G8 → ¬ G = g := fun G h e => by
      rcases h with h | h
      · have := Hgl.out; omega
      · obtain ⟨⟨cs, hcs⟩, _⟩ := HS0.out.at_
        rw [← e, h] at hcs
        exact Blk.ne_ Hb8.out hcs (by decide) rfl
    have HW9 := Lib.hid hW9; have HM9 := Lib.hid hM9
    have Hb09 := Lib.hid (hm9.blk HS8.out.1 (hng G0 (by have := Hlt.out; omega))); have Hb89 := Lib.hid (hm9.blk Hb8.out (hng G8 (.inr rfl))); have Hb49 := Lib.hid (hm9.blk HS8.out.2.2.1 (hng G4 (by have := Hlt.out; omega))); have Hb59 := Lib.hid (hm9.blk HS8.out.2.2.2.1 (hng G5 (by have := Hlt.out; omega)))
    have Hm9 := Lib.hid (HS8.out.2.2.2.2.2.own hm9 (by have := Hlt.out; have := Hgl.out; omega))
    clear hse hW9 hM9 hm9 hng
    go_upto_region 52 with fail
    rw [← HW9.out]
    have c0 := Hb09.out.cell 0
    have c1 := Hb09.out.cell 1
    have c2 := Hb09.out.cell 2
    simp at c0 c1 c2
    have d0 := Hb89.out.cell 0
    have d1 := Hb89.out.cell 1
    have d2 := Hb89.out.cell 2
    simp at d0 d1 d2
    have r0 := Hb49.out.cell 0
    have r1 := Hb49.out.cell 1
    have r2 := Hb49.out.cell 2
    simp at r0 r1 r2
    have f0 := Hb49.out.frozen 0
    have f1 := Hb49.out.frozen 1
    have f2 := Hb49.out.frozen 2
    have q0 := Hb59.out.cell 0
    have q1 := Hb59.out.cell 1
    have q2 := Hb59.out.cell 2
    simp at q0 q1 q2
    have h0 := Hb59.out.frozen 0
    have h1 := Hb59.out.frozen 1
    have h2 := Hb59.out.frozen 2
    obtain ⟨W6, hW6, hb46, hb56, hm6⟩ := six_lay (cs4 := (.slice none 0 0, .slice none 0 0, .int .i64 0)) (cs5 := (.int .i64 0, .int .i64 0, .slice none 0 0)) Hb49.out Hb59.out (.slice (some ⟨g, 0, none⟩) nv cv) (.slice Aw nw cw) (.int .i64 m.next) (.int .i64 0) (.int .i64 0) (.slice none 0 0)
    have HW6 := Lib.hid hW6; have Hb46 := Lib.hid hb46.drew; have Hb56 := Lib.hid hb56.drew; have Hm6 := Lib.hid hm6.drew
    have h45 : ¬ G4 = G5 := by have := Hlt.out; omega
    have h54 : ¬ G5 = G4 := fun h => h45 h.symm
    have h04 : ¬ G0 = G4 := by have := Hlt.out; omega
    have h05 : ¬ G0 = G5 := by have := Hlt.out; omega
    have h84 : ¬ G8 = G4 := by have := Hlt.out; have := Hlt8.out; omega
    have h85 : ¬ G8 = G5 := by have := Hlt.out; have := Hlt8.out; omega
    clear hW6 hb46 hb56 hm6
    go_region
    all_goals (
      rw [← HW6.out]
      obtain ⟨W7, hW7⟩ : ∃ W7, W7 = W6.drew := ⟨_, rfl⟩
      have Hb47 : Hid (Blk W7 G4 31 #[.slice (some ⟨g, 0, none⟩) nv cv, .slice Aw nw cw, .int .i64 m.next]) := Lib.hid (by rw [hW7]; exact Hb46.out)
      have Hb57 : Hid (Blk W7 G5 34 #[.int .i64 0, .int .i64 0, .slice none 0 0]) := Lib.hid (by rw [hW7]; exact Hb56.out)
      have Hm7 : Hid (Mod (fun j => j = G4 ∨ j = G5) W9 W7) := Lib.hid (by rw [hW7]; exact Hm6.out)
      rw [← hW7]
      clear hW7
      have a0 := Hb47.out.cell 0
      have a1 := Hb47.out.cell 1
      have a2 := Hb47.out.cell 2
      simp at a0 a1 a2
      have b0 := Hb57.out.cell 0
      have b1 := Hb57.out.cell 1
      have b2 := Hb57.out.cell 2
      simp at b0 b1 b2
      go_wp2_with fail
      refine bodyPost_ret (v := .tuple #[.agg #[.slice (some ⟨g, 0, none⟩) nv cv, .slice Aw nw cw, .int .i64 m.next], .agg #[.int .i64 0, .int .i64 0, .slice none 0 0]]) (by simp [results, Try.results13, go_sem, a0, a1, a2, b0, b1, b2]) rfl ?_
      exact rdo_fin (by have := Hlt.out; omega) (by have := Hlt.out; omega) (by have := Hlt.out; omega) Hb49.out Hb59.out HM9.out (SliH.nil _ _) Hm9.out Hd2.out rfl Hm7.out)
end Go.Proofs.Ytejnhdenehkpmaa

/- Do, as the document has it: a series is deleted. -/
namespace Go.Proofs.Ytejnhdenehkpmaa
open Go.RowKit

set_option linter.unusedSimpArgs false in
set_option linter.unusedVariables false in
set_option maxHeartbeats 4000000 in
set_option maxRecDepth 100000 in
theorem rdo_delete (A : Option Addr) (n c : Nat) (A2 : Option Addr) (n2 c2 : Nat) (m : ModN) (o : OpN) (w : World) (h : RdsM w w.heap.size A n c A2 n2 c2 m) (hK : KeepM m) (hL : LenM m 100000) (hx : m.next ≤ 1000000) (i : Nat) (hat : atS o.series m.ser = some i) (hs0 : ¬ (o.series < 0 ∨ 15 < o.series)) (s : SerN) (hms : m.ser[i]? = some s) (hkd : o.kind = 4) :
    Calls Try.prog 13 #[.agg #[.slice A n c, .slice A2 n2 c2, .int .i64 m.next], .agg #[.int .i64 o.kind, .int .i64 o.series, .int .i64 o.iter, .int .i64 o.t, .int .u64 (o.v : Int), .int .i64 o.from_, .int .i64 o.to_, .int .i64 o.n]] w fun e w' => DoEnd w w' (doN m o) e := by
  have HKD := Lib.hid hkd
  clear hkd
  obtain ⟨W, hW⟩ : ∃ W, W = (((w.alloc (.cells #[.slice A n c, .slice A2 n2 c2, .int .i64 m.next] 31)).alloc (.cells #[.int .i64 o.kind, .int .i64 o.series, .int .i64 o.iter, .int .i64 o.t, .int .u64 (o.v : Int), .int .i64 o.from_, .int .i64 o.to_, .int .i64 o.n] 24)).alloc (.cells #[.slice none 0 0, .slice none 0 0, .int .i64 0] 31)).alloc (.cells #[.int .i64 0, .int .i64 0, .slice none 0 0] 34) := ⟨_, rfl⟩
  obtain ⟨G0, hG0⟩ : ∃ g, g = w.heap.size := ⟨_, rfl⟩
  obtain ⟨G1, hG1⟩ : ∃ g, g = w.heap.size + 1 := ⟨_, rfl⟩
  obtain ⟨G4, hG4⟩ : ∃ g, g = w.heap.size + 1 + 1 := ⟨_, rfl⟩
  obtain ⟨G5, hG5⟩ : ∃ g, g = w.heap.size + 1 + 1 + 1 := ⟨_, rfl⟩
  have hmW : Mod (fun _ => False) w W := by rw [hW]; exact ((((Mod.refl _ _).alloc _).alloc _).alloc _).alloc _
  have hzW : W.heap.size = G5 + 1 := by rw [hW, hG5]; simp
  have hb0 : Blk W G0 31 #[.slice A n c, .slice A2 n2 c2, .int .i64 m.next] := by rw [hW, hG0]; exact (((Blk.new _ _ _).alloc _).alloc _).alloc _
  have hb1 : Blk W G1 24 #[.int .i64 o.kind, .int .i64 o.series, .int .i64 o.iter, .int .i64 o.t, .int .u64 (o.v : Int), .int .i64 o.from_, .int .i64 o.to_, .int .i64 o.n] := by
    rw [hW, hG1]
    have h := ((Blk.new (w.alloc (.cells #[.slice A n c, .slice A2 n2 c2, .int .i64 m.next] 31)) 24 #[.int .i64 o.kind, .int .i64 o.series, .int .i64 o.iter, .int .i64 o.t, .int .u64 (o.v : Int), .int .i64 o.from_, .int .i64 o.to_, .int .i64 o.n]).alloc (.cells #[.slice none 0 0, .slice none 0 0, .int .i64 0] 31)).alloc (.cells #[.int .i64 0, .int .i64 0, .slice none 0 0] 34)
    simpa using h
  have hb4 : Blk W G4 31 #[.slice none 0 0, .slice none 0 0, .int .i64 0] := by
    rw [hW, hG4]
    have h := (Blk.new ((w.alloc (.cells #[.slice A n c, .slice A2 n2 c2, .int .i64 m.next] 31)).alloc (.cells #[.int .i64 o.kind, .int .i64 o.series, .int .i64 o.iter, .int .i64 o.t, .int .u64 (o.v : Int), .int .i64 o.from_, .int .i64 o.to_, .int .i64 o.n] 24)) 31 #[.slice none 0 0, .slice none 0 0, .int .i64 0]).alloc (.cells #[.int .i64 0, .int .i64 0, .slice none 0 0] 34)
    simpa using h
  have hb5 : Blk W G5 34 #[.int .i64 0, .int .i64 0, .slice none 0 0] := by
    rw [hW, hG5]
    have h := Blk.new (((w.alloc (.cells #[.slice A n c, .slice A2 n2 c2, .int .i64 m.next] 31)).alloc (.cells #[.int .i64 o.kind, .int .i64 o.series, .int .i64 o.iter, .int .i64 o.t, .int .u64 (o.v : Int), .int .i64 o.from_, .int .i64 o.to_, .int .i64 o.n] 24)).alloc (.cells #[.slice none 0 0, .slice none 0 0, .int .i64 0] 31)) 34 #[.int .i64 0, .int .i64 0, .slice none 0 0]
    simpa using h
  obtain ⟨hl1, hl2⟩ := h.lens
  have hn : n ≤ 1000 := by have := keep_len hK; omega
  have hn2 : n2 ≤ 1000 := by have := hK.2.2.1; omega
  have z0 := hb0.cell 0
  have z1 := hb0.cell 1
  have z2 := hb0.cell 2
  simp at z0 z1 z2
  have Hr := Lib.hid (h.new hmW).fit
  have HW := Lib.hid hW; have HG0 := Lib.hid hG0; have HG1 := Lib.hid hG1; have HG4 := Lib.hid hG4; have HG5 := Lib.hid hG5; have HmW := Lib.hid hmW
  have Hb0 := Lib.hid hb0; have Hb1 := Lib.hid hb1; have Hb4 := Lib.hid hb4; have Hb5 := Lib.hid hb5; have HK := Lib.hid hK; have HL := Lib.hid hL; have Hx := Lib.hid hx
  obtain ⟨B, hBB⟩ : ∃ B, B = W.heap.size := ⟨_, rfl⟩
  have Hlt : Hid (w.heap.size = G0 ∧ G1 = G0 + 1 ∧ G4 = G0 + 2 ∧ G5 = G0 + 3 ∧ B = G0 + 4) := Lib.hid (by omega)
  clear hW hG0 hG1 hG4 hG5 hmW hzW hb0 hb1 hb4 hb5 h hl1 hl2 hK hL hx
  go_enter Try.func13, Try.ntmps13
  go_upto_region 1 with fail
  rw [← HW.out, ← HG5.out, ← HG4.out, ← HG1.out, ← HG0.out]
  go_wp2_with fail
  refine (rcopied_any A n c A2 n2 c2 m W Hr.out HL.out hn hn2).mono ?_
  rintro e w1 ⟨v, v2, rfl, hM1, hm1⟩
  rw [← hBB] at hM1
  obtain ⟨Av, nv, cv, Aw, nw, cw, rfl, rfl, hrd⟩ := hM1.rds
  have hbo := hm1.blk Hb0.out (fun h => h)
  have y0 := hbo.cell 0
  have y1 := hbo.cell 1
  have y2 := hbo.cell 2
  have p0 := hbo.frozen 0
  have p1 := hbo.frozen 1
  have p2 := hbo.frozen 2
  simp at y0 y1 y2
  obtain ⟨W1, hW1, hbn, hmo, hMo⟩ := lay_over1 hbo (.slice Av nv cv) (.slice Aw nw cw) (.int .i64 m.next)
  have hne1 : ¬ G1 = G0 := by have := Hlt.out; omega
  have hne4 : ¬ G4 = G0 := by have := Hlt.out; omega
  have hne5 : ¬ G5 = G0 := by have := Hlt.out; omega
  have HSt : Hid (RSt B w W1 G0 G1 G4 G5 (.slice Av nv cv) (.slice Aw nw cw) m o) := Lib.hid ⟨hbn, hmo.blk (hm1.blk Hb1.out (fun h => h)) hne1, hmo.blk (hm1.blk Hb4.out (fun h => h)) hne4, hmo.blk (hm1.blk Hb5.out (fun h => h)) hne5, hMo hM1, (HmW.out.trans hm1 (fun _ _ h => h)).own hmo (by have := Hlt.out; omega)⟩
  have HW1 := Lib.hid hW1
  clear z0 z1 z2 hM1 hm1 hrd hbo hW1 hbn hmo hMo Hb0 Hb1 Hb4 Hb5 HW HmW hne1 hne4 hne5
  go_upto_region 2 with fail
  rw [← HW1.out]
  clear HW1 y0 y1 y2 p0 p1 p2
  have x0 := HSt.out.1.cell 0
  have x1 := HSt.out.1.cell 1
  have x2 := HSt.out.1.cell 2
  have y1 := HSt.out.2.1.cell 1
  simp at x0 x1 x2 y1
  have hrd := HSt.out.2.2.2.2.1.rdm
  have hnv : nv ≤ 1000000 := by have := hrd.lens; have := keep_len HK.out; omega
  have hnw : nw ≤ 1000000 := by have := hrd.lens; have := HK.out.2.2.1; omega
  have Hat := Lib.hid (rat_any m Av Aw nv cv nw cw W1.heap.size o.series W1 hrd hnv)
  clear hrd
  go_wp2_with fail
  refine Hat.out.mono ?_
  rintro e w2 ⟨k, rfl, hk, hm2⟩
  have Hk := Lib.hid hk; have HS2 := Lib.hid (HSt.out.new hm2)
  clear x0 x1 x2 y1 hk hm2 HSt Hat
  have x0 := HS2.out.1.cell 0
  have x1 := HS2.out.1.cell 1
  have x2 := HS2.out.1.cell 2
  have y0 := HS2.out.2.1.cell 0
  have y1 := HS2.out.2.1.cell 1
  have y2 := HS2.out.2.1.cell 2
  have y3 := HS2.out.2.1.cell 3
  have y4 := HS2.out.2.1.cell 4
  have y5 := HS2.out.2.1.cell 5
  have y6 := HS2.out.2.1.cell 6
  have y7 := HS2.out.2.1.cell 7
  simp at x0 x1 x2 y0 y1 y2 y3 y4 y5 y6 y7
  have hkd := HKD.out
  have Hd := Lib.hid (doN_delete hkd hs0 hat hms)
  have hk1 := fst_some Hk.out hat
  subst hk1
  have hs2 : o.series ≥ 0 := by omega
  have hs3 : o.series ≤ 15 := by omega
  have hi0 : (0 : Int) ≤ (i : Int) := by omega
  rw [hkd] at y0
  clear hs0 hkd
  obtain ⟨W8, hW8, hm8, hb8, hz8⟩ := Blk.box w2 34 #[.int .i64 0, .int .i64 0, .slice none 0 0]
  obtain ⟨G8, hG8⟩ : ∃ g, g = w2.heap.size := ⟨_, rfl⟩
  rw [← hG8] at hb8
  have HS8 := Lib.hid (HS2.out.new hm8); have HW8 := Lib.hid hW8; have HG8 := Lib.hid hG8; have Hb8 := Lib.hid hb8
  have Hlt8 : Hid (B ≤ G8) := Lib.hid (by have := HS2.out.2.2.2.1.lt; have := Hlt.out; omega)
  clear hW8 hm8 hb8 hz8 hG8
  go_upto_region 21 with fail
  rw [← HW8.out, ← HG8.out]
  clear HW8 x0 x1 x2 y0 y1 y2 y3 y4 y5 y6 y7 HS2 hs2 hs3 Hk
  have y0 := HS8.out.2.1.cell 0
  simp at y0
  rw [HKD.out] at y0
  have x0 := HS8.out.1.cell 0
  simp at x0
  all_goals (
    obtain ⟨ps, js, hps, hjs, hSer, hIte⟩ := HS8.out.2.2.2.2.1
    obtain ⟨A', c', e0, hnc, hcm, hR⟩ := hSer.form
    obtain ⟨nn, hnn⟩ : ∃ nn, nn = ps.length := ⟨_, rfl⟩
    rw [← hnn] at e0 hnc hR
    injection e0 with e1 e2 e3
    subst e1 e2 e3
    have hin : i < nv := by
      have h1 := (List.getElem?_eq_some_iff.1 hms).1
      rw [← hps, List.length_map, ← hnn] at h1
      exact h1
    have hn9 : nv ≤ 1000 := by have h1 := HS8.out.2.2.2.2.1.rdm.lens; have := keep_len HK.out; have := HK.out.2.2.1; omega
    obtain ⟨q, hq⟩ : ∃ q, q = i + 1 := ⟨_, rfl⟩
    obtain ⟨A8, hA8⟩ : ∃ A8, (if cv = q then Av else Av.map (·.add (q * 5))) = A8 := ⟨_, rfl⟩
    have hdr := (hR.drop (k := q) (by omega) hnc).1
    rw [hA8] at hdr
    have htk := (hR.take (k := i) (by omega)).1
    have hone1 : ∀ u ∈ ((ps.take i).map serC).flatten, u.oneCell' = true := serC_one (fun p hp => hSer.2 p (List.mem_of_mem_take hp))
    have hone2 : ∀ u ∈ ((ps.drop q).map serC).flatten, u.oneCell' = true := serC_one (fun p hp => hSer.2 p (List.mem_of_mem_drop hp))
    have hx0 := HS8.out.1.cell 0
    simp at hx0
    have HX : Hid (∀ W' : World, Mod (fun _ => False) W8 W' → W'.cell? ⟨G0, 0, none⟩ = some (.slice Av nv cv)) := Lib.hid (fun W' h => by
      have h0 := (h.blk HS8.out.1 (fun h => h)).cell 0
      simpa using h0)
    have hwq : IntKind.i64.wrap ((i : Int) + 1) = (q : Int) := by rw [IntWalk.i64_in _ (by omega)]; omega
    have b1 : (i : Int) ≤ (nv : Int) := by omega
    have b2 : (i : Int) ≤ (cv : Int) := by omega
    have b3 : (q : Int) ≤ (nv : Int) := by omega
    have b4 : (q : Int) ≤ (cv : Int) := by omega
    have b5 : (0 : Int) ≤ (q : Int) := by omega
    have b6 : (nv : Int) ≤ (cv : Int) := by omega
    have b7 : ((nv - q : Nat) : Int) = (nv : Int) - (q : Int) := by omega
    have hr1 : ([] : List (List Value)).length + i ≤ maxLen := by unfold maxLen; simp; omega
    have hr2 : (([] : List (List Value)).length + i) * 48 ≤ 140737488355328 := by simp; omega
    have hlt : ((ps.take i).map serC).length = i := by rw [List.length_map, List.length_take]; omega
    have hr3 : (([] : List (List Value)) ++ (ps.take i).map serC).length + (nv - q) ≤ maxLen := by rw [List.nil_append, hlt]; unfold maxLen; omega
    have hr4 : ((([] : List (List Value)) ++ (ps.take i).map serC).length + (nv - q)) * 48 ≤ 140737488355328 := by rw [List.nil_append, hlt]; omega
    have HBw : Hid (B ≤ W8.heap.size) := Lib.hid (by have := HS8.out.2.2.2.1.lt; have := Hlt.out; omega)
    have Hlit : Hid (OwnK 5 W8.heap.size (W8.alloc (.cells #[] 43)).drew 43 (.slice (some ⟨W8.heap.size, 0, none⟩) 0 0) []) := Lib.hid (own_litK (Nat.le_refl _)).drew
    have Htk := Lib.hid (htk.fit.alloc (Nat.le_refl _) (.cells #[] 43)).drew
    have hszL : W8.heap.size ≤ (W8.alloc (.cells #[] 43)).drew.heap.size := by show W8.heap.size ≤ (W8.alloc _).heap.size; simp
    have Hdr := Lib.hid hdr; have Hone1 := Lib.hid hone1; have Hone2 := Lib.hid hone2; have Hps := Lib.hid hps; have Hjs := Lib.hid hjs; have HSer := Lib.hid hSer; have HIte := Lib.hid hIte; have Hq := Lib.hid hq
    clear hps hjs hSer hIte hnc hcm hR hnn hin hn9 hq hdr htk hone1 hone2 hx0 hlt hms
    go_upto_region 39 with fail
    refine wp_region_T (fun W' => W'.cell? ⟨G0, 0, none⟩ = some (.slice Av nv cv)) 12 (by kernel_rfl) (HX.out _ (Mod.refl _ W8).drew) (fun hHeld => ?_)
    refine wpAnyT_take (i := 1) (v := ?_) rfl (by decide) (by kernel_rfl) (by kernel_rfl) (by kernel_rfl) (by kernel_rfl) (fun _ _ _ h => h) (Or.inl ⟨by rfl, ?_⟩) hHeld ?_
    rotate_left
    · (intro w hSw; (try dsimp only at hSw); go_simp; first | done | with_reducible rfl)
    simp only [Act.put, List.setIfInBounds_toArray, List.set_cons_zero, List.set_cons_succ]
    refine wpAnyT_take (i := 2) (v := ?_) rfl (by decide) (by kernel_rfl) (by kernel_rfl) (by kernel_rfl) (by kernel_rfl) (fun _ _ _ h => h) (Or.inl ⟨by rfl, ?_⟩) hHeld ?_
    rotate_left
    · (intro w hSw; (try dsimp only at hSw); go_simp; first | done | with_reducible rfl)
    simp only [Act.put, List.setIfInBounds_toArray, List.set_cons_zero, List.set_cons_succ]
    refine wpAnyT_take (i := 3) (v := ?_) rfl (by decide) (by kernel_rfl) (by kernel_rfl) (by kernel_rfl) (by kernel_rfl) (fun _ _ _ h => h) (Or.inl ⟨by rfl, ?_⟩) hHeld ?_
    rotate_left
    · (intro w hSw; (try dsimp only at hSw); go_simp; first | done | with_reducible rfl)
    simp only [Act.put, List.setIfInBounds_toArray, List.set_cons_zero, List.set_cons_succ]
    refine wpAnyT_take (i := 4) (v := ?_) rfl (by decide) (by kernel_rfl) (by kernel_rfl) (by kernel_rfl) (by kernel_rfl) (fun _ _ _ h => h) (Or.inl ⟨by rfl, ?_⟩) hHeld ?_
    rotate_left
    · (intro w hSw; (try dsimp only at hSw); go_simp; first | done | with_reducible rfl)
    simp only [Act.put, List.setIfInBounds_toArray, List.set_cons_zero, List.set_cons_succ]
    refine wpAnyT_take (i := 6) (v := ?_) rfl (by decide) (by kernel_rfl) (by kernel_rfl) (by kernel_rfl) (by kernel_rfl) (fun _ _ _ h => h) (Or.inl ⟨by rfl, ?_⟩) hHeld ?_
    rotate_left
    · (intro w hSw; (try dsimp only at hSw); go_simp; first | done | with_reducible rfl)
    simp only [Act.put, List.setIfInBounds_toArray, List.set_cons_zero, List.set_cons_succ]
    refine wpAnyT_take (i := 7) (v := ?_) rfl (by decide) (by kernel_rfl) (by kernel_rfl) (by kernel_rfl) (by kernel_rfl) (fun _ _ _ h => h) (Or.inl ⟨by rfl, ?_⟩) hHeld ?_
    rotate_left
    · (intro w hSw; (try dsimp only at hSw); go_simp; first | done | with_reducible rfl)
    simp only [Act.put, List.setIfInBounds_toArray, List.set_cons_zero, List.set_cons_succ]
    refine wpAnyT_take (i := 8) (v := ?_) rfl (by decide) (by kernel_rfl) (by kernel_rfl) (by kernel_rfl) (by kernel_rfl) (fun _ _ _ h => h) (Or.inl ⟨by rfl, ?_⟩) hHeld ?_
    rotate_left
    · (intro w hSw; (try dsimp only at hSw); go_simp; first | done | with_reducible rfl)
    simp only [Act.put, List.setIfInBounds_toArray, List.set_cons_zero, List.set_cons_succ]
    refine wpAnyT_take (i := 9) (v := ?_) rfl (by decide) (by kernel_rfl) (by kernel_rfl) (by kernel_rfl) (by kernel_rfl) (fun _ _ _ h => h) (Or.inl ⟨by rfl, ?_⟩) hHeld ?_
    rotate_left
    · (intro w hSw; (try dsimp only at hSw); go_simp; first | done | with_reducible rfl)
    simp only [Act.put, List.setIfInBounds_toArray, List.set_cons_zero, List.set_cons_succ]
    refine wpAnyT_take (i := 10) (v := ?_) rfl (by decide) (by kernel_rfl) (by kernel_rfl) (by kernel_rfl) (by kernel_rfl) (fun _ _ _ h => h) (Or.inl ⟨by rfl, ?_⟩) hHeld ?_
    rotate_left
    · (intro w hSw; (try dsimp only at hSw); go_simp; first | done | with_reducible rfl)
    simp only [Act.put, List.setIfInBounds_toArray, List.set_cons_zero, List.set_cons_succ]
    refine wpAnyT_ready (rs := [0]) (by kernel_rfl) (by simp) (AllReadyT.cons rfl (fun K hK => ?_) AllReadyT.nil)
    go_simp
    refine hK.out _ _ (HX.out _ (((Mod.refl _ W8).alloc _).drew)) (fun hHeld => ?_)
    clear hK K
    refine wpAnyT_ready (rs := [5]) (by kernel_rfl) (by simp) (AllReadyT.cons rfl (fun K hK => ?_) AllReadyT.nil)
    refine step_appK (v := .slice (some ⟨W8.heap.size, 0, none⟩) 0 0) (news := (ps.take i).map serC) rfl (.tmp 165) (.tmp 169) _ rfl eltSer rfl Hlit.out rfl Htk.out Hone1.out hr1 hr2 hszL ?_
    intro v10 w10 HO10 HMo10 HOb10
    obtain ⟨A10, n10, c10, rfl, _⟩ := HO10.out.formN
    have hm10 : Mod (fun _ => False) W8 w10 := (((((Mod.refl (fun j => W8.heap.size ≤ j) W8).alloc _).drew).trans HMo10.out (fun j _ e => (Hlit.out.block j e).1))).mono (fun j hj h => by omega)
    refine hK.out _ _ (HX.out _ hm10) (fun hHeld => ?_)
    clear hK K
    have Hm10 := Lib.hid hm10
    have Hdr10 := Lib.hid (Hdr.out.new hm10)
    have hsz10 : W8.heap.size ≤ w10.heap.size := hm10.size
    clear hm10
    refine wpAnyT_ready (rs := [11]) (by kernel_rfl) (by simp) (AllReadyT.cons rfl (fun K hK => ?_) AllReadyT.nil)
    refine step_appK (v := .slice A10 n10 c10) (news := (ps.drop q).map serC) rfl (.tmp 170) (.tmp 175) _ rfl eltSer rfl HO10.out rfl Hdr10.out Hone2.out hr3 hr4 hsz10 ?_
    intro v11 w11 HO11 HMo11 HOb11
    obtain ⟨A11, n11, c11, rfl, _⟩ := HO11.out.formN
    have hm11 : Mod (fun _ => False) W8 w11 := ((Hm10.out.mono (fun _ _ h => h.elim) : Mod (fun j => W8.heap.size ≤ j) W8 w10).trans HMo11.out (fun j _ e => (HO10.out.block j e).1)).mono (fun j hj h => by omega)
    refine hK.out _ _ (HX.out _ hm11) (fun hHeld => ?_)
    clear hK K hHeld
    have hSt11 := HS8.out.new hm11
    have k0 := hSt11.1.cell 0
    have f0 := hSt11.1.frozen 0
    simp at k0
    have Hm11 := Lib.hid hm11; have HSt11 := Lib.hid hSt11
    clear hm11 hSt11
    refine wpAnyT_rest (by kernel_rfl) ?_
    refine wpAny_take (i := 12) (v := ?_) rfl (by kernel_rfl) (by kernel_rfl) (by kernel_rfl) (fun _ _ _ h => h) (Or.inl ⟨by rfl, ?_⟩) ?_
    rotate_left
    · (intro w; go_simp; first | done | with_reducible rfl)
    simp only [Act.put, List.setIfInBounds_toArray, List.set_cons_zero, List.set_cons_succ]
    refine wpAny_ready (rs := [13]) (by kernel_rfl) (by simp) (AllReady.cons rfl (fun K hK => ?_) AllReady.nil)
    go_simp
    refine hK _ _ ?_
    clear hK K
    refine wpAny_done (by kernel_rfl) ?_ _
    obtain ⟨W12, hW12⟩ : ∃ W12, W12 = w11.setCell ⟨G0, 0, none⟩ (.slice A11 n11 c11) := ⟨_, rfl⟩
    have hb012 : Blk W12 G0 31 #[.slice A11 n11 c11, .slice Aw nw cw, .int .i64 m.next] := by rw [hW12]; have h := HSt11.out.1.set_ 0 (.slice A11 n11 c11); simpa using h
    have hm12 : Mod (fun j => j = G0) w11 W12 := by rw [hW12]; exact (Mod.refl (fun j => j = G0) w11).setCell (p := ⟨G0, 0, none⟩) (fun _ => rfl) _
    have hM11 : HavM B w11 (.slice A11 n11 c11) (.slice Aw nw cw) { m with ser := m.ser.take i ++ m.ser.drop (i + 1) } := ⟨ps.take i ++ ps.drop q, js, by rw [Hq.out, ← Hps.out]; simp, Hjs.out, ⟨by have h := HO11.out; rw [List.nil_append, ← List.map_append] at h; exact h.mono HBw.out, fun p hp => by
      rcases List.mem_append.1 hp with hp | hp
      · exact (HSer.out.2 p (List.mem_of_mem_take hp)).new Hm11.out
      · exact (HSer.out.2 p (List.mem_of_mem_drop hp)).new Hm11.out⟩, HIte.out.new Hm11.out⟩
    have Hb012 := Lib.hid hb012; have Hb412 := Lib.hid (hm12.blk HSt11.out.2.2.1 (by have := Hlt.out; omega)); have Hb512 := Lib.hid (hm12.blk HSt11.out.2.2.2.1 (by have := Hlt.out; omega)); have Hb812 := Lib.hid (hm12.blk (Hm11.out.blk Hb8.out (fun h => h)) (by have := Hlt.out; have := Hlt8.out; omega))
    have HM12 := Lib.hid (hM11.far hm12 (Far.one HSt11.out.1 (by decide) (by decide) (by decide))); have Hmw12 := Lib.hid (HSt11.out.2.2.2.2.2.own hm12 (by have := Hlt.out; omega)); have HW12 := Lib.hid hW12
    clear hW12 hb012 hm12 hM11 k0 f0
    go_upto_region 52 with fail
    rw [← HW12.out]
    have c0 := Hb012.out.cell 0
    have c1 := Hb012.out.cell 1
    have c2 := Hb012.out.cell 2
    simp at c0 c1 c2
    have d0 := Hb812.out.cell 0
    have d1 := Hb812.out.cell 1
    have d2 := Hb812.out.cell 2
    simp at d0 d1 d2
    have r0 := Hb412.out.cell 0
    have r1 := Hb412.out.cell 1
    have r2 := Hb412.out.cell 2
    simp at r0 r1 r2
    have f0 := Hb412.out.frozen 0
    have f1 := Hb412.out.frozen 1
    have f2 := Hb412.out.frozen 2
    have q0 := Hb512.out.cell 0
    have q1 := Hb512.out.cell 1
    have q2 := Hb512.out.cell 2
    simp at q0 q1 q2
    have h0 := Hb512.out.frozen 0
    have h1 := Hb512.out.frozen 1
    have h2 := Hb512.out.frozen 2
    obtain ⟨W6, hW6, hb46, hb56, hm6⟩ := six_lay (cs4 := (.slice none 0 0, .slice none 0 0, .int .i64 0)) (cs5 := (.int .i64 0, .int .i64 0, .slice none 0 0)) Hb412.out Hb512.out (.slice A11 n11 c11) (.slice Aw nw cw) (.int .i64 m.next) (.int .i64 0) (.int .i64 0) (.slice none 0 0)
    have HW6 := Lib.hid hW6; have Hb46 := Lib.hid hb46.drew; have Hb56 := Lib.hid hb56.drew; have Hm6 := Lib.hid hm6.drew
    have h45 : ¬ G4 = G5 := by have := Hlt.out; omega
    have h54 : ¬ G5 = G4 := fun h => h45 h.symm
    have h04 : ¬ G0 = G4 := by have := Hlt.out; omega
    have h05 : ¬ G0 = G5 := by have := Hlt.out; omega
    have h84 : ¬ G8 = G4 := by have := Hlt.out; have := Hlt8.out; omega
    have h85 : ¬ G8 = G5 := by have := Hlt.out; have := Hlt8.out; omega
    clear hW6 hb46 hb56 hm6
    go_region
    all_goals (
      rw [← HW6.out]
      obtain ⟨W7, hW7⟩ : ∃ W7, W7 = W6.drew := ⟨_, rfl⟩
      have Hb47 : Hid (Blk W7 G4 31 #[.slice A11 n11 c11, .slice Aw nw cw, .int .i64 m.next]) := Lib.hid (by rw [hW7]; exact Hb46.out)
      have Hb57 : Hid (Blk W7 G5 34 #[.int .i64 0, .int .i64 0, .slice none 0 0]) := Lib.hid (by rw [hW7]; exact Hb56.out)
      have Hm7 : Hid (Mod (fun j => j = G4 ∨ j = G5) W12 W7) := Lib.hid (by rw [hW7]; exact Hm6.out)
      rw [← hW7]
      clear hW7
      have a0 := Hb47.out.cell 0
      have a1 := Hb47.out.cell 1
      have a2 := Hb47.out.cell 2
      simp at a0 a1 a2
      have b0 := Hb57.out.cell 0
      have b1 := Hb57.out.cell 1
      have b2 := Hb57.out.cell 2
      simp at b0 b1 b2
      go_wp2_with fail
      refine bodyPost_ret (v := .tuple #[.agg #[.slice A11 n11 c11, .slice Aw nw cw, .int .i64 m.next], .agg #[.int .i64 0, .int .i64 0, .slice none 0 0]]) (by simp [results, Try.results13, go_sem, a0, a1, a2, b0, b1, b2]) rfl ?_
      exact rdo_fin (by have := Hlt.out; omega) (by have := Hlt.out; omega) (by have := Hlt.out; omega) Hb412.out Hb512.out HM12.out (SliH.nil _ _) Hmw12.out Hd.out rfl Hm7.out)
  )
end Go.Proofs.Ytejnhdenehkpmaa

/- Do, as the document has it: an iterator is opened. -/
namespace Go.Proofs.Ytejnhdenehkpmaa
open Go.RowKit

set_option linter.unusedSimpArgs false in
set_option linter.unusedVariables false in
set_option maxHeartbeats 4000000 in
set_option maxRecDepth 100000 in
theorem rdo_open (A : Option Addr) (n c : Nat) (A2 : Option Addr) (n2 c2 : Nat) (m : ModN) (o : OpN) (w : World) (h : RdsM w w.heap.size A n c A2 n2 c2 m) (hK : KeepM m) (hL : LenM m 100000) (hx : m.next ≤ 1000000) (i : Nat) (hat : atS o.series m.ser = some i) (hs0 : ¬ (o.series < 0 ∨ 15 < o.series)) (s : SerN) (hms : m.ser[i]? = some s) (hkd : o.kind = 5) :
    Calls Try.prog 13 #[.agg #[.slice A n c, .slice A2 n2 c2, .int .i64 m.next], .agg #[.int .i64 o.kind, .int .i64 o.series, .int .i64 o.iter, .int .i64 o.t, .int .u64 (o.v : Int), .int .i64 o.from_, .int .i64 o.to_, .int .i64 o.n]] w fun e w' => DoEnd w w' (doN m o) e := by
  have HKD := Lib.hid hkd
  clear hkd
  obtain ⟨W, hW⟩ : ∃ W, W = (((w.alloc (.cells #[.slice A n c, .slice A2 n2 c2, .int .i64 m.next] 31)).alloc (.cells #[.int .i64 o.kind, .int .i64 o.series, .int .i64 o.iter, .int .i64 o.t, .int .u64 (o.v : Int), .int .i64 o.from_, .int .i64 o.to_, .int .i64 o.n] 24)).alloc (.cells #[.slice none 0 0, .slice none 0 0, .int .i64 0] 31)).alloc (.cells #[.int .i64 0, .int .i64 0, .slice none 0 0] 34) := ⟨_, rfl⟩
  obtain ⟨G0, hG0⟩ : ∃ g, g = w.heap.size := ⟨_, rfl⟩
  obtain ⟨G1, hG1⟩ : ∃ g, g = w.heap.size + 1 := ⟨_, rfl⟩
  obtain ⟨G4, hG4⟩ : ∃ g, g = w.heap.size + 1 + 1 := ⟨_, rfl⟩
  obtain ⟨G5, hG5⟩ : ∃ g, g = w.heap.size + 1 + 1 + 1 := ⟨_, rfl⟩
  have hmW : Mod (fun _ => False) w W := by rw [hW]; exact ((((Mod.refl _ _).alloc _).alloc _).alloc _).alloc _
  have hzW : W.heap.size = G5 + 1 := by rw [hW, hG5]; simp
  have hb0 : Blk W G0 31 #[.slice A n c, .slice A2 n2 c2, .int .i64 m.next] := by rw [hW, hG0]; exact (((Blk.new _ _ _).alloc _).alloc _).alloc _
  have hb1 : Blk W G1 24 #[.int .i64 o.kind, .int .i64 o.series, .int .i64 o.iter, .int .i64 o.t, .int .u64 (o.v : Int), .int .i64 o.from_, .int .i64 o.to_, .int .i64 o.n] := by
    rw [hW, hG1]
    have h := ((Blk.new (w.alloc (.cells #[.slice A n c, .slice A2 n2 c2, .int .i64 m.next] 31)) 24 #[.int .i64 o.kind, .int .i64 o.series, .int .i64 o.iter, .int .i64 o.t, .int .u64 (o.v : Int), .int .i64 o.from_, .int .i64 o.to_, .int .i64 o.n]).alloc (.cells #[.slice none 0 0, .slice none 0 0, .int .i64 0] 31)).alloc (.cells #[.int .i64 0, .int .i64 0, .slice none 0 0] 34)
    simpa using h
  have hb4 : Blk W G4 31 #[.slice none 0 0, .slice none 0 0, .int .i64 0] := by
    rw [hW, hG4]
    have h := (Blk.new ((w.alloc (.cells #[.slice A n c, .slice A2 n2 c2, .int .i64 m.next] 31)).alloc (.cells #[.int .i64 o.kind, .int .i64 o.series, .int .i64 o.iter, .int .i64 o.t, .int .u64 (o.v : Int), .int .i64 o.from_, .int .i64 o.to_, .int .i64 o.n] 24)) 31 #[.slice none 0 0, .slice none 0 0, .int .i64 0]).alloc (.cells #[.int .i64 0, .int .i64 0, .slice none 0 0] 34)
    simpa using h
  have hb5 : Blk W G5 34 #[.int .i64 0, .int .i64 0, .slice none 0 0] := by
    rw [hW, hG5]
    have h := Blk.new (((w.alloc (.cells #[.slice A n c, .slice A2 n2 c2, .int .i64 m.next] 31)).alloc (.cells #[.int .i64 o.kind, .int .i64 o.series, .int .i64 o.iter, .int .i64 o.t, .int .u64 (o.v : Int), .int .i64 o.from_, .int .i64 o.to_, .int .i64 o.n] 24)).alloc (.cells #[.slice none 0 0, .slice none 0 0, .int .i64 0] 31)) 34 #[.int .i64 0, .int .i64 0, .slice none 0 0]
    simpa using h
  obtain ⟨hl1, hl2⟩ := h.lens
  have hn : n ≤ 1000 := by have := keep_len hK; omega
  have hn2 : n2 ≤ 1000 := by have := hK.2.2.1; omega
  have z0 := hb0.cell 0
  have z1 := hb0.cell 1
  have z2 := hb0.cell 2
  simp at z0 z1 z2
  have Hr := Lib.hid (h.new hmW).fit
  have HW := Lib.hid hW; have HG0 := Lib.hid hG0; have HG1 := Lib.hid hG1; have HG4 := Lib.hid hG4; have HG5 := Lib.hid hG5; have HmW := Lib.hid hmW
  have Hb0 := Lib.hid hb0; have Hb1 := Lib.hid hb1; have Hb4 := Lib.hid hb4; have Hb5 := Lib.hid hb5; have HK := Lib.hid hK; have HL := Lib.hid hL; have Hx := Lib.hid hx
  obtain ⟨B, hBB⟩ : ∃ B, B = W.heap.size := ⟨_, rfl⟩
  have Hlt : Hid (w.heap.size = G0 ∧ G1 = G0 + 1 ∧ G4 = G0 + 2 ∧ G5 = G0 + 3 ∧ B = G0 + 4) := Lib.hid (by omega)
  clear hW hG0 hG1 hG4 hG5 hmW hzW hb0 hb1 hb4 hb5 h hl1 hl2 hK hL hx
  go_enter Try.func13, Try.ntmps13
  go_upto_region 1 with fail
  rw [← HW.out, ← HG5.out, ← HG4.out, ← HG1.out, ← HG0.out]
  go_wp2_with fail
  refine (rcopied_any A n c A2 n2 c2 m W Hr.out HL.out hn hn2).mono ?_
  rintro e w1 ⟨v, v2, rfl, hM1, hm1⟩
  rw [← hBB] at hM1
  obtain ⟨Av, nv, cv, Aw, nw, cw, rfl, rfl, hrd⟩ := hM1.rds
  have hbo := hm1.blk Hb0.out (fun h => h)
  have y0 := hbo.cell 0
  have y1 := hbo.cell 1
  have y2 := hbo.cell 2
  have p0 := hbo.frozen 0
  have p1 := hbo.frozen 1
  have p2 := hbo.frozen 2
  simp at y0 y1 y2
  obtain ⟨W1, hW1, hbn, hmo, hMo⟩ := lay_over1 hbo (.slice Av nv cv) (.slice Aw nw cw) (.int .i64 m.next)
  have hne1 : ¬ G1 = G0 := by have := Hlt.out; omega
  have hne4 : ¬ G4 = G0 := by have := Hlt.out; omega
  have hne5 : ¬ G5 = G0 := by have := Hlt.out; omega
  have HSt : Hid (RSt B w W1 G0 G1 G4 G5 (.slice Av nv cv) (.slice Aw nw cw) m o) := Lib.hid ⟨hbn, hmo.blk (hm1.blk Hb1.out (fun h => h)) hne1, hmo.blk (hm1.blk Hb4.out (fun h => h)) hne4, hmo.blk (hm1.blk Hb5.out (fun h => h)) hne5, hMo hM1, (HmW.out.trans hm1 (fun _ _ h => h)).own hmo (by have := Hlt.out; omega)⟩
  have HW1 := Lib.hid hW1
  clear z0 z1 z2 hM1 hm1 hrd hbo hW1 hbn hmo hMo Hb0 Hb1 Hb4 Hb5 HW HmW hne1 hne4 hne5
  go_upto_region 2 with fail
  rw [← HW1.out]
  clear HW1 y0 y1 y2 p0 p1 p2
  have x0 := HSt.out.1.cell 0
  have x1 := HSt.out.1.cell 1
  have x2 := HSt.out.1.cell 2
  have y1 := HSt.out.2.1.cell 1
  simp at x0 x1 x2 y1
  have hrd := HSt.out.2.2.2.2.1.rdm
  have hnv : nv ≤ 1000000 := by have := hrd.lens; have := keep_len HK.out; omega
  have hnw : nw ≤ 1000000 := by have := hrd.lens; have := HK.out.2.2.1; omega
  have Hat := Lib.hid (rat_any m Av Aw nv cv nw cw W1.heap.size o.series W1 hrd hnv)
  clear hrd
  go_wp2_with fail
  refine Hat.out.mono ?_
  rintro e w2 ⟨k, rfl, hk, hm2⟩
  have Hk := Lib.hid hk; have HS2 := Lib.hid (HSt.out.new hm2)
  clear x0 x1 x2 y1 hk hm2 HSt Hat
  have x0 := HS2.out.1.cell 0
  have x1 := HS2.out.1.cell 1
  have x2 := HS2.out.1.cell 2
  have y0 := HS2.out.2.1.cell 0
  have y1 := HS2.out.2.1.cell 1
  have y2 := HS2.out.2.1.cell 2
  have y3 := HS2.out.2.1.cell 3
  have y4 := HS2.out.2.1.cell 4
  have y5 := HS2.out.2.1.cell 5
  have y6 := HS2.out.2.1.cell 6
  have y7 := HS2.out.2.1.cell 7
  simp at x0 x1 x2 y0 y1 y2 y3 y4 y5 y6 y7
  have hkd := HKD.out
  have Hd := Lib.hid (doN_open hkd hs0 hat hms)
  have hk1 := fst_some Hk.out hat
  subst hk1
  have hs2 : o.series ≥ 0 := by omega
  have hs3 : o.series ≤ 15 := by omega
  have hi0 : (0 : Int) ≤ (i : Int) := by omega
  obtain ⟨W8, hW8, hm8, hb8, hz8⟩ := Blk.box w2 34 #[.int .i64 0, .int .i64 0, .slice none 0 0]
  obtain ⟨G8, hG8⟩ : ∃ g, g = w2.heap.size := ⟨_, rfl⟩
  rw [← hG8] at hb8
  have HS8 := Lib.hid (HS2.out.new hm8); have HW8 := Lib.hid hW8; have HG8 := Lib.hid hG8; have Hb8 := Lib.hid hb8
  have Hlt8 : Hid (B ≤ G8) := Lib.hid (by have := HS2.out.2.2.2.1.lt; have := Hlt.out; omega)
  rw [hkd] at y0
  clear hW8 hm8 hb8 hz8 hG8 hs0 hkd
  go_upto_region 21 with fail
  rw [← HW8.out, ← HG8.out]
  clear HW8 x0 x1 x2 y0 y1 y2 y3 y4 y5 y6 y7 HS2 hs2 hs3 Hk
  obtain ⟨ps, hps, hS0, hput0⟩ := HS8.out.2.2.2.2.1.ser
  obtain ⟨g, n', c', u4, e0, hp, hin, hnc', hpn⟩ := hS0.some_ hps hms
  injection e0 with e1 e2 e3
  subst e1 e2 e3
  obtain ⟨A4, n4, c4, hu4, hjunk⟩ := hS0.2 _ (List.mem_of_getElem? hp)
  simp only at hu4
  subst hu4
  clear hjunk
  have Hrd4 := Lib.hid (hS0.2 _ (List.mem_of_getElem? hp)).rds
  have Hn4 : Hid (n4 ≤ 100000) := Lib.hid (by
    have h1 := (HL.out.1 s (List.mem_of_getElem? hms)).1
    have h2 := Hrd4.out.1
    simp only at h2
    omega)
  have hi1 : (i : Int) < (nv : Int) := by omega
  have hat5 : (⟨g, 0, none⟩ : Addr).add (i * 5) = ⟨g, i * 5, none⟩ := by rw [add_addr, Nat.zero_add]
  obtain ⟨s1, s2, s3, s4, sf⟩ := hS0.cells hp
  have Hps := Lib.hid hps; have HS0 := Lib.hid hS0; have Hput0 := Lib.hid hput0; have Hp := Lib.hid hp; have Hpn := Lib.hid hpn; have Hms := Lib.hid hms; have Hat9 := Lib.hid hat
  have Hgl : Hid (B ≤ g ∧ g < W8.heap.size) := Lib.hid (by obtain ⟨⟨cs, hcs⟩, hBg, _, _⟩ := hS0.at_; exact ⟨hBg, hcs.lt⟩)
  clear hps hS0 hput0 hp hpn hat hms
  have x0 := HS8.out.1.cell 0
  have x1 := HS8.out.1.cell 1
  have x2 := HS8.out.1.cell 2
  have y0 := HS8.out.2.1.cell 0
  have y1 := HS8.out.2.1.cell 1
  have y3 := HS8.out.2.1.cell 3
  have y4 := HS8.out.2.1.cell 4
  have y5 := HS8.out.2.1.cell 5
  have y6 := HS8.out.2.1.cell 6
  simp at x0 x1 x2 y0 y1 y3 y4 y5 y6
  rw [HKD.out] at y0
  have hnwl : m.ite.length = nw := HS8.out.2.2.2.2.1.rdm.lens.2
  by_cases h8 : 8 ≤ nw
  · have Hd2 : Hid (doN m o = (m, ⟨5, 0, []⟩)) := Lib.hid (by rw [Hd.out, if_pos (by omega)]; rfl)
    have h8i : (nw : Int) ≥ 8 := by omega
    clear h8 hnwl
    have r0 := HS8.out.2.2.1.cell 0
    have r1 := HS8.out.2.2.1.cell 1
    have r2 := HS8.out.2.2.1.cell 2
    simp at r0 r1 r2
    have f0 := HS8.out.2.2.1.frozen 0
    have f1 := HS8.out.2.2.1.frozen 1
    have f2 := HS8.out.2.2.1.frozen 2
    have q0 := HS8.out.2.2.2.1.cell 0
    have q1 := HS8.out.2.2.2.1.cell 1
    have q2 := HS8.out.2.2.2.1.cell 2
    simp at q0 q1 q2
    have g0 := HS8.out.2.2.2.1.frozen 0
    have g1 := HS8.out.2.2.2.1.frozen 1
    have g2 := HS8.out.2.2.2.1.frozen 2
    obtain ⟨W6, hW6, hb46, hb56, hm6⟩ := six_lay (cs4 := (.slice none 0 0, .slice none 0 0, .int .i64 0)) (cs5 := (.int .i64 0, .int .i64 0, .slice none 0 0)) HS8.out.2.2.1 HS8.out.2.2.2.1 (.slice (some ⟨g, 0, none⟩) nv cv) (.slice Aw nw cw) (.int .i64 m.next) (.int .i64 5) (.int .i64 0) (.slice none 0 0)
    have HW6 := Lib.hid hW6; have Hb46 := Lib.hid hb46; have Hb56 := Lib.hid hb56; have Hm6 := Lib.hid hm6
    have h45 : ¬ G4 = G5 := by have := Hlt.out; omega
    have h54 : ¬ G5 = G4 := fun h => h45 h.symm
    clear hW6 hb46 hb56 hm6
    go_wp2_with fail
    rw [← HW6.out]
    have a0 := Hb46.out.cell 0
    have a1 := Hb46.out.cell 1
    have a2 := Hb46.out.cell 2
    simp at a0 a1 a2
    have b0 := Hb56.out.cell 0
    have b1 := Hb56.out.cell 1
    have b2 := Hb56.out.cell 2
    simp at b0 b1 b2
    refine bodyPost_ret (v := .tuple #[.agg #[.slice (some ⟨g, 0, none⟩) nv cv, .slice Aw nw cw, .int .i64 m.next], .agg #[.int .i64 5, .int .i64 0, .slice none 0 0]]) (by simp [results, Try.results13, go_sem, a0, a1, a2, b0, b1, b2]) rfl ?_
    exact rdo_fin (by have := Hlt.out; omega) (by have := Hlt.out; omega) (by have := Hlt.out; omega) HS8.out.2.2.1 HS8.out.2.2.2.1 HS8.out.2.2.2.2.1 (SliH.nil _ _) HS8.out.2.2.2.2.2 Hd2.out rfl Hm6.out
  · have h8i : ¬ (nw : Int) ≥ 8 := by omega
    obtain ⟨N1, hN1⟩ : ∃ N1, N1 = m.next + 1 := ⟨_, rfl⟩
    have Hd2 : Hid (doN m o = ({ m with next := N1, ite := m.ite ++ [⟨N1, spanN o.from_ o.to_ s.l⟩] }, ⟨0, N1, []⟩)) := Lib.hid (by rw [Hd.out, if_neg (by omega), hN1])
    have hnext : 0 ≤ m.next := HK.out.2.2.2.1
    have hw1 : wrap64 N1 = N1 := IntWalk.wrap64_in _ (by have := Hx.out; omega)
    have hw2 : m.next + 1 = N1 := hN1.symm
    have Hnw : Hid (m.ite.length = nw ∧ nw < 8) := Lib.hid ⟨hnwl, by omega⟩
    have p2 := HS8.out.1.frozen 2
    clear h8 hN1 hnext hnwl
    obtain ⟨W9, hW9⟩ : ∃ W9, W9 = W8.setCell ⟨G0, 2, none⟩ (.int .i64 N1) := ⟨_, rfl⟩
    have hb09 : Blk W9 G0 31 #[.slice (some ⟨g, 0, none⟩) nv cv, .slice Aw nw cw, .int .i64 N1] := by rw [hW9]; have h := HS8.out.1.set_ 2 (.int .i64 N1); simpa using h
    have hm9 : Mod (fun j => j = G0) W8 W9 := by rw [hW9]; exact (Mod.refl (fun j => j = G0) W8).setCell (p := ⟨G0, 2, none⟩) (fun _ => rfl) _
    have hfar := Far.one HS8.out.1 (by decide) (by decide) (by decide)
    have hM9 := HS8.out.2.2.2.2.1.far hm9 hfar
    have hb19 := hm9.blk HS8.out.2.1 (by have := Hlt.out; omega)
    have hb49 := hm9.blk HS8.out.2.2.1 (by have := Hlt.out; omega)
    have hb59 := hm9.blk HS8.out.2.2.2.1 (by have := Hlt.out; omega)
    have hb89 := hm9.blk Hb8.out (by have := Hlt.out; have := Hlt8.out; omega)
    have hmw9 := HS8.out.2.2.2.2.2.own hm9 (by have := Hlt.out; omega)
    have hrd9 : RdsS W9 W9.heap.size A4 n4 s.l := ((HS0.out.2 _ (List.mem_of_getElem? Hp.out)).mod hm9 (fun k cs _ hb => hfar k _ cs hb (.inr (.inr rfl)))).rds.2.2.2
    have hs49 : W9.cell? ⟨g, i * 5 + 4, none⟩ = some (.slice A4 n4 c4) := (hm9.cell (a := ⟨g, i * 5 + 4, none⟩) Hgl.out.2 (fun e => by have e' : g = G0 := e; have := Hgl.out; have := Hlt.out; omega)).trans s4
    have hgW9 : g < W9.heap.size := Nat.lt_of_lt_of_le Hgl.out.2 hm9.size
    obtain ⟨ps9, js, hps9, hjs, hSer9, hI0⟩ := hM9
    have hjl : js.length = nw := by
      have h1 := congrArg List.length hjs
      rw [List.length_map] at h1
      have := Hnw.out
      omega
    have hBW9 : B ≤ W9.heap.size := by have := Hgl.out; omega
    have hSb : ∃ cs, Blk W8 g 43 cs := HS0.out.at_.1
    have HX : Hid (∀ W' : World, Mod (fun j => (Value.slice Aw nw cw).ownBlock = some j) W9 W' → W'.cell? ⟨G0, 0, none⟩ = some (.slice (some ⟨g, 0, none⟩) nv cv) ∧ W'.cell? ⟨G0, 1, none⟩ = some (.slice Aw nw cw) ∧ W'.cell? ⟨G0, 2, none⟩ = some (.int .i64 N1) ∧ W'.cell? ⟨g, i * 5 + 4, none⟩ = some (.slice A4 n4 c4) ∧ W'.cell? ⟨G1, 5, none⟩ = some (.int .i64 o.from_) ∧ W'.cell? ⟨G1, 6, none⟩ = some (.int .i64 o.to_)) := Lib.hid (fun W' h => by
      have n0 := ownK_ne hI0.1 hb09 (by decide)
      have h0 := (h.blk hb09 n0).cell 0
      have h1 := (h.blk hb09 n0).cell 1
      have h2 := (h.blk hb09 n0).cell 2
      have n1 := ownK_ne hI0.1 hb19 (by decide)
      have h5 := (h.blk hb19 n1).cell 5
      have h6 := (h.blk hb19 n1).cell 6
      simp at h0 h1 h2 h5 h6
      obtain ⟨cs, hcs⟩ := hSb
      have hcs9 := hm9.blk hcs (fun e => by have := Hgl.out; have := Hlt.out; omega)
      exact ⟨h0, h1, h2, (h.cell (a := ⟨g, i * 5 + 4, none⟩) hgW9 (ownK_ne hI0.1 hcs9 (by decide))).trans hs49, h5, h6⟩)
    have Hw : Hid (Calls Try.prog 25 #[.slice A4 n4 c4, .int .i64 o.from_, .int .i64 o.to_] W9.drew fun e w' => ∃ A5 n5 c5, e = .returned (.slice A5 n5 c5) ∧ SliH B w' (.slice A5 n5 c5) (spanN o.from_ o.to_ s.l) ∧ Mod (fun _ => False) W9 w') := Lib.hid (by
      refine (rwithin_any A4 n4 c4 s.l o.from_ o.to_ W9.drew hrd9 (by have := Hn4.out; omega)).mono ?_
      rintro e w' ⟨v5, rfl, h1, h2⟩
      obtain ⟨A5, n5, c5, rfl, _⟩ := h1.formN
      exact ⟨A5, n5, c5, rfl, (SliH.of_own h1).mono (by show B ≤ W9.heap.size; exact hBW9), (Mod.refl _ W9).drew.trans h2 (fun _ _ h => h)⟩)
    have hrl : ((js.map iteC).length) + 1 ≤ maxLen := by rw [List.length_map]; unfold maxLen; have := Hnw.out; omega
    have hrb : ((js.map iteC).length + 1) * 32 ≤ 140737488355328 := by rw [List.length_map]; have := Hnw.out; omega
    have HW9 := Lib.hid hW9; have Hb09 := Lib.hid hb09; have Hb49 := Lib.hid hb49; have Hb59 := Lib.hid hb59; have Hb89 := Lib.hid hb89; have Hmw9 := Lib.hid hmw9; have HI0 := Lib.hid hI0; have HSer9 := Lib.hid hSer9; have Hps9 := Lib.hid hps9; have Hjs := Lib.hid hjs; have HBW9 := Lib.hid hBW9
    clear hW9 hb09 hm9 hfar hb19 hb49 hb59 hb89 hmw9 hrd9 hs49 hgW9 hjs hI0 hSer9 hps9 hjl hBW9 hSb s1 s2 s3 s4 sf y3 y4
    go_upto_region 44 with fail
    rw [← HW9.out]
    clear HW9 x0 x1 x2 y0 y1 y5 y6 p2
    refine wp_region_T (fun W' => W'.cell? ⟨G0, 0, none⟩ = some (.slice (some ⟨g, 0, none⟩) nv cv) ∧ W'.cell? ⟨G0, 1, none⟩ = some (.slice Aw nw cw) ∧ W'.cell? ⟨G0, 2, none⟩ = some (.int .i64 N1) ∧ W'.cell? ⟨g, i * 5 + 4, none⟩ = some (.slice A4 n4 c4) ∧ W'.cell? ⟨G1, 5, none⟩ = some (.int .i64 o.from_) ∧ W'.cell? ⟨G1, 6, none⟩ = some (.int .i64 o.to_)) 18 (by kernel_rfl) (HX.out _ (Mod.refl _ W9).drew) (fun hHeld => ?_)
    refine wpAnyT_take (i := 0) (v := ?_) rfl (by decide) (by kernel_rfl) (by kernel_rfl) (by kernel_rfl) (by kernel_rfl) (fun _ _ _ h => h) (Or.inl ⟨by rfl, ?_⟩) hHeld ?_
    rotate_left
    · (intro w hSw; (try dsimp only at hSw); go_simp; first | done | with_reducible rfl)
    simp only [Act.put, List.setIfInBounds_toArray, List.set_cons_zero, List.set_cons_succ]
    refine wpAnyT_take (i := 1) (v := ?_) rfl (by decide) (by kernel_rfl) (by kernel_rfl) (by kernel_rfl) (by kernel_rfl) (fun _ _ _ h => h) (Or.inl ⟨by rfl, ?_⟩) hHeld ?_
    rotate_left
    · (intro w hSw; (try dsimp only at hSw); go_simp; first | done | with_reducible rfl)
    simp only [Act.put, List.setIfInBounds_toArray, List.set_cons_zero, List.set_cons_succ]
    refine wpAnyT_take (i := 2) (v := ?_) rfl (by decide) (by kernel_rfl) (by kernel_rfl) (by kernel_rfl) (by kernel_rfl) (fun _ _ _ h => h) (Or.inl ⟨by rfl, ?_⟩) hHeld ?_
    rotate_left
    · (intro w hSw; (try dsimp only at hSw); go_simp; first | done | with_reducible rfl)
    simp only [Act.put, List.setIfInBounds_toArray, List.set_cons_zero, List.set_cons_succ]
    refine wpAnyT_take (i := 3) (v := ?_) rfl (by decide) (by kernel_rfl) (by kernel_rfl) (by kernel_rfl) (by kernel_rfl) (fun _ _ _ h => h) (Or.inl ⟨by rfl, ?_⟩) hHeld ?_
    rotate_left
    · (intro w hSw; (try dsimp only at hSw); go_simp; first | done | with_reducible rfl)
    simp only [Act.put, List.setIfInBounds_toArray, List.set_cons_zero, List.set_cons_succ]
    refine wpAnyT_take (i := 4) (v := ?_) rfl (by decide) (by kernel_rfl) (by kernel_rfl) (by kernel_rfl) (by kernel_rfl) (fun _ _ _ h => h) (Or.inl ⟨by rfl, ?_⟩) hHeld ?_
    rotate_left
    · (intro w hSw; (try dsimp only at hSw); go_simp; first | done | with_reducible rfl)
    simp only [Act.put, List.setIfInBounds_toArray, List.set_cons_zero, List.set_cons_succ]
    refine wpAnyT_take (i := 5) (v := ?_) rfl (by decide) (by kernel_rfl) (by kernel_rfl) (by kernel_rfl) (by kernel_rfl) (fun _ _ _ h => h) (Or.inl ⟨by rfl, ?_⟩) hHeld ?_
    rotate_left
    · (intro w hSw; (try dsimp only at hSw); go_simp; first | done | with_reducible rfl)
    simp only [Act.put, List.setIfInBounds_toArray, List.set_cons_zero, List.set_cons_succ]
    refine wpAnyT_take (i := 6) (v := ?_) rfl (by decide) (by kernel_rfl) (by kernel_rfl) (by kernel_rfl) (by kernel_rfl) (fun _ _ _ h => h) (Or.inl ⟨by rfl, ?_⟩) hHeld ?_
    rotate_left
    · (intro w hSw; (try dsimp only at hSw); go_simp; first | done | with_reducible rfl)
    simp only [Act.put, List.setIfInBounds_toArray, List.set_cons_zero, List.set_cons_succ]
    refine wpAnyT_take (i := 7) (v := ?_) rfl (by decide) (by kernel_rfl) (by kernel_rfl) (by kernel_rfl) (by kernel_rfl) (fun _ _ _ h => h) (Or.inl ⟨by rfl, ?_⟩) hHeld ?_
    rotate_left
    · (intro w hSw; (try dsimp only at hSw); go_simp; first | done | with_reducible rfl)
    simp only [Act.put, List.setIfInBounds_toArray, List.set_cons_zero, List.set_cons_succ]
    refine wpAnyT_take (i := 8) (v := ?_) rfl (by decide) (by kernel_rfl) (by kernel_rfl) (by kernel_rfl) (by kernel_rfl) (fun _ _ _ h => h) (Or.inl ⟨by rfl, ?_⟩) hHeld ?_
    rotate_left
    · (intro w hSw; (try dsimp only at hSw); go_simp; first | done | with_reducible rfl)
    simp only [Act.put, List.setIfInBounds_toArray, List.set_cons_zero, List.set_cons_succ]
    refine wpAnyT_take (i := 9) (v := ?_) rfl (by decide) (by kernel_rfl) (by kernel_rfl) (by kernel_rfl) (by kernel_rfl) (fun _ _ _ h => h) (Or.inl ⟨by rfl, ?_⟩) hHeld ?_
    rotate_left
    · (intro w hSw; (try dsimp only at hSw); go_simp; first | done | with_reducible rfl)
    simp only [Act.put, List.setIfInBounds_toArray, List.set_cons_zero, List.set_cons_succ]
    refine wpAnyT_take (i := 10) (v := ?_) rfl (by decide) (by kernel_rfl) (by kernel_rfl) (by kernel_rfl) (by kernel_rfl) (fun _ _ _ h => h) (Or.inl ⟨by rfl, ?_⟩) hHeld ?_
    rotate_left
    · (intro w hSw; (try dsimp only at hSw); go_simp; first | done | with_reducible rfl)
    simp only [Act.put, List.setIfInBounds_toArray, List.set_cons_zero, List.set_cons_succ]
    refine wpAnyT_take (i := 11) (v := ?_) rfl (by decide) (by kernel_rfl) (by kernel_rfl) (by kernel_rfl) (by kernel_rfl) (fun _ _ _ h => h) (Or.inl ⟨by rfl, ?_⟩) hHeld ?_
    rotate_left
    · (intro w hSw; (try dsimp only at hSw); go_simp; first | done | with_reducible rfl)
    simp only [Act.put, List.setIfInBounds_toArray, List.set_cons_zero, List.set_cons_succ]
    refine wpAnyT_take (i := 12) (v := ?_) rfl (by decide) (by kernel_rfl) (by kernel_rfl) (by kernel_rfl) (by kernel_rfl) (fun _ _ _ h => h) (Or.inl ⟨by rfl, ?_⟩) hHeld ?_
    rotate_left
    · (intro w hSw; (try dsimp only at hSw); go_simp; first | done | with_reducible rfl)
    simp only [Act.put, List.setIfInBounds_toArray, List.set_cons_zero, List.set_cons_succ]
    refine wpAnyT_take (i := 13) (v := ?_) rfl (by decide) (by kernel_rfl) (by kernel_rfl) (by kernel_rfl) (by kernel_rfl) (fun _ _ _ h => h) (Or.inl ⟨by rfl, ?_⟩) hHeld ?_
    rotate_left
    · (intro w hSw; (try dsimp only at hSw); go_simp; first | done | with_reducible rfl)
    simp only [Act.put, List.setIfInBounds_toArray, List.set_cons_zero, List.set_cons_succ]
    refine wpAnyT_ready (rs := [14]) (by kernel_rfl) (by simp) (AllReadyT.cons rfl (fun K hK => ?_) AllReadyT.nil)
    go_simp
    go_at_call 25
    refine Hw.out.mono ?_
    rintro e w10 ⟨A5, n5, c5, rfl, ho10, hm10⟩
    go_simp
    refine hK.out _ _ (HX.out _ (hm10.mono (fun _ _ h => h.elim))) (fun hHeld => ?_)
    clear hK K
    refine wpAnyT_take (i := 15) (v := ?_) rfl (by decide) (by kernel_rfl) (by kernel_rfl) (by kernel_rfl) (by kernel_rfl) (fun _ _ _ h => h) (Or.inl ⟨by rfl, ?_⟩) hHeld ?_
    rotate_left
    · (intro w hSw; (try dsimp only at hSw); go_simp; first | done | with_reducible rfl)
    simp only [Act.put, List.setIfInBounds_toArray, List.set_cons_zero, List.set_cons_succ]
    refine wpAnyT_ready (rs := [16]) (by kernel_rfl) (by simp) (AllReadyT.cons rfl (fun K hK => ?_) AllReadyT.nil)
    go_simp
    refine hK.out _ _ (HX.out _ ((hm10.alloc _).mono (fun _ _ h => h.elim))) (fun hHeld => ?_)
    clear hK K
    have HM10 := Lib.hid (hm10.alloc (.cells #[.int .i64 N1, .slice A5 n5 c5] 50))
    have HI10 := Lib.hid (HI0.out.new HM10.out)
    have hszB4 : B ≤ (w10.alloc (.cells #[.int .i64 N1, .slice A5 n5 c5] 50)).heap.size := Nat.le_trans HBW9.out HM10.out.size
    have Hone := Lib.hid (iteC_cells ⟨N1, spanN o.from_ o.to_ s.l⟩ (.slice A5 n5 c5) ⟨_, _, _, rfl⟩)
    refine wpAnyT_ready (rs := [17]) (by kernel_rfl) (by simp) (AllReadyT.cons rfl (fun K hK => ?_) AllReadyT.nil)
    refine step_appK (v := .slice Aw nw cw) (news := [iteC (⟨N1, spanN o.from_ o.to_ s.l⟩, .slice A5 n5 c5)]) rfl (.tmp 191) (.tmp 206) _ rfl eltIte rfl HI10.out.1 rfl (RdsK.lit1 w10 50 (iteC (⟨N1, spanN o.from_ o.to_ s.l⟩, .slice A5 n5 c5))) (fun u hu => Hone.out u (by rw [List.flatten_cons, List.flatten_nil, List.append_nil] at hu; exact hu)) hrl hrb hszB4 ?_
    intro v11 w11 HO HMo HOb
    obtain ⟨A7, n7, c7, rfl, _⟩ := HO.out.formN
    have hm11 : Mod (fun j => (Value.slice Aw nw cw).ownBlock = some j) W9 w11 := (HM10.out.mono (fun _ _ h => h.elim)).trans HMo.out (fun _ _ h => h)
    refine hK.out _ _ (HX.out _ hm11) (fun hHeld => ?_)
    clear hK K hHeld
    have hb011 := hm11.blk Hb09.out (ownK_ne HI0.out.1 Hb09.out (by decide))
    have hM11 : HavM B w11 (.slice (some ⟨g, 0, none⟩) nv cv) (.slice A7 n7 c7) { m with next := N1, ite := m.ite ++ [⟨N1, spanN o.from_ o.to_ s.l⟩] } :=
      ⟨ps9, js ++ [(⟨N1, spanN o.from_ o.to_ s.l⟩, .slice A5 n5 c5)], Hps9.out, by simp [← Hjs.out], HSer9.out.modT hm11 (fun k cs hb e => ownK_ne HI0.out.1 hb (by decide) e) (fun k cs hb e => ownK_ne HI0.out.1 hb (by decide) e), HI10.out.snoc HO.out HMo.out (ho10.new ((Mod.refl _ w10).alloc _))⟩
    have Hm11 := Lib.hid hm11; have Hb011 := Lib.hid hb011; have HM11 := Lib.hid hM11
    have k1 := hb011.cell 1
    have f1 := hb011.frozen 1
    simp at k1
    clear hm11 hb011 hM11
    refine wpAnyT_rest (by kernel_rfl) ?_
    refine wpAny_take (i := 18) (v := ?_) rfl (by kernel_rfl) (by kernel_rfl) (by kernel_rfl) (fun _ _ _ h => h) (Or.inl ⟨by rfl, ?_⟩) ?_
    rotate_left
    · (intro w; go_simp; first | done | with_reducible rfl)
    simp only [Act.put, List.setIfInBounds_toArray, List.set_cons_zero, List.set_cons_succ]
    refine wpAny_ready (rs := [19]) (by kernel_rfl) (by simp) (AllReady.cons rfl (fun K hK => ?_) AllReady.nil)
    go_simp
    refine hK _ _ ?_
    clear hK K
    refine wpAny_done (by kernel_rfl) ?_ _
    obtain ⟨W12, hW12⟩ : ∃ W12, W12 = w11.setCell ⟨G0, 1, none⟩ (.slice A7 n7 c7) := ⟨_, rfl⟩
    have hb012 : Blk W12 G0 31 #[.slice (some ⟨g, 0, none⟩) nv cv, .slice A7 n7 c7, .int .i64 N1] := by rw [hW12]; have h := Hb011.out.set_ 1 (.slice A7 n7 c7); simpa using h
    have hm12 : Mod (fun j => j = G0) w11 W12 := by rw [hW12]; exact (Mod.refl (fun j => j = G0) w11).setCell (p := ⟨G0, 1, none⟩) (fun _ => rfl) _
    have hb812 := hm12.blk (Hm11.out.blk Hb89.out (ownK_ne HI0.out.1 Hb89.out (by decide))) (by have := Hlt.out; have := Hlt8.out; omega)
    have hb412 := hm12.blk (Hm11.out.blk Hb49.out (ownK_ne HI0.out.1 Hb49.out (by decide))) (by have := Hlt.out; omega)
    have hb512 := hm12.blk (Hm11.out.blk Hb59.out (ownK_ne HI0.out.1 Hb59.out (by decide))) (by have := Hlt.out; omega)
    have hM12 := HM11.out.far hm12 (Far.one Hb011.out (by decide) (by decide) (by decide))
    have hmw12 : Mod (fun _ => False) w W12 := ((Hmw9.out.mono (fun _ _ h => h.elim) : Mod (fun j => w.heap.size ≤ j) w W9).trans Hm11.out (fun j hj e => by have h := (HI0.out.1.block j e).1; have := Hlt.out; omega) |>.mono (fun j hj h => by omega) : Mod (fun _ => False) w w11).own hm12 (by have := Hlt.out; omega)
    have x2 := hb012.cell 2
    have d1 := hb812.cell 1
    have f1' := hb812.frozen 1
    simp at x2 d1
    have HW12 := Lib.hid hW12; have Hb012 := Lib.hid hb012; have Hb812 := Lib.hid hb812; have Hb412 := Lib.hid hb412; have Hb512 := Lib.hid hb512; have HM12 := Lib.hid hM12; have Hmw12 := Lib.hid hmw12
    clear hW12 hb012 hm12 hb812 hb412 hb512 hM12 hmw12 k1 f1
    go_upto_region 45 with fail
    rw [← HW12.out]
    obtain ⟨W13, hW13⟩ : ∃ W13, W13 = W12.setCell ⟨G8, 1, none⟩ (.int .i64 N1) := ⟨_, rfl⟩
    have hb813 : Blk W13 G8 34 #[.int .i64 0, .int .i64 N1, .slice none 0 0] := by rw [hW13]; have h := Hb812.out.set_ 1 (.int .i64 N1); simpa using h
    have hm13 : Mod (fun j => j = G8) W12 W13 := by rw [hW13]; exact (Mod.refl (fun j => j = G8) W12).setCell (p := ⟨G8, 1, none⟩) (fun _ => rfl) _
    have Hb013 := Lib.hid (hm13.blk Hb012.out (by have := Hlt.out; have := Hlt8.out; omega)); have Hb413 := Lib.hid (hm13.blk Hb412.out (by have := Hlt.out; have := Hlt8.out; omega)); have Hb513 := Lib.hid (hm13.blk Hb512.out (by have := Hlt.out; have := Hlt8.out; omega)); have Hb813 := Lib.hid hb813
    have HM13 := Lib.hid (HM12.out.far hm13 (Far.one Hb812.out (by decide) (by decide) (by decide))); have Hmw13 := Lib.hid (Hmw12.out.own hm13 (by have := Hlt.out; have := Hlt8.out; omega)); have HW13 := Lib.hid hW13
    clear hW13 hb813 hm13 HW12
    go_upto_region 52 with fail
    rw [← HW13.out]
    clear x2 d1 f1'
    have c0 := Hb013.out.cell 0
    have c1 := Hb013.out.cell 1
    have c2 := Hb013.out.cell 2
    simp at c0 c1 c2
    have d0 := Hb813.out.cell 0
    have d1 := Hb813.out.cell 1
    have d2 := Hb813.out.cell 2
    simp at d0 d1 d2
    have r0 := Hb413.out.cell 0
    have r1 := Hb413.out.cell 1
    have r2 := Hb413.out.cell 2
    simp at r0 r1 r2
    have f0 := Hb413.out.frozen 0
    have f1 := Hb413.out.frozen 1
    have f2 := Hb413.out.frozen 2
    have q0 := Hb513.out.cell 0
    have q1 := Hb513.out.cell 1
    have q2 := Hb513.out.cell 2
    simp at q0 q1 q2
    have h0 := Hb513.out.frozen 0
    have h1 := Hb513.out.frozen 1
    have h2 := Hb513.out.frozen 2
    obtain ⟨W6, hW6, hb46, hb56, hm6⟩ := six_lay (cs4 := (.slice none 0 0, .slice none 0 0, .int .i64 0)) (cs5 := (.int .i64 0, .int .i64 0, .slice none 0 0)) Hb413.out Hb513.out (.slice (some ⟨g, 0, none⟩) nv cv) (.slice A7 n7 c7) (.int .i64 N1) (.int .i64 0) (.int .i64 N1) (.slice none 0 0)
    have HW6 := Lib.hid hW6; have Hb46 := Lib.hid hb46.drew; have Hb56 := Lib.hid hb56.drew; have Hm6 := Lib.hid hm6.drew
    have h45 : ¬ G4 = G5 := by have := Hlt.out; omega
    have h54 : ¬ G5 = G4 := fun h => h45 h.symm
    have h04 : ¬ G0 = G4 := by have := Hlt.out; omega
    have h05 : ¬ G0 = G5 := by have := Hlt.out; omega
    have h84 : ¬ G8 = G4 := by have := Hlt.out; have := Hlt8.out; omega
    have h85 : ¬ G8 = G5 := by have := Hlt.out; have := Hlt8.out; omega
    clear hW6 hb46 hb56 hm6
    go_region
    all_goals (
      rw [← HW6.out]
      obtain ⟨W7, hW7⟩ : ∃ W7, W7 = W6.drew := ⟨_, rfl⟩
      have Hb47 : Hid (Blk W7 G4 31 #[.slice (some ⟨g, 0, none⟩) nv cv, .slice A7 n7 c7, .int .i64 N1]) := Lib.hid (by rw [hW7]; exact Hb46.out)
      have Hb57 : Hid (Blk W7 G5 34 #[.int .i64 0, .int .i64 N1, .slice none 0 0]) := Lib.hid (by rw [hW7]; exact Hb56.out)
      have Hm7 : Hid (Mod (fun j => j = G4 ∨ j = G5) W13 W7) := Lib.hid (by rw [hW7]; exact Hm6.out)
      rw [← hW7]
      clear hW7
      have a0 := Hb47.out.cell 0
      have a1 := Hb47.out.cell 1
      have a2 := Hb47.out.cell 2
      simp at a0 a1 a2
      have b0 := Hb57.out.cell 0
      have b1 := Hb57.out.cell 1
      have b2 := Hb57.out.cell 2
      simp at b0 b1 b2
      go_wp2_with fail
      refine bodyPost_ret (v := .tuple #[.agg #[.slice (some ⟨g, 0, none⟩) nv cv, .slice A7 n7 c7, .int .i64 N1], .agg #[.int .i64 0, .int .i64 N1, .slice none 0 0]]) (by simp [results, Try.results13, go_sem, a0, a1, a2, b0, b1, b2]) rfl ?_
      exact rdo_fin (by have := Hlt.out; omega) (by have := Hlt.out; omega) (by have := Hlt.out; omega) Hb413.out Hb513.out HM13.out (SliH.nil _ _) Hmw13.out Hd2.out rfl Hm7.out)
end Go.Proofs.Ytejnhdenehkpmaa

/- Do, as the document has it: an iterator tells. -/
namespace Go.Proofs.Ytejnhdenehkpmaa
open Go.RowKit

theorem rdsS_ofK {w : World} {B n : Nat} {A : Option Addr} {l : List (Int × Nat)} (h : RdsK 2 w B A n (rowsS l)) : RdsS w B A n l := ⟨by have := h.1; rwa [rowsS_len] at this, by have := h.2.2; rwa [rowsS_flat] at this⟩
theorem rdsS_take {w : World} {B n k : Nat} {A : Option Addr} {l : List (Int × Nat)} (h : RdsS w B A n l) (hk : k ≤ n) : RdsS w B A k (l.take k) := rdsS_ofK (by
  have h2 := h.toK.take hk
  have e : (rowsS l).take k = rowsS (l.take k) := by simp [rowsS, List.map_take]
  rwa [e] at h2)
theorem rdsS_drop {w : World} {B n k c : Nat} {A : Option Addr} {l : List (Int × Nat)} (h : RdsS w B A n l) (hk : k ≤ n) (hc : n ≤ c) : RdsS w B (if c = k then A else A.map (·.add (k * 2))) (n - k) (l.drop k) := rdsS_ofK (by
  have h2 := h.toK.drop hk hc (by decide)
  have e : (rowsS l).drop k = rowsS (l.drop k) := by simp [rowsS, List.map_drop]
  rwa [e] at h2)
set_option linter.unusedSimpArgs false in
set_option linter.unusedVariables false in
set_option maxHeartbeats 4000000 in
set_option maxRecDepth 100000 in
theorem rdo_next (A : Option Addr) (n c : Nat) (A2 : Option Addr) (n2 c2 : Nat) (m : ModN) (o : OpN) (w : World) (h : RdsM w w.heap.size A n c A2 n2 c2 m) (hK : KeepM m) (hL : LenM m 100000) (hx : m.next ≤ 1000000) (i : Nat) (hat : atI o.iter m.ite = some i) (s : IteN) (hms : m.ite[i]? = some s) (hkd : o.kind = 6) :
    Calls Try.prog 13 #[.agg #[.slice A n c, .slice A2 n2 c2, .int .i64 m.next], .agg #[.int .i64 o.kind, .int .i64 o.series, .int .i64 o.iter, .int .i64 o.t, .int .u64 (o.v : Int), .int .i64 o.from_, .int .i64 o.to_, .int .i64 o.n]] w fun e w' => DoEnd w w' (doN m o) e := by
  have HKD := Lib.hid hkd
  clear hkd
  obtain ⟨W, hW⟩ : ∃ W, W = (((w.alloc (.cells #[.slice A n c, .slice A2 n2 c2, .int .i64 m.next] 31)).alloc (.cells #[.int .i64 o.kind, .int .i64 o.series, .int .i64 o.iter, .int .i64 o.t, .int .u64 (o.v : Int), .int .i64 o.from_, .int .i64 o.to_, .int .i64 o.n] 24)).alloc (.cells #[.slice none 0 0, .slice none 0 0, .int .i64 0] 31)).alloc (.cells #[.int .i64 0, .int .i64 0, .slice none 0 0] 34) := ⟨_, rfl⟩
  obtain ⟨G0, hG0⟩ : ∃ g, g = w.heap.size := ⟨_, rfl⟩
  obtain ⟨G1, hG1⟩ : ∃ g, g = w.heap.size + 1 := ⟨_, rfl⟩
  obtain ⟨G4, hG4⟩ : ∃ g, g = w.heap.size + 1 + 1 := ⟨_, rfl⟩
  obtain ⟨G5, hG5⟩ : ∃ g, g = w.heap.size + 1 + 1 + 1 := ⟨_, rfl⟩
  have hmW : Mod (fun _ => False) w W := by rw [hW]; exact ((((Mod.refl _ _).alloc _).alloc _).alloc _).alloc _
  have hzW : W.heap.size = G5 + 1 := by rw [hW, hG5]; simp
  have hb0 : Blk W G0 31 #[.slice A n c, .slice A2 n2 c2, .int .i64 m.next] := by rw [hW, hG0]; exact (((Blk.new _ _ _).alloc _).alloc _).alloc _
  have hb1 : Blk W G1 24 #[.int .i64 o.kind, .int .i64 o.series, .int .i64 o.iter, .int .i64 o.t, .int .u64 (o.v : Int), .int .i64 o.from_, .int .i64 o.to_, .int .i64 o.n] := by
    rw [hW, hG1]
    have h := ((Blk.new (w.alloc (.cells #[.slice A n c, .slice A2 n2 c2, .int .i64 m.next] 31)) 24 #[.int .i64 o.kind, .int .i64 o.series, .int .i64 o.iter, .int .i64 o.t, .int .u64 (o.v : Int), .int .i64 o.from_, .int .i64 o.to_, .int .i64 o.n]).alloc (.cells #[.slice none 0 0, .slice none 0 0, .int .i64 0] 31)).alloc (.cells #[.int .i64 0, .int .i64 0, .slice none 0 0] 34)
    simpa using h
  have hb4 : Blk W G4 31 #[.slice none 0 0, .slice none 0 0, .int .i64 0] := by
    rw [hW, hG4]
    have h := (Blk.new ((w.alloc (.cells #[.slice A n c, .slice A2 n2 c2, .int .i64 m.next] 31)).alloc (.cells #[.int .i64 o.kind, .int .i64 o.series, .int .i64 o.iter, .int .i64 o.t, .int .u64 (o.v : Int), .int .i64 o.from_, .int .i64 o.to_, .int .i64 o.n] 24)) 31 #[.slice none 0 0, .slice none 0 0, .int .i64 0]).alloc (.cells #[.int .i64 0, .int .i64 0, .slice none 0 0] 34)
    simpa using h
  have hb5 : Blk W G5 34 #[.int .i64 0, .int .i64 0, .slice none 0 0] := by
    rw [hW, hG5]
    have h := Blk.new (((w.alloc (.cells #[.slice A n c, .slice A2 n2 c2, .int .i64 m.next] 31)).alloc (.cells #[.int .i64 o.kind, .int .i64 o.series, .int .i64 o.iter, .int .i64 o.t, .int .u64 (o.v : Int), .int .i64 o.from_, .int .i64 o.to_, .int .i64 o.n] 24)).alloc (.cells #[.slice none 0 0, .slice none 0 0, .int .i64 0] 31)) 34 #[.int .i64 0, .int .i64 0, .slice none 0 0]
    simpa using h
  obtain ⟨hl1, hl2⟩ := h.lens
  have hn : n ≤ 1000 := by have := keep_len hK; omega
  have hn2 : n2 ≤ 1000 := by have := hK.2.2.1; omega
  have z0 := hb0.cell 0
  have z1 := hb0.cell 1
  have z2 := hb0.cell 2
  simp at z0 z1 z2
  have Hr := Lib.hid (h.new hmW).fit
  have HW := Lib.hid hW; have HG0 := Lib.hid hG0; have HG1 := Lib.hid hG1; have HG4 := Lib.hid hG4; have HG5 := Lib.hid hG5; have HmW := Lib.hid hmW
  have Hb0 := Lib.hid hb0; have Hb1 := Lib.hid hb1; have Hb4 := Lib.hid hb4; have Hb5 := Lib.hid hb5; have HK := Lib.hid hK; have HL := Lib.hid hL; have Hx := Lib.hid hx
  obtain ⟨B, hBB⟩ : ∃ B, B = W.heap.size := ⟨_, rfl⟩
  have Hlt : Hid (w.heap.size = G0 ∧ G1 = G0 + 1 ∧ G4 = G0 + 2 ∧ G5 = G0 + 3 ∧ B = G0 + 4) := Lib.hid (by omega)
  clear hW hG0 hG1 hG4 hG5 hmW hzW hb0 hb1 hb4 hb5 h hl1 hl2 hK hL hx
  go_enter Try.func13, Try.ntmps13
  go_upto_region 1 with fail
  rw [← HW.out, ← HG5.out, ← HG4.out, ← HG1.out, ← HG0.out]
  go_wp2_with fail
  refine (rcopied_any A n c A2 n2 c2 m W Hr.out HL.out hn hn2).mono ?_
  rintro e w1 ⟨v, v2, rfl, hM1, hm1⟩
  rw [← hBB] at hM1
  obtain ⟨Av, nv, cv, Aw, nw, cw, rfl, rfl, hrd⟩ := hM1.rds
  have hbo := hm1.blk Hb0.out (fun h => h)
  have y0 := hbo.cell 0
  have y1 := hbo.cell 1
  have y2 := hbo.cell 2
  have p0 := hbo.frozen 0
  have p1 := hbo.frozen 1
  have p2 := hbo.frozen 2
  simp at y0 y1 y2
  obtain ⟨W1, hW1, hbn, hmo, hMo⟩ := lay_over1 hbo (.slice Av nv cv) (.slice Aw nw cw) (.int .i64 m.next)
  have hne1 : ¬ G1 = G0 := by have := Hlt.out; omega
  have hne4 : ¬ G4 = G0 := by have := Hlt.out; omega
  have hne5 : ¬ G5 = G0 := by have := Hlt.out; omega
  have HSt : Hid (RSt B w W1 G0 G1 G4 G5 (.slice Av nv cv) (.slice Aw nw cw) m o) := Lib.hid ⟨hbn, hmo.blk (hm1.blk Hb1.out (fun h => h)) hne1, hmo.blk (hm1.blk Hb4.out (fun h => h)) hne4, hmo.blk (hm1.blk Hb5.out (fun h => h)) hne5, hMo hM1, (HmW.out.trans hm1 (fun _ _ h => h)).own hmo (by have := Hlt.out; omega)⟩
  have HW1 := Lib.hid hW1
  clear z0 z1 z2 hM1 hm1 hrd hbo hW1 hbn hmo hMo Hb0 Hb1 Hb4 Hb5 HW HmW hne1 hne4 hne5
  go_upto_region 2 with fail
  rw [← HW1.out]
  clear HW1 y0 y1 y2 p0 p1 p2
  have x0 := HSt.out.1.cell 0
  have x1 := HSt.out.1.cell 1
  have x2 := HSt.out.1.cell 2
  have y1 := HSt.out.2.1.cell 1
  simp at x0 x1 x2 y1
  have hrd := HSt.out.2.2.2.2.1.rdm
  have hnv : nv ≤ 1000000 := by have := hrd.lens; have := keep_len HK.out; omega
  have hnw : nw ≤ 1000000 := by have := hrd.lens; have := HK.out.2.2.1; omega
  have Hat := Lib.hid (rat_any m Av Aw nv cv nw cw W1.heap.size o.series W1 hrd hnv)
  clear hrd
  go_wp2_with fail
  refine Hat.out.mono ?_
  rintro e w2 ⟨k, rfl, hk, hm2⟩
  have Hk := Lib.hid hk; have HS2 := Lib.hid (HSt.out.new hm2)
  clear x0 x1 x2 y1 hk hm2 HSt Hat
  have x0 := HS2.out.1.cell 0
  have x1 := HS2.out.1.cell 1
  have x2 := HS2.out.1.cell 2
  have y0 := HS2.out.2.1.cell 0
  have y1 := HS2.out.2.1.cell 1
  have y2 := HS2.out.2.1.cell 2
  have y3 := HS2.out.2.1.cell 3
  have y4 := HS2.out.2.1.cell 4
  have y5 := HS2.out.2.1.cell 5
  have y6 := HS2.out.2.1.cell 6
  have y7 := HS2.out.2.1.cell 7
  simp at x0 x1 x2 y0 y1 y2 y3 y4 y5 y6 y7
  have Hd0 := Lib.hid (doN_more (m := m) HKD.out hat hms)
  have hkd := HKD.out
  have Hit := Lib.hid (riter_any m Av Aw nv cv nw cw w2.heap.size o.iter w2 HS2.out.2.2.2.2.1.rdm hnw)
  have Hat := Lib.hid hat
  rw [hkd] at y0
  clear hat hkd
  go_upto_region 3 with fail
  go_cut [7] from 19 to 26 (fun s7 wx => wx = w2)
  case first =>
    by_cases hs2 : o.series ≥ 0
    · by_cases hs3 : o.series ≤ 15
      · go_wp2_with fail
        go_meet
        case rel => rfl
      · go_wp2_with fail
        go_meet
        case rel => rfl
    · go_wp2_with fail
      go_meet
      case rel => rfl
  case rest =>
    rw [hcut]
    clear hcut
    go_wp2_with fail
    refine Hit.out.mono ?_
    rintro e w3 ⟨k2, rfl, hk2, hm3⟩
    have hk3 := fstI_some hk2 Hat.out
    subst hk3
    have hi0 : (0 : Int) ≤ (i : Int) := by omega
    have HS3 := Lib.hid (HS2.out.new hm3)
    clear hk2 hm3 x0 x1 x2 y0 y1 y2 y3 y4 y5 y6 y7 HS2 Hit
    have y0 := HS3.out.2.1.cell 0
    simp at y0
    rw [HKD.out] at y0
    obtain ⟨W8, hW8, hm8, hb8, hz8⟩ := Blk.box w3 34 #[.int .i64 0, .int .i64 0, .slice none 0 0]
    obtain ⟨G8, hG8⟩ : ∃ g, g = w3.heap.size := ⟨_, rfl⟩
    rw [← hG8] at hb8
    have HS8 := Lib.hid (HS3.out.new hm8); have HW8 := Lib.hid hW8; have HG8 := Lib.hid hG8; have Hb8 := Lib.hid hb8
    have Hlt8 : Hid (B ≤ G8) := Lib.hid (by have := HS3.out.2.2.2.1.lt; have := Hlt.out; omega)
    clear hW8 hm8 hb8 hz8 hG8
    go_upto_region 21 with fail
    rw [← HW8.out, ← HG8.out]
    clear HW8 y0
    obtain ⟨ps, js, hps, hjs, hSer, hIte⟩ := HS8.out.2.2.2.2.1
    obtain ⟨g, n', c', u4, e0, hp, hin, hnc', hpn⟩ := hIte.some_ hjs hms
    injection e0 with e1 e2 e3
    subst e1 e2 e3
    obtain ⟨A4, n4, c4, hu4, hjunk⟩ := hIte.2 _ (List.mem_of_getElem? hp)
    simp only at hu4
    subst hu4
    clear hjunk
    obtain ⟨hl4, hnc4, _, hrd4⟩ := (hIte.2 _ (List.mem_of_getElem? hp)).rds
    simp only at hl4 hrd4
    have hn4 : n4 ≤ 100000 := by
      have h1 := (HL.out.2 s (List.mem_of_getElem? hms)).1
      omega
    obtain ⟨x, hx⟩ : ∃ x, max o.n 0 = x := ⟨_, rfl⟩
    obtain ⟨k, hk⟩ : ∃ k, manyN o.n n4 = k := ⟨_, rfl⟩
    have hkn : k ≤ n4 := by rw [← hk]; exact manyN_le o.n n4
    have hki := manyN_int o.n n4
    rw [hk, show max 0 o.n = x by rw [← hx]; omega] at hki
    have hmax := fun (ty : TypeId) => maxI_is (P := Try.prog) (t := 3) (ty := ty) hx
    have hmin := fun (ty : TypeId) => minI3_is (P := Try.prog) (t := 3) (ty := ty) hki.symm
    have Hd : Hid (doN m o = ({ m with ite := m.ite.set i { s with rest := s.rest.drop k } }, ⟨0, 0, s.rest.take k⟩)) := Lib.hid (by rw [Hd0.out, hl4, hk])
    obtain ⟨A8, hA8⟩ : ∃ A8, (if c4 = k then A4 else A4.map (·.add (k * 2))) = A8 := ⟨_, rfl⟩
    have hdr := rdsS_drop hrd4 hkn hnc4
    rw [hA8] at hdr
    have htk := rdsS_take hrd4 hkn
    have hat2 : (⟨g, 0, none⟩ : Addr).add (i * 2) = ⟨g, i * 2, none⟩ := by rw [add_addr, Nat.zero_add]
    obtain ⟨s1, sf⟩ := hIte.cells hp
    have hi1 : (i : Int) < (nw : Int) := by omega
    have b0 : (0 : Int) ≤ (k : Int) := by omega
    have b1 : (k : Int) ≤ (n4 : Int) := by omega
    have b2 : (n4 : Int) ≤ (c4 : Int) := by omega
    have b3 : (k : Int) ≤ (c4 : Int) := by omega
    have b7 : ((n4 - k : Nat) : Int) = (n4 : Int) - (k : Int) := by omega
    have x1 := HS8.out.1.cell 1
    have y0 := HS8.out.2.1.cell 0
    have y7 := HS8.out.2.1.cell 7
    simp at x1 y0 y7
    rw [HKD.out] at y0
    obtain ⟨⟨gcs, hgcs⟩, hBg, _, _⟩ := HavIte.at_ hIte
    have Hgl : Hid (B ≤ g ∧ g < W8.heap.size) := Lib.hid ⟨hBg, hgcs.lt⟩
    have Htk : Hid (∀ W', Mod (fun _ => False) W8 W' → Calls Try.prog 24 #[.slice A4 k c4] W' fun e w' => ∃ A5 n5 c5, e = .returned (.slice A5 n5 c5) ∧ SliH B w' (.slice A5 n5 c5) (s.rest.take k) ∧ Mod (fun _ => False) W' w') := Lib.hid (fun W' h => by
      refine (own14_any A4 k c4 (s.rest.take k) W' (htk.new h).fit (by omega)).mono ?_
      rintro e w4 ⟨v4, rfl, ho4, hm4⟩
      obtain ⟨A6, n6, c6, rfl, _⟩ := ho4.formN
      exact ⟨A6, n6, c6, rfl, (SliH.of_own ho4).mono (by have := h.size; have := Hgl.out; omega), hm4⟩)
    have HdrH : Hid (∀ W', Mod (fun j => j = G8) W8 W' → Calls Try.prog 24 #[.slice A8 (n4 - k) (c4 - k)] W'.drew fun e w' => ∃ A6 n6 c6, e = .returned (.slice A6 n6 c6) ∧ SliH B w' (.slice A6 n6 c6) (s.rest.drop k) ∧ Mod (fun _ => False) W' w') := Lib.hid (fun W' h => by
      have hr9 : RdsS W' W'.heap.size A8 (n4 - k) (s.rest.drop k) := by
        have h0 := hIte.2 _ (List.mem_of_getElem? hp)
        have h1 := (h0.mod h (fun k' cs' _ hb e => by rw [e] at hb; exact Blk.ne_ hb Hb8.out (by decide) rfl)).rds.2.2.2
        have h2 := rdsS_drop h1 hkn hnc4
        rw [hA8] at h2
        exact h2
      refine (own14_any A8 (n4 - k) (c4 - k) (s.rest.drop k) W'.drew hr9 (by omega)).mono ?_
      rintro e w4 ⟨v4, rfl, ho4, hm4⟩
      obtain ⟨A6, n6, c6, rfl, _⟩ := ho4.formN
      exact ⟨A6, n6, c6, rfl, (SliH.of_own ho4).mono (by show B ≤ W'.heap.size; have := h.size; have := Hgl.out; omega), (Mod.refl _ W').drew.trans hm4 (fun _ _ h => h)⟩)
    have Hps := Lib.hid hps; have Hjs := Lib.hid hjs; have HIte := Lib.hid hIte; have Hp := Lib.hid hp; have Hgcs := Lib.hid hgcs; have Hcap : Hid (k ≤ n4 ∧ n4 ≤ c4) := Lib.hid ⟨hkn, hnc4⟩; have Hki := Lib.hid hki
    clear hps hjs hSer hIte hp hin hnc' hpn hl4 hnc4 hrd4 hn4 hx hk hkn hki hdr htk hgcs hBg hms
    go_upto_region 47 with fail
    go_cut [12] from 214 to 224 (fun s12 wx => s12 = .int .i64 (k : Int) ∧ Mod (fun _ => False) W8 wx)
    case first =>
      go_quiet (fail)
      go_wp2_with fail
      go_meet
      exact ⟨rfl, (Mod.refl _ W8).drewN _⟩
    case rest =>
      obtain ⟨rfl, hm9⟩ := hcut
      obtain ⟨w9, rfl⟩ : ∃ w9 : World, w9 = wc := ⟨_, rfl⟩
      have Hm9 := Lib.hid hm9
      have hx1 := (hm9.blk HS8.out.1 (fun h => h)).cell 1
      have hs1 : w9.cell? ⟨g, i * 2 + 1, none⟩ = some (.slice A4 n4 c4) := (hm9.cell (a := ⟨g, i * 2 + 1, none⟩) Hgl.out.2 (fun h => h)).trans s1
      simp at hx1
      clear x1 y0 y7 s1 hmax hmin hm9
      go_wp2_with fail
      refine (Htk.out w9 Hm9.out).mono ?_
      rintro e w10 ⟨A5, n5, c5, rfl, ho10, hm10⟩
      have h810 := Hm9.out.trans hm10 (fun _ _ h => h)
      have hb8 := h810.blk Hb8.out (fun h => h)
      have d2 := hb8.cell 2
      have f2 := hb8.frozen 2
      simp at d2
      obtain ⟨W10, hW10⟩ : ∃ W10, W10 = w10.setCell ⟨G8, 2, none⟩ (.slice A5 n5 c5) := ⟨_, rfl⟩
      have hb810 : Blk W10 G8 34 #[.int .i64 0, .int .i64 0, .slice A5 n5 c5] := by rw [hW10]; have h := hb8.set_ 2 (.slice A5 n5 c5); simpa using h
      have hmo : Mod (fun j => j = G8) w10 W10 := by rw [hW10]; exact (Mod.refl (fun j => j = G8) w10).setCell (p := ⟨G8, 2, none⟩) (fun _ => rfl) _
      have h8 : Mod (fun j => j = G8) W8 W10 := (h810.mono (fun _ _ h => h.elim)).trans hmo (fun _ _ h => h)
      have hfar := Far.one Hb8.out (by decide) (by decide) (by decide)
      have hfar10 := Far.one hb8 (by decide) (by decide) (by decide)
      have hn0 : ¬ G0 = G8 := by have := Hlt.out; have := Hlt8.out; omega
      have hb010 := h8.blk HS8.out.1 hn0
      have hgG : ¬ g = G8 := fun e => by have h := Hgcs.out; rw [e] at h; exact Blk.ne_ h Hb8.out (by decide) rfl
      have hg10 := h8.blk Hgcs.out hgG
      have hs10 : W10.cell? ⟨g, i * 2 + 1, none⟩ = some (.slice A4 n4 c4) := by
        have h1 : w10.cell? ⟨g, i * 2 + 1, none⟩ = some (.slice A4 n4 c4) := (hm10.cell (a := ⟨g, i * 2 + 1, none⟩) (World.block_lt_of_cell? w9 _ hs1) (fun h => h)).trans hs1
        exact (hmo.cell (a := ⟨g, i * 2 + 1, none⟩) (World.block_lt_of_cell? w10 _ h1) hgG).trans h1
      have HX : Hid (∀ W' : World, Mod (fun _ => False) W10 W' → W'.cell? ⟨G0, 1, none⟩ = some (.slice (some ⟨g, 0, none⟩) nw cw) ∧ W'.cell? ⟨g, i * 2 + 1, none⟩ = some (.slice A4 n4 c4)) := Lib.hid (fun W' h => by
        have h1 := (h.blk hb010 (fun h => h)).cell 1
        simp at h1
        exact ⟨h1, (h.cell (a := ⟨g, i * 2 + 1, none⟩) hg10.lt (fun h => h)).trans hs10⟩)
      have Hdr := Lib.hid (HdrH.out W10 h8)
      have HW10 := Lib.hid hW10; have Hb810 := Lib.hid hb810; have Hb010 := Lib.hid hb010; have H8 := Lib.hid h8; have Ho10 := Lib.hid (ho10.mod hmo (fun k' cs' _ hb => hfar10 k' _ cs' hb (.inr (.inr rfl)))); have HM10 := Lib.hid (HS8.out.2.2.2.2.1.far h8 hfar); have HI10 := Lib.hid (HIte.out.far h8 hfar); have Hg10 := Lib.hid hg10; have Hmw10 := Lib.hid (HS8.out.2.2.2.2.2.own h8 (by have := Hlt.out; have := Hlt8.out; omega))
      have Hb410 := Lib.hid (h8.blk HS8.out.2.2.1 (by have := Hlt.out; have := Hlt8.out; omega)); have Hb510 := Lib.hid (h8.blk HS8.out.2.2.2.1 (by have := Hlt.out; have := Hlt8.out; omega))
      clear ho10 hm10 h810 hb8 hW10 hb810 hmo h8 hfar hfar10 hn0 hb010 hgG hg10 hs10 HdrH Htk
      go_upto_region 49 with fail
      rw [← HW10.out]
      clear HW10 d2 f2 hx1 hs1
      refine wp_region_T (fun W' => W'.cell? ⟨G0, 1, none⟩ = some (.slice (some ⟨g, 0, none⟩) nw cw) ∧ W'.cell? ⟨g, i * 2 + 1, none⟩ = some (.slice A4 n4 c4)) 12 (by kernel_rfl) (HX.out _ (Mod.refl _ W10).drew) (fun hHeld => ?_)
      refine wpAnyT_take (i := 0) (v := ?_) rfl (by decide) (by kernel_rfl) (by kernel_rfl) (by kernel_rfl) (by kernel_rfl) (fun _ _ _ h => h) (Or.inl ⟨by rfl, ?_⟩) hHeld ?_
      rotate_left
      · (intro w hSw; (try dsimp only at hSw); go_simp; first | done | with_reducible rfl)
      simp only [Act.put, List.setIfInBounds_toArray, List.set_cons_zero, List.set_cons_succ]
      refine wpAnyT_take (i := 1) (v := ?_) rfl (by decide) (by kernel_rfl) (by kernel_rfl) (by kernel_rfl) (by kernel_rfl) (fun _ _ _ h => h) (Or.inl ⟨by rfl, ?_⟩) hHeld ?_
      rotate_left
      · (intro w hSw; (try dsimp only at hSw); go_simp; first | done | with_reducible rfl)
      simp only [Act.put, List.setIfInBounds_toArray, List.set_cons_zero, List.set_cons_succ]
      refine wpAnyT_take (i := 2) (v := ?_) rfl (by decide) (by kernel_rfl) (by kernel_rfl) (by kernel_rfl) (by kernel_rfl) (fun _ _ _ h => h) (Or.inl ⟨by rfl, ?_⟩) hHeld ?_
      rotate_left
      · (intro w hSw; (try dsimp only at hSw); go_simp; first | done | with_reducible rfl)
      simp only [Act.put, List.setIfInBounds_toArray, List.set_cons_zero, List.set_cons_succ]
      refine wpAnyT_take (i := 3) (v := ?_) rfl (by decide) (by kernel_rfl) (by kernel_rfl) (by kernel_rfl) (by kernel_rfl) (fun _ _ _ h => h) (Or.inl ⟨by rfl, ?_⟩) hHeld ?_
      rotate_left
      · (intro w hSw; (try dsimp only at hSw); go_simp; first | done | with_reducible rfl)
      simp only [Act.put, List.setIfInBounds_toArray, List.set_cons_zero, List.set_cons_succ]
      refine wpAnyT_take (i := 4) (v := ?_) rfl (by decide) (by kernel_rfl) (by kernel_rfl) (by kernel_rfl) (by kernel_rfl) (fun _ _ _ h => h) (Or.inl ⟨by rfl, ?_⟩) hHeld ?_
      rotate_left
      · (intro w hSw; (try dsimp only at hSw); go_simp; first | done | with_reducible rfl)
      simp only [Act.put, List.setIfInBounds_toArray, List.set_cons_zero, List.set_cons_succ]
      refine wpAnyT_take (i := 5) (v := ?_) rfl (by decide) (by kernel_rfl) (by kernel_rfl) (by kernel_rfl) (by kernel_rfl) (fun _ _ _ h => h) (Or.inl ⟨by rfl, ?_⟩) hHeld ?_
      rotate_left
      · (intro w hSw; (try dsimp only at hSw); go_simp; first | done | with_reducible rfl)
      simp only [Act.put, List.setIfInBounds_toArray, List.set_cons_zero, List.set_cons_succ]
      refine wpAnyT_take (i := 6) (v := ?_) rfl (by decide) (by kernel_rfl) (by kernel_rfl) (by kernel_rfl) (by kernel_rfl) (fun _ _ _ h => h) (Or.inl ⟨by rfl, ?_⟩) hHeld ?_
      rotate_left
      · (intro w hSw; (try dsimp only at hSw); go_simp; first | done | with_reducible rfl)
      simp only [Act.put, List.setIfInBounds_toArray, List.set_cons_zero, List.set_cons_succ]
      refine wpAnyT_take (i := 7) (v := ?_) rfl (by decide) (by kernel_rfl) (by kernel_rfl) (by kernel_rfl) (by kernel_rfl) (fun _ _ _ h => h) (Or.inl ⟨by rfl, ?_⟩) hHeld ?_
      rotate_left
      · (intro w hSw; (try dsimp only at hSw); go_simp; first | done | with_reducible rfl)
      simp only [Act.put, List.setIfInBounds_toArray, List.set_cons_zero, List.set_cons_succ]
      refine wpAnyT_take (i := 8) (v := ?_) rfl (by decide) (by kernel_rfl) (by kernel_rfl) (by kernel_rfl) (by kernel_rfl) (fun _ _ _ h => h) (Or.inl ⟨by rfl, ?_⟩) hHeld ?_
      rotate_left
      · (intro w hSw; (try dsimp only at hSw); go_simp; first | done | with_reducible rfl)
      simp only [Act.put, List.setIfInBounds_toArray, List.set_cons_zero, List.set_cons_succ]
      refine wpAnyT_take (i := 9) (v := ?_) rfl (by decide) (by kernel_rfl) (by kernel_rfl) (by kernel_rfl) (by kernel_rfl) (fun _ _ _ h => h) (Or.inl ⟨by rfl, ?_⟩) hHeld ?_
      rotate_left
      · (intro w hSw; (try dsimp only at hSw); go_simp; first | done | with_reducible rfl)
      simp only [Act.put, List.setIfInBounds_toArray, List.set_cons_zero, List.set_cons_succ]
      refine wpAnyT_take (i := 10) (v := ?_) rfl (by decide) (by kernel_rfl) (by kernel_rfl) (by kernel_rfl) (by kernel_rfl) (fun _ _ _ h => h) (Or.inl ⟨by rfl, ?_⟩) hHeld ?_
      rotate_left
      · (intro w hSw; (try dsimp only at hSw); go_simp; first | done | with_reducible rfl)
      simp only [Act.put, List.setIfInBounds_toArray, List.set_cons_zero, List.set_cons_succ]
      refine wpAnyT_ready (rs := [11]) (by kernel_rfl) (by simp) (AllReadyT.cons rfl (fun K hK => ?_) AllReadyT.nil)
      go_simp
      go_at_call 24
      refine Hdr.out.mono ?_
      rintro e w11 ⟨A6, n6, c6, rfl, ho11, hm11⟩
      go_simp
      refine hK.out _ _ (HX.out _ hm11) (fun hHeld => ?_)
      clear hK K
      have hI11 := HI10.out.new hm11
      obtain ⟨k1, sf⟩ := hI11.cells Hp.out
      have f1 := sf 1
      have HI11 := Lib.hid hI11; have HM11 := Lib.hid (HM10.out.new hm11); have Ho11 := Lib.hid ho11; have Hm11 := Lib.hid hm11
      clear hI11 ho11 hm11 sf
      refine wpAnyT_rest (by kernel_rfl) ?_
      refine wpAny_take (i := 12) (v := ?_) rfl (by kernel_rfl) (by kernel_rfl) (by kernel_rfl) (fun _ _ _ h => h) (Or.inl ⟨by rfl, ?_⟩) ?_
      rotate_left
      · (intro w; go_simp; first | done | with_reducible rfl)
      simp only [Act.put, List.setIfInBounds_toArray, List.set_cons_zero, List.set_cons_succ]
      refine wpAny_take (i := 13) (v := ?_) rfl (by kernel_rfl) (by kernel_rfl) (by kernel_rfl) (fun _ _ _ h => h) (Or.inl ⟨by rfl, ?_⟩) ?_
      rotate_left
      · (intro w; go_simp; first | done | with_reducible rfl)
      simp only [Act.put, List.setIfInBounds_toArray, List.set_cons_zero, List.set_cons_succ]
      refine wpAny_ready (rs := [14]) (by kernel_rfl) (by simp) (AllReady.cons rfl (fun K hK => ?_) AllReady.nil)
      go_simp
      refine hK _ _ ?_
      clear hK K
      refine wpAny_done (by kernel_rfl) ?_ _
      clear hHeld
      obtain ⟨W12, hW12⟩ : ∃ W12, W12 = w11.setCell ⟨g, i * 2 + 1, none⟩ (.slice A6 n6 c6) := ⟨_, rfl⟩
      obtain ⟨hM12, hm12⟩ := Base.cellI (u := .slice A6 n6 c6) (j := 1) (s' := { s with rest := s.rest.drop k }) (u4' := .slice A6 n6 c6) HM11.out Hjs.out HI11.out Hp.out (by decide) rfl Ho11.out
      rw [← hW12] at hM12 hm12
      have hg11 := Hm11.out.blk Hg10.out (fun h => h)
      have hng : ∀ G, G < B ∨ G = G8 → ¬ G = g := fun G h e => by
        rcases h with h | h
        · have := Hgl.out; omega
        · rw [← e, h] at hg11
          exact Blk.ne_ hg11 (Hm11.out.blk Hb810.out (fun h => h)) (by decide) rfl
      have Hb012 := Lib.hid (hm12.blk (Hm11.out.blk Hb010.out (fun h => h)) (hng G0 (by have := Hlt.out; omega))); have Hb412 := Lib.hid (hm12.blk (Hm11.out.blk Hb410.out (fun h => h)) (hng G4 (by have := Hlt.out; omega))); have Hb512 := Lib.hid (hm12.blk (Hm11.out.blk Hb510.out (fun h => h)) (hng G5 (by have := Hlt.out; omega))); have Hb812 := Lib.hid (hm12.blk (Hm11.out.blk Hb810.out (fun h => h)) (hng G8 (.inr rfl)))
      have HS12 := Lib.hid ((Ho10.out.new Hm11.out).mod hm12 (fun k' cs' _ hb e => by rw [e] at hb; exact Blk.ne_ hb hg11 (by decide) rfl))
      have HM12 := Lib.hid hM12; have Hmw12 := Lib.hid ((Hmw10.out.trans Hm11.out (fun _ _ h => h)).own hm12 (by have := Hlt.out; have := Hgl.out; omega)); have HW12 := Lib.hid hW12
      clear hW12 hM12 hm12 hg11 hng k1 f1
      go_upto_region 52 with fail
      rw [← HW12.out]
      have c0 := Hb012.out.cell 0
      have c1 := Hb012.out.cell 1
      have c2 := Hb012.out.cell 2
      simp at c0 c1 c2
      have d0 := Hb812.out.cell 0
      have d1 := Hb812.out.cell 1
      have d2 := Hb812.out.cell 2
      simp at d0 d1 d2
      have r0 := Hb412.out.cell 0
      have r1 := Hb412.out.cell 1
      have r2 := Hb412.out.cell 2
      simp at r0 r1 r2
      have f0 := Hb412.out.frozen 0
      have f1 := Hb412.out.frozen 1
      have f2 := Hb412.out.frozen 2
      have q0 := Hb512.out.cell 0
      have q1 := Hb512.out.cell 1
      have q2 := Hb512.out.cell 2
      simp at q0 q1 q2
      have h0 := Hb512.out.frozen 0
      have h1 := Hb512.out.frozen 1
      have h2 := Hb512.out.frozen 2
      obtain ⟨W6, hW6, hb46, hb56, hm6⟩ := six_lay (cs4 := (.slice none 0 0, .slice none 0 0, .int .i64 0)) (cs5 := (.int .i64 0, .int .i64 0, .slice none 0 0)) Hb412.out Hb512.out (.slice Av nv cv) (.slice (some ⟨g, 0, none⟩) nw cw) (.int .i64 m.next) (.int .i64 0) (.int .i64 0) (.slice A5 n5 c5)
      have HW6 := Lib.hid hW6; have Hb46 := Lib.hid hb46.drew; have Hb56 := Lib.hid hb56.drew; have Hm6 := Lib.hid hm6.drew
      have h45 : ¬ G4 = G5 := by have := Hlt.out; omega
      have h54 : ¬ G5 = G4 := fun h => h45 h.symm
      have h04 : ¬ G0 = G4 := by have := Hlt.out; omega
      have h05 : ¬ G0 = G5 := by have := Hlt.out; omega
      have h84 : ¬ G8 = G4 := by have := Hlt.out; have := Hlt8.out; omega
      have h85 : ¬ G8 = G5 := by have := Hlt.out; have := Hlt8.out; omega
      clear hW6 hb46 hb56 hm6
      go_region
      all_goals (
        rw [← HW6.out]
        obtain ⟨W7, hW7⟩ : ∃ W7, W7 = W6.drew := ⟨_, rfl⟩
        have Hb47 : Hid (Blk W7 G4 31 #[.slice Av nv cv, .slice (some ⟨g, 0, none⟩) nw cw, .int .i64 m.next]) := Lib.hid (by rw [hW7]; exact Hb46.out)
        have Hb57 : Hid (Blk W7 G5 34 #[.int .i64 0, .int .i64 0, .slice A5 n5 c5]) := Lib.hid (by rw [hW7]; exact Hb56.out)
        have Hm7 : Hid (Mod (fun j => j = G4 ∨ j = G5) W12 W7) := Lib.hid (by rw [hW7]; exact Hm6.out)
        rw [← hW7]
        clear hW7
        have a0 := Hb47.out.cell 0
        have a1 := Hb47.out.cell 1
        have a2 := Hb47.out.cell 2
        simp at a0 a1 a2
        have b0 := Hb57.out.cell 0
        have b1 := Hb57.out.cell 1
        have b2 := Hb57.out.cell 2
        simp at b0 b1 b2
        go_wp2_with fail
        refine bodyPost_ret (v := .tuple #[.agg #[.slice Av nv cv, .slice (some ⟨g, 0, none⟩) nw cw, .int .i64 m.next], .agg #[.int .i64 0, .int .i64 0, .slice A5 n5 c5]]) (by simp [results, Try.results13, go_sem, a0, a1, a2, b0, b1, b2]) rfl ?_
        exact rdo_fin (by have := Hlt.out; omega) (by have := Hlt.out; omega) (by have := Hlt.out; omega) Hb412.out Hb512.out HM12.out HS12.out Hmw12.out Hd.out rfl Hm7.out)
end Go.Proofs.Ytejnhdenehkpmaa

/- One number of one sample is written: rows of samples stay rows of samples, whoever shares them. -/
namespace Go.Proofs.Ytejnhdenehkpmaa
open Go.RowKit

/-- Two numbers of one kind. -/
def SameK (a b : Value) : Prop := (∃ x y : Int, a = .int .i64 x ∧ b = .int .i64 y) ∨ (∃ x y : Nat, a = .int .u64 (x : Int) ∧ b = .int .u64 (y : Int))
theorem set_same {α : Type} {l : List α} {i : Nat} {x : α} (h : l[i]? = some x) : l.set i x = l := by
  obtain ⟨hk, e⟩ := List.getElem?_eq_some_iff.1 h
  rw [← e]
  exact List.set_getElem_self hk
theorem cells_upd {l : List (Int × Nat)} {j : Nat} {a b : Value} (hj : (cellsS l)[j]? = some a) (hk : SameK a b) : ∃ l', l'.length = l.length ∧ cellsS l' = (cellsS l).set j b := by
  have hlt : j < (cellsS l).length := (List.getElem?_eq_some_iff.1 hj).1
  rw [cellsS_len] at hlt
  have hi : j / 2 < l.length := by omega
  obtain ⟨h0, h1⟩ := cellsS_get (List.getElem?_eq_getElem hi)
  obtain ⟨p, hp⟩ : ∃ p, p = l[j / 2] := ⟨_, rfl⟩
  rw [← hp] at h0 h1
  rcases hk with ⟨x, y, rfl, rfl⟩ | ⟨x, y, rfl, rfl⟩
  · have hev : j = j / 2 * 2 := by
      rcases Nat.mod_two_eq_zero_or_one j with h | h
      · omega
      · exfalso
        rw [show j / 2 * 2 + 1 = j by omega, hj] at h1
        injection h1 with h1
        injection h1 with h1 _
        cases h1
    refine ⟨l.set (j / 2) (y, p.2), List.length_set, ?_⟩
    rw [← cellsS_set, ← hev]
    refine set_same ?_
    rw [List.getElem?_set_ne (by omega), show j + 1 = j / 2 * 2 + 1 by omega]
    exact h1
  · have hod : j = j / 2 * 2 + 1 := by
      rcases Nat.mod_two_eq_zero_or_one j with h | h
      · exfalso
        rw [show j / 2 * 2 = j by omega, hj] at h0
        injection h0 with h0
        injection h0 with h0 _
        cases h0
      · omega
    refine ⟨l.set (j / 2) (p.1, y), List.length_set, ?_⟩
    rw [← cellsS_set, ← hod]
    congr 1
    refine set_same ?_
    exact h0
section
variable {w : World} {B gs off : Nat} {v v2 u0 u1 : Value} {l : List (Int × Nat)} {cs : Array Value} {m : ModN}
theorem SliH.poke (h : SliH B w v l) (hb : Blk w gs 48 cs) (hx : cs[off]? = some u0) (hk : SameK u0 u1) : ∃ l', l'.length = l.length ∧ SliH B (w.setCell ⟨gs, off, none⟩ u1) v l' := by
  obtain ⟨A, n, c, e, h1, h2, h3, h4⟩ := h
  have hset := hb.set_ off u1
  have hm : Mod (fun k => k = gs) w (w.setCell ⟨gs, off, none⟩ u1) := (Mod.refl (fun k => k = gs) w).setCell (p := ⟨gs, off, none⟩) (fun _ => rfl) u1
  by_cases h0 : 0 < n
  · obtain ⟨g, o, cs', e1, hB, hbg, hc⟩ := h4 h0
    by_cases hg : g = gs
    · subst hg
      have hcs : cs' = cs := by
        unfold Blk at hb hbg
        rw [hb] at hbg
        injection hbg with hbg
        injection hbg with h5 _
        exact h5.symm
      subst hcs
      by_cases hin : o ≤ off ∧ off < o + n * 2
      · obtain ⟨u', hu'⟩ : ∃ u', (cellsS l)[off - o]? = some u' := ⟨_, List.getElem?_eq_getElem (by rw [cellsS_len, h1]; omega)⟩
        have h5 := hc _ _ hu'
        rw [show o + (off - o) = off by omega, hx] at h5
        injection h5 with h5
        subst h5
        obtain ⟨l', hl', hcl⟩ := cells_upd hu' hk
        refine ⟨l', hl', A, n, c, e, by rw [hl', h1], h2, h3, fun _ => ⟨g, o, _, e1, hB, hset, fun j u hu => ?_⟩⟩
        rw [hcl, List.getElem?_set] at hu
        rw [Array.getElem?_setIfInBounds]
        by_cases hj : off - o = j
        · rw [if_pos hj, if_pos (by rw [cellsS_len, h1]; omega)] at hu
          injection hu with hu
          have hlt : off < cs'.size := (Array.getElem?_eq_some_iff.1 hx).1
          rw [if_pos (by omega), if_pos (by omega), hu]
        · rw [if_neg hj] at hu
          rw [if_neg (by omega)]
          exact hc j u hu
      · refine ⟨l, rfl, A, n, c, e, h1, h2, h3, fun _ => ⟨g, o, _, e1, hB, hset, fun j u hu => ?_⟩⟩
        have hj := (List.getElem?_eq_some_iff.1 hu).1
        rw [cellsS_len, h1] at hj
        rw [Array.getElem?_setIfInBounds, if_neg (by omega)]
        exact hc j u hu
    · exact ⟨l, rfl, A, n, c, e, h1, h2, h3, fun _ => ⟨g, o, cs', e1, hB, hm.blk hbg hg, hc⟩⟩
  · exact ⟨l, rfl, A, n, c, e, h1, h2, h3, fun h => absurd h h0⟩
theorem HavSer.reread {w' : World} {ps : List (SerN × Value)} (h1 : OwnK 5 B w' 43 v (ps.map serC)) (h2 : ∀ p ∈ ps, ∃ l', SliH B w' p.2 l') : ∃ ps', HavSer B w' v ps' := by
  classical
  have key : ∀ ps : List (SerN × Value), (∀ p ∈ ps, ∃ l', SliH B w' p.2 l') → ∃ ps' : List (SerN × Value), ps'.map serC = ps.map serC ∧ ∀ p ∈ ps', SliH B w' p.2 p.1.l := by
    intro ps
    induction ps with
    | nil => exact fun _ => ⟨[], rfl, fun _ h => by cases h⟩
    | cons p ps ih =>
      intro h
      obtain ⟨l', hl'⟩ := h p (List.mem_cons_self ..)
      obtain ⟨ps', e, hp⟩ := ih (fun q hq => h q (List.mem_cons_of_mem _ hq))
      refine ⟨({ p.1 with l := l' }, p.2) :: ps', by rw [List.map_cons, List.map_cons, e]; rfl, fun q hq => ?_⟩
      rcases List.mem_cons.1 hq with rfl | hq
      · exact hl'
      · exact hp q hq
  obtain ⟨ps', e, hp⟩ := key ps h2
  exact ⟨ps', by rw [e]; exact h1, hp⟩
theorem HavIte.reread {w' : World} {ps : List (IteN × Value)} (h1 : OwnK 2 B w' 50 v (ps.map iteC)) (h2 : ∀ p ∈ ps, ∃ l', SliH B w' p.2 l') : ∃ ps', HavIte B w' v ps' := by
  have key : ∀ ps : List (IteN × Value), (∀ p ∈ ps, ∃ l', SliH B w' p.2 l') → ∃ ps' : List (IteN × Value), ps'.map iteC = ps.map iteC ∧ ∀ p ∈ ps', SliH B w' p.2 p.1.rest := by
    intro ps
    induction ps with
    | nil => exact fun _ => ⟨[], rfl, fun _ h => by cases h⟩
    | cons p ps ih =>
      intro h
      obtain ⟨l', hl'⟩ := h p (List.mem_cons_self ..)
      obtain ⟨ps', e, hp⟩ := ih (fun q hq => h q (List.mem_cons_of_mem _ hq))
      refine ⟨({ p.1 with rest := l' }, p.2) :: ps', by rw [List.map_cons, List.map_cons, e]; rfl, fun q hq => ?_⟩
      rcases List.mem_cons.1 hq with rfl | hq
      · exact hl'
      · exact hp q hq
  obtain ⟨ps', e, hp⟩ := key ps h2
  exact ⟨ps', by rw [e]; exact h1, hp⟩
theorem HavM.poke (h : HavM B w v v2 m) (hb : Blk w gs 48 cs) (hx : cs[off]? = some u0) (hk : SameK u0 u1) : ∃ m', HavM B (w.setCell ⟨gs, off, none⟩ u1) v v2 m' := by
  obtain ⟨ps, qs, _, _, h3, h4⟩ := h
  have hm : Mod (fun k => k = gs) w (w.setCell ⟨gs, off, none⟩ u1) := (Mod.refl (fun k => k = gs) w).setCell (p := ⟨gs, off, none⟩) (fun _ => rfl) u1
  obtain ⟨ps', hps'⟩ := HavSer.reread (h3.1.modS hm (fun k hk e => by
    obtain ⟨cs', hcs⟩ := own_blk h3.1 k hk
    rw [e] at hcs
    exact Blk.ne_ hcs hb (by decide) rfl)) (fun p hp => by
      obtain ⟨l', _, hl'⟩ := (h3.2 p hp).poke hb hx hk
      exact ⟨l', hl'⟩)
  obtain ⟨qs', hqs'⟩ := HavIte.reread (h4.1.modS hm (fun k hk e => by
    obtain ⟨cs', hcs⟩ := own_blk h4.1 k hk
    rw [e] at hcs
    exact Blk.ne_ hcs hb (by decide) rfl)) (fun p hp => by
      obtain ⟨l', _, hl'⟩ := (h4.2 p hp).poke hb hx hk
      exact ⟨l', hl'⟩)
  exact ⟨⟨ps'.map (·.1), qs'.map (·.1), 0⟩, ps', qs', rfl, rfl, hps', hqs'⟩
/-- Where the k-th sample of such a row lies. -/
theorem SliH.at_ {A : Option Addr} {n c k : Nat} (h : SliH B w (.slice A n c) l) (hk : k < n) : ∃ g o T V cs, A = some ⟨g, o, none⟩ ∧ B ≤ g ∧ Blk w g 48 cs ∧ cs[o + k * 2]? = some (.int .i64 T) ∧ ∃ V' : Nat, V = (V' : Int) ∧ cs[o + k * 2 + 1]? = some (.int .u64 V) := by
  obtain ⟨A', n', c', e, h1, h2, h3, h4⟩ := h
  injection e with e1 e2 e3
  subst e1 e2 e3
  obtain ⟨g, o, cs, rfl, hB, hb, hc⟩ := h4 (by omega)
  obtain ⟨h5, h6⟩ := cellsS_get (List.getElem?_eq_getElem (show k < l.length by omega))
  exact ⟨g, o, _, _, cs, rfl, hB, hb, hc _ _ h5, _, rfl, by have := hc _ _ h6; rwa [← Nat.add_assoc] at this⟩
end
/-- What an op came to, in structs of the call's own; what stood before stays. -/
def XSt (B : Nat) (w0 wr : World) (ga gb : Nat) (v v2 N x y v3 : Value) : Prop := Blk wr ga 31 #[v, v2, N] ∧ Blk wr gb 34 #[x, y, v3] ∧ (∃ m, HavM B wr v v2 m) ∧ (∃ l, SliH B wr v3 l) ∧ Mod (fun _ => False) w0 wr
section
variable {B ga gb gs off : Nat} {w0 wr : World} {v v2 v3 N x y u0 u1 : Value} {cs : Array Value}
theorem XSt.poke (h : XSt B w0 wr ga gb v v2 N x y v3) (hb : Blk wr gs 48 cs) (hg : w0.heap.size ≤ gs) (hx : cs[off]? = some u0) (hk : SameK u0 u1) : XSt B w0 (wr.setCell ⟨gs, off, none⟩ u1) ga gb v v2 N x y v3 := by
  obtain ⟨h1, h2, ⟨m, h3⟩, ⟨l, h4⟩, h5⟩ := h
  have hm : Mod (fun k => k = gs) wr (wr.setCell ⟨gs, off, none⟩ u1) := (Mod.refl (fun k => k = gs) wr).setCell (p := ⟨gs, off, none⟩) (fun _ => rfl) u1
  obtain ⟨l', _, hl'⟩ := h4.poke hb hx hk
  exact ⟨hm.blk h1 (fun e => by rw [e] at h1; exact Blk.ne_ h1 hb (by decide) rfl), hm.blk h2 (fun e => by rw [e] at h2; exact Blk.ne_ h2 hb (by decide) rfl), h3.poke hb hx hk, ⟨l', hl'⟩, h5.own hm hg⟩
end
end Go.Proofs.Ytejnhdenehkpmaa

/- What an op came to: its rows, one by one. -/
namespace Go.Proofs.Ytejnhdenehkpmaa
open Go.RowKit
section
variable {B ga gb i n c : Nat} {w0 wr : World} {v v2 v3 N x y : Value} {A : Option Addr}
/-- A row of samples of a series: where its slice stands; the series' last time may be written. -/
def RowAt (B : Nat) (wr : World) (g off : Nat) (t : TypeId) (A4 : Option Addr) (n4 c4 : Nat) : Prop := (∃ cs, Blk wr g t cs) ∧ wr.cell? ⟨g, off, none⟩ = some (.slice A4 n4 c4) ∧ ∃ l, SliH B wr (.slice A4 n4 c4) l
theorem RowAt.poke {g off gs o2 : Nat} {t : TypeId} {A4 : Option Addr} {n4 c4 : Nat} {cs : Array Value} {u0 u1 : Value} (h : RowAt B wr g off t A4 n4 c4) (hb : Blk wr gs 48 cs) (hx : cs[o2]? = some u0) (hk : SameK u0 u1) (ht : t ≠ 48) : RowAt B (wr.setCell ⟨gs, o2, none⟩ u1) g off t A4 n4 c4 := by
  obtain ⟨⟨cs', hcs⟩, h2, ⟨l, h3⟩⟩ := h
  have hm : Mod (fun k => k = gs) wr (wr.setCell ⟨gs, o2, none⟩ u1) := (Mod.refl (fun k => k = gs) wr).setCell (p := ⟨gs, o2, none⟩) (fun _ => rfl) u1
  have hne : ¬ g = gs := fun e => by rw [e] at hcs; exact Blk.ne_ hcs hb ht rfl
  obtain ⟨l', _, hl'⟩ := h3.poke hb hx hk
  exact ⟨⟨cs', hm.blk hcs hne⟩, (hm.cell (a := ⟨g, off, none⟩) (World.block_lt_of_cell? wr _ h2) hne).trans h2, l', hl'⟩
theorem XSt.rowS (h : XSt B w0 wr ga gb (.slice A n c) v2 N x y v3) (hi : i < n) (hB : w0.heap.size ≤ B) : ∃ g A4 n4 c4, A = some ⟨g, 0, none⟩ ∧ B ≤ g ∧ (∃ z, wr.cell? ⟨g, i * 5 + 3, none⟩ = some (.int .i64 z)) ∧ wr.frozen? ⟨g, i * 5 + 3, none⟩ = false ∧
    XSt B w0 (wr.setCell ⟨g, i * 5 + 3, none⟩ (.int .i64 777)) ga gb (.slice A n c) v2 N x y v3 ∧ RowAt B (wr.setCell ⟨g, i * 5 + 3, none⟩ (.int .i64 777)) g (i * 5 + 4) 43 A4 n4 c4 := by
  obtain ⟨h1, h2, ⟨m, h3⟩, ⟨l, h4⟩, h5⟩ := h
  obtain ⟨ps, hps, hS, _⟩ := h3.ser
  have hl : ps.length = n := by
    obtain ⟨A', c', e, _⟩ := hS.form
    injection e with _ e2 _
    exact e2.symm
  have hms : m.ser[i]? = some (ps[i]'(by omega)).1 := by rw [← hps, List.getElem?_map, List.getElem?_eq_getElem (by omega)]; rfl
  obtain ⟨g, n', c', u4, e0, hp, _, _, hpn⟩ := hS.some_ hps hms
  injection e0 with e1 e2 e3
  subst e1 e2 e3
  obtain ⟨A4, n4, c4, hu, _⟩ := hS.2 _ (List.mem_of_getElem? hp)
  simp only at hu
  subst hu
  obtain ⟨s1, s2, s3, s4, sf⟩ := hS.cells hp
  obtain ⟨hM', hm, hS'⟩ := Base.cellS (u := .int .i64 777) (j := 3) (s' := { (ps[i]'(by omega)).1 with last := 777 }) (u4' := .slice A4 n4 c4) rfl h3 hps hS hp (by decide) rfl (hS.2 _ (List.mem_of_getElem? hp))
  obtain ⟨⟨cs, hcs⟩, hBg, _, _⟩ := hS.at_
  have hp' : (ps.set i ({ (ps[i]'(by omega)).1 with last := 777 }, .slice A4 n4 c4))[i]? = some ({ (ps[i]'(by omega)).1 with last := 777 }, .slice A4 n4 c4) := List.getElem?_set_self (by omega)
  obtain ⟨_, _, _, s4', _⟩ := hS'.cells hp'
  have hn1 : ∀ {k : Nat} {t : TypeId} {cs' : Array Value}, Blk wr k t cs' → t ≠ 43 → ¬ k = g := fun {k t cs'} hb hne e => by rw [e] at hb; exact Blk.ne_ hb hcs hne rfl
  exact ⟨g, A4, n4, c4, rfl, hBg, ⟨_, s3⟩, sf 3, ⟨hm.blk h1 (hn1 h1 (by decide)), hm.blk h2 (hn1 h2 (by decide)), ⟨_, hM'⟩, ⟨l, h4.mod hm (fun k cs' _ hb => hn1 hb (by decide))⟩, h5.own hm (by omega)⟩, ⟨hS'.at_.1, s4', _, hS'.2 _ (List.mem_of_getElem? hp')⟩⟩
theorem XSt.rowI (h : XSt B w0 wr ga gb v (.slice A n c) N x y v3) (hi : i < n) : ∃ g A4 n4 c4, A = some ⟨g, 0, none⟩ ∧ B ≤ g ∧ RowAt B wr g (i * 2 + 1) 50 A4 n4 c4 := by
  obtain ⟨h1, h2, ⟨m, h3⟩, ⟨l, h4⟩, h5⟩ := h
  obtain ⟨ps, hps, hS, _⟩ := h3.ite
  have hl : ps.length = n := by
    obtain ⟨A', c', e, _⟩ := hS.form
    injection e with _ e2 _
    exact e2.symm
  have hms : m.ite[i]? = some (ps[i]'(by omega)).1 := by rw [← hps, List.getElem?_map, List.getElem?_eq_getElem (by omega)]; rfl
  obtain ⟨g, n', c', u4, e0, hp, _, _, hpn⟩ := hS.some_ hps hms
  injection e0 with e1 e2 e3
  subst e1 e2 e3
  obtain ⟨A4, n4, c4, hu, _⟩ := hS.2 _ (List.mem_of_getElem? hp)
  simp only at hu
  subst hu
  obtain ⟨s1, sf⟩ := hS.cells hp
  exact ⟨g, A4, n4, c4, rfl, (HavIte.at_ hS).2.1, (HavIte.at_ hS).1, s1, _, hS.2 _ (List.mem_of_getElem? hp)⟩
end
end Go.Proofs.Ytejnhdenehkpmaa
