/- ClokOwn's walk. -/
import Derived.Test.YthogflfjdfcpeaaMq1
import Derived.Test.YthogflfjdfcpeaaMq9
import Derived.Test.YthogflfjdfcpeaaMq15
import Derived.Test.YthogflfjdfcpeaaMq10
import Derived.Test.YthogflfjdfcpeaaMq3
import Derived.Test.YthogflfjdfcpeaaMq5
namespace Go.Proofs.Ythogflfjdfcpeaa
open Go.RowKit

/-- Rows of pages, each of the call's own. -/
def RowsP (B : Nat) (w : World) (L : List (ClkN × Option Addr × Nat × Nat)) : Prop := ∀ x ∈ L, ∃ ps : List PagN, ps.length = x.2.2.1 ∧ OwnP B w 30 (.slice x.2.1 x.2.2.1 x.2.2.2) ps
def blkX (x : ClkN × Option Addr × Nat × Nat) : Option Nat := Value.ownBlock (.slice x.2.1 x.2.2.1 x.2.2.2)
def ApartX (L : List (ClkN × Option Addr × Nat × Nat)) : Prop := L.Pairwise (fun x y => ∀ k, blkX x = some k → blkX y ≠ some k)
theorem ApartX.at_ {L : List (ClkN × Option Addr × Nat × Nat)} (h : ApartX L) {i j : Nat} {x y : ClkN × Option Addr × Nat × Nat} (hx : L[i]? = some x) (hy : L[j]? = some y) (hij : i ≠ j) : ∀ k, blkX x = some k → blkX y ≠ some k := by
  obtain ⟨hi, rfl⟩ := List.getElem?_eq_some_iff.1 hx
  obtain ⟨hj, rfl⟩ := List.getElem?_eq_some_iff.1 hy
  have hp := List.pairwise_iff_getElem.1 h
  rcases Nat.lt_or_gt_of_ne hij with h1 | h1
  · exact hp i j hi hj h1
  · intro k h2 h3
    exact hp j i hj hi h1 k h3 h2
theorem RowsP.poke {B : Nat} {w wx : World} {L : List (ClkN × Option Addr × Nat × Nat)} (h : RowsP B w L) (ha : ApartX L) {i : Nat} {x : ClkN × Option Addr × Nat × Nat} (hx : L[i]? = some x) {ps : List PagN} (hl : ps.length = x.2.2.1) (ho : OwnP B wx 30 (.slice x.2.1 x.2.2.1 x.2.2.2) ps) (hm : Mod (fun k => blkX x = some k) w wx) : RowsP B wx L := by
  intro y hy
  obtain ⟨j, hj, e⟩ := List.getElem_of_mem hy
  have hyj : L[j]? = some y := by rw [List.getElem?_eq_getElem hj, e]
  by_cases hij : i = j
  · subst hij
    rw [hx] at hyj
    injection hyj with hyj
    subst hyj
    exact ⟨ps, hl, ho⟩
  · obtain ⟨qs, h1, h2⟩ := h y hy
    exact ⟨qs, h1, OwnK.modS h2 hm (fun k hk e => ha.at_ hx hyj hij k e hk)⟩
theorem RowsP.new {B : Nat} {w wx : World} {L : List (ClkN × Option Addr × Nat × Nat)} (h : RowsP B w L) (hm : Mod (fun _ => False) w wx) : RowsP B wx L := fun x hx => by
  obtain ⟨ps, h1, h2⟩ := h x hx
  exact ⟨ps, h1, OwnP.mod h2 hm⟩
def rowX (x : ClkN × Option Addr × Nat × Nat) : List Value := [.int .i64 x.1.most, .int .i64 x.1.target, .slice x.2.1 x.2.2.1 x.2.2.2, .int .i64 (x.1.hot : Int), .int .i64 (x.1.cold : Int), .int .i64 (x.1.test : Int)]
theorem rowX_all (L : List (ClkN × Option Addr × Nat × Nat)) : AllK 6 (L.map rowX) := by
  intro r hr
  obtain ⟨p, _, rfl⟩ := List.mem_map.1 hr
  rfl
/-- The i-th clock of a row of clocks: its six cells, as the model's loads spell them. -/
theorem clocks_at {w : World} {B n i : Nat} {A : Option Addr} {L : List (ClkN × Option Addr × Nat × Nat)} (h : RdsK 6 w B A n (L.map rowX)) (hi : i < n) : ∃ ad x, A = some ad ∧ L[i]? = some x ∧
    w.cell? (ad.add (i * 6)) = some (.int .i64 x.1.most) ∧ w.cell? ⟨(ad.add (i * 6)).block, (ad.add (i * 6)).off + 1, none⟩ = some (.int .i64 x.1.target) ∧ w.cell? ⟨(ad.add (i * 6)).block, (ad.add (i * 6)).off + 2, none⟩ = some (.slice x.2.1 x.2.2.1 x.2.2.2) ∧
    w.cell? ⟨(ad.add (i * 6)).block, (ad.add (i * 6)).off + 3, none⟩ = some (.int .i64 (x.1.hot : Int)) ∧ w.cell? ⟨(ad.add (i * 6)).block, (ad.add (i * 6)).off + 4, none⟩ = some (.int .i64 (x.1.cold : Int)) ∧ w.cell? ⟨(ad.add (i * 6)).block, (ad.add (i * 6)).off + 5, none⟩ = some (.int .i64 (x.1.test : Int)) := by
  obtain ⟨ad, r, e, hb, hr, hl, hc⟩ := RdsK.at_ h hi (by decide)
  rw [List.getElem?_map] at hr
  obtain ⟨p, hp, rfl⟩ := Option.map_eq_some_iff.1 hr
  refine ⟨ad, p, e, hp, hc 0 _ rfl, ?_, ?_, ?_, ?_, ?_⟩
  · rw [add_cellK 6 _ _ _ (by decide)]; exact hc 1 _ rfl
  · rw [add_cellK 6 _ _ _ (by decide)]; exact hc 2 _ rfl
  · rw [add_cellK 6 _ _ _ (by decide)]; exact hc 3 _ rfl
  · rw [add_cellK 6 _ _ _ (by decide)]; exact hc 4 _ rfl
  · rw [add_cellK 6 _ _ _ (by decide)]; exact hc 5 _ rfl
theorem own_len {K B n c : Nat} {w : World} {e : TypeId} {A : Option Addr} {rows : List (List Value)} (h : OwnK K B w e (.slice A n c) rows) : rows.length = n := by
  obtain ⟨A', c', e', _⟩ := h.form
  injection e' with _ e2 _
  omega
set_option maxHeartbeats 40000000 in
set_option maxRecDepth 100000 in
theorem ckown_walk (a0 : Int) (A1 : Option Addr) (n1 cp1 : Nat) (zs : List Int) (a2 : Int) (w : World) (hs : SeesI .i64 w w.heap.size A1 n1 zs) (hz : ∀ x ∈ zs, FitI x) (h2 : FitI a2) :
    Calls Try.prog 4 #[.int .i64 a0, .slice A1 n1 cp1, .int .i64 a2] w fun e w' => e = .returned (.bool true) ∧ Mod (fun _ => False) w w' := by
  have hcl := fun w' (h : Mod (fun _ => False) w w') => lclock_any a0 A1 n1 cp1 zs w' ((hs.modS h (Nat.le_refl _) (fun _ _ h => h)).up h.size) hz
  obtain ⟨C, hC⟩ : ∃ C, ledK (a0 % 8 + 1) (zs.take 80) = C := ⟨_, rfl⟩
  have hg : Good C := by rw [← hC]; exact (led_good _ _).1
  have hpl : ∀ p ∈ C.ps, p.pins ≤ 1000000 := by rw [← hC]; exact led_pinsT _ _ 80 (by omega)
  rw [hC] at hcl
  obtain ⟨k, hk⟩ : ∃ k, keyN a2 = k := ⟨_, rfl⟩
  have hkey := fun w' => ckKey_any a2 w' h2
  rw [hk] at hkey
  have Hg := Lib.hid hg; have Hpl := Lib.hid hpl; have Hcl := Lib.hid hcl; have HKY := Lib.hid hkey
  clear hcl hC hg hpl hs hz h2 hk hkey
  go_enter Try.func4, Try.ntmps4
  go_wp2_with fail
  refine (Hcl.out w (Mod.refl _ _)).mono ?_
  rintro e w1 ⟨vp, rfl, ho1, hm1⟩
  obtain ⟨A, cap, rfl, _⟩ := OwnP.form ho1
  obtain ⟨N, hN⟩ : ∃ N, C.ps.length = N := ⟨_, rfl⟩
  rw [hN] at ho1 ⊢
  have HN := Lib.hid hN; have Ho1 := Lib.hid ho1; have Hm1 := Lib.hid hm1
  clear hN ho1 hm1
  go_wp2_with fail
  refine (Hcl.out w1 Hm1.out).mono ?_
  rintro e w2 ⟨vp, rfl, ho2, hm2⟩
  clear Hcl
  obtain ⟨A2, cap2, rfl, _⟩ := OwnP.form ho2
  have hl2 := HN.out
  rw [hl2] at ho2 ⊢
  obtain ⟨W1, hW1, hmb, hb7, hb8, hz1⟩ := two_clocks w2 #[.int .i64 C.most, .int .i64 C.target, .slice A N cap, .int .i64 (C.hot : Int), .int .i64 (C.cold : Int), .int .i64 (C.test : Int)] #[.int .i64 C.most, .int .i64 C.target, .slice A2 N cap2, .int .i64 (C.hot : Int), .int .i64 (C.cold : Int), .int .i64 (C.test : Int)]
  obtain ⟨g7, hg7⟩ : ∃ g, g = w2.heap.size := ⟨_, rfl⟩
  obtain ⟨g8, hg8⟩ : ∃ g, g = w2.heap.size + 1 := ⟨_, rfl⟩
  rw [← hg7] at hb7
  rw [← hg8] at hb8
  have hm12 := hm2.trans hmb (fun _ _ h => h)
  have Hc7 : Hid (ClkV w.heap.size g7 W1 (.slice A N cap) C) := Lib.hid ⟨hb7, OwnP.mod Ho1.out hm12⟩
  have Hc8 : Hid (ClkV w.heap.size g8 W1 (.slice A2 N cap2) C) := Lib.hid ⟨hb8, OwnP.mono (OwnP.mod ho2 hmb) Hm1.out.size⟩
  have HmW := Lib.hid (Hm1.out.trans hm12 (fun _ _ h => h))
  have HW1 := Lib.hid hW1; have Hg7 := Lib.hid hg7; have Hg8 := Lib.hid hg8
  clear hl2 ho2 hm2 hW1 hmb hb7 hb8 hz1 hg7 hg8 hm12 Ho1 Hm1
  go_upto_region 2 with fail
  rw [← HW1.out, ← Hg8.out, ← Hg7.out]
  clear HW1 Hg7 Hg8
  obtain ⟨Wp, hWp⟩ : ∃ Wp, Wp = W1 := ⟨_, rfl⟩
  have HMp : Hid (Mod (fun _ => False) W1 Wp) := Lib.hid (by rw [hWp]; exact Mod.refl _ _)
  rw [← hWp]
  clear hWp
  go_upto_region 2 with fail
  go_cut [9] from 9 to 34 (fun s9 wx => ∃ gx c2 A5 n5 c5, s9 = .pointer (some ⟨gx, 0, none⟩) ∧ Good c2 ∧ ClkV Wp.heap.size gx wx (.slice A5 n5 c5) c2 ∧ Mod (fun _ => False) Wp wx ∧ Wp.heap.size ≤ gx)
  case first =>
    as_aux_lemma =>
      have ys : Hid (∀ W', Mod (fun _ => False) Wp W' → W'.cell? ⟨g7, 0, none⟩ = some (.int .i64 C.most) ∧ W'.cell? ⟨g7, 1, none⟩ = some (.int .i64 C.target) ∧ W'.cell? ⟨g7, 2, none⟩ = some (.slice A N cap) ∧ W'.cell? ⟨g7, 3, none⟩ = some (.int .i64 C.hot) ∧ W'.cell? ⟨g7, 4, none⟩ = some (.int .i64 C.cold) ∧ W'.cell? ⟨g7, 5, none⟩ = some (.int .i64 C.test)) := Lib.hid (fun W' h => (Hc7.out.new (HMp.out.trans h (fun _ _ h => h))).cells)
      obtain ⟨y0, y1, y2, y3, y4, y5⟩ := ys.out Wp (Mod.refl _ _)
      have y0a : ∀ o, (Wp.alloc o).cell? ⟨g7, 0, none⟩ = some (.int .i64 C.most) := fun o => (ys.out _ ((Mod.refl _ _).alloc o)).1
      have y1a : ∀ o, (Wp.alloc o).cell? ⟨g7, 1, none⟩ = some (.int .i64 C.target) := fun o => (ys.out _ ((Mod.refl _ _).alloc o)).2.1
      have y2a : ∀ o, (Wp.alloc o).cell? ⟨g7, 2, none⟩ = some (.slice A N cap) := fun o => (ys.out _ ((Mod.refl _ _).alloc o)).2.2.1
      have y3a : ∀ o, (Wp.alloc o).cell? ⟨g7, 3, none⟩ = some (.int .i64 C.hot) := fun o => (ys.out _ ((Mod.refl _ _).alloc o)).2.2.2.1
      have y4a : ∀ o, (Wp.alloc o).cell? ⟨g7, 4, none⟩ = some (.int .i64 C.cold) := fun o => (ys.out _ ((Mod.refl _ _).alloc o)).2.2.2.2.1
      have y5a : ∀ o, (Wp.alloc o).cell? ⟨g7, 5, none⟩ = some (.int .i64 C.test) := fun o => (ys.out _ ((Mod.refl _ _).alloc o)).2.2.2.2.2
      obtain ⟨⟨c2, os, ok⟩, hea⟩ : ∃ r, admitK C k = r := ⟨_, rfl⟩
      have Hgd2 : Hid (Good c2) := Lib.hid (by have h := (admit_good Hg.out k).1; rw [hea] at h; exact h)
      have HAdm : Hid (∀ W', Mod (fun _ => False) Wp W' → Calls Try.prog 9 #[.agg #[.int .i64 C.most, .int .i64 C.target, .slice A N cap, .int .i64 (C.hot : Int), .int .i64 (C.cold : Int), .int .i64 (C.test : Int)], .agg #[.int .i64 k.s, .int .i64 k.l, .int .i64 k.b]] W' fun e w' => ∃ A5 n5 c5 vo, e = .returned (.tuple #[.agg #[.int .i64 c2.most, .int .i64 c2.target, .slice A5 n5 c5, .int .i64 (c2.hot : Int), .int .i64 (c2.cold : Int), .int .i64 (c2.test : Int)], vo, .bool ok]) ∧ OwnP W'.heap.size w' 30 (.slice A5 n5 c5) c2.ps ∧ Mod (fun _ => False) W' w') := Lib.hid (fun W' h => by
        refine (adm_call C c2 k os ok hea Hg.out (Hc7.out.new (HMp.out.trans h (fun _ _ h => h)))).mono ?_
        rintro e w' ⟨vo, A5, n5, c5, rfl, h1, h2, h3⟩
        exact ⟨A5, n5, c5, vo, rfl, h1, h3⟩)
      clear hea
      go_region_with (first
        | (go_at_call 12; (with_reducible refine (HKY.out Wp.drew).mono ?_); rintro e w1 ⟨rfl, hm1⟩; have HM1 : Hid (Mod (fun _ => False) Wp w1) := Lib.hid (((Mod.refl _ _).drew).trans hm1 (fun _ _ h => h)); have hbb := ys.out w1 HM1.out; have b0 := hbb.1; have b1 := hbb.2.1; have b2 := hbb.2.2.1; have b3 := hbb.2.2.2.1; have b4 := hbb.2.2.2.2.1; have b5 := hbb.2.2.2.2.2; have hba := ys.out (w1.alloc (.cells #[.int .i64 0, .int .i64 0, .slice none 0 0, .int .i64 0, .int .i64 0, .int .i64 0] 25)) (HM1.out.alloc _); have ba0 := hba.1; have ba1 := hba.2.1; have ba2 := hba.2.2.1; have ba3 := hba.2.2.2.1; have ba4 := hba.2.2.2.2.1; have ba5 := hba.2.2.2.2.2; clear hm1 hbb hba)
        | (go_at_call 12; (with_reducible refine (HKY.out (Wp.alloc (.cells #[.int .i64 0, .int .i64 0, .slice none 0 0, .int .i64 0, .int .i64 0, .int .i64 0] 25)).drew).mono ?_); rintro e w1 ⟨rfl, hm1⟩; have HM1 : Hid (Mod (fun _ => False) Wp w1) := Lib.hid ((((Mod.refl _ _).alloc _).drew).trans hm1 (fun _ _ h => h)); have hbb := ys.out w1 HM1.out; have b0 := hbb.1; have b1 := hbb.2.1; have b2 := hbb.2.2.1; have b3 := hbb.2.2.2.1; have b4 := hbb.2.2.2.2.1; have b5 := hbb.2.2.2.2.2; have HG1 : Hid (Blk w1 Wp.heap.size 25 #[.int .i64 0, .int .i64 0, .slice none 0 0, .int .i64 0, .int .i64 0, .int .i64 0]) := Lib.hid (hm1.blk (Blk.drew (Blk.new Wp _ _)) (fun h => h)); clear hm1 hbb)
        | (go_at_call 9; (with_reducible refine (HAdm.out w1 HM1.out).mono ?_); rintro e w2 ⟨A5, n5, c5, vo, rfl, h1, h2⟩; have H1 := Lib.hid h1; have H2 := Lib.hid (HM1.out.trans h2 (fun _ _ h => h)); first | (have hg9 := h2.blk HG1.out (fun h => h); have Hg9 := Lib.hid hg9; have r0 := hg9.cell 0; have f0 := hg9.frozen 0; have r1 := hg9.cell 1; have f1 := hg9.frozen 1; have r2 := hg9.cell 2; have f2 := hg9.frozen 2; have r3 := hg9.cell 3; have f3 := hg9.frozen 3; have r4 := hg9.cell 4; have f4 := hg9.frozen 4; have r5 := hg9.cell 5; have f5 := hg9.frozen 5; simp at r0 r1 r2 r3 r4 r5; clear hg9; clear h1 h2) | clear h1 h2)
        | (go_at_call 9; (with_reducible refine (HAdm.out (w1.alloc (.cells #[.int .i64 0, .int .i64 0, .slice none 0 0, .int .i64 0, .int .i64 0, .int .i64 0] 25)) (HM1.out.alloc _)).mono ?_); rintro e w2 ⟨A5, n5, c5, vo, rfl, h1, h2⟩; have H1 := Lib.hid (OwnP.mono h1 (show w1.heap.size ≤ _ by simp)); have H2 := Lib.hid ((HM1.out.alloc _).trans h2 (fun _ _ h => h)); have hg9 := h2.blk (Blk.new w1 _ _) (fun h => h); have Hg9 := Lib.hid hg9; have r0 := hg9.cell 0; have f0 := hg9.frozen 0; have r1 := hg9.cell 1; have f1 := hg9.frozen 1; have r2 := hg9.cell 2; have f2 := hg9.frozen 2; have r3 := hg9.cell 3; have f3 := hg9.frozen 3; have r4 := hg9.cell 4; have f4 := hg9.frozen 4; have r5 := hg9.cell 5; have f5 := hg9.frozen 5; simp at r0 r1 r2 r3 r4 r5; clear hg9; clear h1 h2))
      all_goals (go_wp2_with fail; go_meet)
      all_goals (
        have hB1 := HM1.out.size
        refine ⟨_, c2, A5, n5, c5, rfl, Hgd2.out, ?_⟩
        first
          | (have h8 := HG1.out; exact clk_over c2 rfl Hg9.out (Nat.le_refl _) H1.out hB1 H2.out)
          | (have h9 := Hg9.out; exact clk_over c2 rfl Hg9.out hB1 H1.out hB1 H2.out)
          | exact clk_new c2 rfl H1.out hB1 H2.out)
  case rest =>
    obtain ⟨ga, a, Aa, na, ca, rfl, hgd, hc, hm, hgl⟩ := hcut
    obtain ⟨Wn, rfl⟩ : ∃ w0 : World, w0 = wc := ⟨_, rfl⟩
    have Hca := Lib.hid hc; have Hma := Lib.hid hm; have Hgda := Lib.hid hgd
    have HMp2 := Lib.hid (HMp.out.trans hm (fun _ _ h => h))
    have Hla := Lib.hid ((HMp.out.size : W1.heap.size ≤ Wp.heap.size))
    clear hc hm hgl hgd
    clear HMp
    have HMp := HMp2
    clear HMp2
    obtain ⟨Wa, rfl⟩ : ∃ w0 : World, w0 = Wp := ⟨_, rfl⟩
    obtain ⟨Wp, rfl⟩ : ∃ w0 : World, w0 = Wn := ⟨_, rfl⟩
    go_upto_region 3 with fail
    go_cut [12] from 12 to 41 (fun s12 wx => ∃ gx c2 A5 n5 c5, s12 = .pointer (some ⟨gx, 0, none⟩) ∧ Good c2 ∧ ClkV Wp.heap.size gx wx (.slice A5 n5 c5) c2 ∧ Mod (fun _ => False) Wp wx ∧ Wp.heap.size ≤ gx)
    case first =>
      as_aux_lemma =>
        have ys : Hid (∀ W', Mod (fun _ => False) Wp W' → W'.cell? ⟨g7, 0, none⟩ = some (.int .i64 C.most) ∧ W'.cell? ⟨g7, 1, none⟩ = some (.int .i64 C.target) ∧ W'.cell? ⟨g7, 2, none⟩ = some (.slice A N cap) ∧ W'.cell? ⟨g7, 3, none⟩ = some (.int .i64 C.hot) ∧ W'.cell? ⟨g7, 4, none⟩ = some (.int .i64 C.cold) ∧ W'.cell? ⟨g7, 5, none⟩ = some (.int .i64 C.test)) := Lib.hid (fun W' h => (Hc7.out.new (HMp.out.trans h (fun _ _ h => h))).cells)
        obtain ⟨y0, y1, y2, y3, y4, y5⟩ := ys.out Wp (Mod.refl _ _)
        have y0a : ∀ o, (Wp.alloc o).cell? ⟨g7, 0, none⟩ = some (.int .i64 C.most) := fun o => (ys.out _ ((Mod.refl _ _).alloc o)).1
        have y1a : ∀ o, (Wp.alloc o).cell? ⟨g7, 1, none⟩ = some (.int .i64 C.target) := fun o => (ys.out _ ((Mod.refl _ _).alloc o)).2.1
        have y2a : ∀ o, (Wp.alloc o).cell? ⟨g7, 2, none⟩ = some (.slice A N cap) := fun o => (ys.out _ ((Mod.refl _ _).alloc o)).2.2.1
        have y3a : ∀ o, (Wp.alloc o).cell? ⟨g7, 3, none⟩ = some (.int .i64 C.hot) := fun o => (ys.out _ ((Mod.refl _ _).alloc o)).2.2.2.1
        have y4a : ∀ o, (Wp.alloc o).cell? ⟨g7, 4, none⟩ = some (.int .i64 C.cold) := fun o => (ys.out _ ((Mod.refl _ _).alloc o)).2.2.2.2.1
        have y5a : ∀ o, (Wp.alloc o).cell? ⟨g7, 5, none⟩ = some (.int .i64 C.test) := fun o => (ys.out _ ((Mod.refl _ _).alloc o)).2.2.2.2.2
        obtain ⟨⟨c2, ok⟩, hea⟩ : ∃ r, touchK C k = r := ⟨_, rfl⟩
        have Hgd2 : Hid (Good c2) := Lib.hid (by have h := (touch_is Hg.out k).1; rw [hea] at h; exact h)
        have HAdm : Hid (∀ W', Mod (fun _ => False) Wp W' → Calls Try.prog 13 #[.agg #[.int .i64 C.most, .int .i64 C.target, .slice A N cap, .int .i64 (C.hot : Int), .int .i64 (C.cold : Int), .int .i64 (C.test : Int)], .agg #[.int .i64 k.s, .int .i64 k.l, .int .i64 k.b]] W' fun e w' => ∃ A5 n5 c5, e = .returned (.tuple #[.agg #[.int .i64 c2.most, .int .i64 c2.target, .slice A5 n5 c5, .int .i64 (c2.hot : Int), .int .i64 (c2.cold : Int), .int .i64 (c2.test : Int)], .bool ok]) ∧ OwnP W'.heap.size w' 30 (.slice A5 n5 c5) c2.ps ∧ Mod (fun _ => False) W' w') := Lib.hid (fun W' h => by
          refine (touch_call C c2 k ok hea Hg.out (Hc7.out.new (HMp.out.trans h (fun _ _ h => h)))).mono ?_
          rintro e w' ⟨A5, n5, c5, rfl, h1, h3⟩
          exact ⟨A5, n5, c5, rfl, h1, h3⟩)
        clear hea
        go_region_with (first
          | (go_at_call 12; (with_reducible refine (HKY.out Wp.drew).mono ?_); rintro e w1 ⟨rfl, hm1⟩; have HM1 : Hid (Mod (fun _ => False) Wp w1) := Lib.hid (((Mod.refl _ _).drew).trans hm1 (fun _ _ h => h)); have hbb := ys.out w1 HM1.out; have b0 := hbb.1; have b1 := hbb.2.1; have b2 := hbb.2.2.1; have b3 := hbb.2.2.2.1; have b4 := hbb.2.2.2.2.1; have b5 := hbb.2.2.2.2.2; have hba := ys.out (w1.alloc (.cells #[.int .i64 0, .int .i64 0, .slice none 0 0, .int .i64 0, .int .i64 0, .int .i64 0] 25)) (HM1.out.alloc _); have ba0 := hba.1; have ba1 := hba.2.1; have ba2 := hba.2.2.1; have ba3 := hba.2.2.2.1; have ba4 := hba.2.2.2.2.1; have ba5 := hba.2.2.2.2.2; clear hm1 hbb hba)
          | (go_at_call 12; (with_reducible refine (HKY.out (Wp.alloc (.cells #[.int .i64 0, .int .i64 0, .slice none 0 0, .int .i64 0, .int .i64 0, .int .i64 0] 25)).drew).mono ?_); rintro e w1 ⟨rfl, hm1⟩; have HM1 : Hid (Mod (fun _ => False) Wp w1) := Lib.hid ((((Mod.refl _ _).alloc _).drew).trans hm1 (fun _ _ h => h)); have hbb := ys.out w1 HM1.out; have b0 := hbb.1; have b1 := hbb.2.1; have b2 := hbb.2.2.1; have b3 := hbb.2.2.2.1; have b4 := hbb.2.2.2.2.1; have b5 := hbb.2.2.2.2.2; have HG1 : Hid (Blk w1 Wp.heap.size 25 #[.int .i64 0, .int .i64 0, .slice none 0 0, .int .i64 0, .int .i64 0, .int .i64 0]) := Lib.hid (hm1.blk (Blk.drew (Blk.new Wp _ _)) (fun h => h)); clear hm1 hbb)
          | (go_at_call 13; (with_reducible refine (HAdm.out w1 HM1.out).mono ?_); rintro e w2 ⟨A5, n5, c5, rfl, h1, h2⟩; have H1 := Lib.hid h1; have H2 := Lib.hid (HM1.out.trans h2 (fun _ _ h => h)); first | (have hg9 := h2.blk HG1.out (fun h => h); have Hg9 := Lib.hid hg9; have r0 := hg9.cell 0; have f0 := hg9.frozen 0; have r1 := hg9.cell 1; have f1 := hg9.frozen 1; have r2 := hg9.cell 2; have f2 := hg9.frozen 2; have r3 := hg9.cell 3; have f3 := hg9.frozen 3; have r4 := hg9.cell 4; have f4 := hg9.frozen 4; have r5 := hg9.cell 5; have f5 := hg9.frozen 5; simp at r0 r1 r2 r3 r4 r5; clear hg9; clear h1 h2) | clear h1 h2)
          | (go_at_call 13; (with_reducible refine (HAdm.out (w1.alloc (.cells #[.int .i64 0, .int .i64 0, .slice none 0 0, .int .i64 0, .int .i64 0, .int .i64 0] 25)) (HM1.out.alloc _)).mono ?_); rintro e w2 ⟨A5, n5, c5, rfl, h1, h2⟩; have H1 := Lib.hid (OwnP.mono h1 (show w1.heap.size ≤ _ by simp)); have H2 := Lib.hid ((HM1.out.alloc _).trans h2 (fun _ _ h => h)); have hg9 := h2.blk (Blk.new w1 _ _) (fun h => h); have Hg9 := Lib.hid hg9; have r0 := hg9.cell 0; have f0 := hg9.frozen 0; have r1 := hg9.cell 1; have f1 := hg9.frozen 1; have r2 := hg9.cell 2; have f2 := hg9.frozen 2; have r3 := hg9.cell 3; have f3 := hg9.frozen 3; have r4 := hg9.cell 4; have f4 := hg9.frozen 4; have r5 := hg9.cell 5; have f5 := hg9.frozen 5; simp at r0 r1 r2 r3 r4 r5; clear hg9; clear h1 h2))
        all_goals (go_wp2_with fail; go_meet)
        all_goals (
          have hB1 := HM1.out.size
          refine ⟨_, c2, A5, n5, c5, rfl, Hgd2.out, ?_⟩
          first
            | (have h8 := HG1.out; exact clk_over c2 rfl Hg9.out (Nat.le_refl _) H1.out hB1 H2.out)
            | (have h9 := Hg9.out; exact clk_over c2 rfl Hg9.out hB1 H1.out hB1 H2.out)
            | exact clk_new c2 rfl H1.out hB1 H2.out)
    case rest =>
      obtain ⟨gb, b, Ab, nb, cb, rfl, hgd, hc, hm, hgl⟩ := hcut
      obtain ⟨Wn, rfl⟩ : ∃ w0 : World, w0 = wc := ⟨_, rfl⟩
      have Hcb := Lib.hid hc; have Hmb := Lib.hid hm; have Hgdb := Lib.hid hgd
      have HMp2 := Lib.hid (HMp.out.trans hm (fun _ _ h => h))
      have Hlb := Lib.hid ((HMp.out.size : W1.heap.size ≤ Wp.heap.size))
      clear hc hm hgl hgd
      clear HMp
      have HMp := HMp2
      clear HMp2
      obtain ⟨Wb, rfl⟩ : ∃ w0 : World, w0 = Wp := ⟨_, rfl⟩
      obtain ⟨Wp, rfl⟩ : ∃ w0 : World, w0 = Wn := ⟨_, rfl⟩
      go_upto_region 4 with fail
      go_cut [14] from 14 to 48 (fun s14 wx => ∃ gx c2 A5 n5 c5, s14 = .pointer (some ⟨gx, 0, none⟩) ∧ Good c2 ∧ ClkV Wp.heap.size gx wx (.slice A5 n5 c5) c2 ∧ Mod (fun _ => False) Wp wx ∧ Wp.heap.size ≤ gx)
      case first =>
        as_aux_lemma =>
          have ys : Hid (∀ W', Mod (fun _ => False) Wp W' → W'.cell? ⟨g7, 0, none⟩ = some (.int .i64 C.most) ∧ W'.cell? ⟨g7, 1, none⟩ = some (.int .i64 C.target) ∧ W'.cell? ⟨g7, 2, none⟩ = some (.slice A N cap) ∧ W'.cell? ⟨g7, 3, none⟩ = some (.int .i64 C.hot) ∧ W'.cell? ⟨g7, 4, none⟩ = some (.int .i64 C.cold) ∧ W'.cell? ⟨g7, 5, none⟩ = some (.int .i64 C.test)) := Lib.hid (fun W' h => (Hc7.out.new (HMp.out.trans h (fun _ _ h => h))).cells)
          obtain ⟨y0, y1, y2, y3, y4, y5⟩ := ys.out Wp (Mod.refl _ _)
          have y0a : ∀ o, (Wp.alloc o).cell? ⟨g7, 0, none⟩ = some (.int .i64 C.most) := fun o => (ys.out _ ((Mod.refl _ _).alloc o)).1
          have y1a : ∀ o, (Wp.alloc o).cell? ⟨g7, 1, none⟩ = some (.int .i64 C.target) := fun o => (ys.out _ ((Mod.refl _ _).alloc o)).2.1
          have y2a : ∀ o, (Wp.alloc o).cell? ⟨g7, 2, none⟩ = some (.slice A N cap) := fun o => (ys.out _ ((Mod.refl _ _).alloc o)).2.2.1
          have y3a : ∀ o, (Wp.alloc o).cell? ⟨g7, 3, none⟩ = some (.int .i64 C.hot) := fun o => (ys.out _ ((Mod.refl _ _).alloc o)).2.2.2.1
          have y4a : ∀ o, (Wp.alloc o).cell? ⟨g7, 4, none⟩ = some (.int .i64 C.cold) := fun o => (ys.out _ ((Mod.refl _ _).alloc o)).2.2.2.2.1
          have y5a : ∀ o, (Wp.alloc o).cell? ⟨g7, 5, none⟩ = some (.int .i64 C.test) := fun o => (ys.out _ ((Mod.refl _ _).alloc o)).2.2.2.2.2
          obtain ⟨⟨c2, ok⟩, hea⟩ : ∃ r, pinK C k 3 = r := ⟨_, rfl⟩
          have Hgd2 : Hid (Good c2) := Lib.hid (by have h := (pin_is Hg.out k 3).1; rw [hea] at h; exact h)
          have HAdm : Hid (∀ W', Mod (fun _ => False) Wp W' → Calls Try.prog 8 #[.agg #[.int .i64 C.most, .int .i64 C.target, .slice A N cap, .int .i64 (C.hot : Int), .int .i64 (C.cold : Int), .int .i64 (C.test : Int)], .agg #[.int .i64 k.s, .int .i64 k.l, .int .i64 k.b], .int .i64 3] W' fun e w' => ∃ A5 n5 c5, e = .returned (.tuple #[.agg #[.int .i64 c2.most, .int .i64 c2.target, .slice A5 n5 c5, .int .i64 (c2.hot : Int), .int .i64 (c2.cold : Int), .int .i64 (c2.test : Int)], .bool ok]) ∧ OwnP W'.heap.size w' 30 (.slice A5 n5 c5) c2.ps ∧ Mod (fun _ => False) W' w') := Lib.hid (fun W' h => by
            refine (pin_call C c2 k 3 ok hea Hg.out (by omega) Hpl.out (Hc7.out.new (HMp.out.trans h (fun _ _ h => h)))).mono ?_
            rintro e w' ⟨A5, n5, c5, rfl, h1, h3⟩
            exact ⟨A5, n5, c5, rfl, h1, h3⟩)
          clear hea
          go_region_with (first
            | (go_at_call 12; (with_reducible refine (HKY.out Wp.drew).mono ?_); rintro e w1 ⟨rfl, hm1⟩; have HM1 : Hid (Mod (fun _ => False) Wp w1) := Lib.hid (((Mod.refl _ _).drew).trans hm1 (fun _ _ h => h)); have hbb := ys.out w1 HM1.out; have b0 := hbb.1; have b1 := hbb.2.1; have b2 := hbb.2.2.1; have b3 := hbb.2.2.2.1; have b4 := hbb.2.2.2.2.1; have b5 := hbb.2.2.2.2.2; have hba := ys.out (w1.alloc (.cells #[.int .i64 0, .int .i64 0, .slice none 0 0, .int .i64 0, .int .i64 0, .int .i64 0] 25)) (HM1.out.alloc _); have ba0 := hba.1; have ba1 := hba.2.1; have ba2 := hba.2.2.1; have ba3 := hba.2.2.2.1; have ba4 := hba.2.2.2.2.1; have ba5 := hba.2.2.2.2.2; clear hm1 hbb hba)
            | (go_at_call 12; (with_reducible refine (HKY.out (Wp.alloc (.cells #[.int .i64 0, .int .i64 0, .slice none 0 0, .int .i64 0, .int .i64 0, .int .i64 0] 25)).drew).mono ?_); rintro e w1 ⟨rfl, hm1⟩; have HM1 : Hid (Mod (fun _ => False) Wp w1) := Lib.hid ((((Mod.refl _ _).alloc _).drew).trans hm1 (fun _ _ h => h)); have hbb := ys.out w1 HM1.out; have b0 := hbb.1; have b1 := hbb.2.1; have b2 := hbb.2.2.1; have b3 := hbb.2.2.2.1; have b4 := hbb.2.2.2.2.1; have b5 := hbb.2.2.2.2.2; have HG1 : Hid (Blk w1 Wp.heap.size 25 #[.int .i64 0, .int .i64 0, .slice none 0 0, .int .i64 0, .int .i64 0, .int .i64 0]) := Lib.hid (hm1.blk (Blk.drew (Blk.new Wp _ _)) (fun h => h)); clear hm1 hbb)
            | (go_at_call 8; (with_reducible refine (HAdm.out w1 HM1.out).mono ?_); rintro e w2 ⟨A5, n5, c5, rfl, h1, h2⟩; have H1 := Lib.hid h1; have H2 := Lib.hid (HM1.out.trans h2 (fun _ _ h => h)); first | (have hg9 := h2.blk HG1.out (fun h => h); have Hg9 := Lib.hid hg9; have r0 := hg9.cell 0; have f0 := hg9.frozen 0; have r1 := hg9.cell 1; have f1 := hg9.frozen 1; have r2 := hg9.cell 2; have f2 := hg9.frozen 2; have r3 := hg9.cell 3; have f3 := hg9.frozen 3; have r4 := hg9.cell 4; have f4 := hg9.frozen 4; have r5 := hg9.cell 5; have f5 := hg9.frozen 5; simp at r0 r1 r2 r3 r4 r5; clear hg9; clear h1 h2) | clear h1 h2)
            | (go_at_call 8; (with_reducible refine (HAdm.out (w1.alloc (.cells #[.int .i64 0, .int .i64 0, .slice none 0 0, .int .i64 0, .int .i64 0, .int .i64 0] 25)) (HM1.out.alloc _)).mono ?_); rintro e w2 ⟨A5, n5, c5, rfl, h1, h2⟩; have H1 := Lib.hid (OwnP.mono h1 (show w1.heap.size ≤ _ by simp)); have H2 := Lib.hid ((HM1.out.alloc _).trans h2 (fun _ _ h => h)); have hg9 := h2.blk (Blk.new w1 _ _) (fun h => h); have Hg9 := Lib.hid hg9; have r0 := hg9.cell 0; have f0 := hg9.frozen 0; have r1 := hg9.cell 1; have f1 := hg9.frozen 1; have r2 := hg9.cell 2; have f2 := hg9.frozen 2; have r3 := hg9.cell 3; have f3 := hg9.frozen 3; have r4 := hg9.cell 4; have f4 := hg9.frozen 4; have r5 := hg9.cell 5; have f5 := hg9.frozen 5; simp at r0 r1 r2 r3 r4 r5; clear hg9; clear h1 h2))
          all_goals (go_wp2_with fail; go_meet)
          all_goals (
            have hB1 := HM1.out.size
            refine ⟨_, c2, A5, n5, c5, rfl, Hgd2.out, ?_⟩
            first
              | (have h8 := HG1.out; exact clk_over c2 rfl Hg9.out (Nat.le_refl _) H1.out hB1 H2.out)
              | (have h9 := Hg9.out; exact clk_over c2 rfl Hg9.out hB1 H1.out hB1 H2.out)
              | exact clk_new c2 rfl H1.out hB1 H2.out)
      case rest =>
        obtain ⟨gd, d, Ad, nd, cd, rfl, hgd, hc, hm, hgl⟩ := hcut
        obtain ⟨Wn, rfl⟩ : ∃ w0 : World, w0 = wc := ⟨_, rfl⟩
        have Hcd := Lib.hid hc; have Hmd := Lib.hid hm; have Hgdd := Lib.hid hgd
        have HMp2 := Lib.hid (HMp.out.trans hm (fun _ _ h => h))
        have Hld := Lib.hid ((HMp.out.size : W1.heap.size ≤ Wp.heap.size))
        clear hc hm hgl hgd
        clear HMp
        have HMp := HMp2
        clear HMp2
        obtain ⟨Wd, rfl⟩ : ∃ w0 : World, w0 = Wp := ⟨_, rfl⟩
        obtain ⟨Wp, rfl⟩ : ∃ w0 : World, w0 = Wn := ⟨_, rfl⟩
        go_upto_region 5 with fail
        go_cut [16] from 16 to 55 (fun s16 wx => ∃ gx c2 A5 n5 c5, s16 = .pointer (some ⟨gx, 0, none⟩) ∧ Good c2 ∧ ClkV Wp.heap.size gx wx (.slice A5 n5 c5) c2 ∧ Mod (fun _ => False) Wp wx ∧ Wp.heap.size ≤ gx)
        case first =>
          as_aux_lemma =>
            have ys : Hid (∀ W', Mod (fun _ => False) Wp W' → W'.cell? ⟨g7, 0, none⟩ = some (.int .i64 C.most) ∧ W'.cell? ⟨g7, 1, none⟩ = some (.int .i64 C.target) ∧ W'.cell? ⟨g7, 2, none⟩ = some (.slice A N cap) ∧ W'.cell? ⟨g7, 3, none⟩ = some (.int .i64 C.hot) ∧ W'.cell? ⟨g7, 4, none⟩ = some (.int .i64 C.cold) ∧ W'.cell? ⟨g7, 5, none⟩ = some (.int .i64 C.test)) := Lib.hid (fun W' h => (Hc7.out.new (HMp.out.trans h (fun _ _ h => h))).cells)
            obtain ⟨y0, y1, y2, y3, y4, y5⟩ := ys.out Wp (Mod.refl _ _)
            have y0a : ∀ o, (Wp.alloc o).cell? ⟨g7, 0, none⟩ = some (.int .i64 C.most) := fun o => (ys.out _ ((Mod.refl _ _).alloc o)).1
            have y1a : ∀ o, (Wp.alloc o).cell? ⟨g7, 1, none⟩ = some (.int .i64 C.target) := fun o => (ys.out _ ((Mod.refl _ _).alloc o)).2.1
            have y2a : ∀ o, (Wp.alloc o).cell? ⟨g7, 2, none⟩ = some (.slice A N cap) := fun o => (ys.out _ ((Mod.refl _ _).alloc o)).2.2.1
            have y3a : ∀ o, (Wp.alloc o).cell? ⟨g7, 3, none⟩ = some (.int .i64 C.hot) := fun o => (ys.out _ ((Mod.refl _ _).alloc o)).2.2.2.1
            have y4a : ∀ o, (Wp.alloc o).cell? ⟨g7, 4, none⟩ = some (.int .i64 C.cold) := fun o => (ys.out _ ((Mod.refl _ _).alloc o)).2.2.2.2.1
            have y5a : ∀ o, (Wp.alloc o).cell? ⟨g7, 5, none⟩ = some (.int .i64 C.test) := fun o => (ys.out _ ((Mod.refl _ _).alloc o)).2.2.2.2.2
            obtain ⟨⟨c2, ok⟩, hea⟩ : ∃ r, dropK C k = r := ⟨_, rfl⟩
            have Hgd2 : Hid (Good c2) := Lib.hid (by have h := (drop_is Hg.out k).1; rw [hea] at h; exact h)
            have HAdm : Hid (∀ W', Mod (fun _ => False) Wp W' → Calls Try.prog 14 #[.agg #[.int .i64 C.most, .int .i64 C.target, .slice A N cap, .int .i64 (C.hot : Int), .int .i64 (C.cold : Int), .int .i64 (C.test : Int)], .agg #[.int .i64 k.s, .int .i64 k.l, .int .i64 k.b]] W' fun e w' => ∃ A5 n5 c5, e = .returned (.tuple #[.agg #[.int .i64 c2.most, .int .i64 c2.target, .slice A5 n5 c5, .int .i64 (c2.hot : Int), .int .i64 (c2.cold : Int), .int .i64 (c2.test : Int)], .bool ok]) ∧ OwnP W'.heap.size w' 30 (.slice A5 n5 c5) c2.ps ∧ Mod (fun _ => False) W' w') := Lib.hid (fun W' h => by
              refine (drop_call C c2 k ok hea Hg.out (Hc7.out.new (HMp.out.trans h (fun _ _ h => h)))).mono ?_
              rintro e w' ⟨A5, n5, c5, rfl, h1, h3⟩
              exact ⟨A5, n5, c5, rfl, h1, h3⟩)
            clear hea
            go_region_with (first
              | (go_at_call 12; (with_reducible refine (HKY.out Wp.drew).mono ?_); rintro e w1 ⟨rfl, hm1⟩; have HM1 : Hid (Mod (fun _ => False) Wp w1) := Lib.hid (((Mod.refl _ _).drew).trans hm1 (fun _ _ h => h)); have hbb := ys.out w1 HM1.out; have b0 := hbb.1; have b1 := hbb.2.1; have b2 := hbb.2.2.1; have b3 := hbb.2.2.2.1; have b4 := hbb.2.2.2.2.1; have b5 := hbb.2.2.2.2.2; have hba := ys.out (w1.alloc (.cells #[.int .i64 0, .int .i64 0, .slice none 0 0, .int .i64 0, .int .i64 0, .int .i64 0] 25)) (HM1.out.alloc _); have ba0 := hba.1; have ba1 := hba.2.1; have ba2 := hba.2.2.1; have ba3 := hba.2.2.2.1; have ba4 := hba.2.2.2.2.1; have ba5 := hba.2.2.2.2.2; clear hm1 hbb hba)
              | (go_at_call 12; (with_reducible refine (HKY.out (Wp.alloc (.cells #[.int .i64 0, .int .i64 0, .slice none 0 0, .int .i64 0, .int .i64 0, .int .i64 0] 25)).drew).mono ?_); rintro e w1 ⟨rfl, hm1⟩; have HM1 : Hid (Mod (fun _ => False) Wp w1) := Lib.hid ((((Mod.refl _ _).alloc _).drew).trans hm1 (fun _ _ h => h)); have hbb := ys.out w1 HM1.out; have b0 := hbb.1; have b1 := hbb.2.1; have b2 := hbb.2.2.1; have b3 := hbb.2.2.2.1; have b4 := hbb.2.2.2.2.1; have b5 := hbb.2.2.2.2.2; have HG1 : Hid (Blk w1 Wp.heap.size 25 #[.int .i64 0, .int .i64 0, .slice none 0 0, .int .i64 0, .int .i64 0, .int .i64 0]) := Lib.hid (hm1.blk (Blk.drew (Blk.new Wp _ _)) (fun h => h)); clear hm1 hbb)
              | (go_at_call 14; (with_reducible refine (HAdm.out w1 HM1.out).mono ?_); rintro e w2 ⟨A5, n5, c5, rfl, h1, h2⟩; have H1 := Lib.hid h1; have H2 := Lib.hid (HM1.out.trans h2 (fun _ _ h => h)); first | (have hg9 := h2.blk HG1.out (fun h => h); have Hg9 := Lib.hid hg9; have r0 := hg9.cell 0; have f0 := hg9.frozen 0; have r1 := hg9.cell 1; have f1 := hg9.frozen 1; have r2 := hg9.cell 2; have f2 := hg9.frozen 2; have r3 := hg9.cell 3; have f3 := hg9.frozen 3; have r4 := hg9.cell 4; have f4 := hg9.frozen 4; have r5 := hg9.cell 5; have f5 := hg9.frozen 5; simp at r0 r1 r2 r3 r4 r5; clear hg9; clear h1 h2) | clear h1 h2)
              | (go_at_call 14; (with_reducible refine (HAdm.out (w1.alloc (.cells #[.int .i64 0, .int .i64 0, .slice none 0 0, .int .i64 0, .int .i64 0, .int .i64 0] 25)) (HM1.out.alloc _)).mono ?_); rintro e w2 ⟨A5, n5, c5, rfl, h1, h2⟩; have H1 := Lib.hid (OwnP.mono h1 (show w1.heap.size ≤ _ by simp)); have H2 := Lib.hid ((HM1.out.alloc _).trans h2 (fun _ _ h => h)); have hg9 := h2.blk (Blk.new w1 _ _) (fun h => h); have Hg9 := Lib.hid hg9; have r0 := hg9.cell 0; have f0 := hg9.frozen 0; have r1 := hg9.cell 1; have f1 := hg9.frozen 1; have r2 := hg9.cell 2; have f2 := hg9.frozen 2; have r3 := hg9.cell 3; have f3 := hg9.frozen 3; have r4 := hg9.cell 4; have f4 := hg9.frozen 4; have r5 := hg9.cell 5; have f5 := hg9.frozen 5; simp at r0 r1 r2 r3 r4 r5; clear hg9; clear h1 h2))
            all_goals (go_wp2_with fail; go_meet)
            all_goals (
              have hB1 := HM1.out.size
              refine ⟨_, c2, A5, n5, c5, rfl, Hgd2.out, ?_⟩
              first
                | (have h8 := HG1.out; exact clk_over c2 rfl Hg9.out (Nat.le_refl _) H1.out hB1 H2.out)
                | (have h9 := Hg9.out; exact clk_over c2 rfl Hg9.out hB1 H1.out hB1 H2.out)
                | exact clk_new c2 rfl H1.out hB1 H2.out)
        case rest =>
          obtain ⟨ge, e, Ae, ne, ce, rfl, hgd, hc, hm, hgl⟩ := hcut
          obtain ⟨Wn, rfl⟩ : ∃ w0 : World, w0 = wc := ⟨_, rfl⟩
          have Hce := Lib.hid hc; have Hme := Lib.hid hm; have Hgde := Lib.hid hgd
          have HMp2 := Lib.hid (HMp.out.trans hm (fun _ _ h => h))
          have Hle := Lib.hid ((HMp.out.size : W1.heap.size ≤ Wp.heap.size))
          clear hc hm hgl hgd
          clear HMp
          have HMp := HMp2
          clear HMp2
          obtain ⟨We, rfl⟩ : ∃ w0 : World, w0 = Wp := ⟨_, rfl⟩
          obtain ⟨Wp, rfl⟩ : ∃ w0 : World, w0 = Wn := ⟨_, rfl⟩
          have hca := Hca.out
          have hcb := Hcb.out
          have hcd := Hcd.out
          have hce := Hce.out
          have sa := hca.lt
          have sb := hcb.lt
          have sd := hcd.lt
          have se := hce.lt
          have mab := Hmb.out.size
          have mbd := Hmd.out.size
          have mde := Hme.out.size
          have hca5 := ((hca.new Hmb.out).new Hmd.out).new Hme.out
          have hcb5 := (hcb.new Hmd.out).new Hme.out
          have hcd5 := hcd.new Hme.out
          have La := Hla.out; have Lb := Hlb.out; have Ld := Hld.out; have Le := Hle.out
          have Hrows : Hid (RowsP W1.heap.size Wp [(a, Aa, na, ca), (b, Ab, nb, cb), (d, Ad, nd, cd), (e, Ae, ne, ce)]) := Lib.hid (fun x hx => by
            simp only [List.mem_cons, List.not_mem_nil, or_false] at hx
            rcases hx with rfl | rfl | rfl | rfl
            · exact ⟨a.ps, (by have := own_len hca5.ps; rwa [List.length_map] at this), OwnP.mono hca5.ps La⟩
            · exact ⟨b.ps, (by have := own_len hcb5.ps; rwa [List.length_map] at this), OwnP.mono hcb5.ps Lb⟩
            · exact ⟨d.ps, (by have := own_len hcd5.ps; rwa [List.length_map] at this), OwnP.mono hcd5.ps Ld⟩
            · exact ⟨e.ps, (by have := own_len hce.ps; rwa [List.length_map] at this), OwnP.mono hce.ps Le⟩)
          have Hapart : Hid (ApartX [(a, Aa, na, ca), (b, Ab, nb, cb), (d, Ad, nd, cd), (e, Ae, ne, ce)]) := Lib.hid (by
            unfold ApartX
            simp only [List.pairwise_cons, List.mem_cons, List.not_mem_nil, or_false, forall_eq_or_imp, forall_eq, List.Pairwise.nil, and_true]
            refine ⟨⟨?_, ?_, ?_⟩, ⟨?_, ?_⟩, ?_, ?_⟩
            · intro k h1 h2; have := sa k h1; have := sb k h2; omega
            · intro k h1 h2; have := sa k h1; have := sd k h2; omega
            · intro k h1 h2; have := sa k h1; have := se k h2; omega
            · intro k h1 h2; have := sb k h1; have := sd k h2; omega
            · intro k h1 h2; have := sb k h1; have := se k h2; omega
            · intro k h1 h2; have := sd k h1; have := se k h2; omega
            · intro x hx; exact hx.elim)
          have Hca5 := Lib.hid hca5; have Hcb5 := Lib.hid hcb5; have Hcd5 := Lib.hid hcd5
          clear hca hcb hcd hce sa sb sd se mab mbd mde hca5 hcb5 hcd5 La Lb Ld Le
          obtain ⟨ya0, ya1, ya2, ya3, ya4, ya5⟩ := Hca5.out.cells
          obtain ⟨yb0, yb1, yb2, yb3, yb4, yb5⟩ := Hcb5.out.cells
          obtain ⟨yd0, yd1, yd2, yd3, yd4, yd5⟩ := Hcd5.out.cells
          obtain ⟨ye0, ye1, ye2, ye3, ye4, ye5⟩ := Hce.out.cells
          obtain ⟨W6, hW6, hm6, hb6, hz6⟩ := Blk.boxed Wp 25 #[.int .i64 a.most, .int .i64 a.target, .slice Aa na ca, .int .i64 (a.hot : Int), .int .i64 (a.cold : Int), .int .i64 (a.test : Int), .int .i64 b.most, .int .i64 b.target, .slice Ab nb cb, .int .i64 (b.hot : Int), .int .i64 (b.cold : Int), .int .i64 (b.test : Int), .int .i64 d.most, .int .i64 d.target, .slice Ad nd cd, .int .i64 (d.hot : Int), .int .i64 (d.cold : Int), .int .i64 (d.test : Int), .int .i64 e.most, .int .i64 e.target, .slice Ae ne ce, .int .i64 (e.hot : Int), .int .i64 (e.cold : Int), .int .i64 (e.test : Int)]
          obtain ⟨gs, hgs⟩ : ∃ g, g = Wp.heap.size := ⟨_, rfl⟩
          rw [← hgs] at hb6
          obtain ⟨L, hL⟩ : ∃ L, L = [(a, Aa, na, ca), (b, Ab, nb, cb), (d, Ad, nd, cd), (e, Ae, ne, ce)] := ⟨_, rfl⟩
          have hown : OwnK 6 gs W6 25 (.slice (some ⟨gs, 0, none⟩) 4 4) (L.map rowX) := OwnK.of_blk hb6 (Nat.le_refl _) (by rw [hL]; rfl) (Nat.le_refl _) (by decide) rfl (rowX_all _) (by rw [hL]; rfl)
          have Hlen : Hid (∀ x ∈ L, x.2.2.1 ≤ 2000) := Lib.hid (fun x hx => by
            rw [hL] at hx
            simp only [List.mem_cons, List.not_mem_nil, or_false] at hx
            rcases hx with rfl | rfl | rfl | rfl
            · have h := own_len Hca5.out.ps; rw [List.length_map] at h; have h9 : a.ps.length ≤ 2000 := Hgda.out.len; show na ≤ 2000; omega
            · have h := own_len Hcb5.out.ps; rw [List.length_map] at h; have h9 : b.ps.length ≤ 2000 := Hgdb.out.len; show nb ≤ 2000; omega
            · have h := own_len Hcd5.out.ps; rw [List.length_map] at h; have h9 : d.ps.length ≤ 2000 := Hgdd.out.len; show nd ≤ 2000; omega
            · have h := own_len Hce.out.ps; rw [List.length_map] at h; have h9 : e.ps.length ≤ 2000 := Hgde.out.len; show ne ≤ 2000; omega)
          rw [← hL] at Hrows Hapart
          have Hr6 := Lib.hid (Hrows.out.new hm6)
          have Hs6 := Lib.hid hown; have HW6 := Lib.hid hW6; have Hgs := Lib.hid hgs; have HL := Lib.hid (show L.length = 4 by rw [hL]; rfl)
          have Hm6 : Hid (Mod (fun _ => False) W1 W6) := Lib.hid (HMp.out.trans hm6 (fun _ _ h => h))
          have Hgs1 : Hid (W1.heap.size ≤ gs) := Lib.hid (by have := HMp.out.size; omega)
          clear hW6 hgs hown hm6 hb6 hz6 hL Hca Hcb Hcd Hce Hca5 Hcb5 Hcd5 Hma Hmb Hmd Hme Hla Hlb Hld Hle Hrows Hgda Hgdb Hgdd Hgde
          go_upto_region 6 with fail
          go_wp2_with fail
          rw [← HW6.out, ← Hgs.out]
          clear ya0 ya1 ya2 ya3 ya4 ya5 yb0 yb1 yb2 yb3 yb4 yb5 yd0 yd1 yd2 yd3 yd4 yd5 ye0 ye1 ye2 ye3 ye4 ye5
          go_loopg [62] 4 (fun k s62 wr => ∃ i : Nat, i + k = 4 ∧ s62 = .int .i64 (i : Int) ∧ RowsP W1.heap.size wr L ∧ OwnK 6 gs wr 25 (.slice (some ⟨gs, 0, none⟩) 4 4) (L.map rowX) ∧ Mod (fun j => W1.heap.size ≤ j) W1 wr)
          case atStart => exact ⟨0, by omega, rfl, Hr6.out, Hs6.out, Hm6.out.mono (fun _ _ h => h.elim)⟩
          case round =>
            obtain ⟨i, hik, rfl, hr, hs, hm⟩ := hrel
            have Hik := Lib.hid hik; have Hr := Lib.hid hr; have Hs := Lib.hid hs; have Hm := Lib.hid hm
            obtain ⟨go1, rfl⟩ : ∃ go1 : Nat, go1 = gk := ⟨_, rfl⟩
            clear hik hr hs hm HW6 Hgs
            by_cases hin : i < 4
            · as_aux_lemma =>
                obtain ⟨wo, rfl⟩ : ∃ w0 : World, w0 = wr := ⟨_, rfl⟩
                have hin' : (i : Int) < 4 := by omega
                obtain ⟨ad, x, e1, hx, c0, c1, c2, c3, c4, c5⟩ := clocks_at (OwnK.rds Hs.out (by rw [List.length_map]; exact HL.out)) hin
                injection e1 with e1
                subst e1
                simp only [add_addr, Nat.zero_add] at c0 c1 c2 c3 c4 c5
                have Hx := Lib.hid hx
                have hxl := Hlen.out x (List.mem_of_getElem? hx)
                obtain ⟨ps0, hl0, ho0⟩ := Hr.out x (List.mem_of_getElem? hx)
                obtain ⟨x, Ax, nx, cx⟩ := x
                simp only at c0 c1 c2 c3 c4 c5 hl0 ho0 hxl
                obtain ⟨Wb, hWb, hmb, hbb, hzb⟩ := Blk.boxed wo 25 #[.int .i64 x.most, .int .i64 x.target, .slice Ax nx cx, .int .i64 (x.hot : Int), .int .i64 (x.cold : Int), .int .i64 (x.test : Int)]
                obtain ⟨g19, hg19⟩ : ∃ g, g = wo.heap.size := ⟨_, rfl⟩
                rw [← hg19] at hbb
                have y2 := hbb.cell 2
                simp at y2
                have Hmb := Lib.hid hmb; have Hbb := Lib.hid hbb; have HWb := Lib.hid hWb; have Hg19 := Lib.hid hg19; have Hl0 := Lib.hid hl0; have Ho0 := Lib.hid (OwnP.mod ho0 hmb); have Hoo := Lib.hid ho0; have Hxl := Lib.hid hxl
                clear hx hWb hmb hbb hzb hg19 hl0 ho0 hxl
                go_upto_region 9 with fail
                rw [← HWb.out, ← Hg19.out]
                clear c0 c1 c2 c3 c4 c5
                go_wp2_with fail
                clear y2
                go_loopg [69] nx (fun k s69 wr => ∃ (j : Nat) (ps : List PagN), j + k = nx ∧ s69 = .int .i64 (j : Int) ∧ ps.length = nx ∧ OwnP W1.heap.size wr 30 (.slice Ax nx cx) ps ∧ Mod (fun k => blkX (x, Ax, nx, cx) = some k) Wb wr)
                case atStart => exact ⟨0, ps0, by omega, rfl, Hl0.out, Ho0.out, Mod.refl _ _⟩
                case round =>
                  obtain ⟨j, ps, hjk, rfl, hl, ho, hm⟩ := hrel
                  have hb := hm.blk Hbb.out (fun e => own_blk_ne Ho0.out.2 Hbb.out (by decide) e)
                  have y2 := hb.cell 2
                  simp at y2
                  have Hjk := Lib.hid hjk; have Hl := Lib.hid hl; have Hm8 := Lib.hid hm; have Ho8 := Lib.hid ho; have Hb8 := Lib.hid hb
                  clear hjk hl hm ho hb
                  by_cases hjn : j < nx
                  · have hj2 : (j : Int) ≤ 100000 := by have := Hxl.out; omega
                    obtain ⟨pg, cap', e', _, _, hpg, _⟩ := OwnP.form' Ho8.out (by have := Hl.out; omega)
                    injection e' with e1 e2 e3
                    subst e1
                    have hp : ps[j]? = some ps[j] := List.getElem?_eq_getElem (by have := Hl.out; omega)
                    obtain ⟨p, hpe⟩ : ∃ p, ps[j]'(by have := Hl.out; omega) = p := ⟨_, rfl⟩
                    rw [hpe] at hp
                    obtain ⟨⟨o1, e1, d1⟩, f1, h1⟩ := OwnP.put_ (q := { p with pins := 77 }) (j := 6) (u := .int .i64 77) Ho8.out Hl.out hp (by decide) rfl
                    have hl1 : (ps.set j { p with pins := 77 }).length = nx := by rw [List.length_set]; exact Hl.out
                    have hp1 : (ps.set j { p with pins := 77 })[j]? = some { p with pins := 77 } := by rw [List.getElem?_set_self (by have := Hl.out; omega)]
                    obtain ⟨⟨o2, e2', d2⟩, f2, h2⟩ := OwnP.put_ (q := { p with pins := 77, ref := !p.ref }) (j := 4) (u := .bool (!p.ref)) h1 hl1 hp1 (by decide) rfl
                    obtain rfl : Value.int .i64 p.pins = o1 := by have h : some (Value.int .i64 p.pins) = some o1 := e1; injection h
                    obtain rfl : Value.bool p.ref = o2 := by have h : some (Value.bool p.ref) = some o2 := e2'; injection h
                    have hm1 : Mod (fun k => k = pg) wr (wr.setCell ⟨pg, j * 7 + 6, none⟩ (.int .i64 77)) := mod_oneCell _ _ _ _
                    have y2b := (hm1.blk Hb8.out (by intro e; exact own_blk_ne Ho8.out.2 Hb8.out (by decide) (by rw [e]; rfl))).cell 2
                    simp at y2b
                    have hm2 : Mod (fun k => k = pg) wr ((wr.setCell ⟨pg, j * 7 + 6, none⟩ (.int .i64 77)).setCell ⟨pg, j * 7 + 4, none⟩ (.bool (!p.ref))) := hm1.trans (mod_oneCell _ _ _ _) (fun _ _ h => h)
                    have hat7 : (⟨pg, 0, none⟩ : Addr).add (j * 7) = ⟨pg, j * 7, none⟩ := by rw [add_addr, Nat.zero_add]
                    have hl2 : ((ps.set j { p with pins := 77 }).set j { p with pins := 77, ref := !p.ref }).length = nx := by rw [List.length_set]; exact hl1
                    have hjn' : (j : Int) < (nx : Int) := by omega
                    have HM2 := Lib.hid (Hm8.out.trans (hm2.mono (S' := fun k => blkX (x, some ⟨pg, 0, none⟩, nx, cx) = some k) (fun k _ h => by rw [h]; rfl)) (fun _ _ h => h))
                    obtain ⟨rf, hrf⟩ : ∃ rf, p.ref = rf := ⟨_, rfl⟩
                    obtain ⟨W12, hW12⟩ : ∃ W12, W12 = wr.setCell ⟨pg, j * 7 + 6, none⟩ (.int .i64 77) := ⟨_, rfl⟩
                    rw [← hW12] at y2b d2 f2 HM2 h2
                    rw [hrf] at d2 HM2 h2 hl2
                    have HO2 := Lib.hid h2; have HL2 := Lib.hid hl2
                    have HW12 := Lib.hid hW12
                    clear hp hpe h1 hl1 hp1 h2 hm1 hm2 hl2 hpg hW12 hrf e1 e2'
                    go_upto_region 13 with fail
                    rw [← HW12.out]
                    clear d1 f1 y2
                    go_region
                    all_goals (
                      go_wp2_with fail
                      go_roundg (gk - 1)
                      case measure => have := Hjk.out; omega
                      case rel => exact ⟨j + 1, _, by have := Hjk.out; omega, by go_num, HL2.out, HO2.out.drew, HM2.out.drew⟩)
                  · have hjn' : ¬ (j : Int) < (nx : Int) := by omega
                    clear y2
                    go_wp2_with fail
                    go_roundg (go1 - 1)
                    case measure => have := Hik.out; omega
                    case rel =>
                      have hmx : Mod (fun k => blkX (x, Ax, nx, cx) = some k) wo wr := (Hmb.out.mono (fun _ _ h => h.elim)).trans Hm8.out (fun _ _ h => h)
                      obtain ⟨cur, hcur, _⟩ := Hs.out.blk
                      refine ⟨i + 1, by have := Hik.out; omega, by go_num, Hr.out.poke Hapart.out Hx.out Hl.out Ho8.out hmx, ?_, Hm.out.trans (hmx.mono (S' := fun j => W1.heap.size ≤ j) (fun k _ e => (OwnK.block Hoo.out k e).1)) (fun _ _ h => h)⟩
                      exact OwnK.modS Hs.out hmx (fun k hk e => by
                        have hk' : some gs = some k := hk
                        injection hk' with hk'
                        exact own_blk_ne Hoo.out.2 hcur (by decide) (by rw [hk']; exact e))
            · as_aux_lemma =>
                have hin' : ¬ (i : Int) < 4 := by omega
                have hc7 := Hc7.out.modS Hm.out (fun k hk e => by
                  rcases hk with rfl | hk
                  · have := Hc7.out.blk.lt; omega
                  · have := (Hc7.out.lt k hk).2; omega)
                have hc8 := Hc8.out.modS Hm.out (fun k hk e => by
                  rcases hk with rfl | hk
                  · have := Hc8.out.blk.lt; omega
                  · have := (Hc8.out.lt k hk).2; omega)
                have HmZ : Hid (Mod (fun _ => False) w wr) := Lib.hid (HmW.out.trans Hm.out (fun j hj e => by have := HmW.out.size; omega))
                obtain ⟨y0, y1, y2, y3, y4, y5⟩ := hc7.cells
                obtain ⟨z0, z1, z2, z3, z4, z5⟩ := hc8.cells
                have hr7 : RdsP wr wr.heap.size A N C.ps := OwnK.rds hc7.ps (by rw [List.length_map]; exact HN.out)
                have hr8 : RdsP wr wr.heap.size A2 N C.ps := OwnK.rds hc8.ps (by rw [List.length_map]; exact HN.out)
                have Hr7 := Lib.hid hr7; have Hr8 := Lib.hid hr8
                have Hn5 : Hid (N ≤ 100000) := Lib.hid (by have := HN.out; have h9 : C.ps.length ≤ 2000 := Hg.out.len; omega)
                clear hc7 hc8 hr7 hr8
                go_wp2_with fail
                refine (rkSame_any C C A A2 N cap N cap2 wr Hr7.out Hr8.out Hn5.out Hn5.out).mono ?_
                have hd : decide (C = C) = true := decide_eq_true rfl
                rw [hd]
                rintro e w2 ⟨rfl, hm2⟩
                have Hm2 := Lib.hid (HmZ.out.trans hm2 (fun _ _ h => h))
                clear hm2 hd y0 y1 y2 y3 y4 y5 z0 z1 z2 z3 z4 z5
                go_wp2_with fail
                refine (ckAwake_any w2).mono ?_
                rintro e w3 ⟨rfl, hm3⟩
                have Hm3 := Lib.hid (Hm2.out.trans hm3 (fun _ _ h => h))
                clear hm3
                go_wp2_with fail
                go_ret
                exact ⟨rfl, Hm3.out⟩
end Go.Proofs.Ythogflfjdfcpeaa
