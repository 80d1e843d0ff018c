/- The texts Rd, Rs, Rq, one behind the other. -/
import Derived.Test.YthogflfjdfcpeaaMq1
import Derived.Test.YthogflfjdfcpeaaMq10
import Derived.Test.YthogflfjdfcpeaaMq9
/- The document's loose, and its come. -/
namespace Go.Proofs.Ythogflfjdfcpeaa
open Go.RowKit

set_option maxHeartbeats 2000000 in
set_option maxRecDepth 100000 in
theorem rkLoose2_any (B g : Nat) (vp vo : Value) (c : ClkN) (os : List KeyN) (w : World) (h : RngV B g w vp vo c os) (hb : ∀ p ∈ c.ps, OkP p) (hn : c.ps.length ≤ 100000) :
    Calls Try.prog 53 #[.pointer (some ⟨g, 0, none⟩), .int .i64 2] w fun e w' => e = .returned (.bool (c.ps.any isLoose)) ∧ Mod (fun _ => False) w w' := by
  obtain ⟨A, n, cap, rfl, Hnn, _, _, hR⟩ := h.form
  have Hr := Lib.hid h; have Hb := Lib.hid hb; have Hn := Lib.hid hn; have HR := Lib.hid hR
  clear h hb hn hR
  go_enter Try.func53, Try.ntmps53
  go_wp2_with fail
  go_loopg [5] n (fun k s5 wr => ∃ i : Nat, i + k = n ∧ s5 = .int .i64 (i : Int) ∧ (c.ps.take i).any isLoose = false ∧ Mod (fun _ => False) w wr)
  case atStart => exact ⟨0, by omega, rfl, by simp, Mod.refl _ _⟩
  case round =>
    obtain ⟨i, hik, rfl, hr, hm⟩ := hrel
    have Hik := Lib.hid hik; have Hq := Lib.hid hr; have Hm := Lib.hid hm
    have y2 := (Hr.out.new hm).cells.2.2.1
    clear hik hr hm
    by_cases hin : i < n
    · obtain ⟨ad, p, rfl, _, hp, c0, c1, c2, c3, c4, c5, c6⟩ := (HR.out.new Hm.out).at_ hin
      have Hany := Lib.hid (any_take (f := isLoose) hp)
      have Hat := Lib.hid (fun (hf : isLoose p = true) => any_at hp hf)
      have Hok := Lib.hid (Hb.out p (List.mem_of_getElem? hp))
      obtain ⟨⟨s, l, b⟩, kd, rf, tr, pn⟩ := p
      simp only at c0 c1 c2 c3 c4 c5 c6
      have hin' : (i : Int) < (n : Int) := by have := Hnn.out; omega
      have hin2 : (i : Int) ≤ 100000 := by have := Hnn.out; have := Hn.out; omega
      obtain ⟨W1, hW1, hm1, hb1, hz1⟩ := Blk.boxed wr 30 #[.int .i64 s, .int .i64 l, .int .i64 b, .int .i64 kd, .bool rf, .bool tr, .int .i64 pn]
      obtain ⟨g1, hg1⟩ : ∃ g, g = wr.heap.size := ⟨_, rfl⟩
      rw [← hg1] at hb1
      have y0 := hb1.cell 0
      have y1 := hb1.cell 1
      have y2 := hb1.cell 2
      have y3 := hb1.cell 3
      have y4 := hb1.cell 4
      have y5 := hb1.cell 5
      have y6 := hb1.cell 6
      simp at y0 y1 y2 y3 y4 y5 y6
      have HmW1 := Lib.hid (Hm.out.trans hm1 (fun _ _ h => h))
      have HW1 := Lib.hid hW1; have Hg1 := Lib.hid hg1
      clear hW1 hm1 hb1 hz1 hg1 hp
      go_upto_region 5 with fail
      rw [← HW1.out, ← Hg1.out]
      clear c0 c1 c2 c3 c4 c5 c6
      by_cases h0 : pn = 0
      · have b0 : ((pn : Int) == 0) = true := by simp [h0]
        by_cases h1 : kd = 2
        · have b1 : ((kd : Int) == 2) = true := by simp [h1]
          have Hyes : Hid (isLoose ⟨⟨s, l, b⟩, kd, rf, tr, pn⟩ = true) := Lib.hid (by simp [isLoose, h0, h1])
          clear h0 h1
          go_wp2_with fail
          go_ret
          exact ⟨by rw [Hat.out Hyes.out]; rfl, HmW1.out⟩
        · have b1 : ((kd : Int) == 2) = false := by simp [h1]
          have Hno : Hid (isLoose ⟨⟨s, l, b⟩, kd, rf, tr, pn⟩ = false) := Lib.hid (by simp [isLoose, h1])
          clear h0 h1
          go_wp2_with fail
          go_roundg (gk - 1)
          case measure => have := Hik.out; omega
          case rel => exact ⟨i + 1, by have := Hik.out; omega, by go_num, by rw [Hany.out, Hq.out, Hno.out]; rfl, HmW1.out⟩
      · have b0 : ((pn : Int) == 0) = false := by simp [h0]
        have Hno : Hid (isLoose ⟨⟨s, l, b⟩, kd, rf, tr, pn⟩ = false) := Lib.hid (by simp [isLoose, h0])
        clear h0
        go_wp2_with fail
        go_roundg (gk - 1)
        case measure => have := Hik.out; omega
        case rel => exact ⟨i + 1, by have := Hik.out; omega, by go_num, by rw [Hany.out, Hq.out, Hno.out]; rfl, HmW1.out⟩
    · have hin' : ¬ (i : Int) < (n : Int) := by omega
      have Hno : Hid (c.ps.any isLoose = false) := Lib.hid (by have h := Hq.out; rw [List.take_of_length_le (by have := Hnn.out; have := Hik.out; omega)] at h; exact h)
      go_wp2_with fail
      go_ret
      exact ⟨by rw [Hno.out]; rfl, Hm.out⟩
set_option maxHeartbeats 2000000 in
set_option maxRecDepth 100000 in
theorem rkLoose0_any (B g : Nat) (vp vo : Value) (c : ClkN) (os : List KeyN) (w : World) (h : RngV B g w vp vo c os) (hb : ∀ p ∈ c.ps, OkP p) (hn : c.ps.length ≤ 100000) :
    Calls Try.prog 53 #[.pointer (some ⟨g, 0, none⟩), .int .i64 0] w fun e w' => e = .returned (.bool (c.ps.any isFree)) ∧ Mod (fun _ => False) w w' := by
  obtain ⟨A, n, cap, rfl, Hnn, _, _, hR⟩ := h.form
  have Hr := Lib.hid h; have Hb := Lib.hid hb; have Hn := Lib.hid hn; have HR := Lib.hid hR
  clear h hb hn hR
  go_enter Try.func53, Try.ntmps53
  go_wp2_with fail
  go_loopg [5] n (fun k s5 wr => ∃ i : Nat, i + k = n ∧ s5 = .int .i64 (i : Int) ∧ (c.ps.take i).any isFree = false ∧ Mod (fun _ => False) w wr)
  case atStart => exact ⟨0, by omega, rfl, by simp, Mod.refl _ _⟩
  case round =>
    obtain ⟨i, hik, rfl, hr, hm⟩ := hrel
    have Hik := Lib.hid hik; have Hq := Lib.hid hr; have Hm := Lib.hid hm
    have y2 := (Hr.out.new hm).cells.2.2.1
    clear hik hr hm
    by_cases hin : i < n
    · obtain ⟨ad, p, rfl, _, hp, c0, c1, c2, c3, c4, c5, c6⟩ := (HR.out.new Hm.out).at_ hin
      have Hany := Lib.hid (any_take (f := isFree) hp)
      have Hat := Lib.hid (fun (hf : isFree p = true) => any_at hp hf)
      have Hok := Lib.hid (Hb.out p (List.mem_of_getElem? hp))
      obtain ⟨⟨s, l, b⟩, kd, rf, tr, pn⟩ := p
      simp only at c0 c1 c2 c3 c4 c5 c6
      have hin' : (i : Int) < (n : Int) := by have := Hnn.out; omega
      have hin2 : (i : Int) ≤ 100000 := by have := Hnn.out; have := Hn.out; omega
      obtain ⟨W1, hW1, hm1, hb1, hz1⟩ := Blk.boxed wr 30 #[.int .i64 s, .int .i64 l, .int .i64 b, .int .i64 kd, .bool rf, .bool tr, .int .i64 pn]
      obtain ⟨g1, hg1⟩ : ∃ g, g = wr.heap.size := ⟨_, rfl⟩
      rw [← hg1] at hb1
      have y0 := hb1.cell 0
      have y1 := hb1.cell 1
      have y2 := hb1.cell 2
      have y3 := hb1.cell 3
      have y4 := hb1.cell 4
      have y5 := hb1.cell 5
      have y6 := hb1.cell 6
      simp at y0 y1 y2 y3 y4 y5 y6
      have HmW1 := Lib.hid (Hm.out.trans hm1 (fun _ _ h => h))
      have HW1 := Lib.hid hW1; have Hg1 := Lib.hid hg1
      clear hW1 hm1 hb1 hz1 hg1 hp
      go_upto_region 5 with fail
      rw [← HW1.out, ← Hg1.out]
      clear c0 c1 c2 c3 c4 c5 c6
      by_cases h0 : pn = 0
      · have b0 : ((pn : Int) == 0) = true := by simp [h0]
        have b1 : ((kd : Int) == 0) = false := by have := Hok.out.1; simp only at this; simp; omega
        obtain ⟨r, hrr⟩ : ∃ r, PagN.resi ⟨⟨s, l, b⟩, kd, rf, tr, pn⟩ = r := ⟨_, rfl⟩
        have Hrr := Lib.hid hrr; have H0 := Lib.hid h0
        clear h0 hrr
        go_wp2_with fail
        refine (rres_any ⟨⟨s, l, b⟩, kd, rf, tr, pn⟩ W1).mono ?_
        rw [Hrr.out]
        rintro e w2 ⟨rfl, hm2⟩
        have Hm2 := Lib.hid (HmW1.out.trans hm2 (fun _ _ h => h))
        clear hm2
        cases r with
        | true =>
          have Hyes : Hid (isFree ⟨⟨s, l, b⟩, kd, rf, tr, pn⟩ = true) := Lib.hid (by unfold isFree; rw [Hrr.out]; simp [H0.out])
          go_wp2_with fail
          go_ret
          exact ⟨by rw [Hat.out Hyes.out]; rfl, Hm2.out⟩
        | false =>
          have Hno : Hid (isFree ⟨⟨s, l, b⟩, kd, rf, tr, pn⟩ = false) := Lib.hid (by unfold isFree; rw [Hrr.out]; rfl)
          go_wp2_with fail
          go_roundg (gk - 1)
          case measure => have := Hik.out; omega
          case rel => exact ⟨i + 1, by have := Hik.out; omega, by go_num, by rw [Hany.out, Hq.out, Hno.out]; rfl, Hm2.out⟩
      · have b0 : ((pn : Int) == 0) = false := by simp [h0]
        have Hno : Hid (isFree ⟨⟨s, l, b⟩, kd, rf, tr, pn⟩ = false) := Lib.hid (by simp [isFree, h0])
        clear h0
        go_wp2_with fail
        go_roundg (gk - 1)
        case measure => have := Hik.out; omega
        case rel => exact ⟨i + 1, by have := Hik.out; omega, by go_num, by rw [Hany.out, Hq.out, Hno.out]; rfl, HmW1.out⟩
    · have hin' : ¬ (i : Int) < (n : Int) := by omega
      have Hno : Hid (c.ps.any isFree = false) := Lib.hid (by have h := Hq.out; rw [List.take_of_length_le (by have := Hnn.out; have := Hik.out; omega)] at h; exact h)
      go_wp2_with fail
      go_ret
      exact ⟨by rw [Hno.out]; rfl, Hm.out⟩
theorem rk_lit {w : World} {g : Nat} {r : List Value} (h : Blk w g 30 r.toArray) (hr : r.length = 7) : RdsK 7 w (g + 1) (some ⟨g, 0, none⟩) 1 [r] :=
  ⟨rfl, AllK.cons hr (AllK.nil _), by simp [hr], fun _ => ⟨_, rfl, Nat.lt_succ_self _, fun j u hu => by rw [add_addr, Nat.zero_add, h.cell]; simpa using hu⟩⟩
set_option linter.unusedSimpArgs false in
set_option maxHeartbeats 8000000 in
set_option maxRecDepth 100000 in
theorem rkCome_any (B g : Nat) (vp vo : Value) (c : ClkN) (os : List KeyN) (p : PagN) (w : World) (h : RngV B g w vp vo c os) (hb : BaseK c) (hn : c.ps.length ≤ 100000) (hB : B ≤ w.heap.size) :
    Calls Try.prog 57 #[.pointer (some ⟨g, 0, none⟩), pagV p] w fun e w' => e = .returned (.tuple #[]) ∧ RngTo B g w w' vp vo (comeK c p) os := by
  obtain ⟨A, n, cap, rfl, Hnn, hnc, hcm, _⟩ := h.form
  obtain ⟨⟨s, l, b⟩, kd, rf, tr, pn⟩ := p
  unfold pagV
  dsimp only
  obtain ⟨W, hW, hmW, hbW, hzW⟩ := Blk.boxed w 30 #[.int .i64 s, .int .i64 l, .int .i64 b, .int .i64 kd, .bool rf, .bool tr, .int .i64 pn]
  obtain ⟨H0, hH0⟩ : ∃ g, g = w.heap.size := ⟨_, rfl⟩
  rw [← hH0] at hbW
  have Hr := Lib.hid (h.new hmW); have Hb := Lib.hid hb; have Hn := Lib.hid hn
  have HB : Hid (B ≤ W.heap.size) := Lib.hid (Nat.le_trans hB hmW.size)
  have HW := Lib.hid hW; have HmW := Lib.hid hmW; have HbW := Lib.hid hbW; have HH0 := Lib.hid hH0
  obtain ⟨y0, y1, y2, y3, y4, y5, y6⟩ := Hr.out.cells
  have x0 := HbW.out.cell 0
  have x1 := HbW.out.cell 1
  have x2 := HbW.out.cell 2
  have x3 := HbW.out.cell 3
  have x4 := HbW.out.cell 4
  have x5 := HbW.out.cell 5
  have x6 := HbW.out.cell 6
  simp at x0 x1 x2 x3 x4 x5 x6
  have fz := Hr.out.frozen
  have hgw := h.blk.lt
  have Hgw := Lib.hid hgw
  clear h hb hn hB hW hmW hbW hzW hH0 hgw
  go_enter Try.func57, Try.ntmps57
  go_upto_region 1 with fail
  rw [← HW.out, ← HH0.out]
  by_cases h0 : n = 0
  · have he : c.ps = [] := List.eq_nil_of_length_eq_zero (by have := Hnn.out; omega)
    have e1 : comeK c ⟨⟨s, l, b⟩, kd, rf, tr, pn⟩ = { c with ps := [⟨⟨s, l, b⟩, kd, rf, tr, pn⟩], hot := 0, cold := 0, test := 0 } := by unfold comeK; rw [if_pos he]
    have b0 : ((n : Int) == 0) = true := by simp [h0]
    have E1 := Lib.hid e1
    obtain ⟨L, hL⟩ : ∃ g, g = W.heap.size := ⟨_, rfl⟩
    have hgL : g ≠ L := by have := Hr.out.blk.lt; omega
    obtain ⟨W1, hW1⟩ : ∃ W1, W1 = W.alloc (.cells #[.int .i64 s, .int .i64 l, .int .i64 b, .int .i64 kd, .bool rf, .bool tr, .int .i64 pn] 30) := ⟨_, rfl⟩
    have hmL : Mod (fun _ => False) W W1 := by rw [hW1]; exact (Mod.refl _ _).alloc _
    have hbL : Blk W1 L 30 #[.int .i64 s, .int .i64 l, .int .i64 b, .int .i64 kd, .bool rf, .bool tr, .int .i64 pn] := by rw [hW1, hL]; exact Blk.new _ _ _
    have hro := (Hr.out.new hmL)
    obtain ⟨u0, u1, u2, u3, u4, u5, u6⟩ := hro.cells
    have fu := hro.frozen
    have ho : OwnP W.heap.size W1 30 (.slice (some ⟨L, 0, none⟩) 1 1) [⟨⟨s, l, b⟩, kd, rf, tr, pn⟩] := by
      have h := OwnK.of_blk (K := 7) (rows := [[Value.int .i64 s, Value.int .i64 l, Value.int .i64 b, Value.int .i64 kd, Value.bool rf, Value.bool tr, Value.int .i64 pn]]) hbL (B := W.heap.size) (n := 1) (cap := 1) (by omega) rfl (Nat.le_refl _) (by decide) rfl (AllK.cons rfl (AllK.nil _)) rfl
      exact h
    have hfin : RngV B g ((((W1.setCell ⟨g, 2, none⟩ (.slice (some ⟨L, 0, none⟩) 1 1)).setCell ⟨g, 3, none⟩ (.int .i64 0)).setCell ⟨g, 4, none⟩ (.int .i64 0)).setCell ⟨g, 5, none⟩ (.int .i64 0)) (.slice (some ⟨L, 0, none⟩) 1 1) vo { c with ps := [⟨⟨s, l, b⟩, kd, rf, tr, pn⟩], hot := 0, cold := 0, test := 0 } os ∧ Mod (fun k => k = g) W1 ((((W1.setCell ⟨g, 2, none⟩ (.slice (some ⟨L, 0, none⟩) 1 1)).setCell ⟨g, 3, none⟩ (.int .i64 0)).setCell ⟨g, 4, none⟩ (.int .i64 0)).setCell ⟨g, 5, none⟩ (.int .i64 0)) := by
      have h2 := RngV.rows hro.blk hro.out (ho.mono HB.out)
      have h3 := h2.num 3 (.int .i64 0) (c' := { c with ps := [⟨⟨s, l, b⟩, kd, rf, tr, pn⟩], hot := 0 }) rfl rfl
      have h4 := h3.num 4 (.int .i64 0) (c' := { c with ps := [⟨⟨s, l, b⟩, kd, rf, tr, pn⟩], hot := 0, cold := 0 }) rfl rfl
      have h5 := h4.num 5 (.int .i64 0) (c' := { c with ps := [⟨⟨s, l, b⟩, kd, rf, tr, pn⟩], hot := 0, cold := 0, test := 0 }) rfl rfl
      exact ⟨h5, (((mod_oneCell W1 g 2 _).trans (mod_oneCell _ g 3 _) (fun _ _ h => h)).trans (mod_oneCell _ g 4 _) (fun _ _ h => h)).trans (mod_oneCell _ g 5 _) (fun _ _ h => h)⟩
    have Hfin := Lib.hid hfin; have HmL := Lib.hid hmL; have HL := Lib.hid hL; have HW1 := Lib.hid hW1
    have ya : ∀ o, (W.alloc o).cell? ⟨g, 2, none⟩ = some (.slice A n cap) := fun o => (Hr.out.new ((Mod.refl _ W).alloc o)).cells.2.2.1
    have yb : ∀ o, (W.alloc o).cell? ⟨g, 3, none⟩ = some (.int .i64 c.hot) := fun o => (Hr.out.new ((Mod.refl _ W).alloc o)).cells.2.2.2.1
    have yc : ∀ o, (W.alloc o).cell? ⟨g, 4, none⟩ = some (.int .i64 c.cold) := fun o => (Hr.out.new ((Mod.refl _ W).alloc o)).cells.2.2.2.2.1
    have yd : ∀ o, (W.alloc o).cell? ⟨g, 5, none⟩ = some (.int .i64 c.test) := fun o => (Hr.out.new ((Mod.refl _ W).alloc o)).cells.2.2.2.2.2.1
    have ye : ∀ o i, (W.alloc o).frozen? ⟨g, i, none⟩ = false := fun o i => (Hr.out.new ((Mod.refl _ W).alloc o)).frozen i
    clear hfin hmL hL hbL hro ho hW1 he e1 h0 u0 u1 u2 u3 u4 u5 u6 fu
    go_wp2_with fail
    refine bodyPost_ret (results_none rfl _ _ _) rfl ?_
    rw [← HL.out, ← HW1.out]
    refine ⟨rfl, _, by rw [E1.out]; exact Hfin.out.1, ((HmW.out.trans HmL.out (fun _ _ h => h)).mono (fun _ _ h => h.elim)).trans Hfin.out.2 (fun _ _ h => .inl h), fun k hk => .inr (by
      have hk : some L = some k := hk
      injection hk with hk
      have := HmW.out.size
      have := HL.out
      omega)⟩
  · have b0 : ((n : Int) == 0) = false := by simp [h0]
    have hne : c.ps ≠ [] := fun e => h0 (by rw [← Hnn.out, e]; rfl)
    obtain ⟨hh, hhh⟩ : ∃ x, c.hot = x := ⟨_, rfl⟩
    have hlt : hh < n := by have := Hb.out.hot; have := Hnn.out; omega
    have Hhh := Lib.hid hhh; have Hne := Lib.hid hne; have Hlt := Lib.hid hlt
    clear h0 hne hhh
    have hR : RdsP W W.heap.size A n c.ps := OwnK.rds Hr.out.ps (by rw [List.length_map]; exact Hnn.out)
    have hn9 : n ≤ 100000 := by have := Hnn.out; have := Hn.out; omega
    obtain ⟨A8, hA8⟩ : ∃ A8, (if cap = hh then A else A.map (·.add (hh * 7))) = A8 := ⟨_, rfl⟩
    have hdr : RdsK 7 W W.heap.size A8 (n - hh) ((c.ps.drop hh).map pagC) := by rw [← hA8]; exact hR.drop (k := hh) (by omega) hnc
    have htk : RdsK 7 W W.heap.size A hh ((c.ps.take hh).map pagC) := hR.take (k := hh) (by omega)
    have HX : Hid (∀ W' : World, Mod (fun _ => False) W W' → W'.cell? ⟨g, 2, none⟩ = some (.slice A n cap) ∧ W'.cell? ⟨H0, 0, none⟩ = some (.int .i64 s) ∧ W'.cell? ⟨H0, 1, none⟩ = some (.int .i64 l) ∧ W'.cell? ⟨H0, 2, none⟩ = some (.int .i64 b) ∧ W'.cell? ⟨H0, 3, none⟩ = some (.int .i64 kd) ∧ W'.cell? ⟨H0, 4, none⟩ = some (.bool rf) ∧ W'.cell? ⟨H0, 5, none⟩ = some (.bool tr) ∧ W'.cell? ⟨H0, 6, none⟩ = some (.int .i64 pn)) := Lib.hid (fun W' hm => by
      have hb := hm.blk HbW.out (fun h => h)
      exact ⟨(Hr.out.new hm).cells.2.2.1, hb.cell 0, hb.cell 1, hb.cell 2, hb.cell 3, hb.cell 4, hb.cell 5, hb.cell 6⟩)
    have b1 : (hh : Int) ≤ (n : Int) := by omega
    have b2 : (hh : Int) ≤ (cap : Int) := by omega
    have b3 : (n : Int) ≤ (cap : Int) := by omega
    have b4 : ((n - hh : Nat) : Int) = (n : Int) - (hh : Int) := by omega
    have hr1 : ([] : List (List Value)).length + hh ≤ maxLen := by unfold maxLen; simp; omega
    have hr2 : (([] : List (List Value)).length + hh) * 48 ≤ 140737488355328 := by simp; omega
    have hlt1 : ((c.ps.take hh).map pagC).length = hh := by rw [List.length_map, List.length_take]; have := Hnn.out; omega
    have hr3 : (([] : List (List Value)) ++ (c.ps.take hh).map pagC).length + 1 ≤ maxLen := by rw [List.nil_append, hlt1]; unfold maxLen; omega
    have hr4 : ((([] : List (List Value)) ++ (c.ps.take hh).map pagC).length + 1) * 48 ≤ 140737488355328 := by rw [List.nil_append, hlt1]; omega
    have hr5 : ((([] : List (List Value)) ++ (c.ps.take hh).map pagC) ++ [[Value.int .i64 s, Value.int .i64 l, Value.int .i64 b, Value.int .i64 kd, Value.bool rf, Value.bool tr, Value.int .i64 pn]]).length + (n - hh) ≤ maxLen := by rw [List.nil_append, List.length_append, hlt1, List.length_singleton]; unfold maxLen; omega
    have hr6 : (((([] : List (List Value)) ++ (c.ps.take hh).map pagC) ++ [[Value.int .i64 s, Value.int .i64 l, Value.int .i64 b, Value.int .i64 kd, Value.bool rf, Value.bool tr, Value.int .i64 pn]]).length + (n - hh)) * 48 ≤ 140737488355328 := by rw [List.nil_append, List.length_append, hlt1, List.length_singleton]; omega
    have hone3 : ∀ u ∈ [[Value.int .i64 s, Value.int .i64 l, Value.int .i64 b, Value.int .i64 kd, Value.bool rf, Value.bool tr, Value.int .i64 pn]].flatten, u.oneCell' = true := by intro u hu; simp at hu; rcases hu with rfl | rfl | rfl | rfl | rfl | rfl | rfl <;> rfl
    have Htk := Lib.hid htk; have Hdr := Lib.hid hdr; have Hone1 := Lib.hid (pagC_one (c.ps.take hh)); have Hone2 := Lib.hid (pagC_one (c.ps.drop hh)); have Hone3 := Lib.hid hone3
    clear hR hdr htk hone3 hlt1
    rw [Hhh.out] at y3
    go_upto_region 4 with fail
    go_cut [] from 35 to 58 (fun wx => ∃ A' n' c', RngV B g wx (.slice A' n' c') vo { c with ps := c.ps.take hh ++ ⟨⟨s, l, b⟩, kd, rf, tr, pn⟩ :: c.ps.drop hh } os ∧ Mod (fun k => k = g) W wx ∧ ∀ k, (Value.slice A' n' c').ownBlock = some k → W.heap.size ≤ k)
    case first =>
      have S0 := HX.out _ (Mod.refl _ W).drew
      refine wp_region_T (fun W' => W'.cell? ⟨g, 2, none⟩ = some (.slice A n cap) ∧ W'.cell? ⟨H0, 0, none⟩ = some (.int .i64 s) ∧ W'.cell? ⟨H0, 1, none⟩ = some (.int .i64 l) ∧ W'.cell? ⟨H0, 2, none⟩ = some (.int .i64 b) ∧ W'.cell? ⟨H0, 3, none⟩ = some (.int .i64 kd) ∧ W'.cell? ⟨H0, 4, none⟩ = some (.bool rf) ∧ W'.cell? ⟨H0, 5, none⟩ = some (.bool tr) ∧ W'.cell? ⟨H0, 6, none⟩ = some (.int .i64 pn)) 21 (by kernel_rfl) S0 (fun hHeld => ?_)
      refine wpAnyT_take (i := 0) (v := ?_) rfl (by decide) (by kernel_rfl) (by kernel_rfl) (by kernel_rfl) (by kernel_rfl) (fun _ _ _ h => h) (Or.inl ⟨by rfl, ?_⟩) hHeld ?_
      rotate_left
      · (intro w hSw; (try dsimp only at hSw); go_simp; first | done | with_reducible rfl)
      simp only [Act.put, List.setIfInBounds_toArray, List.set_cons_zero, List.set_cons_succ]
      refine wpAnyT_take (i := 2) (v := ?_) rfl (by decide) (by kernel_rfl) (by kernel_rfl) (by kernel_rfl) (by kernel_rfl) (fun _ _ _ h => h) (Or.inl ⟨by rfl, ?_⟩) hHeld ?_
      rotate_left
      · (intro w hSw; (try dsimp only at hSw); go_simp; first | done | with_reducible rfl)
      simp only [Act.put, List.setIfInBounds_toArray, List.set_cons_zero, List.set_cons_succ]
      refine wpAnyT_take (i := 3) (v := ?_) rfl (by decide) (by kernel_rfl) (by kernel_rfl) (by kernel_rfl) (by kernel_rfl) (fun _ _ _ h => h) (Or.inl ⟨by rfl, ?_⟩) hHeld ?_
      rotate_left
      · (intro w hSw; (try dsimp only at hSw); go_simp; first | done | with_reducible rfl)
      simp only [Act.put, List.setIfInBounds_toArray, List.set_cons_zero, List.set_cons_succ]
      refine wpAnyT_take (i := 4) (v := ?_) rfl (by decide) (by kernel_rfl) (by kernel_rfl) (by kernel_rfl) (by kernel_rfl) (fun _ _ _ h => h) (Or.inl ⟨by rfl, ?_⟩) hHeld ?_
      rotate_left
      · (intro w hSw; (try dsimp only at hSw); go_simp; first | done | with_reducible rfl)
      simp only [Act.put, List.setIfInBounds_toArray, List.set_cons_zero, List.set_cons_succ]
      refine wpAnyT_take (i := 5) (v := ?_) rfl (by decide) (by kernel_rfl) (by kernel_rfl) (by kernel_rfl) (by kernel_rfl) (fun _ _ _ h => h) (Or.inl ⟨by rfl, ?_⟩) hHeld ?_
      rotate_left
      · (intro w hSw; (try dsimp only at hSw); go_simp; first | done | with_reducible rfl)
      simp only [Act.put, List.setIfInBounds_toArray, List.set_cons_zero, List.set_cons_succ]
      refine wpAnyT_take (i := 6) (v := ?_) rfl (by decide) (by kernel_rfl) (by kernel_rfl) (by kernel_rfl) (by kernel_rfl) (fun _ _ _ h => h) (Or.inl ⟨by rfl, ?_⟩) hHeld ?_
      rotate_left
      · (intro w hSw; (try dsimp only at hSw); go_simp; first | done | with_reducible rfl)
      simp only [Act.put, List.setIfInBounds_toArray, List.set_cons_zero, List.set_cons_succ]
      refine wpAnyT_take (i := 7) (v := ?_) rfl (by decide) (by kernel_rfl) (by kernel_rfl) (by kernel_rfl) (by kernel_rfl) (fun _ _ _ h => h) (Or.inl ⟨by rfl, ?_⟩) hHeld ?_
      rotate_left
      · (intro w hSw; (try dsimp only at hSw); go_simp; first | done | with_reducible rfl)
      simp only [Act.put, List.setIfInBounds_toArray, List.set_cons_zero, List.set_cons_succ]
      refine wpAnyT_take (i := 8) (v := ?_) rfl (by decide) (by kernel_rfl) (by kernel_rfl) (by kernel_rfl) (by kernel_rfl) (fun _ _ _ h => h) (Or.inl ⟨by rfl, ?_⟩) hHeld ?_
      rotate_left
      · (intro w hSw; (try dsimp only at hSw); go_simp; first | done | with_reducible rfl)
      simp only [Act.put, List.setIfInBounds_toArray, List.set_cons_zero, List.set_cons_succ]
      refine wpAnyT_take (i := 10) (v := ?_) rfl (by decide) (by kernel_rfl) (by kernel_rfl) (by kernel_rfl) (by kernel_rfl) (fun _ _ _ h => h) (Or.inl ⟨by rfl, ?_⟩) hHeld ?_
      rotate_left
      · (intro w hSw; (try dsimp only at hSw); go_simp; first | done | with_reducible rfl)
      simp only [Act.put, List.setIfInBounds_toArray, List.set_cons_zero, List.set_cons_succ]
      refine wpAnyT_take (i := 13) (v := ?_) rfl (by decide) (by kernel_rfl) (by kernel_rfl) (by kernel_rfl) (by kernel_rfl) (fun _ _ _ h => h) (Or.inl ⟨by rfl, ?_⟩) hHeld ?_
      rotate_left
      · (intro w hSw; (try dsimp only at hSw); go_simp; first | done | with_reducible rfl)
      simp only [Act.put, List.setIfInBounds_toArray, List.set_cons_zero, List.set_cons_succ]
      refine wpAnyT_take (i := 14) (v := ?_) rfl (by decide) (by kernel_rfl) (by kernel_rfl) (by kernel_rfl) (by kernel_rfl) (fun _ _ _ h => h) (Or.inl ⟨by rfl, ?_⟩) hHeld ?_
      rotate_left
      · (intro w hSw; (try dsimp only at hSw); go_simp; first | done | with_reducible rfl)
      simp only [Act.put, List.setIfInBounds_toArray, List.set_cons_zero, List.set_cons_succ]
      refine wpAnyT_take (i := 15) (v := ?_) rfl (by decide) (by kernel_rfl) (by kernel_rfl) (by kernel_rfl) (by kernel_rfl) (fun _ _ _ h => h) (Or.inl ⟨by rfl, ?_⟩) hHeld ?_
      rotate_left
      · (intro w hSw; (try dsimp only at hSw); go_simp; first | done | with_reducible rfl)
      simp only [Act.put, List.setIfInBounds_toArray, List.set_cons_zero, List.set_cons_succ]
      refine wpAnyT_take (i := 16) (v := ?_) rfl (by decide) (by kernel_rfl) (by kernel_rfl) (by kernel_rfl) (by kernel_rfl) (fun _ _ _ h => h) (Or.inl ⟨by rfl, ?_⟩) hHeld ?_
      rotate_left
      · (intro w hSw; (try dsimp only at hSw); go_simp; first | done | with_reducible rfl)
      simp only [Act.put, List.setIfInBounds_toArray, List.set_cons_zero, List.set_cons_succ]
      refine wpAnyT_take (i := 17) (v := ?_) rfl (by decide) (by kernel_rfl) (by kernel_rfl) (by kernel_rfl) (by kernel_rfl) (fun _ _ _ h => h) (Or.inl ⟨by rfl, ?_⟩) hHeld ?_
      rotate_left
      · (intro w hSw; (try dsimp only at hSw); go_simp; first | done | with_reducible rfl)
      simp only [Act.put, List.setIfInBounds_toArray, List.set_cons_zero, List.set_cons_succ]
      refine wpAnyT_take (i := 18) (v := ?_) rfl (by decide) (by kernel_rfl) (by kernel_rfl) (by kernel_rfl) (by kernel_rfl) (fun _ _ _ h => h) (Or.inl ⟨by rfl, ?_⟩) hHeld ?_
      rotate_left
      · (intro w hSw; (try dsimp only at hSw); go_simp; first | done | with_reducible rfl)
      simp only [Act.put, List.setIfInBounds_toArray, List.set_cons_zero, List.set_cons_succ]
      refine wpAnyT_take (i := 19) (v := ?_) rfl (by decide) (by kernel_rfl) (by kernel_rfl) (by kernel_rfl) (by kernel_rfl) (fun _ _ _ h => h) (Or.inl ⟨by rfl, ?_⟩) hHeld ?_
      rotate_left
      · (intro w hSw; (try dsimp only at hSw); go_simp; first | done | with_reducible rfl)
      simp only [Act.put, List.setIfInBounds_toArray, List.set_cons_zero, List.set_cons_succ]
      refine wpAnyT_ready (rs := [1, 11]) (by kernel_rfl) (by simp) (AllReadyT.cons rfl (fun K hK => ?_) (AllReadyT.cons rfl (fun K hK => ?_) AllReadyT.nil))
      · go_simp
        refine hK.out _ _ (HX.out _ (((Mod.refl _ W).alloc _).drew)) (fun hHeld => ?_)
        clear hK K
        obtain ⟨gE, hgE⟩ : ∃ g, g = W.heap.size := ⟨_, rfl⟩
        have HE : Hid (OwnK 7 W.heap.size (W.alloc (.cells #[] 30)).drew 30 (.slice (some ⟨gE, 0, none⟩) 0 0) []) := Lib.hid (by rw [hgE]; exact (own_litK (Nat.le_refl _)).drew)
        have HmE : Hid (Mod (fun _ => False) W (W.alloc (.cells #[] 30)).drew) := Lib.hid (((Mod.refl _ W).alloc _).drew)
        have HtkE := Lib.hid (Htk.out.new HmE.out)
        have hszE : W.heap.size ≤ ((W.alloc (.cells #[] 30)).drew).heap.size := HmE.out.size
        rw [← hgE]
        have HgE := Lib.hid hgE
        clear hgE
        refine wpAnyT_ready (rs := [9, 11]) (by kernel_rfl) (by simp) (AllReadyT.cons rfl (fun K hK => ?_) (AllReadyT.cons rfl (fun K hK => ?_) AllReadyT.nil))
        · refine step_appK (v := .slice (some ⟨gE, 0, none⟩) 0 0) (news := (c.ps.take hh).map pagC) rfl (.tmp 36) (.tmp 43) _ rfl eltPag rfl HE.out rfl HtkE.out Hone1.out hr1 hr2 hszE ?_
          intro v10 w10 HO10 HMo10 HOb10
          obtain ⟨A10, n10, c10, rfl, _⟩ := HO10.out.formN
          have hm10 : Mod (fun _ => False) W w10 := ((HmE.out.mono (fun _ _ h => h.elim) : Mod (fun j => W.heap.size ≤ j) W _).trans HMo10.out (fun j _ e => (HE.out.block j e).1)).mono (fun j hj h => by omega)
          refine hK.out _ _ (HX.out _ hm10) (fun hHeld => ?_)
          clear hK K
          have Hm10 := Lib.hid hm10
          clear hm10
          refine wpAnyT_ready (rs := [11]) (by kernel_rfl) (by simp) (AllReadyT.cons rfl (fun K hK => ?_) AllReadyT.nil)
          go_simp
          have Hm10x : Hid (Mod (fun _ => False) W (w10.alloc (.cells #[.int .i64 s, .int .i64 l, .int .i64 b, .int .i64 kd, .bool rf, .bool tr, .int .i64 pn] 30))) := Lib.hid (Hm10.out.alloc _)
          have HO10x := Lib.hid (HO10.out.alloc (.cells #[.int .i64 s, .int .i64 l, .int .i64 b, .int .i64 kd, .bool rf, .bool tr, .int .i64 pn] 30))
          have HLit : Hid (RdsK 7 (w10.alloc (.cells #[.int .i64 s, .int .i64 l, .int .i64 b, .int .i64 kd, .bool rf, .bool tr, .int .i64 pn] 30)) (w10.heap.size + 1) (some ⟨w10.heap.size, 0, none⟩) 1 [[Value.int .i64 s, Value.int .i64 l, Value.int .i64 b, Value.int .i64 kd, Value.bool rf, Value.bool tr, Value.int .i64 pn]]) := Lib.hid (rk_lit (Blk.new _ _ _) rfl)
          have hszx : W.heap.size ≤ (w10.alloc (.cells #[.int .i64 s, .int .i64 l, .int .i64 b, .int .i64 kd, .bool rf, .bool tr, .int .i64 pn] 30)).heap.size := Hm10x.out.size
          refine hK.out _ _ (HX.out _ Hm10x.out) (fun hHeld => ?_)
          clear hK K
          refine wpAnyT_ready (rs := [12]) (by kernel_rfl) (by simp) (AllReadyT.cons rfl (fun K hK => ?_) AllReadyT.nil)
          refine step_appK (v := .slice A10 n10 c10) (news := [[Value.int .i64 s, Value.int .i64 l, Value.int .i64 b, Value.int .i64 kd, Value.bool rf, Value.bool tr, Value.int .i64 pn]]) rfl (.tmp 44) (.tmp 46) _ rfl eltPag rfl HO10x.out rfl HLit.out Hone3.out hr3 hr4 hszx ?_
          intro v12 w12 HO12 HMo12 HOb12
          obtain ⟨A12, n12, c12, rfl, _⟩ := HO12.out.formN
          have hm12 : Mod (fun _ => False) W w12 := ((Hm10x.out.mono (fun _ _ h => h.elim) : Mod (fun j => W.heap.size ≤ j) W _).trans HMo12.out (fun j _ e => (HO10x.out.block j e).1)).mono (fun j hj h => by omega)
          refine hK.out _ _ (HX.out _ hm12) (fun hHeld => ?_)
          clear hK K
          have Hm12 := Lib.hid hm12
          have Hdr12 := Lib.hid (Hdr.out.new hm12)
          have hsz12 : W.heap.size ≤ w12.heap.size := hm12.size
          clear hm12
          refine wpAnyT_ready (rs := [20]) (by kernel_rfl) (by simp) (AllReadyT.cons rfl (fun K hK => ?_) AllReadyT.nil)
          refine step_appK (v := .slice A12 n12 c12) (news := (c.ps.drop hh).map pagC) rfl (.tmp 47) (.tmp 54) _ rfl eltPag rfl HO12.out rfl Hdr12.out Hone2.out hr5 hr6 hsz12 ?_
          intro v20 w20 HO20 HMo20 HOb20
          obtain ⟨A20, n20, c20, rfl, _⟩ := HO20.out.formN
          have hm20 : Mod (fun _ => False) W w20 := ((Hm12.out.mono (fun _ _ h => h.elim) : Mod (fun j => W.heap.size ≤ j) W w12).trans HMo20.out (fun j _ e => (HO12.out.block j e).1)).mono (fun j hj h => by omega)
          refine hK.out _ _ (HX.out _ hm20) (fun hHeld => ?_)
          clear hK K hHeld
          have k2 := (Hr.out.new hm20).cells.2.2.1
          have f2 := (Hr.out.new hm20).frozen 2
          have Hm20 := Lib.hid hm20
          clear hm20
          refine wpAnyT_rest (by kernel_rfl) ?_
          refine wpAny_take (i := 21) (v := ?_) rfl (by kernel_rfl) (by kernel_rfl) (by kernel_rfl) (fun _ _ _ h => h) (Or.inl ⟨by rfl, ?_⟩) ?_
          rotate_left
          · (intro w; go_simp; first | done | with_reducible rfl)
          simp only [Act.put, List.setIfInBounds_toArray, List.set_cons_zero, List.set_cons_succ]
          refine wpAny_take (i := 22) (v := ?_) rfl (by kernel_rfl) (by kernel_rfl) (by kernel_rfl) (fun _ _ _ h => h) (Or.inl ⟨by rfl, ?_⟩) ?_
          rotate_left
          · (intro w; go_simp; first | done | with_reducible rfl)
          simp only [Act.put, List.setIfInBounds_toArray, List.set_cons_zero, List.set_cons_succ]
          refine wpAny_take (i := 23) (v := ?_) rfl (by kernel_rfl) (by kernel_rfl) (by kernel_rfl) (fun _ _ _ h => h) (Or.inl ⟨by rfl, ?_⟩) ?_
          rotate_left
          · (intro w; go_simp; first | done | with_reducible rfl)
          simp only [Act.put, List.setIfInBounds_toArray, List.set_cons_zero, List.set_cons_succ]
          refine wpAny_ready (rs := [24]) (by kernel_rfl) (by simp) (AllReady.cons rfl (fun K hK => ?_) AllReady.nil)
          go_simp
          refine hK _ _ ?_
          clear hK K
          refine wpAny_done (by kernel_rfl) ?_ _
          go_wp2_with fail
          go_meet
          have hown : OwnP W.heap.size w20 30 (.slice A20 n20 c20) (c.ps.take hh ++ ⟨⟨s, l, b⟩, kd, rf, tr, pn⟩ :: c.ps.drop hh) := by
            have h := HO20.out
            have e : (([] : List (List Value)) ++ (c.ps.take hh).map pagC ++ [[Value.int .i64 s, Value.int .i64 l, Value.int .i64 b, Value.int .i64 kd, Value.bool rf, Value.bool tr, Value.int .i64 pn]]) ++ (c.ps.drop hh).map pagC = (c.ps.take hh ++ ⟨⟨s, l, b⟩, kd, rf, tr, pn⟩ :: c.ps.drop hh).map pagC := by simp [pagC]
            rw [e] at h
            exact h
          refine ⟨A20, n20, c20, RngV.rows (Hr.out.new Hm20.out).blk (Hr.out.new Hm20.out).out (hown.mono HB.out), (Hm20.out.mono (fun _ _ h => h.elim)).trans (mod_oneCell w20 g 2 _) (fun _ _ h => h), fun k hk => (OwnK.block hown k hk).1⟩
        · go_simp
          have HmL : Hid (Mod (fun _ => False) W ((W.alloc (.cells #[] 30)).alloc (.cells #[.int .i64 s, .int .i64 l, .int .i64 b, .int .i64 kd, .bool rf, .bool tr, .int .i64 pn] 30)).drew) := Lib.hid ((((Mod.refl _ W).alloc _).alloc _).drew)
          refine hK.out _ _ (HX.out _ HmL.out) (fun hHeld => ?_)
          clear hK K
          obtain ⟨gL, hgL⟩ : ∃ g, g = W.heap.size + 1 := ⟨_, rfl⟩
          have HbL : Hid (Blk ((W.alloc (.cells #[] 30)).alloc (.cells #[.int .i64 s, .int .i64 l, .int .i64 b, .int .i64 kd, .bool rf, .bool tr, .int .i64 pn] 30)).drew gL 30 #[.int .i64 s, .int .i64 l, .int .i64 b, .int .i64 kd, .bool rf, .bool tr, .int .i64 pn]) := Lib.hid (by
            have h := Blk.new (W.alloc (.cells #[] 30)) 30 #[.int .i64 s, .int .i64 l, .int .i64 b, .int .i64 kd, .bool rf, .bool tr, .int .i64 pn]
            rw [hgL]
            have h2 := h.drew
            simpa using h2)
          have HE2 : Hid (OwnK 7 W.heap.size ((W.alloc (.cells #[] 30)).alloc (.cells #[.int .i64 s, .int .i64 l, .int .i64 b, .int .i64 kd, .bool rf, .bool tr, .int .i64 pn] 30)).drew 30 (.slice (some ⟨gE, 0, none⟩) 0 0) []) := Lib.hid (by rw [HgE.out]; exact ((own_litK (Nat.le_refl _)).alloc _).drew)
          clear HE HmE HtkE hszE
          have HE := HE2
          have HmE := HmL
          have HtkE := Lib.hid (Htk.out.new HmE.out)
          have hszE : W.heap.size ≤ (((W.alloc (.cells #[] 30)).alloc (.cells #[.int .i64 s, .int .i64 l, .int .i64 b, .int .i64 kd, .bool rf, .bool tr, .int .i64 pn] 30)).drew).heap.size := HmE.out.size
          rw [← hgL]
          refine wpAnyT_ready (rs := [9]) (by kernel_rfl) (by simp) (AllReadyT.cons rfl (fun K hK => ?_) AllReadyT.nil)
          refine step_appK (v := .slice (some ⟨gE, 0, none⟩) 0 0) (news := (c.ps.take hh).map pagC) rfl (.tmp 36) (.tmp 43) _ rfl eltPag rfl HE.out rfl HtkE.out Hone1.out hr1 hr2 hszE ?_
          intro v10 w10 HO10 HMo10 HOb10
          obtain ⟨A10, n10, c10, rfl, _⟩ := HO10.out.formN
          have hm10 : Mod (fun _ => False) W w10 := ((HmE.out.mono (fun _ _ h => h.elim) : Mod (fun j => W.heap.size ≤ j) W _).trans HMo10.out (fun j _ e => (HE.out.block j e).1)).mono (fun j hj h => by omega)
          refine hK.out _ _ (HX.out _ hm10) (fun hHeld => ?_)
          clear hK K
          have hEL : gE ≠ gL := by rw [HgE.out, hgL]; omega
          have HLit : Hid (RdsK 7 w10 (gL + 1) (some ⟨gL, 0, none⟩) 1 [[Value.int .i64 s, Value.int .i64 l, Value.int .i64 b, Value.int .i64 kd, Value.bool rf, Value.bool tr, Value.int .i64 pn]]) := Lib.hid (rk_lit (HMo10.out.blk HbL.out (by intro h; injection h with h; exact hEL h)) rfl)
          have Hm10x := Lib.hid hm10
          have HO10x := HO10
          have hszx : W.heap.size ≤ w10.heap.size := hm10.size
          clear hm10
          refine wpAnyT_ready (rs := [12]) (by kernel_rfl) (by simp) (AllReadyT.cons rfl (fun K hK => ?_) AllReadyT.nil)
          refine step_appK (v := .slice A10 n10 c10) (news := [[Value.int .i64 s, Value.int .i64 l, Value.int .i64 b, Value.int .i64 kd, Value.bool rf, Value.bool tr, Value.int .i64 pn]]) rfl (.tmp 44) (.tmp 46) _ rfl eltPag rfl HO10x.out rfl HLit.out Hone3.out hr3 hr4 hszx ?_
          intro v12 w12 HO12 HMo12 HOb12
          obtain ⟨A12, n12, c12, rfl, _⟩ := HO12.out.formN
          have hm12 : Mod (fun _ => False) W w12 := ((Hm10x.out.mono (fun _ _ h => h.elim) : Mod (fun j => W.heap.size ≤ j) W _).trans HMo12.out (fun j _ e => (HO10x.out.block j e).1)).mono (fun j hj h => by omega)
          refine hK.out _ _ (HX.out _ hm12) (fun hHeld => ?_)
          clear hK K
          have Hm12 := Lib.hid hm12
          have Hdr12 := Lib.hid (Hdr.out.new hm12)
          have hsz12 : W.heap.size ≤ w12.heap.size := hm12.size
          clear hm12
          refine wpAnyT_ready (rs := [20]) (by kernel_rfl) (by simp) (AllReadyT.cons rfl (fun K hK => ?_) AllReadyT.nil)
          refine step_appK (v := .slice A12 n12 c12) (news := (c.ps.drop hh).map pagC) rfl (.tmp 47) (.tmp 54) _ rfl eltPag rfl HO12.out rfl Hdr12.out Hone2.out hr5 hr6 hsz12 ?_
          intro v20 w20 HO20 HMo20 HOb20
          obtain ⟨A20, n20, c20, rfl, _⟩ := HO20.out.formN
          have hm20 : Mod (fun _ => False) W w20 := ((Hm12.out.mono (fun _ _ h => h.elim) : Mod (fun j => W.heap.size ≤ j) W w12).trans HMo20.out (fun j _ e => (HO12.out.block j e).1)).mono (fun j hj h => by omega)
          refine hK.out _ _ (HX.out _ hm20) (fun hHeld => ?_)
          clear hK K hHeld
          have k2 := (Hr.out.new hm20).cells.2.2.1
          have f2 := (Hr.out.new hm20).frozen 2
          have Hm20 := Lib.hid hm20
          clear hm20
          refine wpAnyT_rest (by kernel_rfl) ?_
          refine wpAny_take (i := 21) (v := ?_) rfl (by kernel_rfl) (by kernel_rfl) (by kernel_rfl) (fun _ _ _ h => h) (Or.inl ⟨by rfl, ?_⟩) ?_
          rotate_left
          · (intro w; go_simp; first | done | with_reducible rfl)
          simp only [Act.put, List.setIfInBounds_toArray, List.set_cons_zero, List.set_cons_succ]
          refine wpAny_take (i := 22) (v := ?_) rfl (by kernel_rfl) (by kernel_rfl) (by kernel_rfl) (fun _ _ _ h => h) (Or.inl ⟨by rfl, ?_⟩) ?_
          rotate_left
          · (intro w; go_simp; first | done | with_reducible rfl)
          simp only [Act.put, List.setIfInBounds_toArray, List.set_cons_zero, List.set_cons_succ]
          refine wpAny_take (i := 23) (v := ?_) rfl (by kernel_rfl) (by kernel_rfl) (by kernel_rfl) (fun _ _ _ h => h) (Or.inl ⟨by rfl, ?_⟩) ?_
          rotate_left
          · (intro w; go_simp; first | done | with_reducible rfl)
          simp only [Act.put, List.setIfInBounds_toArray, List.set_cons_zero, List.set_cons_succ]
          refine wpAny_ready (rs := [24]) (by kernel_rfl) (by simp) (AllReady.cons rfl (fun K hK => ?_) AllReady.nil)
          go_simp
          refine hK _ _ ?_
          clear hK K
          refine wpAny_done (by kernel_rfl) ?_ _
          go_wp2_with fail
          go_meet
          have hown : OwnP W.heap.size w20 30 (.slice A20 n20 c20) (c.ps.take hh ++ ⟨⟨s, l, b⟩, kd, rf, tr, pn⟩ :: c.ps.drop hh) := by
            have h := HO20.out
            have e : (([] : List (List Value)) ++ (c.ps.take hh).map pagC ++ [[Value.int .i64 s, Value.int .i64 l, Value.int .i64 b, Value.int .i64 kd, Value.bool rf, Value.bool tr, Value.int .i64 pn]]) ++ (c.ps.drop hh).map pagC = (c.ps.take hh ++ ⟨⟨s, l, b⟩, kd, rf, tr, pn⟩ :: c.ps.drop hh).map pagC := by simp [pagC]
            rw [e] at h
            exact h
          refine ⟨A20, n20, c20, RngV.rows (Hr.out.new Hm20.out).blk (Hr.out.new Hm20.out).out (hown.mono HB.out), (Hm20.out.mono (fun _ _ h => h.elim)).trans (mod_oneCell w20 g 2 _) (fun _ _ h => h), fun k hk => (OwnK.block hown k hk).1⟩
      · go_simp
        refine hK.out _ _ (HX.out _ (((Mod.refl _ W).alloc _).drew)) (fun hHeld => ?_)
        clear hK K
        refine wpAnyT_ready (rs := [1]) (by kernel_rfl) (by simp) (AllReadyT.cons rfl (fun K hK => ?_) AllReadyT.nil)
        go_simp
        obtain ⟨gL, hgL⟩ : ∃ g, g = W.heap.size := ⟨_, rfl⟩
        have HmE : Hid (Mod (fun _ => False) W ((W.alloc (.cells #[.int .i64 s, .int .i64 l, .int .i64 b, .int .i64 kd, .bool rf, .bool tr, .int .i64 pn] 30)).alloc (.cells #[] 30)).drew) := Lib.hid ((((Mod.refl _ W).alloc _).alloc _).drew)
        have HbL : Hid (Blk ((W.alloc (.cells #[.int .i64 s, .int .i64 l, .int .i64 b, .int .i64 kd, .bool rf, .bool tr, .int .i64 pn] 30)).alloc (.cells #[] 30)).drew gL 30 #[.int .i64 s, .int .i64 l, .int .i64 b, .int .i64 kd, .bool rf, .bool tr, .int .i64 pn]) := Lib.hid (by rw [hgL]; exact ((Blk.new _ _ _).alloc _).drew)
        obtain ⟨gE, hgE⟩ : ∃ g, g = W.heap.size + 1 := ⟨_, rfl⟩
        have HE : Hid (OwnK 7 W.heap.size ((W.alloc (.cells #[.int .i64 s, .int .i64 l, .int .i64 b, .int .i64 kd, .bool rf, .bool tr, .int .i64 pn] 30)).alloc (.cells #[] 30)).drew 30 (.slice (some ⟨gE, 0, none⟩) 0 0) []) := Lib.hid (by
          have h := own_litK (K := 7) (B := W.heap.size) (w := W.alloc (.cells #[.int .i64 s, .int .i64 l, .int .i64 b, .int .i64 kd, .bool rf, .bool tr, .int .i64 pn] 30)) (e := 30) (by simp)
          rw [hgE]
          have h2 := h.drew
          simpa using h2)
        refine hK.out _ _ (HX.out _ HmE.out) (fun hHeld => ?_)
        clear hK K
        have HtkE := Lib.hid (Htk.out.new HmE.out)
        have hszE : W.heap.size ≤ (((W.alloc (.cells #[.int .i64 s, .int .i64 l, .int .i64 b, .int .i64 kd, .bool rf, .bool tr, .int .i64 pn] 30)).alloc (.cells #[] 30)).drew).heap.size := HmE.out.size
        rw [← hgE, ← hgL]
        refine wpAnyT_ready (rs := [9]) (by kernel_rfl) (by simp) (AllReadyT.cons rfl (fun K hK => ?_) AllReadyT.nil)
        refine step_appK (v := .slice (some ⟨gE, 0, none⟩) 0 0) (news := (c.ps.take hh).map pagC) rfl (.tmp 36) (.tmp 43) _ rfl eltPag rfl HE.out rfl HtkE.out Hone1.out hr1 hr2 hszE ?_
        intro v10 w10 HO10 HMo10 HOb10
        obtain ⟨A10, n10, c10, rfl, _⟩ := HO10.out.formN
        have hm10 : Mod (fun _ => False) W w10 := ((HmE.out.mono (fun _ _ h => h.elim) : Mod (fun j => W.heap.size ≤ j) W _).trans HMo10.out (fun j _ e => (HE.out.block j e).1)).mono (fun j hj h => by omega)
        refine hK.out _ _ (HX.out _ hm10) (fun hHeld => ?_)
        clear hK K
        have hEL : gE ≠ gL := by rw [hgE, hgL]; omega
        have HLit : Hid (RdsK 7 w10 (gL + 1) (some ⟨gL, 0, none⟩) 1 [[Value.int .i64 s, Value.int .i64 l, Value.int .i64 b, Value.int .i64 kd, Value.bool rf, Value.bool tr, Value.int .i64 pn]]) := Lib.hid (rk_lit (HMo10.out.blk HbL.out (by intro h; injection h with h; exact hEL h)) rfl)
        have Hm10x := Lib.hid hm10
        have HO10x := HO10
        have hszx : W.heap.size ≤ w10.heap.size := hm10.size
        clear hm10
        refine wpAnyT_ready (rs := [12]) (by kernel_rfl) (by simp) (AllReadyT.cons rfl (fun K hK => ?_) AllReadyT.nil)
        refine step_appK (v := .slice A10 n10 c10) (news := [[Value.int .i64 s, Value.int .i64 l, Value.int .i64 b, Value.int .i64 kd, Value.bool rf, Value.bool tr, Value.int .i64 pn]]) rfl (.tmp 44) (.tmp 46) _ rfl eltPag rfl HO10x.out rfl HLit.out Hone3.out hr3 hr4 hszx ?_
        intro v12 w12 HO12 HMo12 HOb12
        obtain ⟨A12, n12, c12, rfl, _⟩ := HO12.out.formN
        have hm12 : Mod (fun _ => False) W w12 := ((Hm10x.out.mono (fun _ _ h => h.elim) : Mod (fun j => W.heap.size ≤ j) W _).trans HMo12.out (fun j _ e => (HO10x.out.block j e).1)).mono (fun j hj h => by omega)
        refine hK.out _ _ (HX.out _ hm12) (fun hHeld => ?_)
        clear hK K
        have Hm12 := Lib.hid hm12
        have Hdr12 := Lib.hid (Hdr.out.new hm12)
        have hsz12 : W.heap.size ≤ w12.heap.size := hm12.size
        clear hm12
        refine wpAnyT_ready (rs := [20]) (by kernel_rfl) (by simp) (AllReadyT.cons rfl (fun K hK => ?_) AllReadyT.nil)
        refine step_appK (v := .slice A12 n12 c12) (news := (c.ps.drop hh).map pagC) rfl (.tmp 47) (.tmp 54) _ rfl eltPag rfl HO12.out rfl Hdr12.out Hone2.out hr5 hr6 hsz12 ?_
        intro v20 w20 HO20 HMo20 HOb20
        obtain ⟨A20, n20, c20, rfl, _⟩ := HO20.out.formN
        have hm20 : Mod (fun _ => False) W w20 := ((Hm12.out.mono (fun _ _ h => h.elim) : Mod (fun j => W.heap.size ≤ j) W w12).trans HMo20.out (fun j _ e => (HO12.out.block j e).1)).mono (fun j hj h => by omega)
        refine hK.out _ _ (HX.out _ hm20) (fun hHeld => ?_)
        clear hK K hHeld
        have k2 := (Hr.out.new hm20).cells.2.2.1
        have f2 := (Hr.out.new hm20).frozen 2
        have Hm20 := Lib.hid hm20
        clear hm20
        refine wpAnyT_rest (by kernel_rfl) ?_
        refine wpAny_take (i := 21) (v := ?_) rfl (by kernel_rfl) (by kernel_rfl) (by kernel_rfl) (fun _ _ _ h => h) (Or.inl ⟨by rfl, ?_⟩) ?_
        rotate_left
        · (intro w; go_simp; first | done | with_reducible rfl)
        simp only [Act.put, List.setIfInBounds_toArray, List.set_cons_zero, List.set_cons_succ]
        refine wpAny_take (i := 22) (v := ?_) rfl (by kernel_rfl) (by kernel_rfl) (by kernel_rfl) (fun _ _ _ h => h) (Or.inl ⟨by rfl, ?_⟩) ?_
        rotate_left
        · (intro w; go_simp; first | done | with_reducible rfl)
        simp only [Act.put, List.setIfInBounds_toArray, List.set_cons_zero, List.set_cons_succ]
        refine wpAny_take (i := 23) (v := ?_) rfl (by kernel_rfl) (by kernel_rfl) (by kernel_rfl) (fun _ _ _ h => h) (Or.inl ⟨by rfl, ?_⟩) ?_
        rotate_left
        · (intro w; go_simp; first | done | with_reducible rfl)
        simp only [Act.put, List.setIfInBounds_toArray, List.set_cons_zero, List.set_cons_succ]
        refine wpAny_ready (rs := [24]) (by kernel_rfl) (by simp) (AllReady.cons rfl (fun K hK => ?_) AllReady.nil)
        go_simp
        refine hK _ _ ?_
        clear hK K
        refine wpAny_done (by kernel_rfl) ?_ _
        go_wp2_with fail
        go_meet
        have hown : OwnP W.heap.size w20 30 (.slice A20 n20 c20) (c.ps.take hh ++ ⟨⟨s, l, b⟩, kd, rf, tr, pn⟩ :: c.ps.drop hh) := by
          have h := HO20.out
          have e : (([] : List (List Value)) ++ (c.ps.take hh).map pagC ++ [[Value.int .i64 s, Value.int .i64 l, Value.int .i64 b, Value.int .i64 kd, Value.bool rf, Value.bool tr, Value.int .i64 pn]]) ++ (c.ps.drop hh).map pagC = (c.ps.take hh ++ ⟨⟨s, l, b⟩, kd, rf, tr, pn⟩ :: c.ps.drop hh).map pagC := by simp [pagC]
          rw [e] at h
          exact h
        refine ⟨A20, n20, c20, RngV.rows (Hr.out.new Hm20.out).blk (Hr.out.new Hm20.out).out (hown.mono HB.out), (Hm20.out.mono (fun _ _ h => h.elim)).trans (mod_oneCell w20 g 2 _) (fun _ _ h => h), fun k hk => (OwnK.block hown k hk).1⟩
    case rest =>
      obtain ⟨A9, n9, c9, hr9, hm9, ho9⟩ := hcut
      have hg9 := hr9.cells
      have Hr9 := Lib.hid hr9; have Hm9 := Lib.hid hm9; have Ho9 := Lib.hid ho9
      obtain ⟨v0, v1, v2, v3, v4, v5, v6⟩ := hg9
      simp only at v3 v4 v5
      rw [Hhh.out] at v3
      have q3 := hr9.frozen 3
      have q4 := hr9.frozen 4
      have q5 := hr9.frozen 5
      have bh : (hh : Int) ≤ 1000000 := by omega
      have bc : (c.cold : Int) ≤ 1000000 := by have := Hb.out.cold; have := Hn.out; omega
      have bt : (c.test : Int) ≤ 1000000 := by have := Hb.out.test; have := Hn.out; omega
      have e1 : comeK c ⟨⟨s, l, b⟩, kd, rf, tr, pn⟩ = { c with ps := c.ps.take hh ++ ⟨⟨s, l, b⟩, kd, rf, tr, pn⟩ :: c.ps.drop hh, hot := hh + 1, cold := if hh ≤ c.cold then c.cold + 1 else c.cold, test := if hh ≤ c.test then c.test + 1 else c.test } := by unfold comeK; rw [if_neg Hne.out, Hhh.out]
      have E1 := Lib.hid e1
      clear hr9 hm9 ho9 e1 y0 y1 y2 y3 y4 y5 y6 x0 x1 x2 x3 x4 x5 x6 fz
      by_cases h1 : hh ≤ c.cold
      · by_cases h2 : hh ≤ c.test
        · have h3 := Hr9.out.num 3 (.int .i64 ((hh : Int) + 1)) (c' := { c with ps := c.ps.take hh ++ ⟨⟨s, l, b⟩, kd, rf, tr, pn⟩ :: c.ps.drop hh, hot := hh + 1 }) (by simp [ringC]) rfl
          have h4 := h3.num 4 (.int .i64 ((c.cold : Int) + 1)) (c' := { c with ps := c.ps.take hh ++ ⟨⟨s, l, b⟩, kd, rf, tr, pn⟩ :: c.ps.drop hh, hot := hh + 1, cold := c.cold + 1 }) (by simp [ringC]) rfl
          have h5 := h4.num 5 (.int .i64 ((c.test : Int) + 1)) (c' := { c with ps := c.ps.take hh ++ ⟨⟨s, l, b⟩, kd, rf, tr, pn⟩ :: c.ps.drop hh, hot := hh + 1, cold := c.cold + 1, test := c.test + 1 }) (by simp [ringC]) rfl
          have hm := (((mod_oneCell wc g 3 (.int .i64 ((hh : Int) + 1))).trans (mod_oneCell _ g 4 (.int .i64 ((c.cold : Int) + 1))) (fun _ _ h => h)).trans (mod_oneCell _ g 5 (.int .i64 ((c.test : Int) + 1))) (fun _ _ h => h))
          have Hfin := Lib.hid h5; have Hmf := Lib.hid hm
          clear h3 hm h4 h5
          have H1 := Lib.hid h1; have H2 := Lib.hid h2
          have k1 : (hh : Int) ≤ (c.cold : Int) := by omega
          have k2 : (hh : Int) ≤ (c.test : Int) := by omega
          clear h1 h2
          go_wp2_with fail
          go_end0
          refine ⟨rfl, _, ?_, ((HmW.out.mono (S' := fun k => k = g) (fun _ _ h => h.elim)).trans (Hm9.out.trans Hmf.out (fun _ _ h => h)) (fun _ _ h => h)).mono (fun _ _ h => .inl h), fun k hk => .inr (Nat.le_trans HmW.out.size (Ho9.out k hk))⟩
          rw [E1.out, if_pos H1.out, if_pos H2.out]
          exact Hfin.out
        · have h3 := Hr9.out.num 3 (.int .i64 ((hh : Int) + 1)) (c' := { c with ps := c.ps.take hh ++ ⟨⟨s, l, b⟩, kd, rf, tr, pn⟩ :: c.ps.drop hh, hot := hh + 1 }) (by simp [ringC]) rfl
          have h4 := h3.num 4 (.int .i64 ((c.cold : Int) + 1)) (c' := { c with ps := c.ps.take hh ++ ⟨⟨s, l, b⟩, kd, rf, tr, pn⟩ :: c.ps.drop hh, hot := hh + 1, cold := c.cold + 1 }) (by simp [ringC]) rfl
          have hm := ((mod_oneCell wc g 3 (.int .i64 ((hh : Int) + 1))).trans (mod_oneCell _ g 4 (.int .i64 ((c.cold : Int) + 1))) (fun _ _ h => h))
          have Hfin := Lib.hid h4; have Hmf := Lib.hid hm
          clear h3 hm h4
          have H1 := Lib.hid h1; have H2 := Lib.hid h2
          have k1 : (hh : Int) ≤ (c.cold : Int) := by omega
          have k2 : ¬ (hh : Int) ≤ (c.test : Int) := by omega
          clear h1 h2
          go_wp2_with fail
          go_end0
          refine ⟨rfl, _, ?_, ((HmW.out.mono (S' := fun k => k = g) (fun _ _ h => h.elim)).trans (Hm9.out.trans Hmf.out (fun _ _ h => h)) (fun _ _ h => h)).mono (fun _ _ h => .inl h), fun k hk => .inr (Nat.le_trans HmW.out.size (Ho9.out k hk))⟩
          rw [E1.out, if_pos H1.out, if_neg H2.out]
          exact Hfin.out
      · by_cases h2 : hh ≤ c.test
        · have h3 := Hr9.out.num 3 (.int .i64 ((hh : Int) + 1)) (c' := { c with ps := c.ps.take hh ++ ⟨⟨s, l, b⟩, kd, rf, tr, pn⟩ :: c.ps.drop hh, hot := hh + 1 }) (by simp [ringC]) rfl
          have h5 := h3.num 5 (.int .i64 ((c.test : Int) + 1)) (c' := { c with ps := c.ps.take hh ++ ⟨⟨s, l, b⟩, kd, rf, tr, pn⟩ :: c.ps.drop hh, hot := hh + 1, test := c.test + 1 }) (by simp [ringC]) rfl
          have hm := ((mod_oneCell wc g 3 (.int .i64 ((hh : Int) + 1))).trans (mod_oneCell _ g 5 (.int .i64 ((c.test : Int) + 1))) (fun _ _ h => h))
          have Hfin := Lib.hid h5; have Hmf := Lib.hid hm
          clear h3 hm h5
          have H1 := Lib.hid h1; have H2 := Lib.hid h2
          have k1 : ¬ (hh : Int) ≤ (c.cold : Int) := by omega
          have k2 : (hh : Int) ≤ (c.test : Int) := by omega
          clear h1 h2
          go_wp2_with fail
          go_end0
          refine ⟨rfl, _, ?_, ((HmW.out.mono (S' := fun k => k = g) (fun _ _ h => h.elim)).trans (Hm9.out.trans Hmf.out (fun _ _ h => h)) (fun _ _ h => h)).mono (fun _ _ h => .inl h), fun k hk => .inr (Nat.le_trans HmW.out.size (Ho9.out k hk))⟩
          rw [E1.out, if_neg H1.out, if_pos H2.out]
          exact Hfin.out
        · have h3 := Hr9.out.num 3 (.int .i64 ((hh : Int) + 1)) (c' := { c with ps := c.ps.take hh ++ ⟨⟨s, l, b⟩, kd, rf, tr, pn⟩ :: c.ps.drop hh, hot := hh + 1 }) (by simp [ringC]) rfl
          have hm := (mod_oneCell wc g 3 (.int .i64 ((hh : Int) + 1)))
          have Hfin := Lib.hid h3; have Hmf := Lib.hid hm
          clear h3 hm
          have H1 := Lib.hid h1; have H2 := Lib.hid h2
          have k1 : ¬ (hh : Int) ≤ (c.cold : Int) := by omega
          have k2 : ¬ (hh : Int) ≤ (c.test : Int) := by omega
          clear h1 h2
          go_wp2_with fail
          go_end0
          refine ⟨rfl, _, ?_, ((HmW.out.mono (S' := fun k => k = g) (fun _ _ h => h.elim)).trans (Hm9.out.trans Hmf.out (fun _ _ h => h)) (fun _ _ h => h)).mono (fun _ _ h => .inl h), fun k hk => .inr (Nat.le_trans HmW.out.size (Ho9.out k hk))⟩
          rw [E1.out, if_neg H1.out, if_neg H2.out]
          exact Hfin.out
end Go.Proofs.Ythogflfjdfcpeaa

/- The document's copy of a clock. -/
namespace Go.Proofs.Ythogflfjdfcpeaa
open Go.RowKit

set_option maxHeartbeats 1000000 in
set_option maxRecDepth 100000 in
theorem rkCopied_any (c : ClkN) (A : Option Addr) (n cap : Nat) (w : World) (hs : RdsP w w.heap.size A n c.ps) (hn : n ≤ 1000000) :
    Calls Try.prog 50 #[.agg (clkC c (.slice A n cap))] w fun e w' => ∃ vp, e = .returned (.agg (clkC c vp)) ∧ OwnP (w.heap.size + 2) w' 30 vp c.ps ∧ Mod (fun _ => False) w w' := by
  obtain ⟨m, t, ps, h, cl, ts⟩ := c
  unfold clkC
  dsimp only at hs ⊢
  obtain ⟨W, hW⟩ : ∃ W, W = (w.alloc (.cells #[.int .i64 m, .int .i64 t, .slice A n cap, .int .i64 (h : Int), .int .i64 (cl : Int), .int .i64 (ts : Int)] 25)).alloc (.cells #[.int .i64 0, .int .i64 0, .slice none 0 0, .int .i64 0, .int .i64 0, .int .i64 0] 25) := ⟨_, rfl⟩
  obtain ⟨g, hg⟩ : ∃ g, g = w.heap.size := ⟨_, rfl⟩
  obtain ⟨g2, hg2⟩ : ∃ g, g = w.heap.size + 1 := ⟨_, rfl⟩
  have hmW : Mod (fun _ => False) w W := by rw [hW]; exact ((Mod.refl _ _).alloc _).alloc _
  have hzW : W.heap.size = w.heap.size + 2 := by rw [hW]; simp
  have hbW : Blk W g 25 #[.int .i64 m, .int .i64 t, .slice A n cap, .int .i64 (h : Int), .int .i64 (cl : Int), .int .i64 (ts : Int)] := by rw [hW, hg]; exact (Blk.new _ _ _).alloc _
  have hrW : Blk W g2 25 #[.int .i64 0, .int .i64 0, .slice none 0 0, .int .i64 0, .int .i64 0, .int .i64 0] := by
    rw [hW, hg2]
    have h := Blk.new (w.alloc (.cells #[.int .i64 m, .int .i64 t, .slice A n cap, .int .i64 (h : Int), .int .i64 (cl : Int), .int .i64 (ts : Int)] 25)) 25 #[.int .i64 0, .int .i64 0, .slice none 0 0, .int .i64 0, .int .i64 0, .int .i64 0]
    simpa using h
  have y2 := hbW.cell 2
  simp at y2
  have Hown : Hid (OwnK 7 W.heap.size (W.alloc (.cells #[] 30)) 30 (.slice (some ⟨W.heap.size, 0, none⟩) 0 0) []) := Lib.hid (own_litK (Nat.le_refl _))
  have hsz : W.heap.size ≤ (W.alloc (.cells #[] 30)).heap.size := by simp
  have ya : ∀ o, (W.alloc o).cell? ⟨g, 2, none⟩ = some (.slice A n cap) := fun o => (((Mod.refl (fun _ => False) W).alloc o).cell (a := ⟨g, 2, none⟩) (World.block_lt_of_cell? W _ y2) (fun h => h)).trans y2
  have Hr := Lib.hid (RdsK.fit (RdsP.new (RdsP.new hs hmW) ((Mod.refl (fun _ => False) W).alloc (.cells #[] 30))))
  have Hone := Lib.hid (pagC_one ps)
  have Hl := Lib.hid hs.len
  have hr1 : ([] : List (List Value)).length + n ≤ maxLen := by unfold maxLen; simp; omega
  have hr2 : (([] : List (List Value)).length + n) * 48 ≤ 140737488355328 := by simp; omega
  have HW := Lib.hid hW; have HmW := Lib.hid hmW; have HbW := Lib.hid hbW; have HrW := Lib.hid hrW; have Hg := Lib.hid hg; have Hg2 := Lib.hid hg2; have HzW := Lib.hid hzW
  clear hW hmW hbW hrW hg hg2 hzW hs
  go_enter Try.func50, Try.ntmps50
  go_upto_region 1 with fail
  rw [← HW.out, ← Hg2.out, ← Hg.out]
  go_upto_region 2 with (at_builtin; refine wpList_appK (v := .slice (some ⟨W.heap.size, 0, none⟩) 0 0) rfl (.tmp 3) (.tmp 5) _ rfl eltPag rfl Hown.out rfl Hr.out Hone.out hr1 hr2 hsz ?_; intro v4 w4 HO HB HG; clear HG; obtain ⟨A4, L4, c4, rfl, HL4, _, _, _⟩ := HO.out.formN; have hb4 := (HbW.out.alloc (.cells #[] 30)).below HB.out (HbW.out.lt); have f2 := hb4.frozen 2; have z2 := hb4.cell 2; simp at z2; have Hb4 := Lib.hid hb4; clear hb4)
  obtain ⟨W5, hW5⟩ : ∃ W5, W5 = w4.setCell ⟨g, 2, none⟩ (.slice A4 L4 c4) := ⟨_, rfl⟩
  have hb5 : Blk W5 g 25 #[.int .i64 m, .int .i64 t, .slice A4 L4 c4, .int .i64 (h : Int), .int .i64 (cl : Int), .int .i64 (ts : Int)] := by rw [hW5]; exact Hb4.out.set_ 2 _
  have hr5 : Blk W5 g2 25 #[.int .i64 0, .int .i64 0, .slice none 0 0, .int .i64 0, .int .i64 0, .int .i64 0] := by rw [hW5]; exact ((HrW.out.alloc (.cells #[] 30)).below HB.out HrW.out.lt).far (p := ⟨g, 2, none⟩) (by have := Hg.out; have := Hg2.out; show g2 ≠ g; omega) _
  have hm45 : Mod (fun _ => False) w w4 := (HmW.out.trans ((Mod.refl (fun _ => False) W).alloc (.cells #[] 30)) (fun _ _ h => h)).trans (Mod.of_below HB.out) (fun i hi h => by have := HzW.out; omega)
  have hm5 : Mod (fun _ => False) w W5 := by rw [hW5]; exact hm45.trans (mod_oneCell w4 g 2 _) (fun i hi h => by have := Hg.out; omega)
  have ho5 : OwnK 7 (w.heap.size + 2) W5 30 (.slice A4 L4 c4) (ps.map pagC) := by
    have h1 := HO.out
    rw [List.nil_append] at h1
    have h2 := OwnK.modS h1 (mod_oneCell w4 g 2 (.slice A4 L4 c4)) (fun k hk h => by have := (OwnK.block h1 k hk).1; have := HzW.out; have := Hg.out; omega)
    rw [hW5]
    exact h2.mono (by have := HzW.out; omega)
  have z0 := hb5.cell 0
  have z1 := hb5.cell 1
  have z2 := hb5.cell 2
  have z3 := hb5.cell 3
  have z4 := hb5.cell 4
  have z5 := hb5.cell 5
  have r0 := hr5.cell 0
  have r1 := hr5.cell 1
  have r2 := hr5.cell 2
  have r3 := hr5.cell 3
  have r4 := hr5.cell 4
  have r5 := hr5.cell 5
  have q0 := hr5.frozen 0
  have q1 := hr5.frozen 1
  have q2 := hr5.frozen 2
  have q3 := hr5.frozen 3
  have q4 := hr5.frozen 4
  have q5 := hr5.frozen 5
  simp at z0 z1 z2 z3 z4 z5 r0 r1 r2 r3 r4 r5
  have HW5 := Lib.hid hW5; have Hr5 := Lib.hid hr5; have Hm5 := Lib.hid hm5; have Ho5 := Lib.hid ho5
  clear hW5 hb5 hr5 hm45 hm5 ho5
  rw [← HW5.out]
  go_wp2_with fail
  refine bodyPost_ret (v := .agg #[.int .i64 m, .int .i64 t, .slice A4 L4 c4, .int .i64 (h : Int), .int .i64 (cl : Int), .int .i64 (ts : Int)]) (by have hh := Hr5.out.six (.int .i64 m) (.int .i64 t) (.slice A4 L4 c4) (.int .i64 (h : Int)) (.int .i64 (cl : Int)) (.int .i64 (ts : Int)); simp [results, Try.results50, go_sem, hh.1, hh.2.1, hh.2.2.1, hh.2.2.2.1, hh.2.2.2.2.1, hh.2.2.2.2.2.1]) rfl ?_
  exact ⟨_, rfl, OwnK.modS Ho5.out (Mod.six_one _ _ _ _ _ _ _ _) (fun k hk h => by have := (OwnK.block Ho5.out k hk).1; have := Hg2.out; omega), Hm5.out.six_new (by have := Hg2.out; omega) _ _ _ _ _ _⟩
end Go.Proofs.Ythogflfjdfcpeaa

/- The document's Touch, Pin. -/
namespace Go.Proofs.Ythogflfjdfcpeaa
open Go.RowKit

set_option maxHeartbeats 4000000 in
set_option maxRecDepth 100000 in
theorem rkTouch_any (c : ClkN) (k : KeyN) (A : Option Addr) (n cap : Nat) (w : World) (hs : RdsP w w.heap.size A n c.ps) (hn : n ≤ 100000) :
    Calls Try.prog 36 #[.agg #[.int .i64 c.most, .int .i64 c.target, .slice A n cap, .int .i64 (c.hot : Int), .int .i64 (c.cold : Int), .int .i64 (c.test : Int)], .agg #[.int .i64 k.s, .int .i64 k.l, .int .i64 k.b]] w fun e w' => CkEnd w w' (touchK c k).1 (touchK c k).2 e := by
  obtain ⟨W, hW, hmW, hbW, hkW, hrW, hzW⟩ := three_boxes w #[.int .i64 c.most, .int .i64 c.target, .slice A n cap, .int .i64 (c.hot : Int), .int .i64 (c.cold : Int), .int .i64 (c.test : Int)] #[.int .i64 k.s, .int .i64 k.l, .int .i64 k.b] #[.int .i64 0, .int .i64 0, .slice none 0 0, .int .i64 0, .int .i64 0, .int .i64 0]
  obtain ⟨g0, hg0⟩ : ∃ g, g = w.heap.size := ⟨_, rfl⟩
  obtain ⟨g1, hg1⟩ : ∃ g, g = w.heap.size + 1 := ⟨_, rfl⟩
  obtain ⟨g2, hg2⟩ : ∃ g, g = w.heap.size + 2 := ⟨_, rfl⟩
  rw [← hg0] at hbW
  rw [← hg1] at hkW
  rw [← hg2] at hrW
  have y0 := hbW.cell 0
  have y1 := hbW.cell 1
  have y2 := hbW.cell 2
  have y3 := hbW.cell 3
  have y4 := hbW.cell 4
  have y5 := hbW.cell 5
  simp at y0 y1 y2 y3 y4 y5
  have Hs := Lib.hid (hs.new hmW).fit; have Hl := Lib.hid hs.len
  have HW := Lib.hid hW; have HmW := Lib.hid hmW; have HbW := Lib.hid hbW; have HkW := Lib.hid hkW; have HrW := Lib.hid hrW; have Hg0 := Lib.hid hg0; have Hg1 := Lib.hid hg1; have Hg2 := Lib.hid hg2; have HzW := Lib.hid hzW; have Hn := Lib.hid hn
  clear hs hW hmW hbW hkW hrW hg0 hg1 hg2 hzW hn
  go_enter Try.func36, Try.ntmps36
  go_upto_region 1 with fail
  rw [← HW.out, ← Hg2.out, ← Hg1.out, ← Hg0.out]
  go_wp2_with fail
  refine (rkCopied_any c A n cap W Hs.out (by have := Hn.out; omega)).mono ?_
  rintro e w1 ⟨vp, rfl, ho1, hm1⟩
  obtain ⟨A1, c1, rfl, hnc1, hcm1, hrd1⟩ := OwnP.form ho1
  obtain ⟨n1, hn1⟩ : ∃ n1, c.ps.length = n1 := ⟨_, rfl⟩
  rw [hn1] at ho1 hnc1 hrd1 ⊢
  dsimp only [clkC]
  obtain ⟨w2, hw2, hc2, hm2⟩ := clk_laid HbW.out rfl Hg0.out.symm HmW.out ho1 hm1
  have hk2 := hm2.blk HkW.out (by have := Hg0.out; have := Hg1.out; omega)
  have hb1 := hm1.blk HbW.out (fun h => h)
  have u0 := hb1.cell 0
  have u1 := hb1.cell 1
  have u2 := hb1.cell 2
  have u3 := hb1.cell 3
  have u4 := hb1.cell 4
  have u5 := hb1.cell 5
  have f0 := hb1.frozen 0
  have f1 := hb1.frozen 1
  have f2 := hb1.frozen 2
  have f3 := hb1.frozen 3
  have f4 := hb1.frozen 4
  have f5 := hb1.frozen 5
  simp at u0 u1 u2 u3 u4 u5
  have Hw2 := Lib.hid hw2; have Hc2 := Lib.hid hc2; have Hm2 := Lib.hid hm2; have Hn1 := Lib.hid hn1; have Hk2 := Lib.hid hk2
  have Hv1 : Hid (∀ j, (Value.slice A1 n1 c1).ownBlock = some j → W.heap.size ≤ j) := Lib.hid (fun j hj => (hc2.lt j hj).1)
  clear y0 y1 y2 y3 y4 y5 hw2 hc2 hm2 hk2 hn1 hb1 ho1 hm1 hnc1 hcm1 hrd1
  go_upto_region 2 with fail
  rw [← Hw2.out]
  clear u0 u1 u2 u3 u4 u5 f0 f1 f2 f3 f4 f5
  obtain ⟨y0, y1, y2, y3, y4, y5⟩ := Hc2.out.cells
  have z0 := Hk2.out.cell 0
  have z1 := Hk2.out.cell 1
  have z2 := Hk2.out.cell 2
  simp at z0 z1 z2
  have Hs2 : Hid (RdsP w2 w2.heap.size A1 n1 c.ps) := Lib.hid (OwnK.rds Hc2.out.ps (by rw [List.length_map]; exact Hn1.out))
  go_wp2_with fail
  refine (rkFind_any c k A1 n1 c1 w2 Hs2.out (by have := Hn1.out; have := Hl.out; have := Hn.out; omega)).mono ?_
  obtain ⟨z, hz⟩ : ∃ z, placeK k c.ps = z := ⟨_, rfl⟩
  rw [hz]
  rintro e w3 ⟨rfl, hm3⟩
  have Hc3 := Lib.hid (Hc2.out.new hm3)
  have Hm3 := Lib.hid (Hm2.out.trans hm3 (fun _ _ h => h.elim))
  clear hm3 y0 y1 y2 y3 y4 y5 z0 z1 z2
  unfold placeK at hz
  cases hf : findK k c.ps with
  | none =>
    rw [hf] at hz
    have Hrr : Hid (resAt c k = false) := Lib.hid (by unfold resAt; rw [hf])
    have gz : decide (z < 0) = true := decide_eq_true (by simp only at hz; omega)
    clear hf hz
    have hend := clk_end (b := false) Hg0.out.symm Hg2.out.symm HzW.out HmW.out HrW.out Hc3.out Hv1.out (Hm3.out.mono (fun _ _ h => .inl h))
    have Hb9 := Lib.hid hend.1; have HE9 := Lib.hid hend.2
    have q0 := hend.1.cell 0
    have q1 := hend.1.cell 1
    have q2 := hend.1.cell 2
    have q3 := hend.1.cell 3
    have q4 := hend.1.cell 4
    have q5 := hend.1.cell 5
    have p0 := hend.1.frozen 0
    have p1 := hend.1.frozen 1
    have p2 := hend.1.frozen 2
    have p3 := hend.1.frozen 3
    have p4 := hend.1.frozen 4
    have p5 := hend.1.frozen 5
    simp at q0 q1 q2 q3 q4 q5
    obtain ⟨y0, y1, y2, y3, y4, y5⟩ := Hc3.out.cells
    clear hend
    go_wp2_with fail
    refine bodyPost_ret (v := .tuple #[.agg #[.int .i64 c.most, .int .i64 c.target, (.slice A1 n1 c1), .int .i64 (c.hot : Int), .int .i64 (c.cold : Int), .int .i64 (c.test : Int)], .bool false]) (by have h := Hb9.out.six (.int .i64 c.most) (.int .i64 c.target) (.slice A1 n1 c1) (.int .i64 (c.hot : Int)) (.int .i64 (c.cold : Int)) (.int .i64 (c.test : Int)); simp [results, Try.results36, go_sem, h.1, h.2.1, h.2.2.1, h.2.2.2.1, h.2.2.2.2.1, h.2.2.2.2.2.1]) rfl ?_
    rw [touch_no Hrr.out]
    exact HE9.out _ (Mod.six_one _ _ _ _ _ _ _ _)
  | some i =>
    rw [hf] at hz
    simp only at hz
    subst hz
    obtain ⟨p, hp, _⟩ := findK_some hf
    have h1 := Hc3.out
    obtain ⟨pg, n4, cap4, hv4, Hnn, hnc, hcm, hin, Hpg, hne, x0, x1, x2, x3, x4, x5, x6, fz⟩ := h1.at_ hp
    injection hv4 with hA4 hn4 hc4
    subst hn4 hc4
    subst hA4
    have hat7 : (⟨pg, 0, none⟩ : Addr).add (i * 7) = ⟨pg, i * 7, none⟩ := by rw [add_addr, Nat.zero_add]
    have gz : decide ((i : Int) < 0) = false := decide_eq_false (by omega)
    have hi0 : ¬ (i : Int) < 0 := by omega
    have hin' : (i : Int) < (n1 : Int) := by omega
    have y2 := Hc3.out.cells.2.2.1
    have Hf := Lib.hid hf; have Hp := Lib.hid hp
    clear h1 hf hp hnc hcm hin hne fz
    obtain ⟨⟨s, l, b⟩, kd, rf, tr, pn⟩ := p
    simp only at x0 x1 x2 x3 x4 x5 x6
    obtain ⟨r, hr⟩ : ∃ r, PagN.resi ⟨⟨s, l, b⟩, kd, rf, tr, pn⟩ = r := ⟨_, rfl⟩
    have Hr := Lib.hid hr
    clear hr
    go_wp2_with fail
    refine (rres_any ⟨⟨s, l, b⟩, kd, rf, tr, pn⟩ w3).mono ?_
    rw [Hr.out]
    rintro e w4 ⟨rfl, hm4⟩
    have Hc4 := Lib.hid (Hc3.out.new hm4)
    have Hm4 := Lib.hid (Hm3.out.trans hm4 (fun _ _ h => h.elim))
    clear x0 x1 x2 x3 x4 x5 x6 y2 hm4
    cases r with
    | false =>
      have Hrr : Hid (resAt c k = false) := Lib.hid (by unfold resAt; rw [Hf.out]; simp only [Hp.out]; exact Hr.out)
      have hend := clk_end (b := false) Hg0.out.symm Hg2.out.symm HzW.out HmW.out HrW.out Hc4.out Hv1.out (Hm4.out.mono (fun _ _ h => .inl h))
      have Hb9 := Lib.hid hend.1; have HE9 := Lib.hid hend.2
      have q0 := hend.1.cell 0
      have q1 := hend.1.cell 1
      have q2 := hend.1.cell 2
      have q3 := hend.1.cell 3
      have q4 := hend.1.cell 4
      have q5 := hend.1.cell 5
      have p0 := hend.1.frozen 0
      have p1 := hend.1.frozen 1
      have p2 := hend.1.frozen 2
      have p3 := hend.1.frozen 3
      have p4 := hend.1.frozen 4
      have p5 := hend.1.frozen 5
      simp at q0 q1 q2 q3 q4 q5
      obtain ⟨y0, y1, y2, y3, y4, y5⟩ := Hc4.out.cells
      clear hend
      go_wp2_with fail
      refine bodyPost_ret (v := .tuple #[.agg #[.int .i64 c.most, .int .i64 c.target, (.slice (some ⟨pg, 0, none⟩) n1 c1), .int .i64 (c.hot : Int), .int .i64 (c.cold : Int), .int .i64 (c.test : Int)], .bool false]) (by have h := Hb9.out.six (.int .i64 c.most) (.int .i64 c.target) (.slice (some ⟨pg, 0, none⟩) n1 c1) (.int .i64 (c.hot : Int)) (.int .i64 (c.cold : Int)) (.int .i64 (c.test : Int)); simp [results, Try.results36, go_sem, h.1, h.2.1, h.2.2.1, h.2.2.2.1, h.2.2.2.2.1, h.2.2.2.2.2.1]) rfl ?_
      rw [touch_no Hrr.out]
      exact HE9.out _ (Mod.six_one _ _ _ _ _ _ _ _)
    | true =>
      have y2 := Hc4.out.cells.2.2.1
      obtain ⟨x0, x1, x2, x3, x4, x5, x6, fz⟩ := Hc4.out.page_ Hp.out
      simp only at x0 x1 x2 x3 x4 x5 x6
      have h4 := Hc4.out.field (i := i) (j := 4) (u := .bool true) (q := ⟨⟨s, l, b⟩, kd, true, tr, pn⟩) Hnn.out Hp.out (by decide) rfl
      have hm4 := (Hm4.out.mono (S' := ClkS g0 (.slice (some ⟨pg, 0, none⟩) n1 c1)) (fun _ _ h => .inl h)).setCell (p := ⟨pg, i * 7 + 4, none⟩) (fun _ => .inr rfl) (.bool true)
      obtain ⟨w5, hw5⟩ : ∃ w5, w5 = w4.setCell ⟨pg, i * 7 + 4, none⟩ (.bool true) := ⟨_, rfl⟩
      rw [← hw5] at h4 hm4
      have Hc5 := Lib.hid h4; have Hm5 := Lib.hid hm4; have Hw5 := Lib.hid hw5
      clear h4 hm4 hw5
      go_upto_region 6 with fail
      rw [← Hw5.out]
      clear x0 x1 x2 x3 x4 x5 x6 y2 fz
      have hend := clk_end (b := true) Hg0.out.symm Hg2.out.symm HzW.out HmW.out HrW.out Hc5.out Hv1.out Hm5.out
      have Hb9 := Lib.hid hend.1; have HE9 := Lib.hid hend.2
      have q0 := hend.1.cell 0
      have q1 := hend.1.cell 1
      have q2 := hend.1.cell 2
      have q3 := hend.1.cell 3
      have q4 := hend.1.cell 4
      have q5 := hend.1.cell 5
      have p0 := hend.1.frozen 0
      have p1 := hend.1.frozen 1
      have p2 := hend.1.frozen 2
      have p3 := hend.1.frozen 3
      have p4 := hend.1.frozen 4
      have p5 := hend.1.frozen 5
      simp at q0 q1 q2 q3 q4 q5
      obtain ⟨y0, y1, y2, y3, y4, y5⟩ := Hc5.out.cells
      clear hend
      go_wp2_with fail
      refine bodyPost_ret (v := .tuple #[.agg #[.int .i64 c.most, .int .i64 c.target, (.slice (some ⟨pg, 0, none⟩) n1 c1), .int .i64 (c.hot : Int), .int .i64 (c.cold : Int), .int .i64 (c.test : Int)], .bool true]) (by have h := Hb9.out.six (.int .i64 c.most) (.int .i64 c.target) (.slice (some ⟨pg, 0, none⟩) n1 c1) (.int .i64 (c.hot : Int)) (.int .i64 (c.cold : Int)) (.int .i64 (c.test : Int)); simp [results, Try.results36, go_sem, h.1, h.2.1, h.2.2.1, h.2.2.2.1, h.2.2.2.2.1, h.2.2.2.2.2.1]) rfl ?_
      rw [touch_yes Hf.out Hp.out Hr.out]
      exact HE9.out _ (Mod.six_one _ _ _ _ _ _ _ _)
set_option maxHeartbeats 4000000 in
set_option maxRecDepth 100000 in
theorem rkPin_any (c : ClkN) (k : KeyN) (m : Int) (A : Option Addr) (n cap : Nat) (w : World) (hs : RdsP w w.heap.size A n c.ps) (hn : n ≤ 100000) (hm0 : -1000000 ≤ m ∧ m ≤ 1000000) (hpins : ∀ p ∈ c.ps, 0 ≤ p.pins ∧ p.pins ≤ 1000000) :
    Calls Try.prog 37 #[.agg #[.int .i64 c.most, .int .i64 c.target, .slice A n cap, .int .i64 (c.hot : Int), .int .i64 (c.cold : Int), .int .i64 (c.test : Int)], .agg #[.int .i64 k.s, .int .i64 k.l, .int .i64 k.b], .int .i64 m] w fun e w' => CkEnd w w' (pinK c k m).1 (pinK c k m).2 e := by
  obtain ⟨W, hW, hmW, hbW, hkW, hrW, hzW⟩ := three_boxes w #[.int .i64 c.most, .int .i64 c.target, .slice A n cap, .int .i64 (c.hot : Int), .int .i64 (c.cold : Int), .int .i64 (c.test : Int)] #[.int .i64 k.s, .int .i64 k.l, .int .i64 k.b] #[.int .i64 0, .int .i64 0, .slice none 0 0, .int .i64 0, .int .i64 0, .int .i64 0]
  obtain ⟨g0, hg0⟩ : ∃ g, g = w.heap.size := ⟨_, rfl⟩
  obtain ⟨g1, hg1⟩ : ∃ g, g = w.heap.size + 1 := ⟨_, rfl⟩
  obtain ⟨g2, hg2⟩ : ∃ g, g = w.heap.size + 2 := ⟨_, rfl⟩
  rw [← hg0] at hbW
  rw [← hg1] at hkW
  rw [← hg2] at hrW
  have y0 := hbW.cell 0
  have y1 := hbW.cell 1
  have y2 := hbW.cell 2
  have y3 := hbW.cell 3
  have y4 := hbW.cell 4
  have y5 := hbW.cell 5
  simp at y0 y1 y2 y3 y4 y5
  have Hs := Lib.hid (hs.new hmW).fit; have Hl := Lib.hid hs.len
  have HW := Lib.hid hW; have HmW := Lib.hid hmW; have HbW := Lib.hid hbW; have HkW := Lib.hid hkW; have HrW := Lib.hid hrW; have Hg0 := Lib.hid hg0; have Hg1 := Lib.hid hg1; have Hg2 := Lib.hid hg2; have HzW := Lib.hid hzW; have Hn := Lib.hid hn
  have Hm0 := Lib.hid hm0; have Hpins := Lib.hid hpins
  clear hm0 hpins
  clear hs hW hmW hbW hkW hrW hg0 hg1 hg2 hzW hn
  go_enter Try.func37, Try.ntmps37
  go_upto_region 1 with fail
  rw [← HW.out, ← Hg2.out, ← Hg1.out, ← Hg0.out]
  go_wp2_with fail
  refine (rkCopied_any c A n cap W Hs.out (by have := Hn.out; omega)).mono ?_
  rintro e w1 ⟨vp, rfl, ho1, hm1⟩
  obtain ⟨A1, c1, rfl, hnc1, hcm1, hrd1⟩ := OwnP.form ho1
  obtain ⟨n1, hn1⟩ : ∃ n1, c.ps.length = n1 := ⟨_, rfl⟩
  rw [hn1] at ho1 hnc1 hrd1 ⊢
  dsimp only [clkC]
  obtain ⟨w2, hw2, hc2, hm2⟩ := clk_laid HbW.out rfl Hg0.out.symm HmW.out ho1 hm1
  have hk2 := hm2.blk HkW.out (by have := Hg0.out; have := Hg1.out; omega)
  have hb1 := hm1.blk HbW.out (fun h => h)
  have u0 := hb1.cell 0
  have u1 := hb1.cell 1
  have u2 := hb1.cell 2
  have u3 := hb1.cell 3
  have u4 := hb1.cell 4
  have u5 := hb1.cell 5
  have f0 := hb1.frozen 0
  have f1 := hb1.frozen 1
  have f2 := hb1.frozen 2
  have f3 := hb1.frozen 3
  have f4 := hb1.frozen 4
  have f5 := hb1.frozen 5
  simp at u0 u1 u2 u3 u4 u5
  have Hw2 := Lib.hid hw2; have Hc2 := Lib.hid hc2; have Hm2 := Lib.hid hm2; have Hn1 := Lib.hid hn1; have Hk2 := Lib.hid hk2
  have Hv1 : Hid (∀ j, (Value.slice A1 n1 c1).ownBlock = some j → W.heap.size ≤ j) := Lib.hid (fun j hj => (hc2.lt j hj).1)
  clear y0 y1 y2 y3 y4 y5 hw2 hc2 hm2 hk2 hn1 hb1 ho1 hm1 hnc1 hcm1 hrd1
  go_upto_region 2 with fail
  rw [← Hw2.out]
  clear u0 u1 u2 u3 u4 u5 f0 f1 f2 f3 f4 f5
  obtain ⟨y0, y1, y2, y3, y4, y5⟩ := Hc2.out.cells
  have z0 := Hk2.out.cell 0
  have z1 := Hk2.out.cell 1
  have z2 := Hk2.out.cell 2
  simp at z0 z1 z2
  have Hs2 : Hid (RdsP w2 w2.heap.size A1 n1 c.ps) := Lib.hid (OwnK.rds Hc2.out.ps (by rw [List.length_map]; exact Hn1.out))
  go_wp2_with fail
  refine (rkFind_any c k A1 n1 c1 w2 Hs2.out (by have := Hn1.out; have := Hl.out; have := Hn.out; omega)).mono ?_
  obtain ⟨z, hz⟩ : ∃ z, placeK k c.ps = z := ⟨_, rfl⟩
  rw [hz]
  rintro e w3 ⟨rfl, hm3⟩
  have Hc3 := Lib.hid (Hc2.out.new hm3)
  have Hm3 := Lib.hid (Hm2.out.trans hm3 (fun _ _ h => h.elim))
  clear hm3 y0 y1 y2 y3 y4 y5 z0 z1 z2
  unfold placeK at hz
  cases hf : findK k c.ps with
  | none =>
    rw [hf] at hz
    have Hrr : Hid (resAt c k = false) := Lib.hid (by unfold resAt; rw [hf])
    have gz : decide (z < 0) = true := decide_eq_true (by simp only at hz; omega)
    clear hf hz
    have hend := clk_end (b := false) Hg0.out.symm Hg2.out.symm HzW.out HmW.out HrW.out Hc3.out Hv1.out (Hm3.out.mono (fun _ _ h => .inl h))
    have Hb9 := Lib.hid hend.1; have HE9 := Lib.hid hend.2
    have q0 := hend.1.cell 0
    have q1 := hend.1.cell 1
    have q2 := hend.1.cell 2
    have q3 := hend.1.cell 3
    have q4 := hend.1.cell 4
    have q5 := hend.1.cell 5
    have p0 := hend.1.frozen 0
    have p1 := hend.1.frozen 1
    have p2 := hend.1.frozen 2
    have p3 := hend.1.frozen 3
    have p4 := hend.1.frozen 4
    have p5 := hend.1.frozen 5
    simp at q0 q1 q2 q3 q4 q5
    obtain ⟨y0, y1, y2, y3, y4, y5⟩ := Hc3.out.cells
    clear hend
    go_wp2_with fail
    refine bodyPost_ret (v := .tuple #[.agg #[.int .i64 c.most, .int .i64 c.target, (.slice A1 n1 c1), .int .i64 (c.hot : Int), .int .i64 (c.cold : Int), .int .i64 (c.test : Int)], .bool false]) (by have h := Hb9.out.six (.int .i64 c.most) (.int .i64 c.target) (.slice A1 n1 c1) (.int .i64 (c.hot : Int)) (.int .i64 (c.cold : Int)) (.int .i64 (c.test : Int)); simp [results, Try.results37, go_sem, h.1, h.2.1, h.2.2.1, h.2.2.2.1, h.2.2.2.2.1, h.2.2.2.2.2.1]) rfl ?_
    rw [pin_no Hrr.out]
    exact HE9.out _ (Mod.six_one _ _ _ _ _ _ _ _)
  | some i =>
    rw [hf] at hz
    simp only at hz
    subst hz
    obtain ⟨p, hp, _⟩ := findK_some hf
    have h1 := Hc3.out
    obtain ⟨pg, n4, cap4, hv4, Hnn, hnc, hcm, hin, Hpg, hne, x0, x1, x2, x3, x4, x5, x6, fz⟩ := h1.at_ hp
    injection hv4 with hA4 hn4 hc4
    subst hn4 hc4
    subst hA4
    have hat7 : (⟨pg, 0, none⟩ : Addr).add (i * 7) = ⟨pg, i * 7, none⟩ := by rw [add_addr, Nat.zero_add]
    have gz : decide ((i : Int) < 0) = false := decide_eq_false (by omega)
    have hi0 : ¬ (i : Int) < 0 := by omega
    have hin' : (i : Int) < (n1 : Int) := by omega
    have y2 := Hc3.out.cells.2.2.1
    have Hf := Lib.hid hf; have Hp := Lib.hid hp
    clear h1 hf hp hnc hcm hin hne fz
    obtain ⟨⟨s, l, b⟩, kd, rf, tr, pn⟩ := p
    simp only at x0 x1 x2 x3 x4 x5 x6
    obtain ⟨r, hr⟩ : ∃ r, PagN.resi ⟨⟨s, l, b⟩, kd, rf, tr, pn⟩ = r := ⟨_, rfl⟩
    have Hr := Lib.hid hr
    clear hr
    go_wp2_with fail
    refine (rres_any ⟨⟨s, l, b⟩, kd, rf, tr, pn⟩ w3).mono ?_
    rw [Hr.out]
    rintro e w4 ⟨rfl, hm4⟩
    have Hc4 := Lib.hid (Hc3.out.new hm4)
    have Hm4 := Lib.hid (Hm3.out.trans hm4 (fun _ _ h => h.elim))
    clear x0 x1 x2 x3 x4 x5 x6 y2 hm4
    cases r with
    | false =>
      have Hrr : Hid (resAt c k = false) := Lib.hid (by unfold resAt; rw [Hf.out]; simp only [Hp.out]; exact Hr.out)
      have hend := clk_end (b := false) Hg0.out.symm Hg2.out.symm HzW.out HmW.out HrW.out Hc4.out Hv1.out (Hm4.out.mono (fun _ _ h => .inl h))
      have Hb9 := Lib.hid hend.1; have HE9 := Lib.hid hend.2
      have q0 := hend.1.cell 0
      have q1 := hend.1.cell 1
      have q2 := hend.1.cell 2
      have q3 := hend.1.cell 3
      have q4 := hend.1.cell 4
      have q5 := hend.1.cell 5
      have p0 := hend.1.frozen 0
      have p1 := hend.1.frozen 1
      have p2 := hend.1.frozen 2
      have p3 := hend.1.frozen 3
      have p4 := hend.1.frozen 4
      have p5 := hend.1.frozen 5
      simp at q0 q1 q2 q3 q4 q5
      obtain ⟨y0, y1, y2, y3, y4, y5⟩ := Hc4.out.cells
      clear hend
      go_wp2_with fail
      refine bodyPost_ret (v := .tuple #[.agg #[.int .i64 c.most, .int .i64 c.target, (.slice (some ⟨pg, 0, none⟩) n1 c1), .int .i64 (c.hot : Int), .int .i64 (c.cold : Int), .int .i64 (c.test : Int)], .bool false]) (by have h := Hb9.out.six (.int .i64 c.most) (.int .i64 c.target) (.slice (some ⟨pg, 0, none⟩) n1 c1) (.int .i64 (c.hot : Int)) (.int .i64 (c.cold : Int)) (.int .i64 (c.test : Int)); simp [results, Try.results37, go_sem, h.1, h.2.1, h.2.2.1, h.2.2.2.1, h.2.2.2.2.1, h.2.2.2.2.2.1]) rfl ?_
      rw [pin_no Hrr.out]
      exact HE9.out _ (Mod.six_one _ _ _ _ _ _ _ _)
    | true =>
      have y2 := Hc4.out.cells.2.2.1
      obtain ⟨x0, x1, x2, x3, x4, x5, x6, fz⟩ := Hc4.out.page_ Hp.out
      simp only at x0 x1 x2 x3 x4 x5 x6
      obtain ⟨u, hu⟩ : ∃ u, pn + m = u := ⟨_, rfl⟩
      obtain ⟨v, hv⟩ : ∃ v : Int, (if u < 0 then 0 else u) = v := ⟨_, rfl⟩
      have hb := Hpins.out _ (List.mem_of_getElem? Hp.out)
      simp only at hb
      have wr1 : IntKind.i64.wrap (pn + m) = u := by rw [hu]; exact IntWalk.i64_in _ (by have := Hm0.out; omega)
      have Huv : Hid (max (pn + m) 0 = v) := Lib.hid (by rw [hu, ← hv]; split <;> omega)
      have fz6 := fz (i * 7 + 6)
      clear hu hb
      have h4 := Hc4.out.field (i := i) (j := 6) (u := .int .i64 v) (q := ⟨⟨s, l, b⟩, kd, rf, tr, v⟩) Hnn.out Hp.out (by decide) rfl
      have hm4 := (Hm4.out.mono (S' := ClkS g0 (.slice (some ⟨pg, 0, none⟩) n1 c1)) (fun _ _ h => .inl h)).setCell (p := ⟨pg, i * 7 + 6, none⟩) (fun _ => .inr rfl) (.int .i64 v)
      obtain ⟨w5, hw5⟩ : ∃ w5, w5 = (w4.setCell ⟨pg, i * 7 + 6, none⟩ (.int .i64 v)).drew := ⟨_, rfl⟩
      replace h4 := h4.drew
      replace hm4 := hm4.drew
      rw [← hw5] at h4 hm4
      have Hc5 := Lib.hid h4; have Hm5 := Lib.hid hm4; have Hw5 := Lib.hid hw5
      clear h4 hm4 hw5
      go_upto_region 5 with fail
      go_region
      try rw [hv]
      rw [← Hw5.out]
      clear x0 x1 x2 x3 x4 x5 x6 y2 fz fz6 wr1 hv
      have hend := clk_end (b := true) Hg0.out.symm Hg2.out.symm HzW.out HmW.out HrW.out Hc5.out Hv1.out Hm5.out
      have Hb9 := Lib.hid hend.1; have HE9 := Lib.hid hend.2
      have q0 := hend.1.cell 0
      have q1 := hend.1.cell 1
      have q2 := hend.1.cell 2
      have q3 := hend.1.cell 3
      have q4 := hend.1.cell 4
      have q5 := hend.1.cell 5
      have p0 := hend.1.frozen 0
      have p1 := hend.1.frozen 1
      have p2 := hend.1.frozen 2
      have p3 := hend.1.frozen 3
      have p4 := hend.1.frozen 4
      have p5 := hend.1.frozen 5
      simp at q0 q1 q2 q3 q4 q5
      obtain ⟨y0, y1, y2, y3, y4, y5⟩ := Hc5.out.cells
      clear hend
      go_wp2_with fail
      refine bodyPost_ret (v := .tuple #[.agg #[.int .i64 c.most, .int .i64 c.target, (.slice (some ⟨pg, 0, none⟩) n1 c1), .int .i64 (c.hot : Int), .int .i64 (c.cold : Int), .int .i64 (c.test : Int)], .bool true]) (by have h := Hb9.out.six (.int .i64 c.most) (.int .i64 c.target) (.slice (some ⟨pg, 0, none⟩) n1 c1) (.int .i64 (c.hot : Int)) (.int .i64 (c.cold : Int)) (.int .i64 (c.test : Int)); simp [results, Try.results37, go_sem, h.1, h.2.1, h.2.2.1, h.2.2.2.1, h.2.2.2.2.1, h.2.2.2.2.2.1]) rfl ?_
      rw [pin_yes m Hf.out Hp.out Hr.out, show max ((⟨⟨s, l, b⟩, kd, rf, tr, pn⟩ : PagN).pins + m) 0 = v from Huv.out]
      exact HE9.out _ (Mod.six_one _ _ _ _ _ _ _ _)
end Go.Proofs.Ythogflfjdfcpeaa
