/- ClokPlays' walk. -/
import Derived.Test.YthogflfjdfcpeaaMq1
import Derived.Test.YthogflfjdfcpeaaMq9
import Derived.Test.YthogflfjdfcpeaaMq15
import Derived.Test.YthogflfjdfcpeaaMq10
import Derived.Test.YthogflfjdfcpeaaMq5
namespace Go.Proofs.Ythogflfjdfcpeaa
open Go.RowKit

section
variable {P : Program} {ops : Array Oper} {o : Oper} {a : Act} {w : World} {K : Act → World → Prop} {Q : Exit → Act → World → Prop} {E : Prop}
theorem Blk.there_ {g : Nat} {t : TypeId} {cs : Array Value} (h : Blk w g t cs) : w.there g 0 cs.size := fun j hj => by
  rw [Nat.zero_add, h.cell j]
  exact ⟨by rw [Array.getElem?_eq_getElem hj]; rfl, h.frozen j⟩
theorem Blk.range_ {g : Nat} {t : TypeId} {cs : Array Value} (h : Blk w g t cs) : w.rangeAt g 0 cs.toList := fun j v hv => by
  rw [Nat.zero_add, h.cell j]
  simpa using hv
/-- A struct is stored into its block. -/
theorem step_storeB (hgd : o.guard = none) (ty : TypeId) (x y : Operand) (ho : o.op = .store ty x y) (hd : o.dst = none) {g : Nat} {t : TypeId} {old cells : Array Value} (hx : a.eval x = .pointer (some ⟨g, 0, none⟩)) (hy : a.eval y = .agg cells)
    (hb : Blk w g t old) (hs : old.size = cells.size) (hi : (P.info? ty).map (·.size) = some cells.size) (h1 : cells.all (·.oneCell') = true) (h : K a (w.setCells g 0 cells.toList)) :
    if Region.wanted o (yielded ops a.tmps) = true then Oper.wp P o a w K Q else E := by
  have hw : Region.wanted o (yielded ops a.tmps) = true := by simp [Region.wanted, hgd]
  rw [if_pos hw]
  refine wp_store_mid ty x y ho g 0 cells hx hy (by rw [← hs]; exact hb.there_) hi h1 ?_
  rw [hd]
  exact h
/-- A struct is loaded out of its block. -/
theorem step_loadB (hgd : o.guard = none) (ty : TypeId) (x : Operand) (ho : o.op = .load ty x) {g : Nat} {t : TypeId} {cells : Array Value} (hx : a.eval x = .pointer (some ⟨g, 0, none⟩)) (hb : Blk w g t cells) {d : TypeDesc}
    (hu : P.underlying ty = some d) (hd : d.isRow = true) (hi : (P.info? ty).map (·.size) = some cells.size) (h : K (a.put o.dst (.agg cells)) w) :
    if Region.wanted o (yielded ops a.tmps) = true then Oper.wp P o a w K Q else E := by
  have hw : Region.wanted o (yielded ops a.tmps) = true := by simp [Region.wanted, hgd]
  rw [if_pos hw]
  exact wp_load_mid ty x ho g 0 hx cells.toList d hb.range_ hu hd (by simpa using hi) (by simpa using h)
theorem yields_loadB {S : World → Prop} (hgd : o.guard = none) (ty : TypeId) (x : Operand) (ho : o.op = .load ty x) {g : Nat} {t : TypeId} {cells : Array Value} (hx : a.eval x = .pointer (some ⟨g, 0, none⟩)) (hS : ∀ w, S w → Blk w g t cells) {d : TypeDesc}
    (hu : P.underlying ty = some d) (hd : d.isRow = true) (hi : (P.info? ty).map (·.size) = some cells.size) : YieldsIf P ops S o (.agg cells) a := by
  have h := yieldsIf_load_mid (P := P) (ops := ops) (S := S) (op := o) (a := a) (by simp [Region.wanted, hgd]) ty x ho g 0 hx cells.toList d (fun w hw => (hS w hw).range_) hu hd (by simpa using hi)
  simpa using h
end
theorem clk_one {A : Option Addr} {n cap : Nat} (c : ClkN) : (clkC c (.slice A n cap)).all (·.oneCell') = true := by
  unfold clkC
  simp [Value.oneCell']
theorem two_stores {w w7 : World} {B g6 g7 g9 g14 : Nat} {v6 v7 v9 v14 : Value} (c c2 : ClkN) (hB : w.heap.size ≤ B) (hc6 : ClkV B g6 w7 v6 c) (hc7 : ClkV B g7 w7 v7 c) (hc9 : ClkV B g9 w7 v9 c2) (hc14 : ClkV B g14 w7 v14 c2)
    (h67 : g6 ≠ g7) (h146 : g14 ≠ g6) (h96 : g9 ≠ g6) (hg6 : w.heap.size ≤ g6) (hg7 : w.heap.size ≤ g7) (hm : Mod (fun _ => False) w w7) :
    ∃ W6, W6 = w7.drew.setCells g6 0 (clkC c2 v14).toList ∧ Blk W6 g14 25 (clkC c2 v14) ∧ Blk W6 g9 25 (clkC c2 v9) ∧ Blk W6 g7 25 (clkC c v7) ∧
      ClkV w.heap.size g6 (W6.setCells g7 0 (clkC c2 v9).toList) v14 c2 ∧ ClkV w.heap.size g7 (W6.setCells g7 0 (clkC c2 v9).toList) v9 c2 ∧ Mod (fun _ => False) w (W6.setCells g7 0 (clkC c2 v9).toList) := by
  obtain ⟨W6, hW6⟩ : ∃ W6, W6 = (((((w7.drew.setCell ⟨g6, 0, none⟩ (.int .i64 c2.most)).setCell ⟨g6, 1, none⟩ (.int .i64 c2.target)).setCell ⟨g6, 2, none⟩ (v14)).setCell ⟨g6, 3, none⟩ (.int .i64 (c2.hot : Int))).setCell ⟨g6, 4, none⟩ (.int .i64 (c2.cold : Int))).setCell ⟨g6, 5, none⟩ (.int .i64 (c2.test : Int)) := ⟨_, rfl⟩
  have e6 : W6 = w7.drew.setCells g6 0 (clkC c2 v14).toList := hW6
  have hm6 : Mod (fun j => j = g6) w7 W6 := by rw [hW6]; exact ((Mod.refl (fun j => j = g6) w7).drew).trans (Mod.six_one w7.drew g6 (.int .i64 c2.most) (.int .i64 c2.target) (v14) (.int .i64 (c2.hot : Int)) (.int .i64 (c2.cold : Int)) (.int .i64 (c2.test : Int))) (fun _ _ h => h)
  have hb6 := hc6.drew.blk
  simp only [clkC] at hb6
  have h14 := hc14.modS hm6 (fun j hj e => by
    rcases hj with rfl | hj
    · exact h146 e
    · exact own_blk_ne hc14.ps.2 hc6.blk (by decide) (by rw [hj, e]))
  have h9 := hc9.modS hm6 (fun j hj e => by
    rcases hj with rfl | hj
    · exact h96 e
    · exact own_blk_ne hc9.ps.2 hc6.blk (by decide) (by rw [hj, e]))
  have h7 := hm6.blk hc7.blk (fun e => h67 e.symm)
  have k6 := clk_over (W := w) c2 rfl hb6 hg6 hc14.drew.ps hB hm.drew
  have k6' : ClkV w.heap.size g6 W6 v14 c2 := by rw [hW6]; exact k6.1
  have k6m : Mod (fun _ => False) w W6 := by rw [hW6]; exact k6.2.1
  have hb7 := h7
  simp only [clkC] at hb7
  obtain ⟨k3, k4, _⟩ := clk_over (W := w) c2 rfl hb7 hg7 h9.ps hB k6m
  have hs7 := Mod.six_one W6 g7 (.int .i64 c2.most) (.int .i64 c2.target) (v9) (.int .i64 (c2.hot : Int)) (.int .i64 (c2.cold : Int)) (.int .i64 (c2.test : Int))
  exact ⟨W6, e6, h14.blk, h9.blk, h7, ⟨hs7.blk k6'.blk h67, OwnK.modS k6'.ps hs7 (fun k hk e => own_blk_ne k6'.ps.2 h7 (by decide) (by rw [hk, e]))⟩, k3, k4⟩
end Go.Proofs.Ythogflfjdfcpeaa
namespace Go.Proofs.Ythogflfjdfcpeaa
open Go.RowKit

/-- A name's box and a clock's. -/
theorem key_zero (w : World) (ks zs : Array Value) : ∃ W, W = (w.alloc (.cells ks 28)).alloc (.cells zs 25) ∧ Mod (fun _ => False) w W ∧ Blk W w.heap.size 28 ks ∧ Blk W (w.heap.size + 1) 25 zs ∧ W.heap.size = w.heap.size + 2 := by
  refine ⟨_, rfl, ((Mod.refl _ _).alloc _).alloc _, (Blk.new _ _ _).alloc _, ?_, by simp⟩
  have h := Blk.new (w.alloc (.cells ks 28)) 25 zs
  simpa using h
theorem own_lenK {K B n c : Nat} {w : World} {e : TypeId} {A : Option Addr} {rows : List (List Value)} (h : OwnK K B w e (.slice A n c) rows) : rows.length = n := by
  obtain ⟨A', c', e', _⟩ := h.form
  injection e' with _ e2 _
  omega
theorem step_few {c : ClkN} (h : Good c) (x : Int) : ((stepK c x).2.1).length ≤ 1 := by
  have ha : ∀ k, (admitK c k).2.1.length ≤ 1 := fun k => by
    cases e : (admitK c k).2.2 with
    | false => rw [(admit_no h e).1]; simp
    | true => exact (admit_yes h e).one
  unfold stepK
  split
  · exact ha _
  split
  · simp
  split
  · simp
  split
  · exact ha _
  · simp
set_option maxHeartbeats 60000000 in
set_option maxRecDepth 100000 in
theorem ckplays_walk (a0 : Int) (A1 : Option Addr) (n1 cp1 : Nat) (zs : List Int) (w : World) (hs : SeesI .i64 w w.heap.size A1 n1 zs) (hz : ∀ x ∈ zs, FitI x) :
    Calls Try.prog 5 #[.int .i64 a0, .slice A1 n1 cp1] w fun e w' => e = .returned (.bool true) ∧ Mod (fun _ => False) w w' := by
  obtain ⟨o0, ho0⟩ : ∃ x, a0 % 8 = x := ⟨_, rfl⟩
  have m0 : bits .and .i64 a0 7 = o0 := by rw [mask7, ho0]
  have b0 : 0 ≤ o0 := by omega
  have b7 : o0 ≤ 7 := by omega
  obtain ⟨M, hM⟩ : ∃ M, o0 + 1 = M := ⟨_, rfl⟩
  have eM : (newK M).most = M := by show min (max M 1) 1000 = M; omega
  obtain ⟨N, hN⟩ : ∃ N, min n1 150 = N := ⟨_, rfl⟩
  obtain ⟨X, hX⟩ : ∃ x, max a0 1 = x := ⟨_, rfl⟩
  obtain ⟨R, hR⟩ : ∃ x, min X 1000 = x := ⟨_, rfl⟩
  have hmax := maxI_is (P := Try.prog) (t := 3) (ty := 3) hX
  have hmin := minI_is (P := Try.prog) (t := 3) (ty := 3) hR
  have eR : (newK a0).most = R := by show min (max a0 1) 1000 = R; omega
  have Hs := Lib.hid hs; have Hz := Lib.hid hz; have HeM := Lib.hid eM; have HN := Lib.hid hN; have HeR := Lib.hid eR
  clear ho0 hs hz eM hN hX hR eR
  go_enter Try.func5, Try.ntmps5
  go_wp2_with fail
  refine (ckNew_any a0 w).mono ?_
  rintro e w1 ⟨rfl, hm1⟩
  rw [HeR.out]
  obtain ⟨W1, hW1, hmW1, hbW1, _⟩ := Blk.boxed w1 25 #[.int .i64 R, .int .i64 1, .slice none 0 0, .int .i64 0, .int .i64 0, .int .i64 0]
  obtain ⟨g5, hg5⟩ : ∃ g, g = w1.heap.size := ⟨_, rfl⟩
  rw [← hg5] at hbW1
  have y0 := hbW1.cell 0
  have y1 := hbW1.cell 1
  have y2 := hbW1.cell 2
  simp at y0 y1 y2
  have Hm1 := Lib.hid (hm1.trans hmW1 (fun _ _ h => h))
  have HW1 := Lib.hid hW1; have Hg5 := Lib.hid hg5
  clear hm1 hW1 hmW1 hbW1 hg5
  go_upto_region 2 with fail
  rw [← HW1.out, ← Hg5.out]
  go_wp2_with fail
  clear y0 y1 y2 hmax hmin
  refine (ckNew_any M W1).mono ?_
  rintro e w2 ⟨rfl, hm2⟩
  rw [HeM.out]
  obtain ⟨W2, hW2, hmW2, hbW2, _⟩ := Blk.boxed w2 25 #[.int .i64 M, .int .i64 1, .slice none 0 0, .int .i64 0, .int .i64 0, .int .i64 0]
  obtain ⟨g6, hg6⟩ : ∃ g, g = w2.heap.size := ⟨_, rfl⟩
  rw [← hg6] at hbW2
  have hm12 := hm2.trans hmW2 (fun _ _ h => h)
  have Hb6 := Lib.hid hbW2; have Hm2 := Lib.hid (Hm1.out.trans hm12 (fun _ _ h => h)); have HW2 := Lib.hid hW2; have Hg6 := Lib.hid hg6
  have Hg6l : Hid (w.heap.size ≤ g6 ∧ g6 < W2.heap.size) := Lib.hid ⟨by have := hm2.size; have := Hm1.out.size; omega, hbW2.lt⟩
  clear hm2 hW2 hmW2 hbW2 hg6 hm12 HW1 Hg5
  go_upto_region 5 with fail
  rw [← HW2.out, ← Hg6.out]
  go_wp2_with fail
  refine (rkNew_any M W2).mono ?_
  rintro e w3 ⟨rfl, hm3⟩
  rw [HeM.out]
  obtain ⟨W3, hW3, hmW3, hbW3, _⟩ := Blk.boxed w3 25 #[.int .i64 M, .int .i64 1, .slice none 0 0, .int .i64 0, .int .i64 0, .int .i64 0]
  obtain ⟨g7, hg7⟩ : ∃ g, g = w3.heap.size := ⟨_, rfl⟩
  rw [← hg7] at hbW3
  have hm23 := hm3.trans hmW3 (fun _ _ h => h)
  have Hm3 := Lib.hid (Hm2.out.trans hm23 (fun _ _ h => h)); have HW3 := Lib.hid hW3; have Hg7 := Lib.hid hg7
  have Hg7l : Hid (w.heap.size ≤ g7 ∧ g6 ≠ g7 ∧ g6 < W3.heap.size ∧ g7 < W3.heap.size) := Lib.hid ⟨by have := hm3.size; have := Hm2.out.size; omega, by have := hm3.size; have := Hg6l.out; omega, (hm23.blk Hb6.out (fun h => h)).lt, hbW3.lt⟩
  have Hc6 : Hid (ClkV w.heap.size g6 W3 (.slice none 0 0) (newK M)) := Lib.hid (clkb_new HeM.out (hm23.blk Hb6.out (fun h => h)))
  have Hc7 : Hid (ClkV w.heap.size g7 W3 (.slice none 0 0) (newK M)) := Lib.hid (clkb_new HeM.out hbW3)
  clear hm3 hW3 hmW3 hbW3 hg7 hm23 HW2 Hg6 Hb6 m0 b0 b7 hM
  go_upto_region 6 with fail
  rw [← HW3.out, ← Hg7.out]
  go_wp2_with fail
  go_loopg [8] N (fun k s8 wr => ∃ (i : Nat) (c : ClkN) (vp vq : Value), i + k = N ∧ s8 = .int .i64 (i : Int) ∧ Good c ∧ PinsLe (2 * (i : Int)) c ∧ ClkV w.heap.size g6 wr vp c ∧ ClkV w.heap.size g7 wr vq c ∧ Mod (fun _ => False) w wr)
  case atStart => exact ⟨0, newK M, _, _, by omega, rfl, good_new M, pinsLe_new M, Hc6.out, Hc7.out, Hm3.out⟩
  case round =>
    obtain ⟨i, c, vp, vq, hik, rfl, hgd, hpi, hc6, hc7, hm⟩ := hrel
    have Hik := Lib.hid hik; have Hgd := Lib.hid hgd; have Hpi := Lib.hid hpi; have Hm := Lib.hid hm
    have hgl : g6 < wr.heap.size ∧ g7 < wr.heap.size := ⟨hc6.blk.lt, hc7.blk.lt⟩
    have Hgl := Lib.hid hgl
    clear Hc6 Hc7 Hm3 HW3 Hg7
    have Hc6 := Lib.hid hc6; have Hc7 := Lib.hid hc7
    clear hik hgd hpi hc6 hc7 hm hgl
    obtain ⟨A, n, cap, rfl, Hn6, _, _, _⟩ := Hc6.out.form
    obtain ⟨Aq, nq, cq, rfl, Hn7, _, _, Hrd7⟩ := Hc7.out.form
    have Hrd7 := Lib.hid Hrd7
    by_cases hin : i < N
    · have b1 : (i : Int) < (n1 : Int) := by have := HN.out; omega
      have b2 : (i : Int) < 150 := by have := HN.out; omega
      have Hi5 : Hid (i ≤ 150) := Lib.hid (by omega)
      obtain ⟨ad, x, rfl, hx, _⟩ := Hs.out.at_ (i := i) (by omega) (Nat.le_refl _) (Mod.refl (fun _ => False) w) (fun _ _ h => h)
      have Hx : Hid (∀ W, Mod (fun _ => False) w W → W.cell? (ad.add i) = some (.int .i64 x)) := Lib.hid (fun W hW => by
        obtain ⟨ad', x', e, hx', hc⟩ := Hs.out.at_ (i := i) (by omega) (Nat.le_refl _) hW (fun _ _ h => h)
        injection e with e
        subst e
        rw [hx] at hx'
        injection hx' with hx'
        rw [hx']
        exact hc)
      have hfx := Hz.out x (List.mem_of_getElem? hx)
      have hfx8 : FitI (x / 8) := by have := hfx.out; constructor <;> omega
      obtain ⟨k, hk⟩ : ∃ k, keyN (x / 8) = k := ⟨_, rfl⟩
      obtain ⟨o, ho⟩ : ∃ o, x % 8 = o := ⟨_, rfl⟩
      have mo : bits .and .i64 x 7 = o := by rw [mask7, ho]
      have hl : o = 0 ∨ o = 1 ∨ o = 2 ∨ o = 3 ∨ o = 4 ∨ o = 5 ∨ o = 6 ∨ o = 7 := by omega
      obtain ⟨⟨c2, os, ok⟩, hst⟩ : ∃ r, stepK c x = r := ⟨_, rfl⟩
      have hpx : ∀ p ∈ c.ps, p.pins ≤ 1000000 := fun p hp => by have := Hpi.out p hp; omega
      have hg2 : Good c2 := by have h := (step_good Hgd.out x).1; rw [hst] at h; exact h
      have hp2 : PinsLe (2 * ((i + 1 : Nat) : Int)) c2 := by
        have h := pins_step (n := x) Hgd.out Hpi.out (by omega)
        rw [hst] at h
        exact h.mono (by omega)
      have Hk := Lib.hid hk; have Ho := Lib.hid ho; have Hl := Lib.hid hl; have Hst := Lib.hid hst; have Hpx := Lib.hid hpx; have Hg2 := Lib.hid hg2; have Hp2 := Lib.hid hp2; have Hfx := Lib.hid hfx; have Hf8 := Lib.hid hfx8
      have Hmo := Lib.hid mo
      clear hx hfx hfx8 hk ho hl hst hpx hg2 hp2 mo
      have xc := Hx.out _ Hm.out
      go_upto_region 9 with fail
      go_cut [9, 10, 11] from 54 to 63 (fun s9 s10 s11 wx => ∃ g9 A9 n9 c9 Bo no co, s9 = .pointer (some ⟨g9, 0, none⟩) ∧ s10 = .slice Bo no co ∧ s11 = .bool ok ∧ (ClkV wr.heap.size g9 wx (.slice A9 n9 c9) c2 ∧ Mod (fun _ => False) wr wx ∧ wr.heap.size ≤ g9) ∧ OwnK 3 wr.heap.size wx 28 (.slice Bo no co) (os.map keyC))
      case first =>
        as_aux_lemma =>
          have ys : Hid (∀ W', Mod (fun _ => False) wr W' → W'.cell? ⟨g7, 0, none⟩ = some (.int .i64 c.most) ∧ W'.cell? ⟨g7, 1, none⟩ = some (.int .i64 c.target) ∧ W'.cell? ⟨g7, 2, none⟩ = some (.slice Aq nq cq) ∧ W'.cell? ⟨g7, 3, none⟩ = some (.int .i64 c.hot) ∧ W'.cell? ⟨g7, 4, none⟩ = some (.int .i64 c.cold) ∧ W'.cell? ⟨g7, 5, none⟩ = some (.int .i64 c.test)) := Lib.hid (fun W' h => (Hc7.out.new h).cells)
          obtain ⟨y0, y1, y2, y3, y4, y5⟩ := ys.out wr (Mod.refl _ _)
          have y0a : ∀ o, (wr.alloc o).cell? ⟨g7, 0, none⟩ = some (.int .i64 c.most) := fun o => (ys.out _ ((Mod.refl _ _).alloc o)).1
          have y1a : ∀ o, (wr.alloc o).cell? ⟨g7, 1, none⟩ = some (.int .i64 c.target) := fun o => (ys.out _ ((Mod.refl _ _).alloc o)).2.1
          have y2a : ∀ o, (wr.alloc o).cell? ⟨g7, 2, none⟩ = some (.slice Aq nq cq) := fun o => (ys.out _ ((Mod.refl _ _).alloc o)).2.2.1
          have y3a : ∀ o, (wr.alloc o).cell? ⟨g7, 3, none⟩ = some (.int .i64 c.hot) := fun o => (ys.out _ ((Mod.refl _ _).alloc o)).2.2.2.1
          have y4a : ∀ o, (wr.alloc o).cell? ⟨g7, 4, none⟩ = some (.int .i64 c.cold) := fun o => (ys.out _ ((Mod.refl _ _).alloc o)).2.2.2.2.1
          have y5a : ∀ o, (wr.alloc o).cell? ⟨g7, 5, none⟩ = some (.int .i64 c.test) := fun o => (ys.out _ ((Mod.refl _ _).alloc o)).2.2.2.2.2
          have xca : ∀ o, (wr.alloc o).cell? (ad.add i) = some (.int .i64 x) := fun o => Hx.out _ (Hm.out.alloc o)
          have HP : Hid (∀ W', Mod (fun _ => False) wr W' → Calls Try.prog 18 #[.agg #[.int .i64 c.most, .int .i64 c.target, .slice Aq nq cq, .int .i64 (c.hot : Int), .int .i64 (c.cold : Int), .int .i64 (c.test : Int)], .int .i64 x] W' fun e w' => ∃ A5 n5 c5 Bo no co, e = .returned (.tuple #[.agg #[.int .i64 c2.most, .int .i64 c2.target, .slice A5 n5 c5, .int .i64 (c2.hot : Int), .int .i64 (c2.cold : Int), .int .i64 (c2.test : Int)], .slice Bo no co, .bool ok]) ∧ OwnP wr.heap.size w' 30 (.slice A5 n5 c5) c2.ps ∧ OwnK 3 wr.heap.size w' 28 (.slice Bo no co) (os.map keyC) ∧ Mod (fun _ => False) W' w') := Lib.hid (fun W' h => by
            refine (lstep_any c x Aq nq cq W' (RdsP.new Hrd7.out h).fit (by have := Hn7.out; have h9 : c.ps.length ≤ 2000 := Hgd.out.len; omega) Hgd.out Hfx.out Hpx.out).mono ?_
            rw [Hst.out]
            rintro e w' ⟨vp, vo, rfl, h1, h2, h3⟩
            obtain ⟨A5, c5, rfl, _⟩ := OwnP.form h1
            obtain ⟨Bo, no, co, rfl, _⟩ := OwnK.formN h2
            exact ⟨A5, _, c5, Bo, no, co, rfl, OwnP.mono h1 h.size, OwnK.mono h2 h.size, h3⟩)
          go_region_with (first
            | (go_at_call 18; (with_reducible refine (HP.out wr.drew ((Mod.refl _ _).drew)).mono ?_); rintro e w5 ⟨A5, n5, c5, Bo, no, co, rfl, h1, h2, h3⟩; have H1 := Lib.hid h1; have H2 := Lib.hid h2; have H3 : Hid (Mod (fun _ => False) wr w5) := Lib.hid (((Mod.refl _ _).drew).trans h3 (fun _ _ h => h)); clear h1 h2 h3)
            | (go_at_call 18; (with_reducible refine (HP.out (wr.alloc (.cells #[.int .i64 0, .int .i64 0, .slice none 0 0, .int .i64 0, .int .i64 0, .int .i64 0] 25)).drew (((Mod.refl _ _).alloc _).drew)).mono ?_); rintro e w5 ⟨A5, n5, c5, Bo, no, co, rfl, h1, h2, h3⟩; have H1 := Lib.hid h1; have H2 := Lib.hid h2; have hg9 : Blk w5 wr.heap.size 25 #[.int .i64 0, .int .i64 0, .slice none 0 0, .int .i64 0, .int .i64 0, .int .i64 0] := h3.blk (Blk.drew (Blk.new wr _ _)) (fun h => h); have HG9 := Lib.hid hg9; have H3 : Hid (Mod (fun _ => False) wr w5) := Lib.hid ((((Mod.refl _ _).alloc _).drew).trans h3 (fun _ _ h => h)); have r0 := hg9.cell 0; have f0 := hg9.frozen 0; have r1 := hg9.cell 1; have f1 := hg9.frozen 1; have r2 := hg9.cell 2; have f2 := hg9.frozen 2; have r3 := hg9.cell 3; have f3 := hg9.frozen 3; have r4 := hg9.cell 4; have f4 := hg9.frozen 4; have r5 := hg9.cell 5; have f5 := hg9.frozen 5; simp at r0 r1 r2 r3 r4 r5; clear h1 h2 h3 hg9))
          all_goals (go_wp2_with fail; go_meet)
          all_goals (
            refine ⟨_, A5, n5, c5, Bo, no, co, rfl, rfl, rfl, ?_⟩
            first
              | (have h8 := HG9.out; exact ⟨clk_over c2 rfl h8 (Nat.le_refl _) H1.out (Nat.le_refl _) H3.out, OwnK.modS H2.out (Mod.six_one _ _ _ _ _ _ _ _) (fun k hk e => own_blk_ne H2.out.2 h8 (by decide) (by rw [hk, e]))⟩)
              | exact ⟨clk_new c2 rfl H1.out (Nat.le_refl _) H3.out, OwnK.alloc H2.out _⟩)
      case rest =>
        obtain ⟨w9, rfl⟩ : ∃ w0 : World, w0 = wc := ⟨_, rfl⟩
        obtain ⟨g9, A9, n9, c9, Bo, no, co, rfl, rfl, rfl, ⟨hc9, hm9, hg9⟩, ho9⟩ := hcut
        have Hc9 := Lib.hid hc9; have Hm9 := Lib.hid hm9; have Ho9 := Lib.hid ho9
        have Hg9 : Hid (g9 ≠ g6 ∧ g9 ≠ g7 ∧ w.heap.size ≤ g9) := Lib.hid (by have := Hgl.out; have := Hm.out.size; omega)
        have HmA := Lib.hid (Hm.out.trans hm9 (fun _ _ h => h))
        clear hc9 hm9 hg9 ho9 xc
        have xc := Hx.out _ HmA.out
        go_wp2_with fail
        refine (ckKey_any (x / 8) w9 Hf8.out).mono ?_
        rw [Hk.out]
        rintro e w10 ⟨rfl, hm10⟩
        obtain ⟨W12, hW12, hm12, hb12, hb14, hz12⟩ := key_zero w10 #[.int .i64 k.s, .int .i64 k.l, .int .i64 k.b] #[.int .i64 0, .int .i64 0, .slice none 0 0, .int .i64 0, .int .i64 0, .int .i64 0]
        obtain ⟨g12, hg12⟩ : ∃ g, g = w10.heap.size := ⟨_, rfl⟩
        obtain ⟨g14, hg14⟩ : ∃ g, g = w10.heap.size + 1 := ⟨_, rfl⟩
        rw [← hg12] at hb12
        rw [← hg14] at hb14
        have hm92 := hm10.trans hm12 (fun _ _ h => h)
        have hmr := Hm9.out.trans hm92 (fun _ _ h => h)
        have Hc6b := Lib.hid (Hc6.out.new hmr); have Hc7b := Lib.hid (Hc7.out.new hmr); have Hc9b := Lib.hid (Hc9.out.new hm92); have Ho9b := Lib.hid (OwnK.mod Ho9.out hm92)
        have Hb12 := Lib.hid hb12; have Hb14 := Lib.hid hb14
        have HmB := Lib.hid (HmA.out.trans hm92 (fun _ _ h => h))
        have Hne : Hid (g14 ≠ g6 ∧ g14 ≠ g7 ∧ g14 ≠ g9 ∧ g14 ≠ g12 ∧ w.heap.size ≤ g14 ∧ w.heap.size ≤ w10.heap.size) := Lib.hid (by have := Hgl.out; have := Hm.out.size; have := Hm9.out.size; have := Hc9.out.blk.lt; have := hm10.size; have := HmA.out.size; omega)
        have HW12 := Lib.hid hW12; have Hg12 := Lib.hid hg12; have Hg14 := Lib.hid hg14
        clear hm10 hW12 hm12 hb12 hb14 hz12 hg12 hg14 hm92 hmr xc Hc6 Hc7 Hc9 Ho9 Hm9 HmA
        have xc := Hx.out _ HmB.out
        have mo := Hmo.out
        go_upto_region 13 with fail
        rw [← HW12.out, ← Hg14.out, ← Hg12.out]
        go_upto_block 2 with fail
        go_cut [13, 15] from 74 to 128 (fun s13 s15 wx => ∃ (vo vp' : Value), s13 = vo ∧ s15 = .bool ok ∧ ClkV w.heap.size g14 wx vp' c2 ∧ OwnK 3 w.heap.size wx 28 vo (os.map keyC) ∧ Mod (fun j => j = g14) W12 wx)
        case first =>
          as_aux_lemma =>
            obtain ⟨y0, y1, y2, y3, y4, y5⟩ := Hc6b.out.cells
            obtain ⟨z0, z1, z2⟩ := Hb12.out.threeR
            have HlowW : Hid (w.heap.size ≤ W12.heap.size) := Lib.hid HmB.out.size
            have hd := Hb14.out
            have d0 := hd.cell 0
            have d1 := hd.cell 1
            have d2 := hd.cell 2
            have d3 := hd.cell 3
            have d4 := hd.cell 4
            have d5 := hd.cell 5
            have f0 := hd.frozen 0
            have f1 := hd.frozen 1
            have f2 := hd.frozen 2
            have f3 := hd.frozen 3
            have f4 := hd.frozen 4
            have f5 := hd.frozen 5
            simp at d0 d1 d2 d3 d4 d5
            clear hd xc
            rcases Hl.out with rfl | rfl | rfl | rfl | rfl | rfl | rfl | rfl
            · as_aux_lemma =>
                have hea : admitK c k = (c2, os, ok) := by rw [← Hst.out]; unfold stepK; rw [Hk.out, if_pos (by have := Ho.out; omega)]
                have Hea := Lib.hid hea
                clear hea
                go_wp2_with fail
                refine (adm_call c c2 k os ok Hea.out Hgd.out Hc6b.out).mono ?_
                rintro e w5 ⟨vo, A5, n5, c5, rfl, h1, h2, h3⟩
                dsimp only [clkC]
                have hd5 := h3.blk Hb14.out (fun h => h)
                have hko := clk_over (W := w) c2 rfl hd5 Hne.out.2.2.2.2.1 h1 HlowW.out (HmB.out.trans h3 (fun _ _ h => h))
                have hsx := Mod.six_one w5 g14 (.int .i64 c2.most) (.int .i64 c2.target) (.slice A5 n5 c5) (.int .i64 (c2.hot : Int)) (.int .i64 (c2.cold : Int)) (.int .i64 (c2.test : Int))
                have hmd : Mod (fun j => j = g14) W12 ((((((w5.setCell ⟨g14, 0, none⟩ (.int .i64 c2.most)).setCell ⟨g14, 1, none⟩ (.int .i64 c2.target)).setCell ⟨g14, 2, none⟩ (.slice A5 n5 c5)).setCell ⟨g14, 3, none⟩ (.int .i64 (c2.hot : Int))).setCell ⟨g14, 4, none⟩ (.int .i64 (c2.cold : Int))).setCell ⟨g14, 5, none⟩ (.int .i64 (c2.test : Int))) := (h3.mono (fun _ _ h => h.elim)).trans hsx (fun _ _ h => h)
                have hk2 := OwnK.mono (OwnK.modS h2 hsx (fun j hj e => own_blk_ne h2.2 hd5 (by decide) (by rw [hj, e]))) HlowW.out
                have HkD := Lib.hid hk2
                clear h2 hk2
                have HcD := Lib.hid hko.1; have HmD := Lib.hid hmd
                clear y0 y1 y2 y3 y4 y5 z0 z1 z2 d0 d1 d2 d3 d4 d5 f0 f1 f2 f3 f4 f5 h1 h3 hko hmd hsx
                have d0 := hd5.cell 0
                have d1 := hd5.cell 1
                have d2 := hd5.cell 2
                have d3 := hd5.cell 3
                have d4 := hd5.cell 4
                have d5 := hd5.cell 5
                have f0 := hd5.frozen 0
                have f1 := hd5.frozen 1
                have f2 := hd5.frozen 2
                have f3 := hd5.frozen 3
                have f4 := hd5.frozen 4
                have f5 := hd5.frozen 5
                simp at d0 d1 d2 d3 d4 d5
                clear hd5
                go_wp2_with fail
                go_meet
                exact ⟨_, _, rfl, rfl, HcD.out, HkD.out, HmD.out⟩
            · as_aux_lemma =>
                have hea : admitK c k = (c2, os, ok) := by rw [← Hst.out]; unfold stepK; rw [Hk.out, if_pos (by have := Ho.out; omega)]
                have Hea := Lib.hid hea
                clear hea
                go_wp2_with fail
                refine (adm_call c c2 k os ok Hea.out Hgd.out Hc6b.out).mono ?_
                rintro e w5 ⟨vo, A5, n5, c5, rfl, h1, h2, h3⟩
                dsimp only [clkC]
                have hd5 := h3.blk Hb14.out (fun h => h)
                have hko := clk_over (W := w) c2 rfl hd5 Hne.out.2.2.2.2.1 h1 HlowW.out (HmB.out.trans h3 (fun _ _ h => h))
                have hsx := Mod.six_one w5 g14 (.int .i64 c2.most) (.int .i64 c2.target) (.slice A5 n5 c5) (.int .i64 (c2.hot : Int)) (.int .i64 (c2.cold : Int)) (.int .i64 (c2.test : Int))
                have hmd : Mod (fun j => j = g14) W12 ((((((w5.setCell ⟨g14, 0, none⟩ (.int .i64 c2.most)).setCell ⟨g14, 1, none⟩ (.int .i64 c2.target)).setCell ⟨g14, 2, none⟩ (.slice A5 n5 c5)).setCell ⟨g14, 3, none⟩ (.int .i64 (c2.hot : Int))).setCell ⟨g14, 4, none⟩ (.int .i64 (c2.cold : Int))).setCell ⟨g14, 5, none⟩ (.int .i64 (c2.test : Int))) := (h3.mono (fun _ _ h => h.elim)).trans hsx (fun _ _ h => h)
                have hk2 := OwnK.mono (OwnK.modS h2 hsx (fun j hj e => own_blk_ne h2.2 hd5 (by decide) (by rw [hj, e]))) HlowW.out
                have HkD := Lib.hid hk2
                clear h2 hk2
                have HcD := Lib.hid hko.1; have HmD := Lib.hid hmd
                clear y0 y1 y2 y3 y4 y5 z0 z1 z2 d0 d1 d2 d3 d4 d5 f0 f1 f2 f3 f4 f5 h1 h3 hko hmd hsx
                have d0 := hd5.cell 0
                have d1 := hd5.cell 1
                have d2 := hd5.cell 2
                have d3 := hd5.cell 3
                have d4 := hd5.cell 4
                have d5 := hd5.cell 5
                have f0 := hd5.frozen 0
                have f1 := hd5.frozen 1
                have f2 := hd5.frozen 2
                have f3 := hd5.frozen 3
                have f4 := hd5.frozen 4
                have f5 := hd5.frozen 5
                simp at d0 d1 d2 d3 d4 d5
                clear hd5
                go_wp2_with fail
                go_meet
                exact ⟨_, _, rfl, rfl, HcD.out, HkD.out, HmD.out⟩
            · as_aux_lemma =>
                have hea : admitK c k = (c2, os, ok) := by rw [← Hst.out]; unfold stepK; rw [Hk.out, if_pos (by have := Ho.out; omega)]
                have Hea := Lib.hid hea
                clear hea
                go_wp2_with fail
                refine (adm_call c c2 k os ok Hea.out Hgd.out Hc6b.out).mono ?_
                rintro e w5 ⟨vo, A5, n5, c5, rfl, h1, h2, h3⟩
                dsimp only [clkC]
                have hd5 := h3.blk Hb14.out (fun h => h)
                have hko := clk_over (W := w) c2 rfl hd5 Hne.out.2.2.2.2.1 h1 HlowW.out (HmB.out.trans h3 (fun _ _ h => h))
                have hsx := Mod.six_one w5 g14 (.int .i64 c2.most) (.int .i64 c2.target) (.slice A5 n5 c5) (.int .i64 (c2.hot : Int)) (.int .i64 (c2.cold : Int)) (.int .i64 (c2.test : Int))
                have hmd : Mod (fun j => j = g14) W12 ((((((w5.setCell ⟨g14, 0, none⟩ (.int .i64 c2.most)).setCell ⟨g14, 1, none⟩ (.int .i64 c2.target)).setCell ⟨g14, 2, none⟩ (.slice A5 n5 c5)).setCell ⟨g14, 3, none⟩ (.int .i64 (c2.hot : Int))).setCell ⟨g14, 4, none⟩ (.int .i64 (c2.cold : Int))).setCell ⟨g14, 5, none⟩ (.int .i64 (c2.test : Int))) := (h3.mono (fun _ _ h => h.elim)).trans hsx (fun _ _ h => h)
                have hk2 := OwnK.mono (OwnK.modS h2 hsx (fun j hj e => own_blk_ne h2.2 hd5 (by decide) (by rw [hj, e]))) HlowW.out
                have HkD := Lib.hid hk2
                clear h2 hk2
                have HcD := Lib.hid hko.1; have HmD := Lib.hid hmd
                clear y0 y1 y2 y3 y4 y5 z0 z1 z2 d0 d1 d2 d3 d4 d5 f0 f1 f2 f3 f4 f5 h1 h3 hko hmd hsx
                have d0 := hd5.cell 0
                have d1 := hd5.cell 1
                have d2 := hd5.cell 2
                have d3 := hd5.cell 3
                have d4 := hd5.cell 4
                have d5 := hd5.cell 5
                have f0 := hd5.frozen 0
                have f1 := hd5.frozen 1
                have f2 := hd5.frozen 2
                have f3 := hd5.frozen 3
                have f4 := hd5.frozen 4
                have f5 := hd5.frozen 5
                simp at d0 d1 d2 d3 d4 d5
                clear hd5
                go_wp2_with fail
                go_meet
                exact ⟨_, _, rfl, rfl, HcD.out, HkD.out, HmD.out⟩
            · as_aux_lemma =>
                have hea : os = [] ∧ touchK c k = (c2, ok) := by
                  have h := Hst.out
                  unfold stepK at h; rw [Hk.out, if_neg (by have := Ho.out; omega), if_pos (by have := Ho.out; omega)] at h
                  injection h with h1 h2
                  injection h2 with h2 h3
                  exact ⟨h2.symm, by rw [← h1, ← h3]⟩
                have Hea := Lib.hid hea.2
                have Hos := Lib.hid hea.1
                clear hea
                go_wp2_with fail
                refine (touch_call c c2 k ok Hea.out Hgd.out Hc6b.out).mono ?_
                rintro e w5 ⟨A5, n5, c5, rfl, h1, h3⟩
                dsimp only [clkC]
                have hd5 := h3.blk Hb14.out (fun h => h)
                have hko := clk_over (W := w) c2 rfl hd5 Hne.out.2.2.2.2.1 h1 HlowW.out (HmB.out.trans h3 (fun _ _ h => h))
                have hsx := Mod.six_one w5 g14 (.int .i64 c2.most) (.int .i64 c2.target) (.slice A5 n5 c5) (.int .i64 (c2.hot : Int)) (.int .i64 (c2.cold : Int)) (.int .i64 (c2.test : Int))
                have hmd : Mod (fun j => j = g14) W12 ((((((w5.setCell ⟨g14, 0, none⟩ (.int .i64 c2.most)).setCell ⟨g14, 1, none⟩ (.int .i64 c2.target)).setCell ⟨g14, 2, none⟩ (.slice A5 n5 c5)).setCell ⟨g14, 3, none⟩ (.int .i64 (c2.hot : Int))).setCell ⟨g14, 4, none⟩ (.int .i64 (c2.cold : Int))).setCell ⟨g14, 5, none⟩ (.int .i64 (c2.test : Int))) := (h3.mono (fun _ _ h => h.elim)).trans hsx (fun _ _ h => h)
                have HcD := Lib.hid hko.1; have HmD := Lib.hid hmd
                clear y0 y1 y2 y3 y4 y5 z0 z1 z2 d0 d1 d2 d3 d4 d5 f0 f1 f2 f3 f4 f5 h1 h3 hko hmd hsx
                have d0 := hd5.cell 0
                have d1 := hd5.cell 1
                have d2 := hd5.cell 2
                have d3 := hd5.cell 3
                have d4 := hd5.cell 4
                have d5 := hd5.cell 5
                have f0 := hd5.frozen 0
                have f1 := hd5.frozen 1
                have f2 := hd5.frozen 2
                have f3 := hd5.frozen 3
                have f4 := hd5.frozen 4
                have f5 := hd5.frozen 5
                simp at d0 d1 d2 d3 d4 d5
                clear hd5
                go_wp2_with fail
                go_meet
                refine ⟨_, _, rfl, rfl, HcD.out, ?_, HmD.out⟩
                rw [Hos.out]
                exact OwnK.nil _ _ _ _
            · as_aux_lemma =>
                have hea : os = [] ∧ touchK c k = (c2, ok) := by
                  have h := Hst.out
                  unfold stepK at h; rw [Hk.out, if_neg (by have := Ho.out; omega), if_pos (by have := Ho.out; omega)] at h
                  injection h with h1 h2
                  injection h2 with h2 h3
                  exact ⟨h2.symm, by rw [← h1, ← h3]⟩
                have Hea := Lib.hid hea.2
                have Hos := Lib.hid hea.1
                clear hea
                go_wp2_with fail
                refine (touch_call c c2 k ok Hea.out Hgd.out Hc6b.out).mono ?_
                rintro e w5 ⟨A5, n5, c5, rfl, h1, h3⟩
                dsimp only [clkC]
                have hd5 := h3.blk Hb14.out (fun h => h)
                have hko := clk_over (W := w) c2 rfl hd5 Hne.out.2.2.2.2.1 h1 HlowW.out (HmB.out.trans h3 (fun _ _ h => h))
                have hsx := Mod.six_one w5 g14 (.int .i64 c2.most) (.int .i64 c2.target) (.slice A5 n5 c5) (.int .i64 (c2.hot : Int)) (.int .i64 (c2.cold : Int)) (.int .i64 (c2.test : Int))
                have hmd : Mod (fun j => j = g14) W12 ((((((w5.setCell ⟨g14, 0, none⟩ (.int .i64 c2.most)).setCell ⟨g14, 1, none⟩ (.int .i64 c2.target)).setCell ⟨g14, 2, none⟩ (.slice A5 n5 c5)).setCell ⟨g14, 3, none⟩ (.int .i64 (c2.hot : Int))).setCell ⟨g14, 4, none⟩ (.int .i64 (c2.cold : Int))).setCell ⟨g14, 5, none⟩ (.int .i64 (c2.test : Int))) := (h3.mono (fun _ _ h => h.elim)).trans hsx (fun _ _ h => h)
                have HcD := Lib.hid hko.1; have HmD := Lib.hid hmd
                clear y0 y1 y2 y3 y4 y5 z0 z1 z2 d0 d1 d2 d3 d4 d5 f0 f1 f2 f3 f4 f5 h1 h3 hko hmd hsx
                have d0 := hd5.cell 0
                have d1 := hd5.cell 1
                have d2 := hd5.cell 2
                have d3 := hd5.cell 3
                have d4 := hd5.cell 4
                have d5 := hd5.cell 5
                have f0 := hd5.frozen 0
                have f1 := hd5.frozen 1
                have f2 := hd5.frozen 2
                have f3 := hd5.frozen 3
                have f4 := hd5.frozen 4
                have f5 := hd5.frozen 5
                simp at d0 d1 d2 d3 d4 d5
                clear hd5
                go_wp2_with fail
                go_meet
                refine ⟨_, _, rfl, rfl, HcD.out, ?_, HmD.out⟩
                rw [Hos.out]
                exact OwnK.nil _ _ _ _
            · as_aux_lemma =>
                obtain ⟨q, hq⟩ : ∃ z, x / 256 % 4 = z := ⟨_, rfl⟩
                obtain ⟨r, hr⟩ : ∃ z, x % 2 = z := ⟨_, rfl⟩
                have mq : bits .and .i64 (x / 256) 3 = q := by rw [mask3, hq]
                have mr : bits .and .i64 x 1 = r := by rw [mask1, hr]
                obtain ⟨q1, hq1⟩ : ∃ z, q - 1 = z := ⟨_, rfl⟩
                obtain ⟨m, hm⟩ : ∃ z, q1 - r = z := ⟨_, rfl⟩
                have hmb : -1000000 ≤ m ∧ m ≤ 1000000 := by omega
                have Hmb := Lib.hid hmb
                have wr1 : IntKind.i64.wrap (q - 1) = q1 := by rw [hq1]; exact IntWalk.i64_in _ (by omega)
                have wr2 : IntKind.i64.wrap (q1 - r) = m := by rw [hm]; exact IntWalk.i64_in _ (by omega)
                have hmm : x / 256 % 4 - 1 - x % 2 = m := by rw [hq, hr, hq1, hm]
                have Hmm := Lib.hid hmm
                have hq0 : 0 ≤ q ∧ q < 4 := by omega
                have hr0 : 0 ≤ r ∧ r < 2 := by omega
                clear hmm hmb hq hr
                have hea : os = [] ∧ pinK c k m = (c2, ok) := by
                  have h := Hst.out
                  unfold stepK at h; rw [Hk.out, Hmm.out, if_neg (by have := Ho.out; omega), if_neg (by have := Ho.out; omega), if_pos (by have := Ho.out; omega)] at h
                  injection h with h1 h2
                  injection h2 with h2 h3
                  exact ⟨h2.symm, by rw [← h1, ← h3]⟩
                have Hea := Lib.hid hea.2
                have Hos := Lib.hid hea.1
                clear hea
                go_wp2_with fail
                refine (pin_call c c2 k m ok Hea.out Hgd.out Hmb.out Hpx.out Hc6b.out).mono ?_
                rintro e w5 ⟨A5, n5, c5, rfl, h1, h3⟩
                dsimp only [clkC]
                have hd5 := h3.blk Hb14.out (fun h => h)
                have hko := clk_over (W := w) c2 rfl hd5 Hne.out.2.2.2.2.1 h1 HlowW.out (HmB.out.trans h3 (fun _ _ h => h))
                have hsx := Mod.six_one w5 g14 (.int .i64 c2.most) (.int .i64 c2.target) (.slice A5 n5 c5) (.int .i64 (c2.hot : Int)) (.int .i64 (c2.cold : Int)) (.int .i64 (c2.test : Int))
                have hmd : Mod (fun j => j = g14) W12 ((((((w5.setCell ⟨g14, 0, none⟩ (.int .i64 c2.most)).setCell ⟨g14, 1, none⟩ (.int .i64 c2.target)).setCell ⟨g14, 2, none⟩ (.slice A5 n5 c5)).setCell ⟨g14, 3, none⟩ (.int .i64 (c2.hot : Int))).setCell ⟨g14, 4, none⟩ (.int .i64 (c2.cold : Int))).setCell ⟨g14, 5, none⟩ (.int .i64 (c2.test : Int))) := (h3.mono (fun _ _ h => h.elim)).trans hsx (fun _ _ h => h)
                have HcD := Lib.hid hko.1; have HmD := Lib.hid hmd
                clear y0 y1 y2 y3 y4 y5 z0 z1 z2 d0 d1 d2 d3 d4 d5 f0 f1 f2 f3 f4 f5 h1 h3 hko hmd hsx
                have d0 := hd5.cell 0
                have d1 := hd5.cell 1
                have d2 := hd5.cell 2
                have d3 := hd5.cell 3
                have d4 := hd5.cell 4
                have d5 := hd5.cell 5
                have f0 := hd5.frozen 0
                have f1 := hd5.frozen 1
                have f2 := hd5.frozen 2
                have f3 := hd5.frozen 3
                have f4 := hd5.frozen 4
                have f5 := hd5.frozen 5
                simp at d0 d1 d2 d3 d4 d5
                clear hd5
                go_wp2_with fail
                go_meet
                refine ⟨_, _, rfl, rfl, HcD.out, ?_, HmD.out⟩
                rw [Hos.out]
                exact OwnK.nil _ _ _ _
            · as_aux_lemma =>
                obtain ⟨q, hq⟩ : ∃ z, x / 256 % 4 = z := ⟨_, rfl⟩
                obtain ⟨r, hr⟩ : ∃ z, x % 2 = z := ⟨_, rfl⟩
                have mq : bits .and .i64 (x / 256) 3 = q := by rw [mask3, hq]
                have mr : bits .and .i64 x 1 = r := by rw [mask1, hr]
                obtain ⟨q1, hq1⟩ : ∃ z, q - 1 = z := ⟨_, rfl⟩
                obtain ⟨m, hm⟩ : ∃ z, q1 - r = z := ⟨_, rfl⟩
                have hmb : -1000000 ≤ m ∧ m ≤ 1000000 := by omega
                have Hmb := Lib.hid hmb
                have wr1 : IntKind.i64.wrap (q - 1) = q1 := by rw [hq1]; exact IntWalk.i64_in _ (by omega)
                have wr2 : IntKind.i64.wrap (q1 - r) = m := by rw [hm]; exact IntWalk.i64_in _ (by omega)
                have hmm : x / 256 % 4 - 1 - x % 2 = m := by rw [hq, hr, hq1, hm]
                have Hmm := Lib.hid hmm
                have hq0 : 0 ≤ q ∧ q < 4 := by omega
                have hr0 : 0 ≤ r ∧ r < 2 := by omega
                clear hmm hmb hq hr
                have hea : os = [] ∧ pinK c k m = (c2, ok) := by
                  have h := Hst.out
                  unfold stepK at h; rw [Hk.out, Hmm.out, if_neg (by have := Ho.out; omega), if_neg (by have := Ho.out; omega), if_pos (by have := Ho.out; omega)] at h
                  injection h with h1 h2
                  injection h2 with h2 h3
                  exact ⟨h2.symm, by rw [← h1, ← h3]⟩
                have Hea := Lib.hid hea.2
                have Hos := Lib.hid hea.1
                clear hea
                go_wp2_with fail
                refine (pin_call c c2 k m ok Hea.out Hgd.out Hmb.out Hpx.out Hc6b.out).mono ?_
                rintro e w5 ⟨A5, n5, c5, rfl, h1, h3⟩
                dsimp only [clkC]
                have hd5 := h3.blk Hb14.out (fun h => h)
                have hko := clk_over (W := w) c2 rfl hd5 Hne.out.2.2.2.2.1 h1 HlowW.out (HmB.out.trans h3 (fun _ _ h => h))
                have hsx := Mod.six_one w5 g14 (.int .i64 c2.most) (.int .i64 c2.target) (.slice A5 n5 c5) (.int .i64 (c2.hot : Int)) (.int .i64 (c2.cold : Int)) (.int .i64 (c2.test : Int))
                have hmd : Mod (fun j => j = g14) W12 ((((((w5.setCell ⟨g14, 0, none⟩ (.int .i64 c2.most)).setCell ⟨g14, 1, none⟩ (.int .i64 c2.target)).setCell ⟨g14, 2, none⟩ (.slice A5 n5 c5)).setCell ⟨g14, 3, none⟩ (.int .i64 (c2.hot : Int))).setCell ⟨g14, 4, none⟩ (.int .i64 (c2.cold : Int))).setCell ⟨g14, 5, none⟩ (.int .i64 (c2.test : Int))) := (h3.mono (fun _ _ h => h.elim)).trans hsx (fun _ _ h => h)
                have HcD := Lib.hid hko.1; have HmD := Lib.hid hmd
                clear y0 y1 y2 y3 y4 y5 z0 z1 z2 d0 d1 d2 d3 d4 d5 f0 f1 f2 f3 f4 f5 h1 h3 hko hmd hsx
                have d0 := hd5.cell 0
                have d1 := hd5.cell 1
                have d2 := hd5.cell 2
                have d3 := hd5.cell 3
                have d4 := hd5.cell 4
                have d5 := hd5.cell 5
                have f0 := hd5.frozen 0
                have f1 := hd5.frozen 1
                have f2 := hd5.frozen 2
                have f3 := hd5.frozen 3
                have f4 := hd5.frozen 4
                have f5 := hd5.frozen 5
                simp at d0 d1 d2 d3 d4 d5
                clear hd5
                go_wp2_with fail
                go_meet
                refine ⟨_, _, rfl, rfl, HcD.out, ?_, HmD.out⟩
                rw [Hos.out]
                exact OwnK.nil _ _ _ _
            · as_aux_lemma =>
                obtain ⟨q, hq⟩ : ∃ z, x / 256 % 4 = z := ⟨_, rfl⟩
                have mq : bits .and .i64 (x / 256) 3 = q := by rw [mask3, hq]
                have Hq := Lib.hid hq
                clear hq
                by_cases hq0 : 0 < q
                · have b0 : decide (0 < q) = true := decide_eq_true hq0
                  have hea : admitK c k = (c2, os, ok) := by rw [← Hst.out]; unfold stepK; rw [Hk.out, if_neg (by have := Ho.out; omega), if_neg (by have := Ho.out; omega), if_neg (by have := Ho.out; omega), if_pos (by have := Hq.out; omega)]
                  have Hea := Lib.hid hea
                  clear hea
                  go_wp2_with fail
                  refine (adm_call c c2 k os ok Hea.out Hgd.out Hc6b.out).mono ?_
                  rintro e w5 ⟨vo, A5, n5, c5, rfl, h1, h2, h3⟩
                  dsimp only [clkC]
                  have hd5 := h3.blk Hb14.out (fun h => h)
                  have hko := clk_over (W := w) c2 rfl hd5 Hne.out.2.2.2.2.1 h1 HlowW.out (HmB.out.trans h3 (fun _ _ h => h))
                  have hsx := Mod.six_one w5 g14 (.int .i64 c2.most) (.int .i64 c2.target) (.slice A5 n5 c5) (.int .i64 (c2.hot : Int)) (.int .i64 (c2.cold : Int)) (.int .i64 (c2.test : Int))
                  have hmd : Mod (fun j => j = g14) W12 ((((((w5.setCell ⟨g14, 0, none⟩ (.int .i64 c2.most)).setCell ⟨g14, 1, none⟩ (.int .i64 c2.target)).setCell ⟨g14, 2, none⟩ (.slice A5 n5 c5)).setCell ⟨g14, 3, none⟩ (.int .i64 (c2.hot : Int))).setCell ⟨g14, 4, none⟩ (.int .i64 (c2.cold : Int))).setCell ⟨g14, 5, none⟩ (.int .i64 (c2.test : Int))) := (h3.mono (fun _ _ h => h.elim)).trans hsx (fun _ _ h => h)
                  have hk2 := OwnK.mono (OwnK.modS h2 hsx (fun j hj e => own_blk_ne h2.2 hd5 (by decide) (by rw [hj, e]))) HlowW.out
                  have HkD := Lib.hid hk2
                  clear h2 hk2
                  have HcD := Lib.hid hko.1; have HmD := Lib.hid hmd
                  clear y0 y1 y2 y3 y4 y5 z0 z1 z2 d0 d1 d2 d3 d4 d5 f0 f1 f2 f3 f4 f5 h1 h3 hko hmd hsx
                  have d0 := hd5.cell 0
                  have d1 := hd5.cell 1
                  have d2 := hd5.cell 2
                  have d3 := hd5.cell 3
                  have d4 := hd5.cell 4
                  have d5 := hd5.cell 5
                  have f0 := hd5.frozen 0
                  have f1 := hd5.frozen 1
                  have f2 := hd5.frozen 2
                  have f3 := hd5.frozen 3
                  have f4 := hd5.frozen 4
                  have f5 := hd5.frozen 5
                  simp at d0 d1 d2 d3 d4 d5
                  clear hd5
                  go_wp2_with fail
                  go_meet
                  exact ⟨_, _, rfl, rfl, HcD.out, HkD.out, HmD.out⟩
                · have b0 : decide (0 < q) = false := decide_eq_false hq0
                  have hea : os = [] ∧ dropK c k = (c2, ok) := by
                    have h := Hst.out
                    unfold stepK at h; rw [Hk.out, if_neg (by have := Ho.out; omega), if_neg (by have := Ho.out; omega), if_neg (by have := Ho.out; omega), if_neg (by have := Hq.out; omega)] at h
                    injection h with h1 h2
                    injection h2 with h2 h3
                    exact ⟨h2.symm, by rw [← h1, ← h3]⟩
                  have Hea := Lib.hid hea.2
                  have Hos := Lib.hid hea.1
                  clear hea
                  go_wp2_with fail
                  refine (drop_call c c2 k ok Hea.out Hgd.out Hc6b.out).mono ?_
                  rintro e w5 ⟨A5, n5, c5, rfl, h1, h3⟩
                  dsimp only [clkC]
                  have hd5 := h3.blk Hb14.out (fun h => h)
                  have hko := clk_over (W := w) c2 rfl hd5 Hne.out.2.2.2.2.1 h1 HlowW.out (HmB.out.trans h3 (fun _ _ h => h))
                  have hsx := Mod.six_one w5 g14 (.int .i64 c2.most) (.int .i64 c2.target) (.slice A5 n5 c5) (.int .i64 (c2.hot : Int)) (.int .i64 (c2.cold : Int)) (.int .i64 (c2.test : Int))
                  have hmd : Mod (fun j => j = g14) W12 ((((((w5.setCell ⟨g14, 0, none⟩ (.int .i64 c2.most)).setCell ⟨g14, 1, none⟩ (.int .i64 c2.target)).setCell ⟨g14, 2, none⟩ (.slice A5 n5 c5)).setCell ⟨g14, 3, none⟩ (.int .i64 (c2.hot : Int))).setCell ⟨g14, 4, none⟩ (.int .i64 (c2.cold : Int))).setCell ⟨g14, 5, none⟩ (.int .i64 (c2.test : Int))) := (h3.mono (fun _ _ h => h.elim)).trans hsx (fun _ _ h => h)
                  have HcD := Lib.hid hko.1; have HmD := Lib.hid hmd
                  clear y0 y1 y2 y3 y4 y5 z0 z1 z2 d0 d1 d2 d3 d4 d5 f0 f1 f2 f3 f4 f5 h1 h3 hko hmd hsx
                  have d0 := hd5.cell 0
                  have d1 := hd5.cell 1
                  have d2 := hd5.cell 2
                  have d3 := hd5.cell 3
                  have d4 := hd5.cell 4
                  have d5 := hd5.cell 5
                  have f0 := hd5.frozen 0
                  have f1 := hd5.frozen 1
                  have f2 := hd5.frozen 2
                  have f3 := hd5.frozen 3
                  have f4 := hd5.frozen 4
                  have f5 := hd5.frozen 5
                  simp at d0 d1 d2 d3 d4 d5
                  clear hd5
                  go_wp2_with fail
                  go_meet
                  refine ⟨_, _, rfl, rfl, HcD.out, ?_, HmD.out⟩
                  rw [Hos.out]
                  exact OwnK.nil _ _ _ _
        case rest =>
          as_aux_lemma =>
            obtain ⟨w16, rfl⟩ : ∃ w0 : World, w0 = wc := ⟨_, rfl⟩
            obtain ⟨vo, vp', rfl, rfl, hc14, hko, hmd⟩ := hcut
            obtain ⟨Bv, nv, cv, rfl, hnv, _, _, hrv⟩ := OwnK.formN hko
            obtain ⟨Ad, nd, cd, rfl, hnd, _, _, hrd14⟩ := hc14.form
            have Hc14 := Lib.hid hc14; have Hrv := Lib.hid hrv; have Hnd := Lib.hid hnd.out; have Hr14 := Lib.hid hrd14
            have hc6c := Hc6b.out.modS hmd (fun j hj e => by
              rcases hj with rfl | hj
              · have := Hne.out; omega
              · exact own_blk_ne Hc6b.out.ps.2 Hb14.out (by decide) (by rw [hj, e]))
            have hc7c := Hc7b.out.modS hmd (fun j hj e => by
              rcases hj with rfl | hj
              · have := Hne.out; omega
              · exact own_blk_ne Hc7b.out.ps.2 Hb14.out (by decide) (by rw [hj, e]))
            have hc9c := (Hc9b.out.mono Hm.out.size).modS hmd (fun j hj e => by
              rcases hj with rfl | hj
              · have := Hne.out; omega
              · exact own_blk_ne Hc9b.out.ps.2 Hb14.out (by decide) (by rw [hj, e]))
            have ho9c := OwnK.modS Ho9b.out hmd (fun j hj e => own_blk_ne Ho9b.out.2 Hb14.out (by decide) (by rw [hj, e]))
            have hb12 := hmd.blk Hb12.out (by have := Hne.out; omega)
            have HmE : Hid (Mod (fun _ => False) w w16) := Lib.hid (HmB.out.trans hmd (fun j hj e => by have := Hne.out; omega))
            have hno : os.length = no := by have h := own_lenK ho9c; rwa [List.length_map] at h
            have hnv2 : os.length = nv := by have h := hnv.out; rwa [List.length_map] at h
            have hos1 : os.length ≤ 1 := by
              have h := Hst.out
              have h1 : ((stepK c x).2.1).length ≤ 1 := step_few Hgd.out x
              rw [h] at h1
              exact h1
            have Hro : Hid (RdsK 3 w16 w16.heap.size Bo no (os.map keyC)) := Lib.hid (OwnK.rds ho9c (by rw [List.length_map]; exact hno))
            have Hnn : Hid (no ≤ 100000 ∧ nv ≤ 100000) := Lib.hid (by omega)
            have H2k : Hid (c2.ps.length ≤ 2000) := Lib.hid Hg2.out.len
            have H1k : Hid (c.ps.length ≤ 2000) := Lib.hid Hgd.out.len
            have Hr9 : Hid (RdsP w16 w16.heap.size A9 n9 c2.ps ∧ c2.ps.length = n9) := Lib.hid (by
              have h := own_lenK hc9c.ps
              rw [List.length_map] at h
              exact ⟨OwnK.rds hc9c.ps (by rw [List.length_map]; exact h), h⟩)
            have Hr6 : Hid (RdsP w16 w16.heap.size A n c.ps) := Lib.hid (OwnK.rds hc6c.ps (by rw [List.length_map]; exact Hn6.out))
            have Hr7 : Hid (RdsP w16 w16.heap.size Aq nq c.ps) := Lib.hid (OwnK.rds hc7c.ps (by rw [List.length_map]; exact Hn7.out))
            have Hc6c := Lib.hid hc6c; have Hc7c := Lib.hid hc7c; have Hc9c := Lib.hid hc9c; have Hb12c := Lib.hid hb12
            clear hc14 hko hmd hnv hrv hnd hrd14 hc6c hc7c hc9c ho9c hb12 hno hnv2 hos1 Hc6b Hc7b Hc9b Ho9b Hb12 Hb14 xc mo HW12
            have Csame : Hid (∀ w2, Mod (fun _ => False) w16 w2 → Calls Try.prog 19 #[.slice Bv nv cv, .slice Bo no co] w2 fun e w' => e = .returned (.bool true) ∧ Mod (fun _ => False) w16 w') := Lib.hid (fun w2 h => by
              refine (lsame_any os os Bv Bo nv cv no co w2 (RdsK.new Hrv.out h).fit (RdsK.new Hro.out h).fit Hnn.out.2 Hnn.out.1).mono ?_
              rintro e w' ⟨rfl, hm⟩
              exact ⟨by rw [decide_eq_true rfl], h.trans hm (fun _ _ h => h)⟩)
            cases ok with
            | false =>
              as_aux_lemma =>
                go_upto_region 22 with fail
                refine wp_region_class (fun W' => Mod (fun _ => False) w16 W') (by kernel_rfl) (by kernel_rfl) (Mod.refl _ _).drew ?_
                iterate 6 quiet_step (exact fun _ => rfl)
                refine wpQuiet_step (fun K hK => ?_)
                go_simp
                refine ⟨.bool true, fun w2 h2 => (Csame.out w2 h2).mono ?_, hK _ ?_⟩
                · rintro e w3 ⟨rfl, hm⟩
                  exact ⟨rfl, hm⟩
                clear hK K
                iterate 5 quiet_step (exact fun _ => rfl)
                iterate 4 ((with_reducible refine quiet_skip ?h ?_); (case h => kernel_rfl); (simp only [Act.put, List.setIfInBounds_toArray, List.set_cons_zero, List.set_cons_succ]))
                iterate 5 quiet_step (exact fun _ => rfl)
                iterate 7 ((with_reducible refine quiet_skip ?h ?_); (case h => kernel_rfl); (simp only [Act.put, List.setIfInBounds_toArray, List.set_cons_zero, List.set_cons_succ]))
                iterate 5 quiet_step (exact fun _ => rfl)
                iterate 7 ((with_reducible refine quiet_skip ?h ?_); (case h => kernel_rfl); (simp only [Act.put, List.setIfInBounds_toArray, List.set_cons_zero, List.set_cons_succ]))
                iterate 2 quiet_step (exact fun _ => rfl)
                refine wpQuiet_nil ?_
                intro w7 h7
                have H7 := Lib.hid h7
                clear h7
                go_wp2_with fail
                go_roundg (gk - 1)
                case measure => have := Hik.out; omega
                case rel => exact ⟨i + 1, c, .slice A n cap, .slice Aq nq cq, by have := Hik.out; omega, by go_num, Hgd.out, Hpi.out.mono (by omega), Hc6c.out.new H7.out, Hc7c.out.new H7.out, HmE.out.trans H7.out (fun _ _ h => h)⟩
            | true =>
              as_aux_lemma =>
                have L14 : Hid (∀ w2, Mod (fun _ => False) w16 w2 → w2.cell? ⟨g14, 0, none⟩ = some (.int .i64 c2.most) ∧ w2.cell? ⟨g14, 1, none⟩ = some (.int .i64 c2.target) ∧ w2.cell? ⟨g14, 2, none⟩ = some (.slice Ad nd cd) ∧ w2.cell? ⟨g14, 3, none⟩ = some (.int .i64 c2.hot) ∧ w2.cell? ⟨g14, 4, none⟩ = some (.int .i64 c2.cold) ∧ w2.cell? ⟨g14, 5, none⟩ = some (.int .i64 c2.test)) := Lib.hid (fun w2 h => (Hc14.out.new h).cells)
                have L9 : Hid (∀ w2, Mod (fun _ => False) w16 w2 → w2.cell? ⟨g9, 0, none⟩ = some (.int .i64 c2.most) ∧ w2.cell? ⟨g9, 1, none⟩ = some (.int .i64 c2.target) ∧ w2.cell? ⟨g9, 2, none⟩ = some (.slice A9 n9 c9) ∧ w2.cell? ⟨g9, 3, none⟩ = some (.int .i64 c2.hot) ∧ w2.cell? ⟨g9, 4, none⟩ = some (.int .i64 c2.cold) ∧ w2.cell? ⟨g9, 5, none⟩ = some (.int .i64 c2.test)) := Lib.hid (fun w2 h => (Hc9c.out.new h).cells)
                have L6 : Hid (∀ w2, Mod (fun _ => False) w16 w2 → w2.cell? ⟨g6, 0, none⟩ = some (.int .i64 c.most) ∧ w2.cell? ⟨g6, 1, none⟩ = some (.int .i64 c.target) ∧ w2.cell? ⟨g6, 2, none⟩ = some (.slice A n cap) ∧ w2.cell? ⟨g6, 3, none⟩ = some (.int .i64 c.hot) ∧ w2.cell? ⟨g6, 4, none⟩ = some (.int .i64 c.cold) ∧ w2.cell? ⟨g6, 5, none⟩ = some (.int .i64 c.test)) := Lib.hid (fun w2 h => (Hc6c.out.new h).cells)
                have L7 : Hid (∀ w2, Mod (fun _ => False) w16 w2 → w2.cell? ⟨g7, 0, none⟩ = some (.int .i64 c.most) ∧ w2.cell? ⟨g7, 1, none⟩ = some (.int .i64 c.target) ∧ w2.cell? ⟨g7, 2, none⟩ = some (.slice Aq nq cq) ∧ w2.cell? ⟨g7, 3, none⟩ = some (.int .i64 c.hot) ∧ w2.cell? ⟨g7, 4, none⟩ = some (.int .i64 c.cold) ∧ w2.cell? ⟨g7, 5, none⟩ = some (.int .i64 c.test)) := Lib.hid (fun w2 h => (Hc7c.out.new h).cells)
                have L12 : Hid (∀ w2, Mod (fun _ => False) w16 w2 → w2.cell? ⟨g12, 0, none⟩ = some (.int .i64 k.s) ∧ w2.cell? ⟨g12, 1, none⟩ = some (.int .i64 k.l) ∧ w2.cell? ⟨g12, 2, none⟩ = some (.int .i64 k.b)) := Lib.hid (fun w2 h => (h.blk Hb12c.out (fun h => h)).threeR)
                obtain ⟨z, hz⟩ : ∃ z, placeK k c2.ps = z := ⟨_, rfl⟩
                obtain ⟨bb, hbb⟩ : ∃ b, decide (c = c2) = b := ⟨_, rfl⟩
                have HZ := Lib.hid hz; have HBB := Lib.hid hbb
                clear hz hbb
                have Cs1 : Hid (∀ w2, Mod (fun _ => False) w16 w2 → Calls Try.prog 15 #[.agg #[.int .i64 c2.most, .int .i64 c2.target, .slice Ad nd cd, .int .i64 (c2.hot : Int), .int .i64 (c2.cold : Int), .int .i64 (c2.test : Int)], .agg #[.int .i64 c2.most, .int .i64 c2.target, .slice A9 n9 c9, .int .i64 (c2.hot : Int), .int .i64 (c2.cold : Int), .int .i64 (c2.test : Int)]] w2 fun e w' => e = .returned (.bool true) ∧ Mod (fun _ => False) w16 w') := Lib.hid (fun w2 h => by
                  refine (rkSame_any c2 c2 Ad A9 nd cd n9 c9 w2 (RdsP.new Hr14.out h).fit (RdsP.new Hr9.out.1 h).fit (by have := Hnd.out; have := H2k.out; omega) (by have := Hr9.out.2; have := H2k.out; omega)).mono ?_
                  rintro e w' ⟨rfl, hm⟩
                  exact ⟨by rw [decide_eq_true rfl], h.trans hm (fun _ _ h => h)⟩)
                have Cf : Hid (∀ w2, Mod (fun _ => False) w16 w2 → Calls Try.prog 10 #[.agg #[.int .i64 c2.most, .int .i64 c2.target, .slice Ad nd cd, .int .i64 (c2.hot : Int), .int .i64 (c2.cold : Int), .int .i64 (c2.test : Int)], .agg #[.int .i64 k.s, .int .i64 k.l, .int .i64 k.b]] w2 fun e w' => e = .returned (.int .i64 z) ∧ Mod (fun _ => False) w16 w') := Lib.hid (fun w2 h => by
                  refine (find_any c2 k Ad nd cd w2 (RdsP.new Hr14.out h).fit (by have := Hnd.out; have := H2k.out; omega)).mono ?_
                  rw [HZ.out]
                  rintro e w' ⟨rfl, hm⟩
                  exact ⟨rfl, h.trans hm (fun _ _ h => h)⟩)
                have Crf : Hid (∀ w2, Mod (fun _ => False) w16 w2 → Calls Try.prog 20 #[.agg #[.int .i64 c2.most, .int .i64 c2.target, .slice A9 n9 c9, .int .i64 (c2.hot : Int), .int .i64 (c2.cold : Int), .int .i64 (c2.test : Int)], .agg #[.int .i64 k.s, .int .i64 k.l, .int .i64 k.b]] w2 fun e w' => e = .returned (.int .i64 z) ∧ Mod (fun _ => False) w16 w') := Lib.hid (fun w2 h => by
                  refine (rkFind_any c2 k A9 n9 c9 w2 (RdsP.new Hr9.out.1 h).fit (by have := Hr9.out.2; have := H2k.out; omega)).mono ?_
                  rw [HZ.out]
                  rintro e w' ⟨rfl, hm⟩
                  exact ⟨rfl, h.trans hm (fun _ _ h => h)⟩)
                have Ccs : Hid (∀ w2, Mod (fun _ => False) w16 w2 → Calls Try.prog 21 #[.agg #[.int .i64 c.most, .int .i64 c.target, .slice A n cap, .int .i64 (c.hot : Int), .int .i64 (c.cold : Int), .int .i64 (c.test : Int)], .agg #[.int .i64 c2.most, .int .i64 c2.target, .slice Ad nd cd, .int .i64 (c2.hot : Int), .int .i64 (c2.cold : Int), .int .i64 (c2.test : Int)]] w2 fun e w' => e = .returned (.bool bb) ∧ Mod (fun _ => False) w16 w') := Lib.hid (fun w2 h => by
                  refine (ckSame_any c c2 A Ad n cap nd cd w2 (RdsP.new Hr6.out h).fit (RdsP.new Hr14.out h).fit (by have := Hn6.out; have := H1k.out; omega) (by have := Hnd.out; have := H2k.out; omega)).mono ?_
                  rw [HBB.out]
                  rintro e w' ⟨rfl, hm⟩
                  exact ⟨rfl, h.trans hm (fun _ _ h => h)⟩)
                have Crs : Hid (∀ w2, Mod (fun _ => False) w16 w2 → Calls Try.prog 15 #[.agg #[.int .i64 c.most, .int .i64 c.target, .slice Aq nq cq, .int .i64 (c.hot : Int), .int .i64 (c.cold : Int), .int .i64 (c.test : Int)], .agg #[.int .i64 c2.most, .int .i64 c2.target, .slice A9 n9 c9, .int .i64 (c2.hot : Int), .int .i64 (c2.cold : Int), .int .i64 (c2.test : Int)]] w2 fun e w' => e = .returned (.bool bb) ∧ Mod (fun _ => False) w16 w') := Lib.hid (fun w2 h => by
                  refine (rkSame_any c c2 Aq A9 nq cq n9 c9 w2 (RdsP.new Hr7.out h).fit (RdsP.new Hr9.out.1 h).fit (by have := Hn7.out; have := H1k.out; omega) (by have := Hr9.out.2; have := H2k.out; omega)).mono ?_
                  rw [HBB.out]
                  rintro e w' ⟨rfl, hm⟩
                  exact ⟨rfl, h.trans hm (fun _ _ h => h)⟩)
                clear HBB
                cases bb with
                | false =>
                  as_aux_lemma =>
                    go_upto_region 22 with fail
                    refine wp_region_class (fun W' => Mod (fun _ => False) w16 W') (by kernel_rfl) (by kernel_rfl) (Mod.refl _ _).drew ?_
                    iterate 6 quiet_step (exact fun _ => rfl)
                    refine wpQuiet_step (fun K hK => ?_)
                    go_simp
                    refine ⟨.bool true, fun w2 h2 => (Csame.out w2 h2).mono ?_, hK _ ?_⟩
                    · rintro e w3 ⟨rfl, hm⟩
                      exact ⟨rfl, hm⟩
                    clear hK K
                    iterate 5 quiet_step (exact fun _ => rfl)
                    refine wpQuiet_step (fun K hK => ?_)
                    go_simp
                    refine ⟨.agg #[.int .i64 c2.most, .int .i64 c2.target, .slice Ad nd cd, .int .i64 (c2.hot : Int), .int .i64 (c2.cold : Int), .int .i64 (c2.test : Int)], fun w2 h2 => ?_, hK _ ?_⟩
                    · obtain ⟨b0, b1, b2, b3, b4, b5⟩ := L14.out w2 h2
                      simp only [b0, b1, b2, b3, b4, b5, Result.andThen_ok]
                      exact ⟨trivial, trivial⟩
                    clear hK K
                    refine wpQuiet_step (fun K hK => ?_)
                    go_simp
                    refine ⟨.agg #[.int .i64 c2.most, .int .i64 c2.target, .slice A9 n9 c9, .int .i64 (c2.hot : Int), .int .i64 (c2.cold : Int), .int .i64 (c2.test : Int)], fun w2 h2 => ?_, hK _ ?_⟩
                    · obtain ⟨b0, b1, b2, b3, b4, b5⟩ := L9.out w2 h2
                      simp only [b0, b1, b2, b3, b4, b5, Result.andThen_ok]
                      exact ⟨trivial, trivial⟩
                    clear hK K
                    refine wpQuiet_step (fun K hK => ?_)
                    go_simp
                    refine ⟨.bool true, fun w2 h2 => (Cs1.out w2 h2).mono ?_, hK _ ?_⟩
                    · rintro e w3 ⟨rfl, hm⟩
                      exact ⟨rfl, hm⟩
                    clear hK K
                    iterate 6 quiet_step (exact fun _ => rfl)
                    refine wpQuiet_step (fun K hK => ?_)
                    go_simp
                    refine ⟨.agg #[.int .i64 c2.most, .int .i64 c2.target, .slice Ad nd cd, .int .i64 (c2.hot : Int), .int .i64 (c2.cold : Int), .int .i64 (c2.test : Int)], fun w2 h2 => ?_, hK _ ?_⟩
                    · obtain ⟨b0, b1, b2, b3, b4, b5⟩ := L14.out w2 h2
                      simp only [b0, b1, b2, b3, b4, b5, Result.andThen_ok]
                      exact ⟨trivial, trivial⟩
                    clear hK K
                    refine wpQuiet_step (fun K hK => ?_)
                    go_simp
                    refine ⟨.agg #[.int .i64 k.s, .int .i64 k.l, .int .i64 k.b], fun w2 h2 => ?_, hK _ ?_⟩
                    · obtain ⟨b0, b1, b2⟩ := L12.out w2 h2
                      simp only [b0, b1, b2, Result.andThen_ok]
                      exact ⟨trivial, trivial⟩
                    clear hK K
                    refine wpQuiet_step (fun K hK => ?_)
                    go_simp
                    refine ⟨.int .i64 z, fun w2 h2 => (Cf.out w2 h2).mono ?_, hK _ ?_⟩
                    · rintro e w3 ⟨rfl, hm⟩
                      exact ⟨rfl, hm⟩
                    clear hK K
                    refine wpQuiet_step (fun K hK => ?_)
                    go_simp
                    refine ⟨.agg #[.int .i64 c2.most, .int .i64 c2.target, .slice A9 n9 c9, .int .i64 (c2.hot : Int), .int .i64 (c2.cold : Int), .int .i64 (c2.test : Int)], fun w2 h2 => ?_, hK _ ?_⟩
                    · obtain ⟨b0, b1, b2, b3, b4, b5⟩ := L9.out w2 h2
                      simp only [b0, b1, b2, b3, b4, b5, Result.andThen_ok]
                      exact ⟨trivial, trivial⟩
                    clear hK K
                    refine wpQuiet_step (fun K hK => ?_)
                    go_simp
                    refine ⟨.agg #[.int .i64 k.s, .int .i64 k.l, .int .i64 k.b], fun w2 h2 => ?_, hK _ ?_⟩
                    · obtain ⟨b0, b1, b2⟩ := L12.out w2 h2
                      simp only [b0, b1, b2, Result.andThen_ok]
                      exact ⟨trivial, trivial⟩
                    clear hK K
                    refine wpQuiet_step (fun K hK => ?_)
                    go_simp
                    refine ⟨.int .i64 z, fun w2 h2 => (Crf.out w2 h2).mono ?_, hK _ ?_⟩
                    · rintro e w3 ⟨rfl, hm⟩
                      exact ⟨rfl, hm⟩
                    clear hK K
                    iterate 6 quiet_step (exact fun _ => rfl)
                    refine wpQuiet_step (fun K hK => ?_)
                    go_simp
                    refine ⟨.agg #[.int .i64 c.most, .int .i64 c.target, .slice A n cap, .int .i64 (c.hot : Int), .int .i64 (c.cold : Int), .int .i64 (c.test : Int)], fun w2 h2 => ?_, hK _ ?_⟩
                    · obtain ⟨b0, b1, b2, b3, b4, b5⟩ := L6.out w2 h2
                      simp only [b0, b1, b2, b3, b4, b5, Result.andThen_ok]
                      exact ⟨trivial, trivial⟩
                    clear hK K
                    refine wpQuiet_step (fun K hK => ?_)
                    go_simp
                    refine ⟨.agg #[.int .i64 c2.most, .int .i64 c2.target, .slice Ad nd cd, .int .i64 (c2.hot : Int), .int .i64 (c2.cold : Int), .int .i64 (c2.test : Int)], fun w2 h2 => ?_, hK _ ?_⟩
                    · obtain ⟨b0, b1, b2, b3, b4, b5⟩ := L14.out w2 h2
                      simp only [b0, b1, b2, b3, b4, b5, Result.andThen_ok]
                      exact ⟨trivial, trivial⟩
                    clear hK K
                    refine wpQuiet_step (fun K hK => ?_)
                    go_simp
                    refine ⟨.bool false, fun w2 h2 => (Ccs.out w2 h2).mono ?_, hK _ ?_⟩
                    · rintro e w3 ⟨rfl, hm⟩
                      exact ⟨rfl, hm⟩
                    clear hK K
                    refine wpQuiet_step (fun K hK => ?_)
                    go_simp
                    refine ⟨.agg #[.int .i64 c.most, .int .i64 c.target, .slice Aq nq cq, .int .i64 (c.hot : Int), .int .i64 (c.cold : Int), .int .i64 (c.test : Int)], fun w2 h2 => ?_, hK _ ?_⟩
                    · obtain ⟨b0, b1, b2, b3, b4, b5⟩ := L7.out w2 h2
                      simp only [b0, b1, b2, b3, b4, b5, Result.andThen_ok]
                      exact ⟨trivial, trivial⟩
                    clear hK K
                    refine wpQuiet_step (fun K hK => ?_)
                    go_simp
                    refine ⟨.agg #[.int .i64 c2.most, .int .i64 c2.target, .slice A9 n9 c9, .int .i64 (c2.hot : Int), .int .i64 (c2.cold : Int), .int .i64 (c2.test : Int)], fun w2 h2 => ?_, hK _ ?_⟩
                    · obtain ⟨b0, b1, b2, b3, b4, b5⟩ := L9.out w2 h2
                      simp only [b0, b1, b2, b3, b4, b5, Result.andThen_ok]
                      exact ⟨trivial, trivial⟩
                    clear hK K
                    refine wpQuiet_step (fun K hK => ?_)
                    go_simp
                    refine ⟨.bool false, fun w2 h2 => (Crs.out w2 h2).mono ?_, hK _ ?_⟩
                    · rintro e w3 ⟨rfl, hm⟩
                      exact ⟨rfl, hm⟩
                    clear hK K
                    iterate 3 quiet_step (exact fun _ => rfl)
                    refine wpQuiet_nil ?_
                    intro w7 h7
                    have H7 := Lib.hid h7
                    clear h7
                    have hst2 := two_stores (w := w) c c2 (Nat.le_refl _) (Hc6c.out.new H7.out) (Hc7c.out.new H7.out) (Hc9c.out.new H7.out) (Hc14.out.new H7.out) Hg7l.out.2.1 Hne.out.1 Hg9.out.1 Hg6l.out.1 Hg7l.out.1 (HmE.out.trans H7.out (fun _ _ h => h))
                    obtain ⟨W6, hW6, t14, t9, t7, hk⟩ := hst2
                    have HK := Lib.hid hk; have HW6 := Lib.hid hW6; have T14 := Lib.hid t14; have T9 := Lib.hid t9; have T7 := Lib.hid t7
                    have T0 := Lib.hid (Hc14.out.new H7.out).drew.blk
                    have B6 := Lib.hid (Hc6c.out.new H7.out).drew.blk
                    have B9 := Lib.hid (Hc9c.out.new H7.out).drew.blk
                    clear hW6 t14 t9 t7 hk
                    go_upto_region 25 with fail
                    refine wp_region_T (fun W' => Blk W' g14 25 (clkC c2 (.slice Ad nd cd))) 2 (by kernel_rfl) T0.out (fun hHeld => ?_)
                    refine wpAnyT_takeAt (i := 0) (v := .agg (clkC c2 (.slice Ad nd cd))) rfl (by kernel_rfl) (by kernel_rfl) (by kernel_rfl) (by kernel_rfl) (fun _ _ _ h => h) (yields_loadB rfl _ _ rfl rfl (fun _ h => h) Try.underlying25 rfl (by kernel_rfl)) hHeld ?_
                    simp only [Act.put, List.setIfInBounds_toArray]
                    refine wpAnyT_ready (rs := [1, 2]) (by kernel_rfl) (by simp) (AllReadyT.cons rfl (fun K hK => ?_) (AllReadyT.cons rfl (fun K hK => ?_) AllReadyT.nil))
                    · refine step_loadB rfl _ _ rfl rfl B9.out Try.underlying25 rfl (by kernel_rfl) ?_
                      refine hK.out _ _ hHeld (fun hHeld => ?_)
                      clear hK K hHeld
                      simp only [Act.put]
                      refine wpAnyT_rest (by kernel_rfl) ?_
                      refine wpAny_ready (rs := [2]) (by kernel_rfl) (by simp) (AllReady.cons rfl (fun K hK => ?_) AllReady.nil)
                      refine step_storeB rfl _ _ _ rfl rfl rfl rfl B6.out rfl (by kernel_rfl) (clk_one _) ?_
                      rw [← HW6.out]
                      refine hK _ _ ?_
                      clear hK K
                      refine wpAny_ready (rs := [3]) (by kernel_rfl) (by simp) (AllReady.cons rfl (fun K hK => ?_) AllReady.nil)
                      refine step_storeB rfl _ _ _ rfl rfl rfl rfl T7.out rfl (by kernel_rfl) (clk_one _) ?_
                      refine hK _ _ ?_
                      clear hK K
                      refine wpAny_done (by kernel_rfl) ?_ _
                      go_wp2_with fail
                      go_roundg (gk - 1)
                      case measure => have := Hik.out; omega
                      case rel => exact ⟨i + 1, c2, .slice Ad nd cd, .slice A9 n9 c9, by have := Hik.out; omega, by go_num, Hg2.out, Hp2.out, HK.out.1, HK.out.2.1, HK.out.2.2⟩
                    · clear hHeld
                      refine step_storeB rfl _ _ _ rfl rfl rfl rfl B6.out rfl (by kernel_rfl) (clk_one _) ?_
                      rw [← HW6.out]
                      refine hK.out _ _ T14.out (fun hHeld => ?_)
                      clear hK K
                      refine wpAnyT_ready (rs := [1]) (by kernel_rfl) (by simp) (AllReadyT.cons rfl (fun K hK => ?_) AllReadyT.nil)
                      refine step_loadB rfl _ _ rfl rfl T9.out Try.underlying25 rfl (by kernel_rfl) ?_
                      refine hK.out _ _ hHeld (fun hHeld => ?_)
                      clear hK K hHeld
                      simp only [Act.put]
                      refine wpAnyT_rest (by kernel_rfl) ?_
                      refine wpAny_ready (rs := [3]) (by kernel_rfl) (by simp) (AllReady.cons rfl (fun K hK => ?_) AllReady.nil)
                      refine step_storeB rfl _ _ _ rfl rfl rfl rfl T7.out rfl (by kernel_rfl) (clk_one _) ?_
                      refine hK _ _ ?_
                      clear hK K
                      refine wpAny_done (by kernel_rfl) ?_ _
                      go_wp2_with fail
                      go_roundg (gk - 1)
                      case measure => have := Hik.out; omega
                      case rel => exact ⟨i + 1, c2, .slice Ad nd cd, .slice A9 n9 c9, by have := Hik.out; omega, by go_num, Hg2.out, Hp2.out, HK.out.1, HK.out.2.1, HK.out.2.2⟩
                | true =>
                  as_aux_lemma =>
                    go_upto_region 22 with fail
                    refine wp_region_class (fun W' => Mod (fun _ => False) w16 W') (by kernel_rfl) (by kernel_rfl) (Mod.refl _ _).drew ?_
                    iterate 6 quiet_step (exact fun _ => rfl)
                    refine wpQuiet_step (fun K hK => ?_)
                    go_simp
                    refine ⟨.bool true, fun w2 h2 => (Csame.out w2 h2).mono ?_, hK _ ?_⟩
                    · rintro e w3 ⟨rfl, hm⟩
                      exact ⟨rfl, hm⟩
                    clear hK K
                    iterate 5 quiet_step (exact fun _ => rfl)
                    refine wpQuiet_step (fun K hK => ?_)
                    go_simp
                    refine ⟨.agg #[.int .i64 c2.most, .int .i64 c2.target, .slice Ad nd cd, .int .i64 (c2.hot : Int), .int .i64 (c2.cold : Int), .int .i64 (c2.test : Int)], fun w2 h2 => ?_, hK _ ?_⟩
                    · obtain ⟨b0, b1, b2, b3, b4, b5⟩ := L14.out w2 h2
                      simp only [b0, b1, b2, b3, b4, b5, Result.andThen_ok]
                      exact ⟨trivial, trivial⟩
                    clear hK K
                    refine wpQuiet_step (fun K hK => ?_)
                    go_simp
                    refine ⟨.agg #[.int .i64 c2.most, .int .i64 c2.target, .slice A9 n9 c9, .int .i64 (c2.hot : Int), .int .i64 (c2.cold : Int), .int .i64 (c2.test : Int)], fun w2 h2 => ?_, hK _ ?_⟩
                    · obtain ⟨b0, b1, b2, b3, b4, b5⟩ := L9.out w2 h2
                      simp only [b0, b1, b2, b3, b4, b5, Result.andThen_ok]
                      exact ⟨trivial, trivial⟩
                    clear hK K
                    refine wpQuiet_step (fun K hK => ?_)
                    go_simp
                    refine ⟨.bool true, fun w2 h2 => (Cs1.out w2 h2).mono ?_, hK _ ?_⟩
                    · rintro e w3 ⟨rfl, hm⟩
                      exact ⟨rfl, hm⟩
                    clear hK K
                    iterate 6 quiet_step (exact fun _ => rfl)
                    refine wpQuiet_step (fun K hK => ?_)
                    go_simp
                    refine ⟨.agg #[.int .i64 c2.most, .int .i64 c2.target, .slice Ad nd cd, .int .i64 (c2.hot : Int), .int .i64 (c2.cold : Int), .int .i64 (c2.test : Int)], fun w2 h2 => ?_, hK _ ?_⟩
                    · obtain ⟨b0, b1, b2, b3, b4, b5⟩ := L14.out w2 h2
                      simp only [b0, b1, b2, b3, b4, b5, Result.andThen_ok]
                      exact ⟨trivial, trivial⟩
                    clear hK K
                    refine wpQuiet_step (fun K hK => ?_)
                    go_simp
                    refine ⟨.agg #[.int .i64 k.s, .int .i64 k.l, .int .i64 k.b], fun w2 h2 => ?_, hK _ ?_⟩
                    · obtain ⟨b0, b1, b2⟩ := L12.out w2 h2
                      simp only [b0, b1, b2, Result.andThen_ok]
                      exact ⟨trivial, trivial⟩
                    clear hK K
                    refine wpQuiet_step (fun K hK => ?_)
                    go_simp
                    refine ⟨.int .i64 z, fun w2 h2 => (Cf.out w2 h2).mono ?_, hK _ ?_⟩
                    · rintro e w3 ⟨rfl, hm⟩
                      exact ⟨rfl, hm⟩
                    clear hK K
                    refine wpQuiet_step (fun K hK => ?_)
                    go_simp
                    refine ⟨.agg #[.int .i64 c2.most, .int .i64 c2.target, .slice A9 n9 c9, .int .i64 (c2.hot : Int), .int .i64 (c2.cold : Int), .int .i64 (c2.test : Int)], fun w2 h2 => ?_, hK _ ?_⟩
                    · obtain ⟨b0, b1, b2, b3, b4, b5⟩ := L9.out w2 h2
                      simp only [b0, b1, b2, b3, b4, b5, Result.andThen_ok]
                      exact ⟨trivial, trivial⟩
                    clear hK K
                    refine wpQuiet_step (fun K hK => ?_)
                    go_simp
                    refine ⟨.agg #[.int .i64 k.s, .int .i64 k.l, .int .i64 k.b], fun w2 h2 => ?_, hK _ ?_⟩
                    · obtain ⟨b0, b1, b2⟩ := L12.out w2 h2
                      simp only [b0, b1, b2, Result.andThen_ok]
                      exact ⟨trivial, trivial⟩
                    clear hK K
                    refine wpQuiet_step (fun K hK => ?_)
                    go_simp
                    refine ⟨.int .i64 z, fun w2 h2 => (Crf.out w2 h2).mono ?_, hK _ ?_⟩
                    · rintro e w3 ⟨rfl, hm⟩
                      exact ⟨rfl, hm⟩
                    clear hK K
                    iterate 6 quiet_step (exact fun _ => rfl)
                    refine wpQuiet_step (fun K hK => ?_)
                    go_simp
                    refine ⟨.agg #[.int .i64 c.most, .int .i64 c.target, .slice A n cap, .int .i64 (c.hot : Int), .int .i64 (c.cold : Int), .int .i64 (c.test : Int)], fun w2 h2 => ?_, hK _ ?_⟩
                    · obtain ⟨b0, b1, b2, b3, b4, b5⟩ := L6.out w2 h2
                      simp only [b0, b1, b2, b3, b4, b5, Result.andThen_ok]
                      exact ⟨trivial, trivial⟩
                    clear hK K
                    refine wpQuiet_step (fun K hK => ?_)
                    go_simp
                    refine ⟨.agg #[.int .i64 c2.most, .int .i64 c2.target, .slice Ad nd cd, .int .i64 (c2.hot : Int), .int .i64 (c2.cold : Int), .int .i64 (c2.test : Int)], fun w2 h2 => ?_, hK _ ?_⟩
                    · obtain ⟨b0, b1, b2, b3, b4, b5⟩ := L14.out w2 h2
                      simp only [b0, b1, b2, b3, b4, b5, Result.andThen_ok]
                      exact ⟨trivial, trivial⟩
                    clear hK K
                    refine wpQuiet_step (fun K hK => ?_)
                    go_simp
                    refine ⟨.bool true, fun w2 h2 => (Ccs.out w2 h2).mono ?_, hK _ ?_⟩
                    · rintro e w3 ⟨rfl, hm⟩
                      exact ⟨rfl, hm⟩
                    clear hK K
                    refine wpQuiet_step (fun K hK => ?_)
                    go_simp
                    refine ⟨.agg #[.int .i64 c.most, .int .i64 c.target, .slice Aq nq cq, .int .i64 (c.hot : Int), .int .i64 (c.cold : Int), .int .i64 (c.test : Int)], fun w2 h2 => ?_, hK _ ?_⟩
                    · obtain ⟨b0, b1, b2, b3, b4, b5⟩ := L7.out w2 h2
                      simp only [b0, b1, b2, b3, b4, b5, Result.andThen_ok]
                      exact ⟨trivial, trivial⟩
                    clear hK K
                    refine wpQuiet_step (fun K hK => ?_)
                    go_simp
                    refine ⟨.agg #[.int .i64 c2.most, .int .i64 c2.target, .slice A9 n9 c9, .int .i64 (c2.hot : Int), .int .i64 (c2.cold : Int), .int .i64 (c2.test : Int)], fun w2 h2 => ?_, hK _ ?_⟩
                    · obtain ⟨b0, b1, b2, b3, b4, b5⟩ := L9.out w2 h2
                      simp only [b0, b1, b2, b3, b4, b5, Result.andThen_ok]
                      exact ⟨trivial, trivial⟩
                    clear hK K
                    refine wpQuiet_step (fun K hK => ?_)
                    go_simp
                    refine ⟨.bool true, fun w2 h2 => (Crs.out w2 h2).mono ?_, hK _ ?_⟩
                    · rintro e w3 ⟨rfl, hm⟩
                      exact ⟨rfl, hm⟩
                    clear hK K
                    iterate 3 quiet_step (exact fun _ => rfl)
                    refine wpQuiet_nil ?_
                    intro w7 h7
                    have H7 := Lib.hid h7
                    clear h7
                    have hst2 := two_stores (w := w) c c2 (Nat.le_refl _) (Hc6c.out.new H7.out) (Hc7c.out.new H7.out) (Hc9c.out.new H7.out) (Hc14.out.new H7.out) Hg7l.out.2.1 Hne.out.1 Hg9.out.1 Hg6l.out.1 Hg7l.out.1 (HmE.out.trans H7.out (fun _ _ h => h))
                    obtain ⟨W6, hW6, t14, t9, t7, hk⟩ := hst2
                    have HK := Lib.hid hk; have HW6 := Lib.hid hW6; have T14 := Lib.hid t14; have T9 := Lib.hid t9; have T7 := Lib.hid t7
                    have T0 := Lib.hid (Hc14.out.new H7.out).drew.blk
                    have B6 := Lib.hid (Hc6c.out.new H7.out).drew.blk
                    have B9 := Lib.hid (Hc9c.out.new H7.out).drew.blk
                    clear hW6 t14 t9 t7 hk
                    go_upto_region 25 with fail
                    refine wp_region_T (fun W' => Blk W' g14 25 (clkC c2 (.slice Ad nd cd))) 2 (by kernel_rfl) T0.out (fun hHeld => ?_)
                    refine wpAnyT_takeAt (i := 0) (v := .agg (clkC c2 (.slice Ad nd cd))) rfl (by kernel_rfl) (by kernel_rfl) (by kernel_rfl) (by kernel_rfl) (fun _ _ _ h => h) (yields_loadB rfl _ _ rfl rfl (fun _ h => h) Try.underlying25 rfl (by kernel_rfl)) hHeld ?_
                    simp only [Act.put, List.setIfInBounds_toArray]
                    refine wpAnyT_ready (rs := [1, 2]) (by kernel_rfl) (by simp) (AllReadyT.cons rfl (fun K hK => ?_) (AllReadyT.cons rfl (fun K hK => ?_) AllReadyT.nil))
                    · refine step_loadB rfl _ _ rfl rfl B9.out Try.underlying25 rfl (by kernel_rfl) ?_
                      refine hK.out _ _ hHeld (fun hHeld => ?_)
                      clear hK K hHeld
                      simp only [Act.put]
                      refine wpAnyT_rest (by kernel_rfl) ?_
                      refine wpAny_ready (rs := [2]) (by kernel_rfl) (by simp) (AllReady.cons rfl (fun K hK => ?_) AllReady.nil)
                      refine step_storeB rfl _ _ _ rfl rfl rfl rfl B6.out rfl (by kernel_rfl) (clk_one _) ?_
                      rw [← HW6.out]
                      refine hK _ _ ?_
                      clear hK K
                      refine wpAny_ready (rs := [3]) (by kernel_rfl) (by simp) (AllReady.cons rfl (fun K hK => ?_) AllReady.nil)
                      refine step_storeB rfl _ _ _ rfl rfl rfl rfl T7.out rfl (by kernel_rfl) (clk_one _) ?_
                      refine hK _ _ ?_
                      clear hK K
                      refine wpAny_done (by kernel_rfl) ?_ _
                      go_wp2_with fail
                      go_roundg (gk - 1)
                      case measure => have := Hik.out; omega
                      case rel => exact ⟨i + 1, c2, .slice Ad nd cd, .slice A9 n9 c9, by have := Hik.out; omega, by go_num, Hg2.out, Hp2.out, HK.out.1, HK.out.2.1, HK.out.2.2⟩
                    · clear hHeld
                      refine step_storeB rfl _ _ _ rfl rfl rfl rfl B6.out rfl (by kernel_rfl) (clk_one _) ?_
                      rw [← HW6.out]
                      refine hK.out _ _ T14.out (fun hHeld => ?_)
                      clear hK K
                      refine wpAnyT_ready (rs := [1]) (by kernel_rfl) (by simp) (AllReadyT.cons rfl (fun K hK => ?_) AllReadyT.nil)
                      refine step_loadB rfl _ _ rfl rfl T9.out Try.underlying25 rfl (by kernel_rfl) ?_
                      refine hK.out _ _ hHeld (fun hHeld => ?_)
                      clear hK K hHeld
                      simp only [Act.put]
                      refine wpAnyT_rest (by kernel_rfl) ?_
                      refine wpAny_ready (rs := [3]) (by kernel_rfl) (by simp) (AllReady.cons rfl (fun K hK => ?_) AllReady.nil)
                      refine step_storeB rfl _ _ _ rfl rfl rfl rfl T7.out rfl (by kernel_rfl) (clk_one _) ?_
                      refine hK _ _ ?_
                      clear hK K
                      refine wpAny_done (by kernel_rfl) ?_ _
                      go_wp2_with fail
                      go_roundg (gk - 1)
                      case measure => have := Hik.out; omega
                      case rel => exact ⟨i + 1, c2, .slice Ad nd cd, .slice A9 n9 c9, by have := Hik.out; omega, by go_num, Hg2.out, Hp2.out, HK.out.1, HK.out.2.1, HK.out.2.2⟩
    · as_aux_lemma =>
        by_cases b1 : (i : Int) < (n1 : Int)
        · have b2 : ¬ (i : Int) < 150 := by have := HN.out; omega
          go_wp2_with fail
          refine (ckAwake_any wr).mono ?_
          rintro e w2 ⟨rfl, hm2⟩
          have Hm2 := Lib.hid (Hm.out.trans hm2 (fun _ _ h => h))
          clear hm2
          go_wp2_with fail
          go_ret
          exact ⟨rfl, Hm2.out⟩
        · skip
          go_wp2_with fail
          refine (ckAwake_any wr).mono ?_
          rintro e w2 ⟨rfl, hm2⟩
          have Hm2 := Lib.hid (Hm.out.trans hm2 (fun _ _ h => h))
          clear hm2
          go_wp2_with fail
          go_ret
          exact ⟨rfl, Hm2.out⟩
end Go.Proofs.Ythogflfjdfcpeaa
