/- The texts Qs, Qt, Qu, Qv, Qx, Qza, Qzk, one behind the other. -/
import Derived.Test.YthogflfjdfcpeaaMq1
import Derived.Test.YthogflfjdfcpeaaMq8
import Derived.Test.YthogflfjdfcpeaaMq5
import Derived.Test.YthogflfjdfcpeaaMq2
/- The code's Admit. -/
namespace Go.Proofs.Ythogflfjdfcpeaa
open Go.RowKit

theorem pin_cnt {c : ClkN} (h : Good c) : c.most ≤ (c.ps.countP isPin : Int) ↔ (c.most ≤ ((cntK 1 c.ps + cntK 2 c.ps : Nat) : Int) ∧ c.ps.any isFree = false) := by
  have h1 := cnt_res c.ps
  have h2 := h.room
  have hle : ∀ ps : List PagN, ps.countP isPin ≤ ps.countP PagN.resi := fun ps => List.countP_mono_left (fun p _ hp => by unfold isPin at hp; simp only [Bool.and_eq_true] at hp; exact hp.1)
  have key : ∀ ps : List PagN, (∀ p ∈ ps, OkP p) → (ps.countP isPin = ps.countP PagN.resi ↔ ps.any isFree = false) := by
    intro ps
    induction ps with
    | nil => intro _; simp
    | cons p ps ih =>
      intro hp
      have i1 := ih (fun q hq => hp q (List.mem_cons_of_mem _ hq))
      have i2 := hle ps
      have hok := hp p (List.mem_cons_self ..)
      have hp0 := hok.2.1
      simp only [List.countP_cons, List.any_cons, Bool.or_eq_false_iff]
      by_cases hr : p.resi = true
      · by_cases h0 : p.pins = 0
        · have e1 : isPin p = false := by unfold isPin; simp [h0]
          have e2 : isFree p = true := by unfold isFree; simp [hr, h0]
          simp only [e1, e2, hr]
          constructor
          · intro h; simp at h; omega
          · intro h; cases h.1
        · have e1 : isPin p = true := by unfold isPin; simp [hr]; omega
          have e2 : isFree p = false := by unfold isFree; simp [h0]
          simp only [e1, e2, hr]
          rw [← i1]
          constructor
          · intro h; exact ⟨trivial, by simp at h; exact h⟩
          · intro h; simp; exact h.2
      · have e1 : isPin p = false := by unfold isPin; simp [hr]
        have e2 : isFree p = false := by unfold isFree; simp [hr]
        simp only [e1, e2]
        rw [← i1]
        simp [hr]
  have k1 := key c.ps h.base.pgs.1
  have k2 := hle c.ps
  constructor
  · intro hm
    exact ⟨by omega, k1.1 (by omega)⟩
  · rintro ⟨hm, hf⟩
    have := k1.2 hf
    omega
theorem page_key (c : ClkN) (k : KeyN) : (pageK c k).key = k ∧ OkP (pageK c k) ∧ (pageK c k).resi = true ∧ (pageK c k).pins = 0 := by
  unfold pageK
  cases findK k c.ps with
  | none => exact ⟨rfl, ⟨.inr (.inl rfl), by show (0 : Int) ≤ 0; omega, fun _ => rfl⟩, rfl, rfl⟩
  | some i => exact ⟨rfl, ⟨.inl rfl, by show (0 : Int) ≤ 0; omega, fun _ => rfl⟩, rfl, rfl⟩
/-- What is cleared may get room, and has none of that name. -/
theorem clear_room {c : ClkN} {k : KeyN} (h : Good c) (hr : resAt c k = false) (hno : ¬ (c.most ≤ ((cntK 1 c.ps + cntK 2 c.ps : Nat) : Int) ∧ c.ps.any isFree = false)) :
    RoomK (clearK c k) ∧ (cntK 3 (clearK c k).ps : Int) ≤ (clearK c k).most ∧ (clearK c k).most = c.most ∧ (∀ q ∈ (clearK c k).ps, q.key ≠ k) ∧ (clearK c k).ps.length ≤ c.ps.length := by
  have hfree : ∀ c' : ClkN, resL c'.ps = resL c.ps → BaseK c' → c'.most = c.most → RoomK c' := fun c' e hb hm => by
    have k1 := res_len h.base.pgs.1
    have k2 := res_len hb.pgs.1
    rw [e] at k2
    have hroom := h.room
    refine ⟨hb, by omega, fun hm2 => ?_⟩
    rw [free_res, e, ← free_res]
    cases hf : c.ps.any isFree with
    | true => rfl
    | false => exact absurd ⟨by omega, hf⟩ hno
  unfold clearK
  cases hf : findK k c.ps with
  | none => exact ⟨hfree c rfl h.base rfl, h.trial, rfl, findK_none hf, Nat.le_refl _⟩
  | some i =>
    obtain ⟨p, hp, hk, hi⟩ := findK_get hf
    have hpr : p.resi = false := by
      unfold resAt at hr
      rw [hf] at hr
      simp only [hp] at hr
      exact hr
    obtain ⟨g1, g2, g3, g4⟩ := good_goes h hp
    have hl := strike_len hi
    refine ⟨hfree (aimK (goesK c i) 1) (g4 hpr) (aim_base g1.base 1) rfl, g1.trial, rfl, fun q hq => by rw [← hk]; exact g3 q hq, ?_⟩
    show (strikeK c.ps i).length ≤ _
    omega
theorem room_after {c : ClkN} {k : KeyN} (h : RoomK c) (ht : (cntK 3 c.ps : Int) ≤ c.most) (hk : ∀ q ∈ c.ps, q.key ≠ k) {p : PagN} (hp : p.key = k) (hok : OkP p) : BaseK (roomK c).1 ∧ BaseK (comeK (roomK c).1 p) ∧ (roomK c).1.ps.length ≤ c.ps.length ∧ (comeK (roomK c).1 p).ps.length ≤ c.ps.length + 1 := by
  obtain ⟨_, _, _, _, hb, _, hs⟩ := room_ends h.1 h.2.1 h.2.2 ht
  have hl : (roomK c).1.ps.length ≤ c.ps.length := by have := hs.length_le; simpa using this
  have hnew : ∀ q ∈ (roomK c).1.ps, q.key ≠ p.key := fun q hq => by
    have hm : q.key ∈ c.ps.map (·.key) := hs.subset (List.mem_map.2 ⟨q, hq, rfl⟩)
    obtain ⟨q', hq', e⟩ := List.mem_map.1 hm
    rw [hp, ← e]
    exact hk q' hq'
  refine ⟨hb, (come_base hb hok hnew).1, hl, ?_⟩
  unfold comeK
  split
  · simp
  · simp only [List.length_append, List.length_take, List.length_cons, List.length_drop]
    omega
/-- A clock, who was put out, and whether it was. -/
def AdEnd (w w' : World) (c : ClkN) (out : List KeyN) (b : Bool) (e : Ending) : Prop :=
  ∃ vp vo, e = .returned (.tuple #[.agg #[.int .i64 c.most, .int .i64 c.target, vp, .int .i64 (c.hot : Int), .int .i64 (c.cold : Int), .int .i64 (c.test : Int)], vo, .bool b]) ∧ OwnP w.heap.size w' 30 vp c.ps ∧ OwnK 3 w.heap.size w' 28 vo (out.map keyC) ∧ Mod (fun _ => False) w w'
theorem CkEnd.ad {w w' : World} {c : ClkN} {out : List KeyN} {b : Bool} {vp vo : Value} (h : CkEnd w w' c b (.returned (.tuple #[.agg #[.int .i64 c.most, .int .i64 c.target, vp, .int .i64 (c.hot : Int), .int .i64 (c.cold : Int), .int .i64 (c.test : Int)], .bool b]))) (ho : OwnK 3 w.heap.size w' 28 vo (out.map keyC)) :
    AdEnd w w' c out b (.returned (.tuple #[.agg #[.int .i64 c.most, .int .i64 c.target, vp, .int .i64 (c.hot : Int), .int .i64 (c.cold : Int), .int .i64 (c.test : Int)], vo, .bool b])) := by
  obtain ⟨vp', e, h1, h2⟩ := h
  simp at e
  subst e
  exact ⟨vp, vo, rfl, h1, ho, h2⟩
theorem admit_res {c : ClkN} {k : KeyN} {i : Nat} {p : PagN} (h : resAt c k = true) (hf : findK k c.ps = some i) (hp : c.ps[i]? = some p) (hr : p.resi = true) : admitK c k = ({ c with ps := c.ps.set i { p with ref := true } }, [], true) := by
  unfold admitK
  rw [if_pos h, touch_yes hf hp hr]
theorem admit_comes {c : ClkN} {k : KeyN} (h : resAt c k = false) (hno : ¬ (c.most ≤ ((cntK 1 c.ps + cntK 2 c.ps : Nat) : Int) ∧ c.ps.any isFree = false)) : admitK c k = (coolK (comeK (roomK (clearK c k)).1 (pageK c k)), (roomK (clearK c k)).2, true) := by
  unfold admitK
  rw [if_neg (by rw [h]; decide), if_neg hno]
set_option maxHeartbeats 4000000 in
set_option maxRecDepth 100000 in
theorem ckAdmit_any (c : ClkN) (k : KeyN) (A : Option Addr) (n cap : Nat) (w : World) (hs : RdsP w w.heap.size A n c.ps) (hn : n ≤ 100000) (hgd : Good c) :
    Calls Try.prog 9 #[.agg #[.int .i64 c.most, .int .i64 c.target, .slice A n cap, .int .i64 (c.hot : Int), .int .i64 (c.cold : Int), .int .i64 (c.test : Int)], .agg #[.int .i64 k.s, .int .i64 k.l, .int .i64 k.b]] w fun e w' => AdEnd w w' (admitK c k).1 (admitK c k).2.1 (admitK c k).2.2 e := by
  obtain ⟨W, hW, hmW, hbW, hkW, hrW, hzW⟩ := three_boxes w #[.int .i64 c.most, .int .i64 c.target, .slice A n cap, .int .i64 (c.hot : Int), .int .i64 (c.cold : Int), .int .i64 (c.test : Int)] #[.int .i64 k.s, .int .i64 k.l, .int .i64 k.b] #[.int .i64 0, .int .i64 0, .slice none 0 0, .int .i64 0, .int .i64 0, .int .i64 0]
  obtain ⟨g0, hg0⟩ : ∃ g, g = w.heap.size := ⟨_, rfl⟩
  obtain ⟨g1, hg1⟩ : ∃ g, g = w.heap.size + 1 := ⟨_, rfl⟩
  obtain ⟨g2, hg2⟩ : ∃ g, g = w.heap.size + 2 := ⟨_, rfl⟩
  rw [← hg0] at hbW
  rw [← hg1] at hkW
  rw [← hg2] at hrW
  have y0 := hbW.cell 0
  have y1 := hbW.cell 1
  have y2 := hbW.cell 2
  have y3 := hbW.cell 3
  have y4 := hbW.cell 4
  have y5 := hbW.cell 5
  simp at y0 y1 y2 y3 y4 y5
  have Hs := Lib.hid (hs.new hmW).fit; have Hl := Lib.hid hs.len
  have HW := Lib.hid hW; have HmW := Lib.hid hmW; have HbW := Lib.hid hbW; have HkW := Lib.hid hkW; have HrW := Lib.hid hrW; have Hg0 := Lib.hid hg0; have Hg1 := Lib.hid hg1; have Hg2 := Lib.hid hg2; have HzW := Lib.hid hzW; have Hn := Lib.hid hn
  have Hgd := Lib.hid hgd
  clear hgd
  clear hs hW hmW hbW hkW hrW hg0 hg1 hg2 hzW hn
  go_enter Try.func9, Try.ntmps9
  go_upto_region 1 with fail
  rw [← HW.out, ← Hg2.out, ← Hg1.out, ← Hg0.out]
  go_wp2_with fail
  refine (ckCopied_any c A n cap W Hs.out (by have := Hn.out; omega)).mono ?_
  rintro e w1 ⟨vp, rfl, ho1, hm1⟩
  obtain ⟨A1, c1, rfl, hnc1, hcm1, hrd1⟩ := OwnP.form ho1
  obtain ⟨n1, hn1⟩ : ∃ n1, c.ps.length = n1 := ⟨_, rfl⟩
  rw [hn1] at ho1 hnc1 hrd1 ⊢
  dsimp only [clkC]
  obtain ⟨w2, hw2, hc2, hm2⟩ := clk_laid HbW.out rfl Hg0.out.symm HmW.out ho1 hm1
  have hk2 := hm2.blk HkW.out (by have := Hg0.out; have := Hg1.out; omega)
  have hb1 := hm1.blk HbW.out (fun h => h)
  have u0 := hb1.cell 0
  have u1 := hb1.cell 1
  have u2 := hb1.cell 2
  have u3 := hb1.cell 3
  have u4 := hb1.cell 4
  have u5 := hb1.cell 5
  have f0 := hb1.frozen 0
  have f1 := hb1.frozen 1
  have f2 := hb1.frozen 2
  have f3 := hb1.frozen 3
  have f4 := hb1.frozen 4
  have f5 := hb1.frozen 5
  simp at u0 u1 u2 u3 u4 u5
  have Hw2 := Lib.hid hw2; have Hc2 := Lib.hid hc2; have Hm2 := Lib.hid hm2; have Hn1 := Lib.hid hn1; have Hk2 := Lib.hid hk2
  have Hv1 : Hid (∀ j, (Value.slice A1 n1 c1).ownBlock = some j → W.heap.size ≤ j) := Lib.hid (fun j hj => (hc2.lt j hj).1)
  clear y0 y1 y2 y3 y4 y5 hw2 hc2 hm2 hk2 hn1 hb1 ho1 hm1 hnc1 hcm1 hrd1
  go_upto_region 2 with fail
  rw [← Hw2.out]
  clear u0 u1 u2 u3 u4 u5 f0 f1 f2 f3 f4 f5
  obtain ⟨y0, y1, y2, y3, y4, y5⟩ := Hc2.out.cells
  have z0 := Hk2.out.cell 0
  have z1 := Hk2.out.cell 1
  have z2 := Hk2.out.cell 2
  simp at z0 z1 z2
  have Hs2 : Hid (RdsP w2 w2.heap.size A1 n1 c.ps) := Lib.hid (OwnK.rds Hc2.out.ps (by rw [List.length_map]; exact Hn1.out))
  go_wp2_with fail
  refine (residentOf_any c k A1 n1 c1 w2 Hs2.out (by have := Hn1.out; have := Hl.out; have := Hn.out; omega)).mono ?_
  rintro e w3 ⟨v, rfl, hrp, hm3⟩
  have Hc3 := Lib.hid (Hc2.out.new hm3)
  have Hm3 := Lib.hid (Hm2.out.trans hm3 (fun _ _ h => h.elim))
  clear hm3 y0 y1 y2 y3 y4 y5 z0 z1 z2
  rcases hrp with ⟨hr, rfl⟩ | ⟨hr, i, p, ad, hf, hp, hres, hA, rfl⟩
  · obtain ⟨y0, y1, y2, y3, y4, y5⟩ := Hc3.out.cells
    obtain ⟨q, hq⟩ : ∃ q, c.ps.countP isPin = q := ⟨_, rfl⟩
    have Hq := Lib.hid hq
    have Hrr := Lib.hid hr
    have Hrd3 := Lib.hid (OwnK.rds Hc3.out.ps (by rw [List.length_map]; exact Hn1.out))
    have hnl : n1 ≤ 1000000 := by have := Hn1.out; have := Hl.out; have := Hn.out; omega
    have Hcnt : Hid (∀ W', Mod (fun _ => False) w3 W' → Calls Try.prog 25 #[.agg #[.int .i64 c.most, .int .i64 c.target, .slice A1 n1 c1, .int .i64 (c.hot : Int), .int .i64 (c.cold : Int), .int .i64 (c.test : Int)], .func (.func 26) #[] #[]] W' fun e w' => e = .returned (.int .i64 (q : Int)) ∧ Mod (fun _ => False) w3 w') := Lib.hid (by
      intro W' hW'
      refine (count_any 26 isPin (Lib.hid says_pin) c.most c.target c.hot c.cold c.test A1 n1 c1 c.ps W' (RdsP.fit (RdsP.new Hrd3.out hW')) hnl).mono ?_
      rintro e w1 ⟨rfl, hm1⟩
      rw [Hq.out]
      exact ⟨rfl, hW'.trans hm1 (fun _ _ h => h)⟩)
    clear hq hr
    by_cases hgo : c.most ≤ (q : Int)
    · have hgo2 : decide (c.most ≤ (q : Int)) = true := decide_eq_true hgo
      have Had := Lib.hid (admit_full (k := k) Hrr.out ((pin_cnt Hgd.out).1 (by rw [Hq.out]; exact hgo)).1 ((pin_cnt Hgd.out).1 (by rw [Hq.out]; exact hgo)).2)
      go_upto_region 6 with fail
      go_cut [25] from 21 to 25 (fun s25 wx => s25 = .bool true ∧ Mod (fun _ => False) w3 wx)
      case first =>
        go_region_with (first
          | (go_at_call 25; refine (Hcnt.out _ (Mod.refl _ _).drew).mono ?_; rintro e w1 ⟨rfl, hm1⟩; have HM1 := Lib.hid hm1; have z0 := (Hc3.out.new hm1).cells.1; clear hm1))
        all_goals (
          go_wp2_with fail
          go_meet
          exact ⟨rfl, HM1.out⟩)
      case rest =>
        obtain ⟨rfl, hmc⟩ := hcut
        have Hc4 := Lib.hid (Hc3.out.new hmc)
        have Hm4 := Lib.hid (Hm3.out.trans hmc (fun _ _ h => h.elim))
        clear hmc y0 y1 y2 y3 y4 y5
        have hend := clk_end (b := false) Hg0.out.symm Hg2.out.symm HzW.out HmW.out HrW.out Hc4.out Hv1.out (Hm4.out.mono (fun _ _ h => .inl h))
        have Hb9 := Lib.hid hend.1; have HE9 := Lib.hid hend.2
        have q0 := hend.1.cell 0
        have q1 := hend.1.cell 1
        have q2 := hend.1.cell 2
        have q3 := hend.1.cell 3
        have q4 := hend.1.cell 4
        have q5 := hend.1.cell 5
        have p0 := hend.1.frozen 0
        have p1 := hend.1.frozen 1
        have p2 := hend.1.frozen 2
        have p3 := hend.1.frozen 3
        have p4 := hend.1.frozen 4
        have p5 := hend.1.frozen 5
        simp at q0 q1 q2 q3 q4 q5
        obtain ⟨y0, y1, y2, y3, y4, y5⟩ := Hc4.out.cells
        clear hend
        go_wp2_with fail
        refine bodyPost_ret (v := .tuple #[.agg #[.int .i64 c.most, .int .i64 c.target, (.slice A1 n1 c1), .int .i64 (c.hot : Int), .int .i64 (c.cold : Int), .int .i64 (c.test : Int)], (.slice none 0 0), .bool false]) (by have h := Hb9.out.six (.int .i64 c.most) (.int .i64 c.target) (.slice A1 n1 c1) (.int .i64 (c.hot : Int)) (.int .i64 (c.cold : Int)) (.int .i64 (c.test : Int)); simp [results, Try.results9, go_sem, h.1, h.2.1, h.2.2.1, h.2.2.2.1, h.2.2.2.2.1, h.2.2.2.2.2.1]) rfl ?_
        rw [Had.out]
        exact CkEnd.ad (out := []) (HE9.out _ (Mod.six_one _ _ _ _ _ _ _ _)) (OwnK.nil _ _ _ _)
    · have hgo2 : decide (c.most ≤ (q : Int)) = false := decide_eq_false hgo
      have Hno : Hid (¬ (c.most ≤ ((cntK 1 c.ps + cntK 2 c.ps : Nat) : Int) ∧ c.ps.any isFree = false)) := Lib.hid (fun h => hgo (by rw [← Hq.out]; exact (pin_cnt Hgd.out).2 h))
      have Hcl := Lib.hid (clear_room (k := k) Hgd.out Hrr.out Hno.out)
      have Hpk := Lib.hid (page_key c k)
      have Hra := Lib.hid (room_after Hcl.out.1 Hcl.out.2.1 Hcl.out.2.2.2.1 Hpk.out.1 Hpk.out.2.1)
      have Hlen : Hid (c.ps.length ≤ 2000) := Lib.hid Hgd.out.len
      go_upto_region 6 with fail
      go_cut [25] from 21 to 25 (fun s25 wx => s25 = .bool false ∧ Mod (fun _ => False) w3 wx)
      case first =>
        go_region_with (first
          | (go_at_call 25; refine (Hcnt.out _ (Mod.refl _ _).drew).mono ?_; rintro e w1 ⟨rfl, hm1⟩; have HM1 := Lib.hid hm1; have z0 := (Hc3.out.new hm1).cells.1; clear hm1))
        all_goals (
          go_wp2_with fail
          go_meet
          exact ⟨rfl, HM1.out⟩)
      case rest =>
        obtain ⟨rfl, hmc⟩ := hcut
        have Hc4 := Lib.hid (Hc3.out.new hmc)
        have Hm4 := Lib.hid (Hm3.out.trans hmc (fun _ _ h => h.elim))
        clear hmc y0 y1 y2 y3 y4 y5
        have hk4 := Hm4.out.blk HkW.out (by have := Hg0.out; have := Hg1.out; omega)
        have Hk4 := Lib.hid hk4
        have H1S : Hid (¬ ClkS g0 (.slice A1 n1 c1) g1) := Lib.hid (by
          rintro (h | h)
          · have := Hg0.out; have := Hg1.out; omega
          · have := Hv1.out g1 h; have := HzW.out; have := Hg1.out; omega)
        clear hk4
        go_wp2_with fail
        refine (hold_any _ g0 _ c wc Hc4.out Hgd.out.base (by have := Hlen.out; omega)).mono ?_
        rintro e w5 ⟨rfl, v5, h1, h2, h3⟩
        have H1 := Lib.hid h1; have H3 := Lib.hid h3
        have Hm5 := Lib.hid ((Hm4.out.mono (S' := ClkS g0 (.slice A1 n1 c1)) (fun _ _ h => .inl h)).trans h2 (fun _ _ h => h))
        have Hv5 : Hid (∀ j, v5.ownBlock = some j → (Value.slice A1 n1 c1).ownBlock = some j ∨ W.heap.size ≤ j) := Lib.hid (fun j hj => (h3 j hj).imp id (fun h => Nat.le_trans Hm4.out.size h))
        have hk5 := h2.blk Hk4.out H1S.out
        have Hk5 := Lib.hid hk5
        have z0 := hk5.cell 0
        have z1 := hk5.cell 1
        have z2 := hk5.cell 2
        simp at z0 z1 z2
        clear h1 h2 h3 hk5
        go_wp2_with fail
        refine (recalled_any _ g0 v5 c k w5 H1.out Hgd.out.base (by have := Hlen.out; omega)).mono ?_
        obtain ⟨⟨⟨qs, ql, qb⟩, qk, qr, qt, qn⟩, hpg⟩ : ∃ p, pageK c k = p := ⟨_, rfl⟩
        rw [hpg]
        dsimp only
        rintro e w6 ⟨rfl, ht⟩
        obtain ⟨v6, h1, h2, h3⟩ := ClkTo.step Hm5.out Hv5.out ht
        have Hpg := Lib.hid hpg
        have Hc6 := Lib.hid h1; have Hm6 := Lib.hid h2; have Hv6 := Lib.hid h3
        clear ht h1 h2 h3 hpg z0 z1 z2
        go_upto_region 10 with fail
        obtain ⟨w7, hw7⟩ : ∃ w7, w7 = w6.alloc (.cells #[.int .i64 qs, .int .i64 ql, .int .i64 qb, .int .i64 qk, .bool qr, .bool qt, .int .i64 qn] 30) := ⟨_, rfl⟩
        obtain ⟨g7, hg7⟩ : ∃ g, g = w6.heap.size := ⟨_, rfl⟩
        have hb7 : Blk w7 g7 30 #[.int .i64 qs, .int .i64 ql, .int .i64 qb, .int .i64 qk, .bool qr, .bool qt, .int .i64 qn] := by rw [hw7, hg7]; exact Blk.new _ _ _
        have hm67 : Mod (fun _ => False) w6 w7 := by rw [hw7]; exact (Mod.refl _ _).alloc _
        have Hb7 := Lib.hid hb7; have Hm67 := Lib.hid hm67
        have Hc7 := Lib.hid (Hc6.out.new hm67)
        have Hm7 := Lib.hid (Hm6.out.trans hm67 (fun _ _ h => h.elim))
        have H7S : Hid (¬ ClkS g0 v6 g7) := Lib.hid (by
          rintro (h | h)
          · have := Hc6.out.blk.lt; omega
          · have := (Hc6.out.lt g7 h).2; omega)
        have hlt7 := hb7.lt
        have H7l := Lib.hid hlt7
        have Hw7 := Lib.hid hw7; have Hg7 := Lib.hid hg7
        rw [← hw7, ← hg7]
        clear hw7 hg7 hb7 hm67 hlt7
        go_wp2_with fail
        refine (makeRoom_any _ g0 v6 (clearK c k) w7 Hc7.out Hcl.out.1 Hcl.out.2.1 (by have := Hlen.out; have := Hcl.out.2.2.2.2; omega)).mono ?_
        rintro e w8 ⟨vo, rfl, ho8, v8, h1, h2, h3⟩
        have Ho8 := Lib.hid ho8; have Hc8 := Lib.hid h1
        have Hm8 := Lib.hid (Hm7.out.trans h2 (fun i hi hs => hs.elim (fun h => (.inl h : ClkS g0 (.slice A1 n1 c1) i)) (fun h => (Hv6.out i h).elim .inr (fun h => by omega))))
        have Hv8 : Hid (∀ j, v8.ownBlock = some j → (Value.slice A1 n1 c1).ownBlock = some j ∨ W.heap.size ≤ j) := Lib.hid (fun j hj => (h3 j hj).elim (fun h => Hv6.out j h) (fun h => .inr (Nat.le_trans Hm7.out.size h)))
        have hb8 := h2.blk Hb7.out H7S.out
        have Hs78 := Lib.hid h2.size
        have z0 := hb8.cell 0
        have z1 := hb8.cell 1
        have z2 := hb8.cell 2
        have z3 := hb8.cell 3
        have z4 := hb8.cell 4
        have z5 := hb8.cell 5
        have z6 := hb8.cell 6
        simp at z0 z1 z2 z3 z4 z5 z6
        clear h1 h2 h3 ho8 hb8
        go_wp2_with fail
        refine (come_any _ g0 v8 _ ⟨⟨qs, ql, qb⟩, qk, qr, qt, qn⟩ w8 Hc8.out Hra.out.1 (by have := Hlen.out; have := Hcl.out.2.2.2.2; have := Hra.out.2.2.1; omega) (Nat.le_trans Hm7.out.size (by have := Hm67.out.size; exact Nat.le_trans (Nat.le_refl _) Hs78.out))).mono ?_
        rintro e w9 ⟨rfl, ht⟩
        have Ho9 := Lib.hid (names_stay Ho8.out Hc8.out (by obtain ⟨_, _, h2, _⟩ := ht; exact h2))
        obtain ⟨v9, h1, h2, h3⟩ := ClkTo.step Hm8.out Hv8.out ht
        have Hc9 := Lib.hid h1; have Hm9 := Lib.hid h2; have Hv9 := Lib.hid h3
        clear ht h1 h2 h3 z0 z1 z2 z3 z4 z5 z6
        go_wp2_with fail
        refine (cool_any _ g0 v9 _ w9 Hc9.out (by rw [← Hpg.out]; exact Hra.out.2.1) (by have h5 := Hra.out.2.2.2; rw [Hpg.out] at h5; have := Hlen.out; have := Hcl.out.2.2.2.2; omega)).mono ?_
        rintro e w10 ⟨rfl, ht⟩
        have Ho10 := Lib.hid (names_stay Ho9.out Hc9.out (by obtain ⟨_, _, h2, _⟩ := ht; exact h2))
        obtain ⟨v10, h1, h2, h3⟩ := ClkTo.step Hm9.out Hv9.out ht
        obtain ⟨A9, n9, c9, rfl, Hn9, _, _, _⟩ := h1.form
        have Hc10 := Lib.hid h1; have Hm10 := Lib.hid h2
        clear ht h1 h2 h3
        have Had := Lib.hid (admit_comes Hrr.out Hno.out)
        rw [← Hpg.out] at Hc10
        obtain ⟨cf, hcf⟩ : ∃ cf, coolK (comeK (roomK (clearK c k)).1 (pageK c k)) = cf := ⟨_, rfl⟩
        rw [hcf] at Hc10 Had
        clear hcf
        have hend := clk_end (b := true) Hg0.out.symm Hg2.out.symm HzW.out HmW.out HrW.out Hc10.out Hv1.out Hm10.out
        have Hb9 := Lib.hid hend.1; have HE9 := Lib.hid hend.2
        have q0 := hend.1.cell 0
        have q1 := hend.1.cell 1
        have q2 := hend.1.cell 2
        have q3 := hend.1.cell 3
        have q4 := hend.1.cell 4
        have q5 := hend.1.cell 5
        have p0 := hend.1.frozen 0
        have p1 := hend.1.frozen 1
        have p2 := hend.1.frozen 2
        have p3 := hend.1.frozen 3
        have p4 := hend.1.frozen 4
        have p5 := hend.1.frozen 5
        simp at q0 q1 q2 q3 q4 q5
        obtain ⟨y0, y1, y2, y3, y4, y5⟩ := Hc10.out.cells
        clear hend
        go_wp2_with fail
        refine bodyPost_ret (v := .tuple #[.agg #[.int .i64 cf.most, .int .i64 cf.target, (.slice A9 n9 c9), .int .i64 (cf.hot : Int), .int .i64 (cf.cold : Int), .int .i64 (cf.test : Int)], vo, .bool true]) (by have h := Hb9.out.six (.int .i64 cf.most) (.int .i64 cf.target) (.slice A9 n9 c9) (.int .i64 (cf.hot : Int)) (.int .i64 (cf.cold : Int)) (.int .i64 (cf.test : Int)); simp [results, Try.results9, go_sem, h.1, h.2.1, h.2.2.1, h.2.2.2.1, h.2.2.2.2.1, h.2.2.2.2.2.1]) rfl ?_
        rw [Had.out]
        exact CkEnd.ad (HE9.out _ (Mod.six_one _ _ _ _ _ _ _ _)) ((Ho10.out.modS (Mod.six_one _ _ _ _ _ _ _ _) (fun j hj e => by have := (Ho10.out.block j hj).1; have := Hm7.out.size; have := HzW.out; have := Hg2.out; omega)).mono (by have := Hm7.out.size; have := HmW.out.size; omega))
  · have Hrt := Lib.hid hr
    have h1 := Hc3.out
    obtain ⟨pg, n4, cap4, hv4, Hnn, hnc, hcm, hin, Hpg, hne, x0, x1, x2, x3, x4, x5, x6, fz⟩ := h1.at_ hp
    injection hv4 with hA4 hn4 hc4
    subst hn4 hc4
    rw [hA4] at hA
    injection hA with hA
    subst hA
    subst hA4
    have hat7 : (⟨pg, 0, none⟩ : Addr).add (i * 7) = ⟨pg, i * 7, none⟩ := by rw [add_addr, Nat.zero_add]
    rw [hat7]
    have Hf := Lib.hid hf; have Hp := Lib.hid hp; have Hres := Lib.hid hres
    clear h1 hf hp hres hnc hcm hin hne x0 x1 x2 x3 x5 hr
    clear x6
    go_upto_region 5 with fail
    have h4 := Hc3.out.field (i := i) (j := 4) (u := .bool true) (q := { p with ref := true }) Hnn.out Hp.out (by decide) rfl
    have hm4 := (Hm3.out.mono (S' := ClkS g0 (.slice (some ⟨pg, 0, none⟩) n1 c1)) (fun _ _ h => .inl h)).setCell (p := ⟨pg, i * 7 + 4, none⟩) (fun _ => .inr rfl) (.bool true)
    obtain ⟨w4, hw4⟩ : ∃ w4, w4 = w3.setCell ⟨pg, i * 7 + 4, none⟩ (.bool true) := ⟨_, rfl⟩
    rw [← hw4] at h4 hm4 ⊢
    have Hc4 := Lib.hid h4; have Hm4 := Lib.hid hm4
    clear h4 hm4 hw4 fz x4
    have hend := clk_end (b := true) Hg0.out.symm Hg2.out.symm HzW.out HmW.out HrW.out Hc4.out Hv1.out Hm4.out
    have Hb9 := Lib.hid hend.1; have HE9 := Lib.hid hend.2
    have q0 := hend.1.cell 0
    have q1 := hend.1.cell 1
    have q2 := hend.1.cell 2
    have q3 := hend.1.cell 3
    have q4 := hend.1.cell 4
    have q5 := hend.1.cell 5
    have p0 := hend.1.frozen 0
    have p1 := hend.1.frozen 1
    have p2 := hend.1.frozen 2
    have p3 := hend.1.frozen 3
    have p4 := hend.1.frozen 4
    have p5 := hend.1.frozen 5
    simp at q0 q1 q2 q3 q4 q5
    obtain ⟨y0, y1, y2, y3, y4, y5⟩ := Hc4.out.cells
    clear hend
    go_wp2_with fail
    refine bodyPost_ret (v := .tuple #[.agg #[.int .i64 c.most, .int .i64 c.target, (.slice (some ⟨pg, 0, none⟩) n1 c1), .int .i64 (c.hot : Int), .int .i64 (c.cold : Int), .int .i64 (c.test : Int)], (.slice none 0 0), .bool true]) (by have h := Hb9.out.six (.int .i64 c.most) (.int .i64 c.target) (.slice (some ⟨pg, 0, none⟩) n1 c1) (.int .i64 (c.hot : Int)) (.int .i64 (c.cold : Int)) (.int .i64 (c.test : Int)); simp [results, Try.results9, go_sem, h.1, h.2.1, h.2.2.1, h.2.2.2.1, h.2.2.2.2.1, h.2.2.2.2.2.1]) rfl ?_
    rw [admit_res Hrt.out Hf.out Hp.out Hres.out]
    exact CkEnd.ad (out := []) (HE9.out _ (Mod.six_one _ _ _ _ _ _ _ _)) (OwnK.nil _ _ _ _)
end Go.Proofs.Ythogflfjdfcpeaa

/- The code's New and Same. -/
namespace Go.Proofs.Ythogflfjdfcpeaa
open Go.RowKit

set_option maxHeartbeats 1000000 in
set_option maxRecDepth 100000 in
theorem ckNew_any (m : Int) (w : World) : Calls Try.prog 16 #[.int .i64 m] w fun e w' => e = .returned (.agg #[.int .i64 (newK m).most, .int .i64 1, .slice none 0 0, .int .i64 0, .int .i64 0, .int .i64 0]) ∧ Mod (fun _ => False) w w' := by
  obtain ⟨W, hW, hmW, hbW, hzW⟩ := Blk.boxed w 25 #[.int .i64 0, .int .i64 0, .slice none 0 0, .int .i64 0, .int .i64 0, .int .i64 0]
  obtain ⟨G, hG⟩ : ∃ g, g = w.heap.size := ⟨_, rfl⟩
  rw [← hG] at hbW
  obtain ⟨M, hM⟩ : ∃ x, max 1 m = x := ⟨_, rfl⟩
  obtain ⟨R, hR⟩ : ∃ x, min M 1000 = x := ⟨_, rfl⟩
  have hmax := maxI_is (P := Try.prog) (t := 3) (ty := 3) hM
  have hmin := minI_is (P := Try.prog) (t := 3) (ty := 3) hR
  have e : (newK m).most = R := by show min (max m 1) 1000 = R; omega
  rw [e]
  have q0 := hbW.cell 0
  have q1 := hbW.cell 1
  have q2 := hbW.cell 2
  have q3 := hbW.cell 3
  have q4 := hbW.cell 4
  have q5 := hbW.cell 5
  have p0 := hbW.frozen 0
  have p1 := hbW.frozen 1
  have p2 := hbW.frozen 2
  have p3 := hbW.frozen 3
  have p4 := hbW.frozen 4
  have p5 := hbW.frozen 5
  simp at q0 q1 q2 q3 q4 q5
  have HW := Lib.hid hW; have HmW := Lib.hid hmW; have HbW := Lib.hid hbW; have HG := Lib.hid hG
  clear hW hmW hbW hzW hG hM hR e
  go_enter Try.func16, Try.ntmps16
  go_upto_region 1 with fail
  rw [← HW.out, ← HG.out]
  go_wp2_with fail
  refine bodyPost_ret (v := .agg #[.int .i64 R, .int .i64 1, .slice none 0 0, .int .i64 0, .int .i64 0, .int .i64 0]) (by have h := HbW.out.six (.int .i64 R) (.int .i64 1) (.slice none 0 0) (.int .i64 0) (.int .i64 0) (.int .i64 0); simp [results, Try.results16, go_sem, h.1, h.2.1, h.2.2.1, h.2.2.2.1, h.2.2.2.2.1, h.2.2.2.2.2.1]) rfl ?_
  exact ⟨rfl, HmW.out.six_new (by have := HG.out; omega) _ _ _ _ _ _⟩
/-- Two rows of pages are alike from their beginning to i. -/
theorem alike_on {ps qs : List PagN} {i : Nat} {p q : PagN} (h : ps.take i = qs.take i) (hp : ps[i]? = some p) (hq : qs[i]? = some q) (e : p = q) : ps.take (i + 1) = qs.take (i + 1) := by rw [take_one hp, take_one hq, h, e]
theorem alike_not {ps qs : List PagN} {i : Nat} {p q : PagN} (hp : ps[i]? = some p) (hq : qs[i]? = some q) (e : p ≠ q) : ps ≠ qs := fun h => by rw [h, hq] at hp; injection hp with hp; exact e hp.symm
set_option maxHeartbeats 4000000 in
set_option maxRecDepth 100000 in
theorem equalP_any (A A2 : Option Addr) (n cap n2 cap2 : Nat) (ps qs : List PagN) (w : World) (hs : RdsP w w.heap.size A n ps) (hs2 : RdsP w w.heap.size A2 n2 qs) (hn : n ≤ 1000000) (hn2 : n2 ≤ 1000000) :
    Calls Try.prog 39 #[.slice A n cap, .slice A2 n2 cap2] w fun e w' => e = .returned (.bool (decide (ps = qs))) ∧ Mod (fun _ => False) w w' := by
  have Hs := Lib.hid hs; have Hs2 := Lib.hid hs2; have Hl := Lib.hid hs.len; have Hl2 := Lib.hid hs2.len
  clear hs hs2
  go_enter Try.func39, Try.ntmps39
  by_cases hnn : n = n2
  · subst hnn
    go_wp2_with fail
    go_loopg [13] n (fun k s13 wr => ∃ i : Nat, i + k = n ∧ s13 = .int .i64 (i : Int) ∧ ps.take i = qs.take i ∧ Mod (fun _ => False) w wr)
    case atStart => exact ⟨0, by omega, rfl, by simp, Mod.refl _ _⟩
    case round =>
      obtain ⟨i, hik, rfl, hr, hm⟩ := hrel
      have Hik := Lib.hid hik; have Hr := Lib.hid hr; have Hm := Lib.hid hm
      clear hik hr hm
      by_cases hin : i < n
      · obtain ⟨ad, p, rfl, _, hp, c0, c1, c2, c3, c4, c5, c6⟩ := (Hs.out.new Hm.out).at_ hin
        obtain ⟨ad2, p2, rfl, _, hp2, e0, e1, e2, e3, e4, e5, e6⟩ := (Hs2.out.new Hm.out).at_ hin
        obtain ⟨⟨s, l, b⟩, kd, rf, tr, pn⟩ := p
        obtain ⟨⟨s2, l2, b2⟩, kd2, rf2, tr2, pn2⟩ := p2
        simp only at c0 c1 c2 c3 c4 c5 c6 e0 e1 e2 e3 e4 e5 e6
        have Hp := Lib.hid hp; have Hp2 := Lib.hid hp2
        have hin' : (i : Int) < (n : Int) := by omega
        clear hp hp2
        by_cases d0 : s = s2
        · subst d0
          by_cases d1 : l = l2
          · subst d1
            by_cases d2 : b = b2
            · subst d2
              by_cases d3 : kd = kd2
              · subst d3
                by_cases d4 : rf = rf2
                · subst d4
                  by_cases d5 : tr = tr2
                  · subst d5
                    by_cases d6 : pn = pn2
                    · subst d6
                      go_upto_region 6 with fail
                      go_quiet (fail)
                      go_wp2_with fail
                      go_roundg (gk - 1)
                      case measure => have := Hik.out; omega
                      case rel => exact ⟨i + 1, by have := Hik.out; omega, by go_num, alike_on Hr.out Hp.out Hp2.out rfl, Hm.out.drewN _⟩
                    · have hne := alike_not Hp.out Hp2.out (by intro h; injection h with h1 h2 h3 h4 h5; first | (injection h1 with h1 h6 h7; exact d6 h1) | (injection h1 with h1 h6 h7; exact d6 h6) | (injection h1 with h1 h6 h7; exact d6 h7) | exact d6 h2 | exact d6 h3 | exact d6 h4 | exact d6 h5)
                      have Hne := Lib.hid hne
                      clear hne
                      go_upto_region 6 with fail
                      go_quiet (fail)
                      go_wp2_with fail
                      go_ret
                      exact ⟨by rw [decide_eq_false Hne.out]; rfl, Hm.out.drewN _⟩
                  · have hne := alike_not Hp.out Hp2.out (by intro h; injection h with h1 h2 h3 h4 h5; first | (injection h1 with h1 h6 h7; exact d5 h1) | (injection h1 with h1 h6 h7; exact d5 h6) | (injection h1 with h1 h6 h7; exact d5 h7) | exact d5 h2 | exact d5 h3 | exact d5 h4 | exact d5 h5)
                    have Hne := Lib.hid hne
                    clear hne
                    go_upto_region 6 with fail
                    go_quiet (fail)
                    go_wp2_with fail
                    go_ret
                    exact ⟨by rw [decide_eq_false Hne.out]; rfl, Hm.out.drewN _⟩
                · have hne := alike_not Hp.out Hp2.out (by intro h; injection h with h1 h2 h3 h4 h5; first | (injection h1 with h1 h6 h7; exact d4 h1) | (injection h1 with h1 h6 h7; exact d4 h6) | (injection h1 with h1 h6 h7; exact d4 h7) | exact d4 h2 | exact d4 h3 | exact d4 h4 | exact d4 h5)
                  have Hne := Lib.hid hne
                  clear hne
                  go_upto_region 6 with fail
                  go_quiet (fail)
                  go_wp2_with fail
                  go_ret
                  exact ⟨by rw [decide_eq_false Hne.out]; rfl, Hm.out.drewN _⟩
              · have hne := alike_not Hp.out Hp2.out (by intro h; injection h with h1 h2 h3 h4 h5; first | (injection h1 with h1 h6 h7; exact d3 h1) | (injection h1 with h1 h6 h7; exact d3 h6) | (injection h1 with h1 h6 h7; exact d3 h7) | exact d3 h2 | exact d3 h3 | exact d3 h4 | exact d3 h5)
                have Hne := Lib.hid hne
                clear hne
                go_upto_region 6 with fail
                go_quiet (fail)
                go_wp2_with fail
                go_ret
                exact ⟨by rw [decide_eq_false Hne.out]; rfl, Hm.out.drewN _⟩
            · have hne := alike_not Hp.out Hp2.out (by intro h; injection h with h1 h2 h3 h4 h5; first | (injection h1 with h1 h6 h7; exact d2 h1) | (injection h1 with h1 h6 h7; exact d2 h6) | (injection h1 with h1 h6 h7; exact d2 h7) | exact d2 h2 | exact d2 h3 | exact d2 h4 | exact d2 h5)
              have Hne := Lib.hid hne
              clear hne
              go_upto_region 6 with fail
              go_quiet (fail)
              go_wp2_with fail
              go_ret
              exact ⟨by rw [decide_eq_false Hne.out]; rfl, Hm.out.drewN _⟩
          · have hne := alike_not Hp.out Hp2.out (by intro h; injection h with h1 h2 h3 h4 h5; first | (injection h1 with h1 h6 h7; exact d1 h1) | (injection h1 with h1 h6 h7; exact d1 h6) | (injection h1 with h1 h6 h7; exact d1 h7) | exact d1 h2 | exact d1 h3 | exact d1 h4 | exact d1 h5)
            have Hne := Lib.hid hne
            clear hne
            go_upto_region 6 with fail
            go_quiet (fail)
            go_wp2_with fail
            go_ret
            exact ⟨by rw [decide_eq_false Hne.out]; rfl, Hm.out.drewN _⟩
        · have hne := alike_not Hp.out Hp2.out (by intro h; injection h with h1 h2 h3 h4 h5; first | (injection h1 with h1 h6 h7; exact d0 h1) | (injection h1 with h1 h6 h7; exact d0 h6) | (injection h1 with h1 h6 h7; exact d0 h7) | exact d0 h2 | exact d0 h3 | exact d0 h4 | exact d0 h5)
          have Hne := Lib.hid hne
          clear hne
          go_upto_region 6 with fail
          go_quiet (fail)
          go_wp2_with fail
          go_ret
          exact ⟨by rw [decide_eq_false Hne.out]; rfl, Hm.out.drewN _⟩
      · have hin' : ¬ (i : Int) < (n : Int) := by omega
        have he : ps = qs := by
          have h := Hr.out
          rw [List.take_of_length_le (by have := Hl.out; have := Hik.out; omega), List.take_of_length_le (by have := Hl2.out; have := Hik.out; omega)] at h
          exact h
        have He := Lib.hid he
        clear he
        go_wp2_with fail
        go_ret
        exact ⟨by rw [decide_eq_true He.out]; rfl, Hm.out⟩
  · have hne : ps ≠ qs := fun h => hnn (by rw [← Hl.out, ← Hl2.out, h])
    have b1 : ((n : Int) != (n2 : Int)) = true := by simp; omega
    have Hne := Lib.hid hne
    clear hne hnn
    go_wp2_with fail
    go_ret
    exact ⟨by rw [decide_eq_false Hne.out]; rfl, Mod.refl _ _⟩
end Go.Proofs.Ythogflfjdfcpeaa

/- The code's Same. -/
namespace Go.Proofs.Ythogflfjdfcpeaa
open Go.RowKit

theorem two_clocks (w : World) (cs ks : Array Value) : ∃ W, W = (w.alloc (.cells cs 25)).alloc (.cells ks 25) ∧ Mod (fun _ => False) w W ∧ Blk W w.heap.size 25 cs ∧ Blk W (w.heap.size + 1) 25 ks ∧ W.heap.size = w.heap.size + 2 := by
  refine ⟨_, rfl, ((Mod.refl _ _).alloc _).alloc _, (Blk.new _ _ _).alloc _, ?_, by simp⟩
  have h := Blk.new (w.alloc (.cells cs 25)) 25 ks
  simpa using h
set_option maxHeartbeats 4000000 in
set_option maxRecDepth 100000 in
theorem ckSame_any (a b : ClkN) (A A2 : Option Addr) (n cap n2 cap2 : Nat) (w : World) (hs : RdsP w w.heap.size A n a.ps) (hs2 : RdsP w w.heap.size A2 n2 b.ps) (hn : n ≤ 100000) (hn2 : n2 ≤ 100000) :
    Calls Try.prog 21 #[.agg #[.int .i64 a.most, .int .i64 a.target, .slice A n cap, .int .i64 (a.hot : Int), .int .i64 (a.cold : Int), .int .i64 (a.test : Int)], .agg #[.int .i64 b.most, .int .i64 b.target, .slice A2 n2 cap2, .int .i64 (b.hot : Int), .int .i64 (b.cold : Int), .int .i64 (b.test : Int)]] w fun e w' => e = .returned (.bool (decide (a = b))) ∧ Mod (fun _ => False) w w' := by
  obtain ⟨am, ag, ps, ah, ac, ae⟩ := a
  obtain ⟨bm, bg, qs, bh, bc, be⟩ := b
  dsimp only at hs hs2 ⊢
  obtain ⟨W, hW, hmW, hbW, hkW, hzW⟩ := two_clocks w #[.int .i64 am, .int .i64 ag, .slice A n cap, .int .i64 (ah : Int), .int .i64 (ac : Int), .int .i64 (ae : Int)] #[.int .i64 bm, .int .i64 bg, .slice A2 n2 cap2, .int .i64 (bh : Int), .int .i64 (bc : Int), .int .i64 (be : Int)]
  obtain ⟨g, hg⟩ : ∃ g, g = w.heap.size := ⟨_, rfl⟩
  obtain ⟨g2, hg2⟩ : ∃ g, g = w.heap.size + 1 := ⟨_, rfl⟩
  rw [← hg] at hbW
  rw [← hg2] at hkW
  have y0 := hbW.cell 0
  have z0 := hkW.cell 0
  have y1 := hbW.cell 1
  have z1 := hkW.cell 1
  have y2 := hbW.cell 2
  have z2 := hkW.cell 2
  have y3 := hbW.cell 3
  have z3 := hkW.cell 3
  have y4 := hbW.cell 4
  have z4 := hkW.cell 4
  have y5 := hbW.cell 5
  have z5 := hkW.cell 5
  simp at y0 y1 y2 y3 y4 y5 z0 z1 z2 z3 z4 z5
  have Hs := Lib.hid (hs.new hmW).fit; have Hs2 := Lib.hid (hs2.new hmW).fit
  have HW := Lib.hid hW; have HmW := Lib.hid hmW; have Hg := Lib.hid hg; have Hg2 := Lib.hid hg2
  clear hs hs2 hW hmW hbW hkW hg hg2 hzW
  go_enter Try.func21, Try.ntmps21
  go_upto_region 1 with fail
  rw [← HW.out, ← Hg2.out, ← Hg.out]
  by_cases d0 : am = bm
  · subst d0
    by_cases d1 : ag = bg
    · subst d1
      by_cases d2 : ah = bh
      · subst d2
        by_cases d3 : ac = bc
        · subst d3
          by_cases d4 : ae = be
          · subst d4
            go_wp2_with fail
            refine (equalP_any A A2 n cap n2 cap2 ps qs W Hs.out Hs2.out (by omega) (by omega)).mono ?_
            rintro e w1 ⟨rfl, hm1⟩
            have Hm1 := Lib.hid hm1
            clear hm1
            go_wp2_with fail
            go_ret
            refine ⟨?_, HmW.out.trans Hm1.out (fun _ _ h => h)⟩
            have e : decide (ps = qs) = decide ((⟨am, ag, ps, ah, ac, ae⟩ : ClkN) = ⟨am, ag, qs, ah, ac, ae⟩) := by
              by_cases h : ps = qs
              · rw [h]; simp
              · rw [decide_eq_false h, decide_eq_false (fun e => h (by injection e))]
            rw [← e]
            rfl
          · have b1 : ((ae : Int) == (be : Int)) = false := by simp; omega
            have D := Lib.hid d4
            clear d4
            go_wp2_with fail
            go_ret
            refine ⟨?_, HmW.out⟩
            rw [decide_eq_false (fun e => D.out (by injection e))]
            rfl
        · have b1 : ((ac : Int) == (bc : Int)) = false := by simp; omega
          have D := Lib.hid d3
          clear d3
          go_wp2_with fail
          go_ret
          refine ⟨?_, HmW.out⟩
          rw [decide_eq_false (fun e => D.out (by injection e))]
          rfl
      · have b1 : ((ah : Int) == (bh : Int)) = false := by simp; omega
        have D := Lib.hid d2
        clear d2
        go_wp2_with fail
        go_ret
        refine ⟨?_, HmW.out⟩
        rw [decide_eq_false (fun e => D.out (by injection e))]
        rfl
    · have b1 : ((ag : Int) == (bg : Int)) = false := by simp; omega
      have D := Lib.hid d1
      clear d1
      go_wp2_with fail
      go_ret
      refine ⟨?_, HmW.out⟩
      rw [decide_eq_false (fun e => D.out (by injection e))]
      rfl
  · have b1 : ((am : Int) == (bm : Int)) = false := by simp; omega
    have D := Lib.hid d0
    clear d0
    go_wp2_with fail
    go_ret
    refine ⟨?_, HmW.out⟩
    rw [decide_eq_false (fun e => D.out (by injection e))]
    rfl
end Go.Proofs.Ythogflfjdfcpeaa

/- The law's awake. -/
namespace Go.Proofs.Ythogflfjdfcpeaa
open Go.RowKit

def awA : KeyN := ⟨1, 0, 1⟩
def awB : KeyN := ⟨1, 0, 2⟩
def awC : ClkN := ⟨1, 1, [⟨awA, 2, false, true, 0⟩], 0, 0, 0⟩
def awC2 : ClkN := ⟨1, 1, [⟨awB, 2, false, true, 0⟩, ⟨awA, 3, false, true, 0⟩], 1, 1, 1⟩
def awD : ClkN := ⟨1, 1, [⟨awA, 2, false, false, 0⟩], 0, 0, 0⟩
def awP : ClkN := ⟨1, 1, [⟨awA, 2, false, false, 1⟩], 0, 0, 0⟩
theorem aw1 : admitK (newK 1) awA = (awC, [], true) := by decide
theorem aw2 : admitK awC awB = (awC2, [awA], true) := by decide
theorem aw3 : admitK awC2 awA = (awD, [awB], true) := by decide
theorem aw4 : pinK awD awA 1 = (awP, true) := by decide
theorem aw5 : admitK awP awB = (awP, [], false) := by decide
theorem aw1g : Good awC := by have h := (admit_good (good_new 1) awA).1; rw [aw1] at h; exact h
theorem aw2g : Good awC2 := by have h := (admit_good aw1g awB).1; rw [aw2] at h; exact h
theorem aw3g : Good awD := by have h := (admit_good aw2g awA).1; rw [aw3] at h; exact h
theorem aw4g : Good awP := by have h := (pin_is aw3g awA 1).1; rw [aw4] at h; exact h
/-- A clock's box, whatever it is called with. -/
theorem ClkV.args {B g : Nat} {w : World} {vp : Value} {c : ClkN} (h : ClkV B g w vp c) : ∃ A n cap, vp = .slice A n cap ∧ Hid (c.ps.length = n) ∧ RdsP w w.heap.size A n c.ps := by
  obtain ⟨A, n, cap, e, h1, _, _, h2⟩ := h.form
  exact ⟨A, n, cap, e, h1, h2⟩
/-- A name's row of one: where it lies. -/
theorem one_key {B : Nat} {w : World} {v : Value} {k : KeyN} (h : OwnK 3 B w 28 v ([k].map keyC)) : ∃ g cap, v = .slice (some ⟨g, 0, none⟩) 1 cap ∧ B ≤ g ∧ w.cell? ⟨g, 0, none⟩ = some (.int .i64 k.s) ∧ w.cell? ⟨g, 1, none⟩ = some (.int .i64 k.l) ∧ w.cell? ⟨g, 2, none⟩ = some (.int .i64 k.b) := by
  obtain ⟨g, cap, rfl, _, _, hB, _⟩ := OwnK.form' h (by simp)
  have hr := OwnK.rds h (by simp)
  obtain ⟨ad, r, e, _, hr1, _, hc⟩ := RdsK.at_ (i := 0) hr (by simp) (by decide)
  injection e with e
  subst e
  simp at hr1
  subst hr1
  have c0 := hc 0 _ rfl
  have c1 := hc 1 _ rfl
  have c2 := hc 2 _ rfl
  simp only [add_addr, Nat.zero_mul, Nat.zero_add] at c0 c1 c2
  exact ⟨g, cap, rfl, hB, c0, c1, c2⟩
theorem no_key {B : Nat} {w : World} {v : Value} (h : OwnK 3 B w 28 v (([] : List KeyN).map keyC)) : ∃ A cap, v = .slice A 0 cap := by
  obtain ⟨A, c, e, _⟩ := OwnK.form h
  exact ⟨A, c, e⟩
theorem clk_new {W w2 : World} {B : Nat} {v : Value} {cs : Array Value} (c : ClkN) (e : clkC c v = cs) (ho : OwnP B w2 30 v c.ps) (hB : W.heap.size ≤ B) (hm : Mod (fun _ => False) W w2) :
    ClkV W.heap.size w2.heap.size (w2.alloc (.cells cs 25)) v c ∧ Mod (fun _ => False) W (w2.alloc (.cells cs 25)) ∧ W.heap.size ≤ w2.heap.size := by
  subst e
  exact ⟨⟨Blk.new _ _ _, (OwnK.alloc ho _).mono hB⟩, hm.alloc _, hm.size⟩
theorem clk_over {W w2 : World} {B g : Nat} {v c0 c1 c2 c3 c4 c5 d0 d1 d2 d3 d4 d5 : Value} (c : ClkN) (e : clkC c v = #[d0, d1, d2, d3, d4, d5]) (hb : Blk w2 g 25 #[c0, c1, c2, c3, c4, c5]) (hg : W.heap.size ≤ g) (ho : OwnP B w2 30 v c.ps) (hB : W.heap.size ≤ B) (hm : Mod (fun _ => False) W w2) :
    ClkV W.heap.size g ((((((w2.setCell ⟨g, 0, none⟩ d0).setCell ⟨g, 1, none⟩ d1).setCell ⟨g, 2, none⟩ d2).setCell ⟨g, 3, none⟩ d3).setCell ⟨g, 4, none⟩ d4).setCell ⟨g, 5, none⟩ d5) v c ∧
      Mod (fun _ => False) W ((((((w2.setCell ⟨g, 0, none⟩ d0).setCell ⟨g, 1, none⟩ d1).setCell ⟨g, 2, none⟩ d2).setCell ⟨g, 3, none⟩ d3).setCell ⟨g, 4, none⟩ d4).setCell ⟨g, 5, none⟩ d5) ∧ W.heap.size ≤ g :=
  ⟨⟨by rw [e]; exact (hb.six _ _ _ _ _ _).2.2.2.2.2.2, OwnP.mono (OwnK.modS ho (Mod.six_one _ _ _ _ _ _ _ _) (fun k hk e => own_blk_ne ho.2 hb (by decide) (by rw [hk, e]))) hB⟩, hm.six_new hg _ _ _ _ _ _, hg⟩
theorem awC_cells (v : Value) : clkC awC v = #[.int .i64 1, .int .i64 1, v, .int .i64 0, .int .i64 0, .int .i64 0] := rfl
theorem awC2_cells (v : Value) : clkC awC2 v = #[.int .i64 1, .int .i64 1, v, .int .i64 1, .int .i64 1, .int .i64 1] := rfl
theorem awD_cells (v : Value) : clkC awD v = #[.int .i64 1, .int .i64 1, v, .int .i64 0, .int .i64 0, .int .i64 0] := rfl
theorem awP_cells (v : Value) : clkC awP v = #[.int .i64 1, .int .i64 1, v, .int .i64 0, .int .i64 0, .int .i64 0] := rfl
theorem adm_call {B g : Nat} {W : World} {A : Option Addr} {n cap : Nat} (c c' : ClkN) (k : KeyN) (out : List KeyN) (b : Bool) (ea : admitK c k = (c', out, b)) (hg : Good c) (hc : ClkV B g W (.slice A n cap) c) :
    Calls Try.prog 9 #[.agg #[.int .i64 c.most, .int .i64 c.target, .slice A n cap, .int .i64 (c.hot : Int), .int .i64 (c.cold : Int), .int .i64 (c.test : Int)], .agg #[.int .i64 k.s, .int .i64 k.l, .int .i64 k.b]] W fun e w' =>
      ∃ vo A1 n1 c1, e = .returned (.tuple #[.agg (clkC c' (.slice A1 n1 c1)), vo, .bool b]) ∧ OwnP W.heap.size w' 30 (.slice A1 n1 c1) c'.ps ∧ OwnK 3 W.heap.size w' 28 vo (out.map keyC) ∧ Mod (fun _ => False) W w' := by
  obtain ⟨A', n', cap', e', hl, hr⟩ := hc.args
  injection e' with e1 e2 e3
  subst e1 e2 e3
  refine (ckAdmit_any c k A n cap W hr (by have := hg.len; have := hl.out; omega) hg).mono ?_
  rw [ea]
  rintro e w' ⟨vp, vo, rfl, h1, h2, h3⟩
  obtain ⟨A1, c1, rfl, _⟩ := OwnP.form h1
  exact ⟨vo, A1, _, c1, rfl, h1, h2, h3⟩
theorem pin_call {B g : Nat} {W : World} {A : Option Addr} {n cap : Nat} (c c' : ClkN) (k : KeyN) (m : Int) (b : Bool) (ea : pinK c k m = (c', b)) (hg : Good c) (hm : -1000000 ≤ m ∧ m ≤ 1000000) (hp : ∀ p ∈ c.ps, p.pins ≤ 1000000) (hc : ClkV B g W (.slice A n cap) c) :
    Calls Try.prog 8 #[.agg #[.int .i64 c.most, .int .i64 c.target, .slice A n cap, .int .i64 (c.hot : Int), .int .i64 (c.cold : Int), .int .i64 (c.test : Int)], .agg #[.int .i64 k.s, .int .i64 k.l, .int .i64 k.b], .int .i64 m] W fun e w' =>
      ∃ A1 n1 c1, e = .returned (.tuple #[.agg (clkC c' (.slice A1 n1 c1)), .bool b]) ∧ OwnP W.heap.size w' 30 (.slice A1 n1 c1) c'.ps ∧ Mod (fun _ => False) W w' := by
  obtain ⟨A', n', cap', e', hl, hr⟩ := hc.args
  injection e' with e1 e2 e3
  subst e1 e2 e3
  refine (ckPin_any c k m A n cap W hr (by have := hg.len; have := hl.out; omega) hm (fun p hp2 => ⟨(hg.base.pgs.1 p hp2).2.1, hp p hp2⟩)).mono ?_
  rw [ea]
  rintro e w' ⟨vp, rfl, h1, h3⟩
  obtain ⟨A1, c1, rfl, _⟩ := OwnP.form h1
  exact ⟨A1, _, c1, rfl, h1, h3⟩
theorem touch_call {B g : Nat} {W : World} {A : Option Addr} {n cap : Nat} (c c' : ClkN) (k : KeyN) (b : Bool) (ea : touchK c k = (c', b)) (hg : Good c) (hc : ClkV B g W (.slice A n cap) c) :
    Calls Try.prog 13 #[.agg #[.int .i64 c.most, .int .i64 c.target, .slice A n cap, .int .i64 (c.hot : Int), .int .i64 (c.cold : Int), .int .i64 (c.test : Int)], .agg #[.int .i64 k.s, .int .i64 k.l, .int .i64 k.b]] W fun e w' =>
      ∃ A1 n1 c1, e = .returned (.tuple #[.agg (clkC c' (.slice A1 n1 c1)), .bool b]) ∧ OwnP W.heap.size w' 30 (.slice A1 n1 c1) c'.ps ∧ Mod (fun _ => False) W w' := by
  obtain ⟨A', n', cap', e', hl, hr⟩ := hc.args
  injection e' with e1 e2 e3
  subst e1 e2 e3
  refine (ckTouch_any c k A n cap W hr (by have := hg.len; have := hl.out; omega)).mono ?_
  rw [ea]
  rintro e w' ⟨vp, rfl, h1, h3⟩
  obtain ⟨A1, c1, rfl, _⟩ := OwnP.form h1
  exact ⟨A1, _, c1, rfl, h1, h3⟩
theorem drop_call {B g : Nat} {W : World} {A : Option Addr} {n cap : Nat} (c c' : ClkN) (k : KeyN) (b : Bool) (ea : dropK c k = (c', b)) (hg : Good c) (hc : ClkV B g W (.slice A n cap) c) :
    Calls Try.prog 14 #[.agg #[.int .i64 c.most, .int .i64 c.target, .slice A n cap, .int .i64 (c.hot : Int), .int .i64 (c.cold : Int), .int .i64 (c.test : Int)], .agg #[.int .i64 k.s, .int .i64 k.l, .int .i64 k.b]] W fun e w' =>
      ∃ A1 n1 c1, e = .returned (.tuple #[.agg (clkC c' (.slice A1 n1 c1)), .bool b]) ∧ OwnP W.heap.size w' 30 (.slice A1 n1 c1) c'.ps ∧ Mod (fun _ => False) W w' := by
  obtain ⟨A', n', cap', e', hl, hr⟩ := hc.args
  injection e' with e1 e2 e3
  subst e1 e2 e3
  refine (ckDrop_any c k A n cap W hr (by have := hg.len; have := hl.out; omega) hg.base).mono ?_
  rw [ea]
  rintro e w' ⟨vp, rfl, h1, h3⟩
  obtain ⟨A1, c1, rfl, _⟩ := OwnP.form h1
  exact ⟨A1, _, c1, rfl, h1, h3⟩
set_option maxHeartbeats 4000000 in
set_option maxRecDepth 100000 in
theorem ckAwake_any (w : World) : Calls Try.prog 11 #[] w fun e w' => e = .returned (.bool true) ∧ Mod (fun _ => False) w w' := by
  obtain ⟨W, hW⟩ : ∃ W, W = (w.alloc (.cells #[.int .i64 1, .int .i64 0, .int .i64 1] 28)).alloc (.cells #[.int .i64 1, .int .i64 0, .int .i64 2] 28) := ⟨_, rfl⟩
  obtain ⟨ga, hga⟩ : ∃ g, g = w.heap.size := ⟨_, rfl⟩
  obtain ⟨gb, hgb⟩ : ∃ g, g = w.heap.size + 1 := ⟨_, rfl⟩
  have hmW : Mod (fun _ => False) w W := by rw [hW]; exact ((Mod.refl _ _).alloc _).alloc _
  have hzW : W.heap.size = w.heap.size + 2 := by rw [hW]; simp
  have haW : Blk W ga 28 #[.int .i64 1, .int .i64 0, .int .i64 1] := by rw [hW, hga]; exact (Blk.new _ _ _).alloc _
  have hbW : Blk W gb 28 #[.int .i64 1, .int .i64 0, .int .i64 2] := by
    rw [hW, hgb]
    have h := Blk.new (w.alloc (.cells #[.int .i64 1, .int .i64 0, .int .i64 1] 28)) 28 #[.int .i64 1, .int .i64 0, .int .i64 2]
    simpa using h
  have HW := Lib.hid hW; have HmW := Lib.hid hmW; have HaW := Lib.hid haW; have HbW := Lib.hid hbW; have Hga := Lib.hid hga; have Hgb := Lib.hid hgb; have HzW := Lib.hid hzW
  clear hW hmW haW hbW hga hgb hzW
  go_enter Try.func11, Try.ntmps11
  go_upto_region 2 with fail
  rw [← HW.out, ← Hgb.out, ← Hga.out]
  have a0 := HaW.out.cell 0
  have a1 := HaW.out.cell 1
  have a2 := HaW.out.cell 2
  simp at a0 a1 a2
  go_cut [3, 4, 5] from 3 to 24 (fun s3 s4 s5 wx => ∃ gc A c A1 n1 c1, s3 = .pointer (some ⟨gc, 0, none⟩) ∧ s4 = .slice A 0 c ∧ s5 = .bool true ∧ ClkV W.heap.size gc wx (.slice A1 n1 c1) awC ∧ Mod (fun _ => False) W wx ∧ W.heap.size ≤ gc)
  case first =>
    have Hkey : Hid (∀ W', Mod (fun _ => False) W W' → W'.cell? ⟨ga, 0, none⟩ = some (.int .i64 1) ∧ W'.cell? ⟨ga, 1, none⟩ = some (.int .i64 0) ∧ W'.cell? ⟨ga, 2, none⟩ = some (.int .i64 1)) := Lib.hid (fun W' h => ⟨(h.blk HaW.out (fun h => h)).cell 0, (h.blk HaW.out (fun h => h)).cell 1, (h.blk HaW.out (fun h => h)).cell 2⟩)
    have a0a : ∀ o, (W.alloc o).cell? ⟨ga, 0, none⟩ = some (.int .i64 1) := fun o => (Hkey.out _ ((Mod.refl _ _).alloc o)).1
    have a1a : ∀ o, (W.alloc o).cell? ⟨ga, 1, none⟩ = some (.int .i64 0) := fun o => (Hkey.out _ ((Mod.refl _ _).alloc o)).2.1
    have a2a : ∀ o, (W.alloc o).cell? ⟨ga, 2, none⟩ = some (.int .i64 1) := fun o => (Hkey.out _ ((Mod.refl _ _).alloc o)).2.2
    have HAdm : Hid (∀ W', Calls Try.prog 9 #[.agg #[.int .i64 1, .int .i64 1, .slice none 0 0, .int .i64 0, .int .i64 0, .int .i64 0], .agg #[.int .i64 1, .int .i64 0, .int .i64 1]] W' fun e w' => ∃ A c A1 n1 c1, e = .returned (.tuple #[.agg #[.int .i64 1, .int .i64 1, .slice A1 n1 c1, .int .i64 0, .int .i64 0, .int .i64 0], .slice A 0 c, .bool true]) ∧ OwnP W'.heap.size w' 30 (.slice A1 n1 c1) awC.ps ∧ Mod (fun _ => False) W' w') := Lib.hid (by
      intro W'
      refine (ckAdmit_any (newK 1) awA none 0 0 W' (RdsP.nil _ _ _) (by omega) (good_new 1)).mono ?_
      rw [aw1]
      rintro e w' ⟨vp, vo, rfl, h1, h2, h3⟩
      obtain ⟨A1, c1, rfl, _⟩ := OwnP.form h1
      obtain ⟨A, c, rfl⟩ := no_key h2
      exact ⟨A, c, A1, _, c1, rfl, h1, h3⟩)
    go_region_with (first
      | (go_at_call 16; refine (ckNew_any 1 W.drew).mono ?_; rintro e w1 ⟨rfl, hm1⟩; have HM1 : Hid (Mod (fun _ => False) W w1) := Lib.hid (((Mod.refl _ _).drew).trans hm1 (fun _ _ h => h)); obtain ⟨b0, b1, b2⟩ := Hkey.out w1 HM1.out; obtain ⟨b0a, b1a, b2a⟩ := Hkey.out (w1.alloc (.cells #[.int .i64 0, .int .i64 0, .slice none 0 0, .int .i64 0, .int .i64 0, .int .i64 0] 25)) (HM1.out.alloc _); clear hm1)
      | (go_at_call 16; refine (ckNew_any 1 (W.alloc (.cells #[.int .i64 0, .int .i64 0, .slice none 0 0, .int .i64 0, .int .i64 0, .int .i64 0] 25)).drew).mono ?_; rintro e w1 ⟨rfl, hm1⟩; have HM1 : Hid (Mod (fun _ => False) W w1) := Lib.hid ((((Mod.refl _ _).alloc _).drew).trans hm1 (fun _ _ h => h)); obtain ⟨b0, b1, b2⟩ := Hkey.out w1 HM1.out; have HG1 : Hid (Blk w1 W.heap.size 25 #[.int .i64 0, .int .i64 0, .slice none 0 0, .int .i64 0, .int .i64 0, .int .i64 0]) := Lib.hid (hm1.blk (Blk.drew (Blk.new W _ _)) (fun h => h)); clear hm1)
      | (go_at_call 9; refine (HAdm.out w1).mono ?_; rintro e w2 ⟨A, c, A1, n1, c1, rfl, h1, h2⟩; have H1 := Lib.hid h1; have H2 := Lib.hid (HM1.out.trans h2 (fun _ _ h => h)); first | (have hg9 := h2.blk HG1.out (fun h => h); have Hg9 := Lib.hid hg9; have r0 := hg9.cell 0; have r1 := hg9.cell 1; have r2 := hg9.cell 2; have r3 := hg9.cell 3; have r4 := hg9.cell 4; have r5 := hg9.cell 5; have f0 := hg9.frozen 0; have f1 := hg9.frozen 1; have f2 := hg9.frozen 2; have f3 := hg9.frozen 3; have f4 := hg9.frozen 4; have f5 := hg9.frozen 5; simp at r0 r1 r2 r3 r4 r5; clear hg9; clear h1 h2) | clear h1 h2)
      | (go_at_call 9; refine (HAdm.out (w1.alloc (.cells #[.int .i64 0, .int .i64 0, .slice none 0 0, .int .i64 0, .int .i64 0, .int .i64 0] 25))).mono ?_; rintro e w2 ⟨A, c, A1, n1, c1, rfl, h1, h2⟩; have H1 := Lib.hid (OwnP.mono h1 (show w1.heap.size ≤ _ by simp)); have H2 := Lib.hid ((HM1.out.alloc _).trans h2 (fun _ _ h => h)); have hg9 := h2.blk (Blk.new w1 _ _) (fun h => h); have Hg9 := Lib.hid hg9; have r0 := hg9.cell 0; have r1 := hg9.cell 1; have r2 := hg9.cell 2; have r3 := hg9.cell 3; have r4 := hg9.cell 4; have r5 := hg9.cell 5; have f0 := hg9.frozen 0; have f1 := hg9.frozen 1; have f2 := hg9.frozen 2; have f3 := hg9.frozen 3; have f4 := hg9.frozen 4; have f5 := hg9.frozen 5; simp at r0 r1 r2 r3 r4 r5; clear hg9; clear h1 h2))
    all_goals (go_wp2_with fail; go_meet)
    all_goals (
      have hB1 := HM1.out.size
      refine ⟨_, A, c, A1, n1, c1, rfl, rfl, rfl, ?_⟩
      first
        | (have h8 := HG1.out; exact clk_over awC (awC_cells _) Hg9.out (Nat.le_refl _) H1.out hB1 H2.out)
        | (have h9 := Hg9.out; exact clk_over awC (awC_cells _) Hg9.out hB1 H1.out hB1 H2.out)
        | exact clk_new awC (awC_cells _) H1.out hB1 H2.out)
  case rest =>
    obtain ⟨gc, A, cA, A1, n1, c1, rfl, rfl, rfl, hc, hm, hgc⟩ := hcut
    obtain ⟨W1, rfl⟩ : ∃ w0 : World, w0 = wc := ⟨_, rfl⟩
    have Hc := Lib.hid hc; have Hm := Lib.hid hm; have Hgc := Lib.hid hgc
    clear hc hm hgc a0 a1 a2
    -- region 3
    obtain ⟨y0, y1, y2, y3, y4, y5⟩ := Hc.out.cells
    have fr := Hc.out.frozen
    have hb1 := Hm.out.blk HbW.out (fun h => h)
    have a0 := hb1.cell 0
    have a1 := hb1.cell 1
    have a2 := hb1.cell 2
    simp at a0 a1 a2
    simp only [awC] at y0 y1 y3 y4 y5
    clear hb1
    go_wp2_with fail
    refine (adm_call awC awC2 awB [awA] true aw2 aw1g Hc.out).mono ?_
    rintro e w2 ⟨vo, A2, n2, c2, rfl, h1, h2, h3⟩
    rw [awC2_cells]
    have hb2 := h3.blk Hc.out.blk (fun h => h)
    rw [awC_cells] at hb2
    have hk := clk_over (W := W) awC2 (awC2_cells _) hb2 Hgc.out h1 Hm.out.size (Hm.out.trans h3 (fun _ _ h => h))
    obtain ⟨g6, cap6, rfl, hB6, _⟩ := one_key h2
    obtain ⟨W3, hW3⟩ : ∃ W3, W3 = (((((w2.setCell ⟨gc, 0, none⟩ (.int .i64 1)).setCell ⟨gc, 1, none⟩ (.int .i64 1)).setCell ⟨gc, 2, none⟩ (.slice A2 n2 c2)).setCell ⟨gc, 3, none⟩ (.int .i64 1)).setCell ⟨gc, 4, none⟩ (.int .i64 1)).setCell ⟨gc, 5, none⟩ (.int .i64 1) := ⟨_, rfl⟩
    have hk6 : OwnK 3 W.heap.size W3 28 (.slice (some ⟨g6, 0, none⟩) 1 cap6) ([awA].map keyC) := by
      rw [hW3]
      exact (OwnK.modS h2 (Mod.six_one _ _ _ _ _ _ _ _) (fun j hj e => own_blk_ne h2.2 hb2 (by decide) (by rw [hj, e]))).mono Hm.out.size
    have q0 := hb2.cell 0
    have q1 := hb2.cell 1
    have q2 := hb2.cell 2
    have q3 := hb2.cell 3
    have q4 := hb2.cell 4
    have q5 := hb2.cell 5
    have p0 := hb2.frozen 0
    have p1 := hb2.frozen 1
    have p2 := hb2.frozen 2
    have p3 := hb2.frozen 3
    have p4 := hb2.frozen 4
    have p5 := hb2.frozen 5
    simp at q0 q1 q2 q3 q4 q5
    rw [← hW3] at hk
    have Hc3 := Lib.hid hk.1; have Hm3 := Lib.hid hk.2.1; have Hk6 := Lib.hid hk6; have HW3 := Lib.hid hW3
    clear h1 h2 h3 hb2 hk hk6 hW3 hB6 y0 y1 y2 y3 y4 y5 fr a0 a1 a2
    go_upto_region 4 with fail
    rw [← HW3.out]
    clear q0 q1 q2 q3 q4 q5 p0 p1 p2 p3 p4 p5
    -- region 4
    obtain ⟨y0, y1, y2, y3, y4, y5⟩ := Hc3.out.cells
    have ha3 := Hm3.out.blk HaW.out (fun h => h)
    have a0 := ha3.cell 0
    have a1 := ha3.cell 1
    have a2 := ha3.cell 2
    simp at a0 a1 a2
    simp only [awC2] at y0 y1 y3 y4 y5
    clear ha3
    go_wp2_with fail
    refine (adm_call awC2 awD awA [awB] true aw3 aw2g Hc3.out).mono ?_
    rintro e w4 ⟨vo, A4, n4, c4, rfl, h1, h2, h3⟩
    rw [awD_cells]
    have hm4 := Hm3.out.trans h3 (fun _ _ h => h)
    have hk := clk_new (W := W) awD (awD_cells (.slice A4 n4 c4)) h1 Hm3.out.size hm4
    obtain ⟨g9, cap9, rfl, hB9, _⟩ := one_key h2
    obtain ⟨W4, hW4⟩ : ∃ W4, W4 = w4.alloc (.cells #[.int .i64 1, .int .i64 1, .slice A4 n4 c4, .int .i64 0, .int .i64 0, .int .i64 0] 25) := ⟨_, rfl⟩
    obtain ⟨gd, hgd⟩ : ∃ g, g = w4.heap.size := ⟨_, rfl⟩
    rw [← hW4, ← hgd] at hk
    have hm34 : Mod (fun _ => False) W3 W4 := by rw [hW4]; exact h3.alloc _
    have Hk9 : Hid (OwnK 3 W.heap.size W4 28 (.slice (some ⟨g9, 0, none⟩) 1 cap9) ([awB].map keyC)) := Lib.hid (by rw [hW4]; exact (h2.alloc _).mono Hm3.out.size)
    have Hc4 := Lib.hid (Hc3.out.new hm34); have Hk64 := Lib.hid (Hk6.out.mod hm34)
    have Hd4 := Lib.hid hk.1; have Hm4 := Lib.hid hk.2.1; have HW4 := Lib.hid hW4; have Hgd := Lib.hid hgd
    clear h1 h2 h3 hk hW4 hgd hB9 hm4 hm34 y0 y1 y2 y3 y4 y5 a0 a1 a2
    go_upto_region 5 with fail
    rw [← HW4.out, ← Hgd.out]
    -- region 5
    obtain ⟨y0, y1, y2, y3, y4, y5⟩ := Hd4.out.cells
    have ha4 := Hm4.out.blk HaW.out (fun h => h)
    have a0 := ha4.cell 0
    have a1 := ha4.cell 1
    have a2 := ha4.cell 2
    simp at a0 a1 a2
    simp only [awD] at y0 y1 y3 y4 y5
    clear ha4
    go_wp2_with fail
    refine (pin_call awD awP awA 1 true aw4 aw3g (by omega) (by intro p hp; simp [awD] at hp; rw [hp]; show (0 : Int) ≤ 1000000; omega) Hd4.out).mono ?_
    rintro e w5 ⟨A5, n5, c5, rfl, h1, h3⟩
    rw [awP_cells]
    have hk := clk_new (W := W) awP (awP_cells (.slice A5 n5 c5)) h1 Hm4.out.size (Hm4.out.trans h3 (fun _ _ h => h))
    obtain ⟨W5, hW5⟩ : ∃ W5, W5 = w5.alloc (.cells #[.int .i64 1, .int .i64 1, .slice A5 n5 c5, .int .i64 0, .int .i64 0, .int .i64 0] 25) := ⟨_, rfl⟩
    obtain ⟨gp, hgp⟩ : ∃ g, g = w5.heap.size := ⟨_, rfl⟩
    rw [← hW5, ← hgp] at hk
    have hm45 : Mod (fun _ => False) W4 W5 := by rw [hW5]; exact h3.alloc _
    have Hc5 := Lib.hid (Hc4.out.new hm45); have Hd5 := Lib.hid (Hd4.out.new hm45); have Hk65 := Lib.hid (Hk64.out.mod hm45); have Hk95 := Lib.hid (Hk9.out.mod hm45)
    have Hp5 := Lib.hid hk.1; have Hm5 := Lib.hid hk.2.1; have HW5 := Lib.hid hW5; have Hgp := Lib.hid hgp
    clear h1 h3 hk hW5 hgp hm45 y0 y1 y2 y3 y4 y5 a0 a1 a2
    go_upto_region 6 with fail
    rw [← HW5.out, ← Hgp.out]
    -- region 6
    obtain ⟨y0, y1, y2, y3, y4, y5⟩ := Hp5.out.cells
    have hb5 := Hm5.out.blk HbW.out (fun h => h)
    have a0 := hb5.cell 0
    have a1 := hb5.cell 1
    have a2 := hb5.cell 2
    simp at a0 a1 a2
    simp only [awP] at y0 y1 y3 y4 y5
    clear hb5
    go_wp2_with fail
    refine (adm_call awP awP awB [] false aw5 aw4g Hp5.out).mono ?_
    rintro e w6 ⟨vo, A6, n6, c6, rfl, h1, h2, h3⟩
    rw [awP_cells]
    obtain ⟨W6, hW6⟩ : ∃ W6, W6 = w6.alloc (.cells #[.int .i64 1, .int .i64 1, .slice A6 n6 c6, .int .i64 0, .int .i64 0, .int .i64 0] 25) := ⟨_, rfl⟩
    have hm56 : Mod (fun _ => False) W5 W6 := by rw [hW6]; exact h3.alloc _
    have Hc6 := Lib.hid (Hc5.out.new hm56); have Hd6 := Lib.hid (Hd5.out.new hm56); have Hk66 := Lib.hid (Hk65.out.mod hm56); have Hk96 := Lib.hid (Hk95.out.mod hm56)
    have Hm6 := Lib.hid (Hm5.out.trans hm56 (fun _ _ h => h)); have HW6 := Lib.hid hW6
    clear h1 h2 h3 hW6 hm56 y0 y1 y2 y3 y4 y5 a0 a1 a2
    go_upto_region 7 with fail
    rw [← HW6.out]
    obtain ⟨_, _, _, e2, hl2, hr2⟩ := Hc6.out.args
    injection e2 with e21 e22 e23
    subst e21 e23
    obtain rfl : n2 = 2 := e22.trans hl2.out.symm
    obtain rfl := e22
    obtain ⟨_, _, _, e4, hl4, hr4⟩ := Hd6.out.args
    injection e4 with e41 e42 e43
    subst e41 e43
    obtain rfl : n4 = 1 := e42.trans hl4.out.symm
    obtain rfl := e42
    have Lc : Hid (∀ w2, Mod (fun _ => False) W6 w2 → w2.cell? ⟨gc, 0, none⟩ = some (.int .i64 1) ∧ w2.cell? ⟨gc, 1, none⟩ = some (.int .i64 1) ∧ w2.cell? ⟨gc, 2, none⟩ = some (.slice A2 2 c2) ∧ w2.cell? ⟨gc, 3, none⟩ = some (.int .i64 1) ∧ w2.cell? ⟨gc, 4, none⟩ = some (.int .i64 1) ∧ w2.cell? ⟨gc, 5, none⟩ = some (.int .i64 1)) := Lib.hid (fun w2 h => (Hc6.out.new h).cells)
    have Ld : Hid (∀ w2, Mod (fun _ => False) W6 w2 → w2.cell? ⟨gd, 0, none⟩ = some (.int .i64 1) ∧ w2.cell? ⟨gd, 1, none⟩ = some (.int .i64 1) ∧ w2.cell? ⟨gd, 2, none⟩ = some (.slice A4 1 c4) ∧ w2.cell? ⟨gd, 3, none⟩ = some (.int .i64 0) ∧ w2.cell? ⟨gd, 4, none⟩ = some (.int .i64 0) ∧ w2.cell? ⟨gd, 5, none⟩ = some (.int .i64 0)) := Lib.hid (fun w2 h => (Hd6.out.new h).cells)
    have La : Hid (∀ w2, Mod (fun _ => False) W6 w2 → w2.cell? ⟨ga, 0, none⟩ = some (.int .i64 1) ∧ w2.cell? ⟨ga, 1, none⟩ = some (.int .i64 0) ∧ w2.cell? ⟨ga, 2, none⟩ = some (.int .i64 1)) := Lib.hid (fun w2 h => by
      have hb := (Hm6.out.trans h (fun _ _ h => h)).blk HaW.out (fun h => h)
      exact ⟨hb.cell 0, hb.cell 1, hb.cell 2⟩)
    have Lb : Hid (∀ w2, Mod (fun _ => False) W6 w2 → w2.cell? ⟨gb, 0, none⟩ = some (.int .i64 1) ∧ w2.cell? ⟨gb, 1, none⟩ = some (.int .i64 0) ∧ w2.cell? ⟨gb, 2, none⟩ = some (.int .i64 2)) := Lib.hid (fun w2 h => by
      have hb := (Hm6.out.trans h (fun _ _ h => h)).blk HbW.out (fun h => h)
      exact ⟨hb.cell 0, hb.cell 1, hb.cell 2⟩)
    have L6 : Hid (∀ w2, Mod (fun _ => False) W6 w2 → w2.cell? ⟨g6, 0, none⟩ = some (.int .i64 1) ∧ w2.cell? ⟨g6, 1, none⟩ = some (.int .i64 0) ∧ w2.cell? ⟨g6, 2, none⟩ = some (.int .i64 1)) := Lib.hid (fun w2 h => by
      obtain ⟨g, cap, e, _, h0, h1, h2⟩ := one_key (Hk66.out.mod h)
      injection e with e _ _
      injection e with e
      injection e with e
      subst e
      exact ⟨h0, h1, h2⟩)
    have L9 : Hid (∀ w2, Mod (fun _ => False) W6 w2 → w2.cell? ⟨g9, 0, none⟩ = some (.int .i64 1) ∧ w2.cell? ⟨g9, 1, none⟩ = some (.int .i64 0) ∧ w2.cell? ⟨g9, 2, none⟩ = some (.int .i64 2)) := Lib.hid (fun w2 h => by
      obtain ⟨g, cap, e, _, h0, h1, h2⟩ := one_key (Hk96.out.mod h)
      injection e with e _ _
      injection e with e
      injection e with e
      subst e
      exact ⟨h0, h1, h2⟩)
    have Cf1 : Hid (∀ w2, Mod (fun _ => False) W6 w2 → Calls Try.prog 10 #[.agg #[.int .i64 1, .int .i64 1, .slice A4 1 c4, .int .i64 0, .int .i64 0, .int .i64 0], .agg #[.int .i64 1, .int .i64 0, .int .i64 2]] w2 fun e w' => e = .returned (.int .i64 (-1)) ∧ Mod (fun _ => False) W6 w') := Lib.hid (fun w2 h => by
      refine (find_any awD awB A4 1 c4 w2 (RdsP.fit (RdsP.new hr4 h)) (by omega)).mono ?_
      rintro e w' ⟨rfl, hm⟩
      exact ⟨rfl, h.trans hm (fun _ _ h => h)⟩)
    have Cf2 : Hid (∀ w2, Mod (fun _ => False) W6 w2 → Calls Try.prog 10 #[.agg #[.int .i64 3, .int .i64 1, .slice none 0 0, .int .i64 0, .int .i64 0, .int .i64 0], .agg #[.int .i64 1, .int .i64 0, .int .i64 1]] w2 fun e w' => e = .returned (.int .i64 (-1)) ∧ Mod (fun _ => False) W6 w') := Lib.hid (fun w2 h => by
      refine (find_any ⟨3, 1, [], 0, 0, 0⟩ awA none 0 0 w2 (RdsP.nil _ _ _) (by omega)).mono ?_
      rintro e w' ⟨rfl, hm⟩
      exact ⟨rfl, h.trans hm (fun _ _ h => h)⟩)
    have Cn : Hid (∀ w2, Mod (fun _ => False) W6 w2 → Calls Try.prog 16 #[.int .i64 3] w2 fun e w' => e = .returned (.agg #[.int .i64 3, .int .i64 1, .slice none 0 0, .int .i64 0, .int .i64 0, .int .i64 0]) ∧ Mod (fun _ => False) W6 w') := Lib.hid (fun w2 h => by
      refine (ckNew_any 3 w2).mono ?_
      rintro e w' ⟨rfl, hm⟩
      exact ⟨rfl, h.trans hm (fun _ _ h => h)⟩)
    have Cs1 : Hid (∀ w2, Mod (fun _ => False) W6 w2 → Calls Try.prog 21 #[.agg #[.int .i64 1, .int .i64 1, .slice A2 2 c2, .int .i64 1, .int .i64 1, .int .i64 1], .agg #[.int .i64 1, .int .i64 1, .slice A2 2 c2, .int .i64 1, .int .i64 1, .int .i64 1]] w2 fun e w' => e = .returned (.bool true) ∧ Mod (fun _ => False) W6 w') := Lib.hid (fun w2 h => by
      refine (ckSame_any awC2 awC2 A2 A2 2 c2 2 c2 w2 (RdsP.fit (RdsP.new hr2 h)) (RdsP.fit (RdsP.new hr2 h)) (by omega) (by omega)).mono ?_
      rintro e w' ⟨rfl, hm⟩
      exact ⟨rfl, h.trans hm (fun _ _ h => h)⟩)
    have Cs2 : Hid (∀ w2, Mod (fun _ => False) W6 w2 → Calls Try.prog 21 #[.agg #[.int .i64 1, .int .i64 1, .slice A2 2 c2, .int .i64 1, .int .i64 1, .int .i64 1], .agg #[.int .i64 1, .int .i64 1, .slice A4 1 c4, .int .i64 0, .int .i64 0, .int .i64 0]] w2 fun e w' => e = .returned (.bool false) ∧ Mod (fun _ => False) W6 w') := Lib.hid (fun w2 h => by
      refine (ckSame_any awC2 awD A2 A4 2 c2 1 c4 w2 (RdsP.fit (RdsP.new hr2 h)) (RdsP.fit (RdsP.new hr4 h)) (by omega) (by omega)).mono ?_
      rintro e w' ⟨rfl, hm⟩
      exact ⟨rfl, h.trans hm (fun _ _ h => h)⟩)
    have HmT := Lib.hid (HmW.out.trans Hm6.out (fun _ _ h => h))
    clear hl2 hr2 hl4 hr4
    refine wp_region_class (fun W' => Mod (fun _ => False) W6 W') (by kernel_rfl) (by kernel_rfl) (Mod.refl _ _).drew ?_
    iterate 17 quiet_step (exact fun _ => rfl)
    refine wpQuiet_step (fun K hK => ?_)
    go_simp
    refine ⟨.agg #[.int .i64 1, .int .i64 0, .int .i64 1], fun w2 h2 => ?_, hK _ ?_⟩
    · obtain ⟨b0, b1, b2⟩ := L6.out w2 h2
      simp only [b0, b1, b2, Result.andThen_ok]
      exact ⟨trivial, trivial⟩
    clear hK K
    refine wpQuiet_step (fun K hK => ?_)
    go_simp
    refine ⟨.agg #[.int .i64 1, .int .i64 0, .int .i64 1], fun w2 h2 => ?_, hK _ ?_⟩
    · obtain ⟨b0, b1, b2⟩ := La.out w2 h2
      simp only [b0, b1, b2, Result.andThen_ok]
      exact ⟨trivial, trivial⟩
    clear hK K
    iterate 4 quiet_step (exact fun _ => rfl)
    refine wpQuiet_step (fun K hK => ?_)
    go_simp
    refine ⟨.slice A2 2 c2, fun w2 h2 => ?_, hK _ ?_⟩
    · have b0 := (Lc.out w2 h2).2.2.1
      simp only [b0]
      exact ⟨rfl, rfl⟩
    clear hK K
    iterate 14 quiet_step (exact fun _ => rfl)
    refine wpQuiet_step (fun K hK => ?_)
    go_simp
    refine ⟨.agg #[.int .i64 1, .int .i64 0, .int .i64 2], fun w2 h2 => ?_, hK _ ?_⟩
    · obtain ⟨b0, b1, b2⟩ := L9.out w2 h2
      simp only [b0, b1, b2, Result.andThen_ok]
      exact ⟨trivial, trivial⟩
    clear hK K
    refine wpQuiet_step (fun K hK => ?_)
    go_simp
    refine ⟨.agg #[.int .i64 1, .int .i64 0, .int .i64 2], fun w2 h2 => ?_, hK _ ?_⟩
    · obtain ⟨b0, b1, b2⟩ := Lb.out w2 h2
      simp only [b0, b1, b2, Result.andThen_ok]
      exact ⟨trivial, trivial⟩
    clear hK K
    iterate 4 quiet_step (exact fun _ => rfl)
    refine wpQuiet_step (fun K hK => ?_)
    go_simp
    refine ⟨.int .i64 1, fun w2 h2 => ?_, hK _ ?_⟩
    · have b0 := (Ld.out w2 h2).2.1
      simp only [b0]
      exact ⟨rfl, rfl⟩
    clear hK K
    iterate 10 quiet_step (exact fun _ => rfl)
    refine wpQuiet_step (fun K hK => ?_)
    go_simp
    refine ⟨.agg #[.int .i64 1, .int .i64 1, .slice A4 1 c4, .int .i64 0, .int .i64 0, .int .i64 0], fun w2 h2 => ?_, hK _ ?_⟩
    · obtain ⟨b0, b1, b2, b3, b4, b5⟩ := Ld.out w2 h2
      simp only [b0, b1, b2, b3, b4, b5, Result.andThen_ok]
      exact ⟨trivial, trivial⟩
    clear hK K
    refine wpQuiet_step (fun K hK => ?_)
    go_simp
    refine ⟨.agg #[.int .i64 1, .int .i64 0, .int .i64 2], fun w2 h2 => ?_, hK _ ?_⟩
    · obtain ⟨b0, b1, b2⟩ := Lb.out w2 h2
      simp only [b0, b1, b2, Result.andThen_ok]
      exact ⟨trivial, trivial⟩
    clear hK K
    refine wpQuiet_step (fun K hK => ?_)
    go_simp
    refine ⟨.int .i64 (-1), fun w2 h2 => (Cf1.out w2 h2).mono ?_, hK _ ?_⟩
    · rintro e w3 ⟨rfl, hm⟩
      exact ⟨rfl, hm⟩
    clear hK K
    iterate 4 quiet_step (exact fun _ => rfl)
    refine wpQuiet_step (fun K hK => ?_)
    go_simp
    refine ⟨.slice A4 1 c4, fun w2 h2 => ?_, hK _ ?_⟩
    · have b0 := (Ld.out w2 h2).2.2.1
      simp only [b0]
      exact ⟨rfl, rfl⟩
    clear hK K
    iterate 4 quiet_step (exact fun _ => rfl)
    refine wpQuiet_step (fun K hK => ?_)
    go_simp
    refine ⟨.agg #[.int .i64 3, .int .i64 1, .slice none 0 0, .int .i64 0, .int .i64 0, .int .i64 0], fun w2 h2 => (Cn.out w2 h2).mono ?_, hK _ ?_⟩
    · rintro e w3 ⟨rfl, hm⟩
      exact ⟨rfl, hm⟩
    clear hK K
    refine wpQuiet_step (fun K hK => ?_)
    go_simp
    refine ⟨.agg #[.int .i64 1, .int .i64 0, .int .i64 1], fun w2 h2 => ?_, hK _ ?_⟩
    · obtain ⟨b0, b1, b2⟩ := La.out w2 h2
      simp only [b0, b1, b2, Result.andThen_ok]
      exact ⟨trivial, trivial⟩
    clear hK K
    refine wpQuiet_step (fun K hK => ?_)
    go_simp
    refine ⟨.int .i64 (-1), fun w2 h2 => (Cf2.out w2 h2).mono ?_, hK _ ?_⟩
    · rintro e w3 ⟨rfl, hm⟩
      exact ⟨rfl, hm⟩
    clear hK K
    iterate 3 quiet_step (exact fun _ => rfl)
    refine wpQuiet_step (fun K hK => ?_)
    go_simp
    refine ⟨.agg #[.int .i64 1, .int .i64 1, .slice A2 2 c2, .int .i64 1, .int .i64 1, .int .i64 1], fun w2 h2 => ?_, hK _ ?_⟩
    · obtain ⟨b0, b1, b2, b3, b4, b5⟩ := Lc.out w2 h2
      simp only [b0, b1, b2, b3, b4, b5, Result.andThen_ok]
      exact ⟨trivial, trivial⟩
    clear hK K
    refine wpQuiet_step (fun K hK => ?_)
    go_simp
    refine ⟨.agg #[.int .i64 1, .int .i64 1, .slice A2 2 c2, .int .i64 1, .int .i64 1, .int .i64 1], fun w2 h2 => ?_, hK _ ?_⟩
    · obtain ⟨b0, b1, b2, b3, b4, b5⟩ := Lc.out w2 h2
      simp only [b0, b1, b2, b3, b4, b5, Result.andThen_ok]
      exact ⟨trivial, trivial⟩
    clear hK K
    refine wpQuiet_step (fun K hK => ?_)
    go_simp
    refine ⟨.bool true, fun w2 h2 => (Cs1.out w2 h2).mono ?_, hK _ ?_⟩
    · rintro e w3 ⟨rfl, hm⟩
      exact ⟨rfl, hm⟩
    clear hK K
    iterate 2 quiet_step (exact fun _ => rfl)
    refine wpQuiet_step (fun K hK => ?_)
    go_simp
    refine ⟨.agg #[.int .i64 1, .int .i64 1, .slice A2 2 c2, .int .i64 1, .int .i64 1, .int .i64 1], fun w2 h2 => ?_, hK _ ?_⟩
    · obtain ⟨b0, b1, b2, b3, b4, b5⟩ := Lc.out w2 h2
      simp only [b0, b1, b2, b3, b4, b5, Result.andThen_ok]
      exact ⟨trivial, trivial⟩
    clear hK K
    refine wpQuiet_step (fun K hK => ?_)
    go_simp
    refine ⟨.agg #[.int .i64 1, .int .i64 1, .slice A4 1 c4, .int .i64 0, .int .i64 0, .int .i64 0], fun w2 h2 => ?_, hK _ ?_⟩
    · obtain ⟨b0, b1, b2, b3, b4, b5⟩ := Ld.out w2 h2
      simp only [b0, b1, b2, b3, b4, b5, Result.andThen_ok]
      exact ⟨trivial, trivial⟩
    clear hK K
    refine wpQuiet_step (fun K hK => ?_)
    go_simp
    refine ⟨.bool false, fun w2 h2 => (Cs2.out w2 h2).mono ?_, hK _ ?_⟩
    · rintro e w3 ⟨rfl, hm⟩
      exact ⟨rfl, hm⟩
    clear hK K
    iterate 3 quiet_step (exact fun _ => rfl)
    refine wpQuiet_nil ?_
    intro w7 h7
    have H7 := Lib.hid h7
    clear h7
    go_wp2_with fail
    go_ret
    exact ⟨rfl, HmT.out.trans H7.out (fun _ _ h => h)⟩
end Go.Proofs.Ythogflfjdfcpeaa

/- The law's Key: a name of a number. -/
namespace Go.Proofs.Ythogflfjdfcpeaa
open Go.RowKit

theorem Blk.threeR {w : World} {g : Nat} {t : TypeId} {c0 c1 c2 : Value} (h : Blk w g t #[c0, c1, c2]) : w.cell? ⟨g, 0, none⟩ = some c0 ∧ w.cell? ⟨g, 1, none⟩ = some c1 ∧ w.cell? ⟨g, 2, none⟩ = some c2 := ⟨h.cell 0, h.cell 1, h.cell 2⟩
theorem mask1 (a : Int) : bits .and .i64 a 1 = a % 2 := by have := i64_mask a 1 1 (by decide) (by decide); simpa using this
theorem mask3 (a : Int) : bits .and .i64 a 3 = a % 4 := by have := i64_mask a 3 2 (by decide) (by decide); simpa using this
theorem mask7 (a : Int) : bits .and .i64 a 7 = a % 8 := by have := i64_mask a 7 3 (by decide) (by decide); simpa using this
set_option maxHeartbeats 1000000 in
set_option maxRecDepth 100000 in
theorem ckKey_any (n : Int) (w : World) (hn : FitI n) : Calls Try.prog 12 #[.int .i64 n] w fun e w' => e = .returned (.agg #[.int .i64 (keyN n).s, .int .i64 (keyN n).l, .int .i64 (keyN n).b]) ∧ Mod (fun _ => False) w w' := by
  obtain ⟨W, hW, hmW, hbW, hzW⟩ := Blk.boxed w 28 #[.int .i64 0, .int .i64 0, .int .i64 0]
  obtain ⟨G, hG⟩ : ∃ g, g = w.heap.size := ⟨_, rfl⟩
  rw [← hG] at hbW
  obtain ⟨n1, n2⟩ := hn.out
  obtain ⟨X, hX⟩ : ∃ x, n % 2 = x := ⟨_, rfl⟩
  obtain ⟨Y, hY⟩ : ∃ x, n / 2 % 2 = x := ⟨_, rfl⟩
  obtain ⟨Z, hZ⟩ : ∃ x, n / 4 % 8 = x := ⟨_, rfl⟩
  have m1 : bits .and .i64 n 1 = X := by rw [mask1, hX]
  have m2 : bits .and .i64 (n / 2) 1 = Y := by rw [mask1, hY]
  have m3 : bits .and .i64 (n / 4) 7 = Z := by rw [mask7, hZ]
  have ek : keyN n = ⟨X, Y, Z⟩ := by unfold keyN; rw [hX, hY, hZ]
  rw [ek]
  have q0 := hbW.cell 0
  have q1 := hbW.cell 1
  have q2 := hbW.cell 2
  have p0 := hbW.frozen 0
  have p1 := hbW.frozen 1
  have p2 := hbW.frozen 2
  simp at q0 q1 q2
  have HW := Lib.hid hW; have HmW := Lib.hid hmW; have HbW := Lib.hid hbW; have HG := Lib.hid hG
  clear hW hmW hbW hzW hG hX hY hZ ek hn
  go_enter Try.func12, Try.ntmps12
  go_upto_region 1 with fail
  rw [← HW.out, ← HG.out]
  go_wp2_with fail
  refine bodyPost_ret (v := .agg #[.int .i64 X, .int .i64 Y, .int .i64 Z]) (by have h := HbW.out.three (.int .i64 X) (.int .i64 Y) (.int .i64 Z); simp [results, Try.results12, go_sem, h.1, h.2.1, h.2.2.1]) rfl ?_
  exact ⟨rfl, HmW.out.three_new (by have := HG.out; omega) _ _ _⟩
end Go.Proofs.Ythogflfjdfcpeaa

/- The law's same: two rows of names. -/
namespace Go.Proofs.Ythogflfjdfcpeaa
open Go.RowKit

/-- The i-th name: its three cells, as the model's loads spell them. -/
theorem keys_at {w : World} {B n i : Nat} {A : Option Addr} {ks : List KeyN} (h : RdsK 3 w B A n (ks.map keyC)) (hi : i < n) : ∃ ad k, A = some ad ∧ ad.block < B ∧ ks[i]? = some k ∧
    w.cell? (ad.add (i * 3)) = some (.int .i64 k.s) ∧ w.cell? ⟨(ad.add (i * 3)).block, (ad.add (i * 3)).off + 1, none⟩ = some (.int .i64 k.l) ∧ w.cell? ⟨(ad.add (i * 3)).block, (ad.add (i * 3)).off + 2, none⟩ = some (.int .i64 k.b) := by
  obtain ⟨ad, r, e, hb, hr, hl, hc⟩ := RdsK.at_ h hi (by decide)
  rw [List.getElem?_map] at hr
  obtain ⟨p, hp, rfl⟩ := Option.map_eq_some_iff.1 hr
  refine ⟨ad, p, e, hb, hp, hc 0 _ rfl, ?_, ?_⟩
  · rw [add_cellK 3 _ _ _ (by decide)]; exact hc 1 _ rfl
  · rw [add_cellK 3 _ _ _ (by decide)]; exact hc 2 _ rfl
theorem take_one_key {ks : List KeyN} {i : Nat} {k : KeyN} (h : ks[i]? = some k) : ks.take (i + 1) = ks.take i ++ [k] := by
  rw [List.take_add_one, h]
  rfl
theorem kalike_on {ps qs : List KeyN} {i : Nat} {p : KeyN} (h : ps.take i = qs.take i) (hp : ps[i]? = some p) (hq : qs[i]? = some p) : ps.take (i + 1) = qs.take (i + 1) := by rw [take_one_key hp, take_one_key hq, h]
theorem kalike_not {ps qs : List KeyN} {i : Nat} {p q : KeyN} (hp : ps[i]? = some p) (hq : qs[i]? = some q) (e : p ≠ q) : ps ≠ qs := fun h => by rw [h, hq] at hp; injection hp with hp; exact e hp.symm
set_option maxHeartbeats 4000000 in
set_option maxRecDepth 100000 in
theorem lsame_any (xs ys : List KeyN) (A A2 : Option Addr) (n cap n2 cap2 : Nat) (w : World) (hs : RdsK 3 w w.heap.size A n (xs.map keyC)) (hs2 : RdsK 3 w w.heap.size A2 n2 (ys.map keyC)) (hn : n ≤ 100000) (hn2 : n2 ≤ 100000) :
    Calls Try.prog 19 #[.slice A n cap, .slice A2 n2 cap2] w fun e w' => e = .returned (.bool (decide (xs = ys))) ∧ Mod (fun _ => False) w w' := by
  have hl : xs.length = n := by have := hs.1; rwa [List.length_map] at this
  have hl2 : ys.length = n2 := by have := hs2.1; rwa [List.length_map] at this
  have Hs := Lib.hid hs; have Hs2 := Lib.hid hs2; have Hl := Lib.hid hl; have Hl2 := Lib.hid hl2
  clear hs hs2 hl hl2
  go_enter Try.func19, Try.ntmps19
  by_cases hnn : n = n2
  · subst hnn
    go_wp2_with fail
    go_loopg [13] n (fun k s13 wr => ∃ i : Nat, i + k = n ∧ s13 = .int .i64 (i : Int) ∧ xs.take i = ys.take i ∧ Mod (fun _ => False) w wr)
    case atStart => exact ⟨0, by omega, rfl, by simp, Mod.refl _ _⟩
    case round =>
      obtain ⟨i, hik, rfl, hr, hm⟩ := hrel
      have Hik := Lib.hid hik; have Hr := Lib.hid hr; have Hm := Lib.hid hm
      clear hik hr hm
      by_cases hin : i < n
      · obtain ⟨ad, p, rfl, _, hp, c0, c1, c2⟩ := keys_at (RdsK.new Hs.out Hm.out) hin
        obtain ⟨ad2, p2, rfl, _, hp2, e0, e1, e2⟩ := keys_at (RdsK.new Hs2.out Hm.out) hin
        obtain ⟨s, l, b⟩ := p
        obtain ⟨s2, l2, b2⟩ := p2
        simp only at c0 c1 c2 e0 e1 e2
        have Hp := Lib.hid hp; have Hp2 := Lib.hid hp2
        have hin' : (i : Int) < (n : Int) := by omega
        clear hp hp2
        by_cases d0 : s = s2
        · subst d0
          by_cases d1 : l = l2
          · subst d1
            by_cases d2 : b = b2
            · subst d2
              go_upto_region 6 with fail
              go_quiet (fail)
              go_wp2_with fail
              go_roundg (gk - 1)
              case measure => have := Hik.out; omega
              case rel => exact ⟨i + 1, by have := Hik.out; omega, by go_num, kalike_on Hr.out Hp.out Hp2.out, Hm.out.drewN _⟩
            · have Hne := Lib.hid (kalike_not Hp.out Hp2.out (by intro h; injection h with h1 h2 h3; first | exact d2 h1 | exact d2 h2 | exact d2 h3))
              go_upto_region 6 with fail
              go_quiet (fail)
              go_wp2_with fail
              go_ret
              exact ⟨by rw [decide_eq_false Hne.out]; rfl, Hm.out.drewN _⟩
          · have Hne := Lib.hid (kalike_not Hp.out Hp2.out (by intro h; injection h with h1 h2 h3; first | exact d1 h1 | exact d1 h2 | exact d1 h3))
            go_upto_region 6 with fail
            go_quiet (fail)
            go_wp2_with fail
            go_ret
            exact ⟨by rw [decide_eq_false Hne.out]; rfl, Hm.out.drewN _⟩
        · have Hne := Lib.hid (kalike_not Hp.out Hp2.out (by intro h; injection h with h1 h2 h3; first | exact d0 h1 | exact d0 h2 | exact d0 h3))
          go_upto_region 6 with fail
          go_quiet (fail)
          go_wp2_with fail
          go_ret
          exact ⟨by rw [decide_eq_false Hne.out]; rfl, Hm.out.drewN _⟩
      · have hin' : ¬ (i : Int) < (n : Int) := by omega
        have heq : xs = ys := by
          have h := Hr.out
          rw [List.take_of_length_le (by have := Hl.out; have := Hik.out; omega), List.take_of_length_le (by have := Hl2.out; have := Hik.out; omega)] at h
          exact h
        have He := Lib.hid heq
        clear heq
        go_wp2_with fail
        go_ret
        exact ⟨by rw [He.out]; simp, Hm.out⟩
  · have b1 : ((n : Int) == (n2 : Int)) = false := by simp; omega
    have Hnq : Hid (xs ≠ ys) := Lib.hid (fun e => hnn (by rw [← Hl.out, ← Hl2.out, e]))
    go_wp2_with fail
    go_ret
    exact ⟨by rw [decide_eq_false Hnq.out]; rfl, Mod.refl _ _⟩
end Go.Proofs.Ythogflfjdfcpeaa

/- Whose names stand in a clock that a script led somewhere. -/
namespace Go.Proofs.Ythogflfjdfcpeaa

theorem set_keys {ps : List PagN} {i : Nat} {p q : PagN} (hp : ps[i]? = some p) (hk : q.key = p.key) : ∀ x ∈ ps.set i q, ∃ y ∈ ps, y.key = x.key := fun x hx => by
  rcases List.mem_or_eq_of_mem_set hx with h | h
  · exact ⟨x, h, rfl⟩
  · exact ⟨p, List.mem_of_getElem? hp, by rw [h, hk]⟩
theorem touch_keys (c : ClkN) (k : KeyN) : ∀ x ∈ (touchK c k).1.ps, ∃ y ∈ c.ps, y.key = x.key := by
  unfold touchK
  cases hf : findK k c.ps with
  | none => exact fun x hx => ⟨x, hx, rfl⟩
  | some i =>
    obtain ⟨p, hp, _⟩ := findK_some hf
    simp only [hp]
    by_cases hr : p.resi = true
    · rw [if_pos hr]; exact set_keys hp rfl
    · rw [if_neg hr]; exact fun x hx => ⟨x, hx, rfl⟩
theorem pin_keys (c : ClkN) (k : KeyN) (n : Int) : ∀ x ∈ (pinK c k n).1.ps, ∃ y ∈ c.ps, y.key = x.key := by
  unfold pinK
  cases hf : findK k c.ps with
  | none => exact fun x hx => ⟨x, hx, rfl⟩
  | some i =>
    obtain ⟨p, hp, _⟩ := findK_some hf
    simp only [hp]
    by_cases hr : p.resi = true
    · rw [if_pos hr]; exact set_keys hp rfl
    · rw [if_neg hr]; exact fun x hx => ⟨x, hx, rfl⟩
theorem strike_keys (ps : List PagN) (i : Nat) : ∀ x ∈ strikeK ps i, x ∈ ps := fun x hx => by
  unfold strikeK at hx
  rcases List.mem_append.1 hx with h1 | h1
  · exact List.mem_of_mem_take h1
  · exact List.mem_of_mem_drop h1
theorem drop_keys (c : ClkN) (k : KeyN) : ∀ x ∈ (dropK c k).1.ps, ∃ y ∈ c.ps, y.key = x.key := by
  unfold dropK
  cases hf : findK k c.ps with
  | none => exact fun x hx => ⟨x, hx, rfl⟩
  | some i => exact fun x hx => ⟨x, strike_keys _ _ x hx, rfl⟩
theorem clear_keys (c : ClkN) (k : KeyN) : ∀ x ∈ (clearK c k).ps, x ∈ c.ps := by
  unfold clearK
  cases hf : findK k c.ps with
  | none => exact fun x hx => hx
  | some i => exact fun x hx => strike_keys _ _ x hx
theorem admit_keys {c : ClkN} {k : KeyN} (h : Good c) : ∀ x ∈ (admitK c k).1.ps, x.key = k ∨ ∃ y ∈ c.ps, y.key = x.key := by
  unfold admitK
  by_cases hr : resAt c k = true
  · rw [if_pos hr]
    exact fun x hx => .inr (touch_keys c k x hx)
  · rw [if_neg hr]
    by_cases hc : c.most ≤ ((cntK 1 c.ps + cntK 2 c.ps : Nat) : Int) ∧ c.ps.any isFree = false
    · rw [if_pos hc]
      exact fun x hx => .inr ⟨x, hx, rfl⟩
    · rw [if_neg hc]
      have hrf : resAt c k = false := by simpa using hr
      obtain ⟨r1, r2, r3, r4, _⟩ := clear_room h hrf hc
      obtain ⟨pk, pok, _, _⟩ := page_key c k
      obtain ⟨_, b2, _, _⟩ := room_after r1 r2 r4 pk pok
      obtain ⟨_, _, _, _, _, _, hs⟩ := room_ends r1.1 r1.2.1 r1.2.2 r2
      obtain ⟨t, _⟩ := cool_ends b2
      intro x hx
      have hm : x.key ∈ (comeK (roomK (clearK c k)).1 (pageK c k)).ps.map (·.key) := t.keys.subset (List.mem_map.2 ⟨x, hx, rfl⟩)
      obtain ⟨y, hy, e⟩ := List.mem_map.1 hm
      have hy2 : y = pageK c k ∨ y ∈ (roomK (clearK c k)).1.ps := by
        unfold comeK at hy
        split at hy
        · left; simpa using hy
        · rcases List.mem_append.1 hy with h1 | h1
          · exact .inr (List.mem_of_mem_take h1)
          rcases List.mem_cons.1 h1 with h1 | h1
          · exact .inl h1
          · exact .inr (List.mem_of_mem_drop h1)
      rcases hy2 with rfl | hy2
      · exact .inl (by rw [← e, pk])
      · have hm2 : y.key ∈ (clearK c k).ps.map (·.key) := hs.subset (List.mem_map.2 ⟨y, hy2, rfl⟩)
        obtain ⟨z, hz, e2⟩ := List.mem_map.1 hm2
        exact .inr ⟨z, clear_keys c k z hz, e2.trans e⟩
theorem step_keys {c : ClkN} (h : Good c) (n : Int) : ∀ x ∈ (stepK c n).1.ps, x.key = keyN (n / 8) ∨ ∃ y ∈ c.ps, y.key = x.key := by
  unfold stepK
  split
  · exact admit_keys h
  split
  · exact fun x hx => .inr (touch_keys _ _ x hx)
  split
  · exact fun x hx => .inr (pin_keys _ _ _ x hx)
  split
  · exact admit_keys h
  · exact fun x hx => .inr (drop_keys _ _ x hx)
theorem led_keys (most : Int) (l : List Int) : ∀ x ∈ (ledK most l).ps, ∃ n, x.key = keyN n := by
  have : ∀ (l : List Int) (c : ClkN), Good c → (∀ x ∈ c.ps, ∃ n, x.key = keyN n) → ∀ x ∈ (l.foldl (fun c n => (stepK c n).1) c).ps, ∃ n, x.key = keyN n := by
    intro l
    induction l with
    | nil => intro c _ h; exact h
    | cons n l ih =>
      intro c hg h
      refine ih _ (step_good hg n).1 (fun x hx => ?_)
      rcases step_keys hg n x hx with e | ⟨y, hy, e⟩
      · exact ⟨_, e⟩
      · obtain ⟨m, hm⟩ := h y hy
        exact ⟨m, by rw [← e, hm]⟩
  exact this l _ (good_new most) (fun x hx => by cases hx)
def strangerN : KeyN := ⟨9, 0, 0⟩
theorem led_stranger (most : Int) (l : List Int) : ∀ x ∈ (ledK most l).ps, x.key ≠ strangerN := fun x hx e => by
  obtain ⟨n, hn⟩ := led_keys most l x hx
  rw [hn] at e
  unfold keyN strangerN at e
  injection e with e1 _ _
  omega
theorem res_none {c : ClkN} {k : KeyN} (h : ∀ x ∈ c.ps, x.key ≠ k) : resAt c k = false := by
  unfold resAt
  cases hf : findK k c.ps with
  | none => rfl
  | some i =>
    obtain ⟨p, hp, hk⟩ := findK_some hf
    exact absurd hk (h p (List.mem_of_getElem? hp))
/-- The law of pins, in the mathematics: all have one more. -/
theorem pinned_all {c : ClkN} (h : Good c) (hk : ∀ x ∈ c.ps, x.key ≠ strangerN) {c1 : ClkN} (e : upTo c c.ps.length = c1) :
    Good c1 ∧ c1.most = c.most ∧ c1.ps.length = c.ps.length ∧ (∀ x ∈ c1.ps, x.key ≠ strangerN) ∧ c1.ps.any isFree = false ∧ cntK 1 c1.ps + cntK 2 c1.ps = resTo c.ps c.ps.length ∧ resTo c1.ps c1.ps.length = resTo c.ps c.ps.length ∧
    ((resTo c.ps c.ps.length : Int) ≤ c.most) ∧ ((resTo c.ps c.ps.length : Int) < c.most → ∃ d i, admitK c1 strangerN = (d, [], true) ∧ findK strangerN d.ps = some i ∧ Good d) ∧
    (¬ (resTo c.ps c.ps.length : Int) < c.most → admitK c1 strangerN = (c1, [], false)) := by
  obtain ⟨u1, u2, u3⟩ := up_all h
  have hg := up_good h c.ps.length (Nat.le_refl _)
  rw [e] at u1 u2 u3 hg
  have hm : c1.most = c.most := by rw [← e]; rfl
  have hl : c1.ps.length = c.ps.length := by rw [u1]; simp
  have hkk : ∀ x ∈ c1.ps, x.key ≠ strangerN := fun x hx => by
    rw [u1] at hx
    obtain ⟨y, hy, rfl⟩ := List.mem_map.1 hx
    rw [up_key]
    exact hk y hy
  have hr := resTo_all h.base.pgs.1
  have hr1 := resTo_all hg.base.pgs.1
  have hrm := hg.room
  refine ⟨hg, hm, hl, hkk, u2, by rw [u3, hr], by rw [hr1, u3, hr], by rw [hr, ← u3, ← hm]; exact hrm, fun hlt => ?_, fun hge => ?_⟩
  · have ha := admit_room (k := strangerN) hg (by rw [u3, hm, ← hr]; exact hlt)
    have hc := admit_yes hg ha
    obtain ⟨i, p, hf, _⟩ := hc.found
    have hn := hc.none_ (by rw [u3, hm, ← hr]; exact hlt)
    refine ⟨_, i, ?_, hf, hc.good⟩
    rw [← ha, ← hn]
  · exact admit_full (res_none hkk) (by rw [u3, hm, ← hr]; omega) u2
theorem up_pinsle {c : ClkN} {i : Nat} {m : Int} (h : ∀ p ∈ c.ps, p.pins ≤ m) : ∀ p ∈ (upTo c i).ps, p.pins ≤ m + 1 := fun p hp => by
  have hp : p ∈ (c.ps.take i).map upP ++ c.ps.drop i := hp
  rcases List.mem_append.1 hp with h1 | h1
  · obtain ⟨q, hq, rfl⟩ := List.mem_map.1 h1
    have := h q (List.mem_of_mem_take hq)
    unfold upP
    split
    · show q.pins + 1 ≤ m + 1; omega
    · omega
  · have := h p (List.mem_of_mem_drop h1)
    omega
end Go.Proofs.Ythogflfjdfcpeaa
