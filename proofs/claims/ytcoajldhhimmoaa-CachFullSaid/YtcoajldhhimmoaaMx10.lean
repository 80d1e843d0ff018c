/- The texts Qr, Qs, Qt, Qu, Qv, Qx, Ih, one behind the other. -/
import Derived.Test.YtcoajldhhimmoaaMx1
import Derived.Test.YtcoajldhhimmoaaMx9
import Derived.Test.YtcoajldhhimmoaaMx3
import Derived.Test.YtcoajldhhimmoaaMx5
/- As what a page comes; the code's Admit. -/
namespace Go.Proofs.Ytcoajldhhimmoaa
open Go.RowKit

/-- Two boxes: a name, a page. -/
theorem key_page (w : World) (ks zs : Array Value) : ∃ W, W = (w.alloc (.cells ks 28)).alloc (.cells zs 39) ∧ Mod (fun _ => False) w W ∧ Blk W w.heap.size 28 ks ∧ Blk W (w.heap.size + 1) 39 zs ∧ W.heap.size = w.heap.size + 2 := by
  refine ⟨_, rfl, ((Mod.refl _ _).alloc _).alloc _, (Blk.new _ _ _).alloc _, ?_, by simp⟩
  have h := Blk.new (w.alloc (.cells ks 28)) 39 zs
  simpa using h
set_option maxHeartbeats 2000000 in
set_option maxRecDepth 100000 in
theorem recalled_any (B g : Nat) (vp : Value) (c : ClkN) (k : KeyN) (w : World) (h : ClkV B g w vp c) (hb : BaseK c) (hn : c.ps.length ≤ 100000) :
    Calls Try.prog 31 #[.pointer (some ⟨g, 0, none⟩), .agg #[.int .i64 k.s, .int .i64 k.l, .int .i64 k.b]] w fun e w' => e = .returned (.agg #[.int .i64 (pageK c k).key.s, .int .i64 (pageK c k).key.l, .int .i64 (pageK c k).key.b, .int .i64 (pageK c k).kind, .bool (pageK c k).ref, .bool (pageK c k).trial, .int .i64 (pageK c k).pins]) ∧ ClkTo B g w w' vp (clearK c k) := by
  obtain ⟨A, n, cap, rfl, Hnn, _, _, hr⟩ := h.form
  obtain ⟨W, hW, hmW, hkW, hpW, hzW⟩ := key_page w #[.int .i64 k.s, .int .i64 k.l, .int .i64 k.b] #[.int .i64 0, .int .i64 0, .int .i64 0, .int .i64 0, .bool false, .bool false, .int .i64 0]
  obtain ⟨g1, hg1⟩ : ∃ g, g = w.heap.size := ⟨_, rfl⟩
  obtain ⟨g2, hg2⟩ : ∃ g, g = w.heap.size + 1 := ⟨_, rfl⟩
  rw [← hg1] at hkW
  rw [← hg2] at hpW
  have hcW := h.new hmW
  have hgl := h.blk.lt
  have hvl := h.lt
  obtain ⟨y0, y1, y2, y3, y4, y5⟩ := hcW.cells
  have z0 := hkW.cell 0
  have z1 := hkW.cell 1
  have z2 := hkW.cell 2
  simp at z0 z1 z2
  have Hc := Lib.hid hcW; have Hb := Lib.hid hb; have Hn := Lib.hid hn; have Hr := Lib.hid (RdsP.fit (hr.new hmW))
  have H1S : Hid (¬ ClkS g (.slice A n cap) g1) := Lib.hid (by rintro (h | h); omega; have := (hvl g1 h).2; omega)
  have H2S : Hid (¬ ClkS g (.slice A n cap) g2) := Lib.hid (by rintro (h | h); omega; have := (hvl g2 h).2; omega)
  have HW := Lib.hid hW; have HmW := Lib.hid hmW; have HkW := Lib.hid hkW; have HpW := Lib.hid hpW; have Hg1 := Lib.hid hg1; have Hg2 := Lib.hid hg2; have HzW := Lib.hid hzW
  have hnl : n ≤ 1000000 := by have := Hnn.out; omega
  clear h hb hn hr hW hmW hkW hpW hg1 hg2 hzW hcW hgl hvl
  have Hcnt : Hid (∀ W', Mod (fun _ => False) W W' → Calls Try.prog 35 #[.agg #[.int .i64 c.most, .int .i64 c.target, .slice A n cap, .int .i64 (c.hot : Int), .int .i64 (c.cold : Int), .int .i64 (c.test : Int)], .agg #[.int .i64 k.s, .int .i64 k.l, .int .i64 k.b]] W' fun e w' => e = .returned (.int .i64 (placeK k c.ps)) ∧ Mod (fun _ => False) W w') := Lib.hid (by
    intro W' hW'
    refine (find_any c k A n cap W' ((Hr.out.new hW').fit) hnl).mono ?_
    rintro e w1 ⟨rfl, hm1⟩
    exact ⟨rfl, hW'.trans hm1 (fun _ _ h => h)⟩)
  go_enter Try.func31, Try.ntmps31
  go_upto_region 1 with fail
  rw [← HW.out, ← Hg2.out, ← Hg1.out]
  go_cut [5] from 5 to 10 (fun s5 wx => s5 = .int .i64 (placeK k c.ps) ∧ Mod (fun _ => False) W wx)
  case first =>
    go_region_with (first
      | (go_at_call 35; refine (Hcnt.out _ (Mod.refl _ _).drew).mono ?_; rintro e w1 ⟨rfl, hm1⟩; have HM1 := Lib.hid hm1; clear hm1))
    all_goals (
      go_wp2_with fail
      go_meet
      exact ⟨rfl, HM1.out⟩)
  case rest =>
    obtain ⟨rfl, hmc⟩ := hcut
    have Hmc := Lib.hid hmc
    have hk3 := hmc.blk HkW.out (fun h => h)
    have Hk3 := Lib.hid hk3
    have Hc3 := Lib.hid (Hc.out.new hmc)
    clear hmc hk3 y0 y1 y2 y3 y4 y5 z0 z1 z2
    cases hf : findK k c.ps with
    | none =>
      have e1 : pageK c k = ⟨k, 2, false, true, 0⟩ := by unfold pageK; rw [hf]
      have e2 : clearK c k = c := by unfold clearK; rw [hf]
      rw [show placeK k c.ps = -1 by unfold placeK; rw [hf]]
      have E1 := Lib.hid e1; have E2 := Lib.hid e2
      have z0 := Hk3.out.cell 0
      have z1 := Hk3.out.cell 1
      have z2 := Hk3.out.cell 2
      have hp3 := Hmc.out.blk HpW.out (fun h => h)
      have q0 := hp3.cell 0
      have q1 := hp3.cell 1
      have q2 := hp3.cell 2
      have q3 := hp3.cell 3
      have q4 := hp3.cell 4
      have q5 := hp3.cell 5
      have q6 := hp3.cell 6
      have p0 := hp3.frozen 0
      have p1 := hp3.frozen 1
      have p2 := hp3.frozen 2
      have p3 := hp3.frozen 3
      have p4 := hp3.frozen 4
      have p5 := hp3.frozen 5
      have p6 := hp3.frozen 6
      simp at z0 z1 z2 q0 q1 q2 q3 q4 q5 q6
      have Hp3 := Lib.hid hp3
      clear hp3 hf e1 e2
      go_wp2_with fail
      refine bodyPost_ret (v := .agg #[.int .i64 k.s, .int .i64 k.l, .int .i64 k.b, .int .i64 2, .bool false, .bool true, .int .i64 0]) (by have h := Hp3.out.seven (.int .i64 k.s) (.int .i64 k.l) (.int .i64 k.b) (.int .i64 2) (.bool false) (.bool true) (.int .i64 0); simp [results, Try.results31, go_sem, h.1, h.2.1, h.2.2.1, h.2.2.2.1, h.2.2.2.2.1, h.2.2.2.2.2.1, h.2.2.2.2.2.2.1]) rfl ?_
      rw [E1.out, E2.out]
      exact ⟨rfl, (ClkTo.refl (Hc3.out.modS (Mod.seven_one _ g2 _ _ _ _ _ _ _) (fun j hj e => H2S.out (e ▸ hj)))).after ((HmW.out.trans Hmc.out (fun _ _ h => h)).seven_new (by have := Hg2.out; omega) _ _ _ _ _ _ _)⟩
    | some i =>
      have e1 : pageK c k = ⟨k, 1, false, false, 0⟩ := by unfold pageK; rw [hf]
      have e2 : clearK c k = aimK (goesK c i) 1 := by unfold clearK; rw [hf]
      rw [show placeK k c.ps = (i : Int) by unfold placeK; rw [hf]]
      have E1 := Lib.hid e1; have E2 := Lib.hid e2
      obtain ⟨p, hp, hk, hi⟩ := findK_get hf
      have h0 : ¬ (i : Int) < 0 := by omega
      have Hi := Lib.hid hi
      have Hgb := Lib.hid (goes_base Hb.out hp)
      clear hf hp hk hi e1 e2
      go_wp2_with fail
      refine (leave_any B g _ c i wc Hc3.out Hb.out Hi.out Hn.out).mono ?_
      rintro e w4 ⟨rfl, v4, h1, h2, h3⟩
      have H1 := Lib.hid h1; have H2 := Lib.hid h2; have H3 := Lib.hid h3
      have Hk4 := Lib.hid (h2.blk Hk3.out H1S.out)
      clear h1 h2 h3
      go_wp2_with fail
      refine (aim_any B g v4 _ 1 w4 H1.out Hgb.out (by omega)).mono ?_
      rintro e w5 ⟨rfl, ht⟩
      obtain ⟨v5, h1, h2, h3⟩ := ClkTo.step H2.out H3.out ht
      have Ht := Lib.hid h1; have Hm5 := Lib.hid h2; have Ho5 := Lib.hid h3
      have z0 := (h2.blk Hk3.out H1S.out).cell 0
      have z1 := (h2.blk Hk3.out H1S.out).cell 1
      have z2 := (h2.blk Hk3.out H1S.out).cell 2
      have hp3 := h2.blk (Hmc.out.blk HpW.out (fun h => h)) H2S.out
      have q0 := hp3.cell 0
      have q1 := hp3.cell 1
      have q2 := hp3.cell 2
      have q3 := hp3.cell 3
      have q4 := hp3.cell 4
      have q5 := hp3.cell 5
      have q6 := hp3.cell 6
      have p0 := hp3.frozen 0
      have p1 := hp3.frozen 1
      have p2 := hp3.frozen 2
      have p3 := hp3.frozen 3
      have p4 := hp3.frozen 4
      have p5 := hp3.frozen 5
      have p6 := hp3.frozen 6
      simp at z0 z1 z2 q0 q1 q2 q3 q4 q5 q6
      have Hp3 := Lib.hid hp3
      clear hp3 h1 h2 h3 ht
      go_wp2_with fail
      refine bodyPost_ret (v := .agg #[.int .i64 k.s, .int .i64 k.l, .int .i64 k.b, .int .i64 1, .bool false, .bool false, .int .i64 0]) (by have h := Hp3.out.seven (.int .i64 k.s) (.int .i64 k.l) (.int .i64 k.b) (.int .i64 1) (.bool false) (.bool false) (.int .i64 0); simp [results, Try.results31, go_sem, h.1, h.2.1, h.2.2.1, h.2.2.2.1, h.2.2.2.2.1, h.2.2.2.2.2.1, h.2.2.2.2.2.2.1]) rfl ?_
      have hlt3 : g2 < wc.heap.size := (Hmc.out.blk HpW.out (fun h => h)).lt
      rw [E1.out, E2.out]
      refine ⟨rfl, v5, Ht.out.modS (Mod.seven_one _ g2 _ _ _ _ _ _ _) (fun j hj e => ?_), ?_, fun j hj => (Ho5.out j hj).imp id (fun h => Nat.le_trans (HmW.out.trans Hmc.out (fun _ _ h => h)).size h)⟩
      · subst e
        rcases hj with h | h
        · exact H2S.out (.inl h)
        · rcases Ho5.out _ h with h | h
          · exact H2S.out (.inr h)
          · omega
      · exact ((((HmW.out.trans Hmc.out (fun _ _ h => h)).mono (S' := ClkS g (.slice A n cap)) (fun _ _ h => h.elim)).trans Hm5.out (fun _ _ h => h))).trans (Mod.seven_one _ g2 _ _ _ _ _ _ _) (fun i hi e => by have := Hg2.out; omega)
end Go.Proofs.Ytcoajldhhimmoaa

/- The code's Admit. -/
namespace Go.Proofs.Ytcoajldhhimmoaa
open Go.RowKit

theorem pin_cnt {c : ClkN} (h : Good c) : c.most ≤ (c.ps.countP isPin : Int) ↔ (c.most ≤ ((cntK 1 c.ps + cntK 2 c.ps : Nat) : Int) ∧ c.ps.any isFree = false) := by
  have h1 := cnt_res c.ps
  have h2 := h.room
  have hle : ∀ ps : List PagN, ps.countP isPin ≤ ps.countP PagN.resi := fun ps => List.countP_mono_left (fun p _ hp => by unfold isPin at hp; simp only [Bool.and_eq_true] at hp; exact hp.1)
  have key : ∀ ps : List PagN, (∀ p ∈ ps, OkP p) → (ps.countP isPin = ps.countP PagN.resi ↔ ps.any isFree = false) := by
    intro ps
    induction ps with
    | nil => intro _; simp
    | cons p ps ih =>
      intro hp
      have i1 := ih (fun q hq => hp q (List.mem_cons_of_mem _ hq))
      have i2 := hle ps
      have hok := hp p (List.mem_cons_self ..)
      have hp0 := hok.2.1
      simp only [List.countP_cons, List.any_cons, Bool.or_eq_false_iff]
      by_cases hr : p.resi = true
      · by_cases h0 : p.pins = 0
        · have e1 : isPin p = false := by unfold isPin; simp [h0]
          have e2 : isFree p = true := by unfold isFree; simp [hr, h0]
          simp only [e1, e2, hr]
          constructor
          · intro h; simp at h; omega
          · intro h; cases h.1
        · have e1 : isPin p = true := by unfold isPin; simp [hr]; omega
          have e2 : isFree p = false := by unfold isFree; simp [h0]
          simp only [e1, e2, hr]
          rw [← i1]
          constructor
          · intro h; exact ⟨trivial, by simp at h; exact h⟩
          · intro h; simp; exact h.2
      · have e1 : isPin p = false := by unfold isPin; simp [hr]
        have e2 : isFree p = false := by unfold isFree; simp [hr]
        simp only [e1, e2]
        rw [← i1]
        simp [hr]
  have k1 := key c.ps h.base.pgs.1
  have k2 := hle c.ps
  constructor
  · intro hm
    exact ⟨by omega, k1.1 (by omega)⟩
  · rintro ⟨hm, hf⟩
    have := k1.2 hf
    omega
theorem page_key (c : ClkN) (k : KeyN) : (pageK c k).key = k ∧ OkP (pageK c k) ∧ (pageK c k).resi = true ∧ (pageK c k).pins = 0 := by
  unfold pageK
  cases findK k c.ps with
  | none => exact ⟨rfl, ⟨.inr (.inl rfl), by show (0 : Int) ≤ 0; omega, fun _ => rfl⟩, rfl, rfl⟩
  | some i => exact ⟨rfl, ⟨.inl rfl, by show (0 : Int) ≤ 0; omega, fun _ => rfl⟩, rfl, rfl⟩
/-- What is cleared may get room, and has none of that name. -/
theorem clear_room {c : ClkN} {k : KeyN} (h : Good c) (hr : resAt c k = false) (hno : ¬ (c.most ≤ ((cntK 1 c.ps + cntK 2 c.ps : Nat) : Int) ∧ c.ps.any isFree = false)) :
    RoomK (clearK c k) ∧ (cntK 3 (clearK c k).ps : Int) ≤ (clearK c k).most ∧ (clearK c k).most = c.most ∧ (∀ q ∈ (clearK c k).ps, q.key ≠ k) ∧ (clearK c k).ps.length ≤ c.ps.length := by
  have hfree : ∀ c' : ClkN, resL c'.ps = resL c.ps → BaseK c' → c'.most = c.most → RoomK c' := fun c' e hb hm => by
    have k1 := res_len h.base.pgs.1
    have k2 := res_len hb.pgs.1
    rw [e] at k2
    have hroom := h.room
    refine ⟨hb, by omega, fun hm2 => ?_⟩
    rw [free_res, e, ← free_res]
    cases hf : c.ps.any isFree with
    | true => rfl
    | false => exact absurd ⟨by omega, hf⟩ hno
  unfold clearK
  cases hf : findK k c.ps with
  | none => exact ⟨hfree c rfl h.base rfl, h.trial, rfl, findK_none hf, Nat.le_refl _⟩
  | some i =>
    obtain ⟨p, hp, hk, hi⟩ := findK_get hf
    have hpr : p.resi = false := by
      unfold resAt at hr
      rw [hf] at hr
      simp only [hp] at hr
      exact hr
    obtain ⟨g1, g2, g3, g4⟩ := good_goes h hp
    have hl := strike_len hi
    refine ⟨hfree (aimK (goesK c i) 1) (g4 hpr) (aim_base g1.base 1) rfl, g1.trial, rfl, fun q hq => by rw [← hk]; exact g3 q hq, ?_⟩
    show (strikeK c.ps i).length ≤ _
    omega
theorem room_after {c : ClkN} {k : KeyN} (h : RoomK c) (ht : (cntK 3 c.ps : Int) ≤ c.most) (hk : ∀ q ∈ c.ps, q.key ≠ k) {p : PagN} (hp : p.key = k) (hok : OkP p) : BaseK (roomK c).1 ∧ BaseK (comeK (roomK c).1 p) ∧ (roomK c).1.ps.length ≤ c.ps.length ∧ (comeK (roomK c).1 p).ps.length ≤ c.ps.length + 1 := by
  obtain ⟨_, _, _, _, hb, _, hs⟩ := room_ends h.1 h.2.1 h.2.2 ht
  have hl : (roomK c).1.ps.length ≤ c.ps.length := by have := hs.length_le; simpa using this
  have hnew : ∀ q ∈ (roomK c).1.ps, q.key ≠ p.key := fun q hq => by
    have hm : q.key ∈ c.ps.map (·.key) := hs.subset (List.mem_map.2 ⟨q, hq, rfl⟩)
    obtain ⟨q', hq', e⟩ := List.mem_map.1 hm
    rw [hp, ← e]
    exact hk q' hq'
  refine ⟨hb, (come_base hb hok hnew).1, hl, ?_⟩
  unfold comeK
  split
  · simp
  · simp only [List.length_append, List.length_take, List.length_cons, List.length_drop]
    omega
/-- A clock, who was put out, and whether it was. -/
def AdEnd (w w' : World) (c : ClkN) (out : List KeyN) (b : Bool) (e : Ending) : Prop :=
  ∃ vp vo, e = .returned (.tuple #[.agg #[.int .i64 c.most, .int .i64 c.target, vp, .int .i64 (c.hot : Int), .int .i64 (c.cold : Int), .int .i64 (c.test : Int)], vo, .bool b]) ∧ OwnP w.heap.size w' 39 vp c.ps ∧ OwnK 3 w.heap.size w' 28 vo (out.map keyC) ∧ Mod (fun _ => False) w w'
theorem CkEnd.ad {w w' : World} {c : ClkN} {out : List KeyN} {b : Bool} {vp vo : Value} (h : CkEnd w w' c b (.returned (.tuple #[.agg #[.int .i64 c.most, .int .i64 c.target, vp, .int .i64 (c.hot : Int), .int .i64 (c.cold : Int), .int .i64 (c.test : Int)], .bool b]))) (ho : OwnK 3 w.heap.size w' 28 vo (out.map keyC)) :
    AdEnd w w' c out b (.returned (.tuple #[.agg #[.int .i64 c.most, .int .i64 c.target, vp, .int .i64 (c.hot : Int), .int .i64 (c.cold : Int), .int .i64 (c.test : Int)], vo, .bool b])) := by
  obtain ⟨vp', e, h1, h2⟩ := h
  simp at e
  subst e
  exact ⟨vp, vo, rfl, h1, ho, h2⟩
theorem admit_res {c : ClkN} {k : KeyN} {i : Nat} {p : PagN} (h : resAt c k = true) (hf : findK k c.ps = some i) (hp : c.ps[i]? = some p) (hr : p.resi = true) : admitK c k = ({ c with ps := c.ps.set i { p with ref := true } }, [], true) := by
  unfold admitK
  rw [if_pos h, touch_yes hf hp hr]
theorem admit_comes {c : ClkN} {k : KeyN} (h : resAt c k = false) (hno : ¬ (c.most ≤ ((cntK 1 c.ps + cntK 2 c.ps : Nat) : Int) ∧ c.ps.any isFree = false)) : admitK c k = (coolK (comeK (roomK (clearK c k)).1 (pageK c k)), (roomK (clearK c k)).2, true) := by
  unfold admitK
  rw [if_neg (by rw [h]; decide), if_neg hno]
set_option maxHeartbeats 4000000 in
set_option maxRecDepth 100000 in
theorem ckAdmit_any (c : ClkN) (k : KeyN) (A : Option Addr) (n cap : Nat) (w : World) (hs : RdsP w w.heap.size A n c.ps) (hn : n ≤ 100000) (hgd : Good c) :
    Calls Try.prog 20 #[.agg #[.int .i64 c.most, .int .i64 c.target, .slice A n cap, .int .i64 (c.hot : Int), .int .i64 (c.cold : Int), .int .i64 (c.test : Int)], .agg #[.int .i64 k.s, .int .i64 k.l, .int .i64 k.b]] w fun e w' => AdEnd w w' (admitK c k).1 (admitK c k).2.1 (admitK c k).2.2 e := by
  obtain ⟨W, hW, hmW, hbW, hkW, hrW, hzW⟩ := three_boxes w #[.int .i64 c.most, .int .i64 c.target, .slice A n cap, .int .i64 (c.hot : Int), .int .i64 (c.cold : Int), .int .i64 (c.test : Int)] #[.int .i64 k.s, .int .i64 k.l, .int .i64 k.b] #[.int .i64 0, .int .i64 0, .slice none 0 0, .int .i64 0, .int .i64 0, .int .i64 0]
  obtain ⟨g0, hg0⟩ : ∃ g, g = w.heap.size := ⟨_, rfl⟩
  obtain ⟨g1, hg1⟩ : ∃ g, g = w.heap.size + 1 := ⟨_, rfl⟩
  obtain ⟨g2, hg2⟩ : ∃ g, g = w.heap.size + 2 := ⟨_, rfl⟩
  rw [← hg0] at hbW
  rw [← hg1] at hkW
  rw [← hg2] at hrW
  have y0 := hbW.cell 0
  have y1 := hbW.cell 1
  have y2 := hbW.cell 2
  have y3 := hbW.cell 3
  have y4 := hbW.cell 4
  have y5 := hbW.cell 5
  simp at y0 y1 y2 y3 y4 y5
  have Hs := Lib.hid (hs.new hmW).fit; have Hl := Lib.hid hs.len
  have HW := Lib.hid hW; have HmW := Lib.hid hmW; have HbW := Lib.hid hbW; have HkW := Lib.hid hkW; have HrW := Lib.hid hrW; have Hg0 := Lib.hid hg0; have Hg1 := Lib.hid hg1; have Hg2 := Lib.hid hg2; have HzW := Lib.hid hzW; have Hn := Lib.hid hn
  have Hgd := Lib.hid hgd
  clear hgd
  clear hs hW hmW hbW hkW hrW hg0 hg1 hg2 hzW hn
  go_enter Try.func20, Try.ntmps20
  go_upto_region 1 with fail
  rw [← HW.out, ← Hg2.out, ← Hg1.out, ← Hg0.out]
  go_wp2_with fail
  refine (ckCopied_any c A n cap W Hs.out (by have := Hn.out; omega)).mono ?_
  rintro e w1 ⟨vp, rfl, ho1, hm1⟩
  obtain ⟨A1, c1, rfl, hnc1, hcm1, hrd1⟩ := OwnP.form ho1
  obtain ⟨n1, hn1⟩ : ∃ n1, c.ps.length = n1 := ⟨_, rfl⟩
  rw [hn1] at ho1 hnc1 hrd1 ⊢
  dsimp only [clkC]
  obtain ⟨w2, hw2, hc2, hm2⟩ := clk_laid HbW.out rfl Hg0.out.symm HmW.out ho1 hm1
  have hk2 := hm2.blk HkW.out (by have := Hg0.out; have := Hg1.out; omega)
  have hb1 := hm1.blk HbW.out (fun h => h)
  have u0 := hb1.cell 0
  have u1 := hb1.cell 1
  have u2 := hb1.cell 2
  have u3 := hb1.cell 3
  have u4 := hb1.cell 4
  have u5 := hb1.cell 5
  have f0 := hb1.frozen 0
  have f1 := hb1.frozen 1
  have f2 := hb1.frozen 2
  have f3 := hb1.frozen 3
  have f4 := hb1.frozen 4
  have f5 := hb1.frozen 5
  simp at u0 u1 u2 u3 u4 u5
  have Hw2 := Lib.hid hw2; have Hc2 := Lib.hid hc2; have Hm2 := Lib.hid hm2; have Hn1 := Lib.hid hn1; have Hk2 := Lib.hid hk2
  have Hv1 : Hid (∀ j, (Value.slice A1 n1 c1).ownBlock = some j → W.heap.size ≤ j) := Lib.hid (fun j hj => (hc2.lt j hj).1)
  clear y0 y1 y2 y3 y4 y5 hw2 hc2 hm2 hk2 hn1 hb1 ho1 hm1 hnc1 hcm1 hrd1
  go_upto_region 2 with fail
  rw [← Hw2.out]
  clear u0 u1 u2 u3 u4 u5 f0 f1 f2 f3 f4 f5
  obtain ⟨y0, y1, y2, y3, y4, y5⟩ := Hc2.out.cells
  have z0 := Hk2.out.cell 0
  have z1 := Hk2.out.cell 1
  have z2 := Hk2.out.cell 2
  simp at z0 z1 z2
  have Hs2 : Hid (RdsP w2 w2.heap.size A1 n1 c.ps) := Lib.hid (OwnK.rds Hc2.out.ps (by rw [List.length_map]; exact Hn1.out))
  go_wp2_with fail
  refine (residentOf_any c k A1 n1 c1 w2 Hs2.out (by have := Hn1.out; have := Hl.out; have := Hn.out; omega)).mono ?_
  rintro e w3 ⟨v, rfl, hrp, hm3⟩
  have Hc3 := Lib.hid (Hc2.out.new hm3)
  have Hm3 := Lib.hid (Hm2.out.trans hm3 (fun _ _ h => h.elim))
  clear hm3 y0 y1 y2 y3 y4 y5 z0 z1 z2
  rcases hrp with ⟨hr, rfl⟩ | ⟨hr, i, p, ad, hf, hp, hres, hA, rfl⟩
  · obtain ⟨y0, y1, y2, y3, y4, y5⟩ := Hc3.out.cells
    obtain ⟨q, hq⟩ : ∃ q, c.ps.countP isPin = q := ⟨_, rfl⟩
    have Hq := Lib.hid hq
    have Hrr := Lib.hid hr
    have Hrd3 := Lib.hid (OwnK.rds Hc3.out.ps (by rw [List.length_map]; exact Hn1.out))
    have hnl : n1 ≤ 1000000 := by have := Hn1.out; have := Hl.out; have := Hn.out; omega
    have Hcnt : Hid (∀ W', Mod (fun _ => False) w3 W' → Calls Try.prog 28 #[.agg #[.int .i64 c.most, .int .i64 c.target, .slice A1 n1 c1, .int .i64 (c.hot : Int), .int .i64 (c.cold : Int), .int .i64 (c.test : Int)], .func (.func 29) #[] #[]] W' fun e w' => e = .returned (.int .i64 (q : Int)) ∧ Mod (fun _ => False) w3 w') := Lib.hid (by
      intro W' hW'
      refine (count_any 29 isPin (Lib.hid says_pin) c.most c.target c.hot c.cold c.test A1 n1 c1 c.ps W' (RdsP.fit (RdsP.new Hrd3.out hW')) hnl).mono ?_
      rintro e w1 ⟨rfl, hm1⟩
      rw [Hq.out]
      exact ⟨rfl, hW'.trans hm1 (fun _ _ h => h)⟩)
    clear hq hr
    by_cases hgo : c.most ≤ (q : Int)
    · have hgo2 : decide (c.most ≤ (q : Int)) = true := decide_eq_true hgo
      have Had := Lib.hid (admit_full (k := k) Hrr.out ((pin_cnt Hgd.out).1 (by rw [Hq.out]; exact hgo)).1 ((pin_cnt Hgd.out).1 (by rw [Hq.out]; exact hgo)).2)
      go_upto_region 6 with fail
      go_cut [25] from 21 to 25 (fun s25 wx => s25 = .bool true ∧ Mod (fun _ => False) w3 wx)
      case first =>
        go_region_with (first
          | (go_at_call 28; refine (Hcnt.out _ (Mod.refl _ _).drew).mono ?_; rintro e w1 ⟨rfl, hm1⟩; have HM1 := Lib.hid hm1; have z0 := (Hc3.out.new hm1).cells.1; clear hm1))
        all_goals (
          go_wp2_with fail
          go_meet
          exact ⟨rfl, HM1.out⟩)
      case rest =>
        obtain ⟨rfl, hmc⟩ := hcut
        have Hc4 := Lib.hid (Hc3.out.new hmc)
        have Hm4 := Lib.hid (Hm3.out.trans hmc (fun _ _ h => h.elim))
        clear hmc y0 y1 y2 y3 y4 y5
        have hend := clk_end (b := false) Hg0.out.symm Hg2.out.symm HzW.out HmW.out HrW.out Hc4.out Hv1.out (Hm4.out.mono (fun _ _ h => .inl h))
        have Hb9 := Lib.hid hend.1; have HE9 := Lib.hid hend.2
        have q0 := hend.1.cell 0
        have q1 := hend.1.cell 1
        have q2 := hend.1.cell 2
        have q3 := hend.1.cell 3
        have q4 := hend.1.cell 4
        have q5 := hend.1.cell 5
        have p0 := hend.1.frozen 0
        have p1 := hend.1.frozen 1
        have p2 := hend.1.frozen 2
        have p3 := hend.1.frozen 3
        have p4 := hend.1.frozen 4
        have p5 := hend.1.frozen 5
        simp at q0 q1 q2 q3 q4 q5
        obtain ⟨y0, y1, y2, y3, y4, y5⟩ := Hc4.out.cells
        clear hend
        go_wp2_with fail
        refine bodyPost_ret (v := .tuple #[.agg #[.int .i64 c.most, .int .i64 c.target, (.slice A1 n1 c1), .int .i64 (c.hot : Int), .int .i64 (c.cold : Int), .int .i64 (c.test : Int)], (.slice none 0 0), .bool false]) (by have h := Hb9.out.six (.int .i64 c.most) (.int .i64 c.target) (.slice A1 n1 c1) (.int .i64 (c.hot : Int)) (.int .i64 (c.cold : Int)) (.int .i64 (c.test : Int)); simp [results, Try.results20, go_sem, h.1, h.2.1, h.2.2.1, h.2.2.2.1, h.2.2.2.2.1, h.2.2.2.2.2.1]) rfl ?_
        rw [Had.out]
        exact CkEnd.ad (out := []) (HE9.out _ (Mod.six_one _ _ _ _ _ _ _ _)) (OwnK.nil _ _ _ _)
    · have hgo2 : decide (c.most ≤ (q : Int)) = false := decide_eq_false hgo
      have Hno : Hid (¬ (c.most ≤ ((cntK 1 c.ps + cntK 2 c.ps : Nat) : Int) ∧ c.ps.any isFree = false)) := Lib.hid (fun h => hgo (by rw [← Hq.out]; exact (pin_cnt Hgd.out).2 h))
      have Hcl := Lib.hid (clear_room (k := k) Hgd.out Hrr.out Hno.out)
      have Hpk := Lib.hid (page_key c k)
      have Hra := Lib.hid (room_after Hcl.out.1 Hcl.out.2.1 Hcl.out.2.2.2.1 Hpk.out.1 Hpk.out.2.1)
      have Hlen : Hid (c.ps.length ≤ 2000) := Lib.hid Hgd.out.len
      go_upto_region 6 with fail
      go_cut [25] from 21 to 25 (fun s25 wx => s25 = .bool false ∧ Mod (fun _ => False) w3 wx)
      case first =>
        go_region_with (first
          | (go_at_call 28; refine (Hcnt.out _ (Mod.refl _ _).drew).mono ?_; rintro e w1 ⟨rfl, hm1⟩; have HM1 := Lib.hid hm1; have z0 := (Hc3.out.new hm1).cells.1; clear hm1))
        all_goals (
          go_wp2_with fail
          go_meet
          exact ⟨rfl, HM1.out⟩)
      case rest =>
        obtain ⟨rfl, hmc⟩ := hcut
        have Hc4 := Lib.hid (Hc3.out.new hmc)
        have Hm4 := Lib.hid (Hm3.out.trans hmc (fun _ _ h => h.elim))
        clear hmc y0 y1 y2 y3 y4 y5
        have hk4 := Hm4.out.blk HkW.out (by have := Hg0.out; have := Hg1.out; omega)
        have Hk4 := Lib.hid hk4
        have H1S : Hid (¬ ClkS g0 (.slice A1 n1 c1) g1) := Lib.hid (by
          rintro (h | h)
          · have := Hg0.out; have := Hg1.out; omega
          · have := Hv1.out g1 h; have := HzW.out; have := Hg1.out; omega)
        clear hk4
        go_wp2_with fail
        refine (hold_any _ g0 _ c wc Hc4.out Hgd.out.base (by have := Hlen.out; omega)).mono ?_
        rintro e w5 ⟨rfl, v5, h1, h2, h3⟩
        have H1 := Lib.hid h1; have H3 := Lib.hid h3
        have Hm5 := Lib.hid ((Hm4.out.mono (S' := ClkS g0 (.slice A1 n1 c1)) (fun _ _ h => .inl h)).trans h2 (fun _ _ h => h))
        have Hv5 : Hid (∀ j, v5.ownBlock = some j → (Value.slice A1 n1 c1).ownBlock = some j ∨ W.heap.size ≤ j) := Lib.hid (fun j hj => (h3 j hj).imp id (fun h => Nat.le_trans Hm4.out.size h))
        have hk5 := h2.blk Hk4.out H1S.out
        have Hk5 := Lib.hid hk5
        have z0 := hk5.cell 0
        have z1 := hk5.cell 1
        have z2 := hk5.cell 2
        simp at z0 z1 z2
        clear h1 h2 h3 hk5
        go_wp2_with fail
        refine (recalled_any _ g0 v5 c k w5 H1.out Hgd.out.base (by have := Hlen.out; omega)).mono ?_
        obtain ⟨⟨⟨qs, ql, qb⟩, qk, qr, qt, qn⟩, hpg⟩ : ∃ p, pageK c k = p := ⟨_, rfl⟩
        rw [hpg]
        dsimp only
        rintro e w6 ⟨rfl, ht⟩
        obtain ⟨v6, h1, h2, h3⟩ := ClkTo.step Hm5.out Hv5.out ht
        have Hpg := Lib.hid hpg
        have Hc6 := Lib.hid h1; have Hm6 := Lib.hid h2; have Hv6 := Lib.hid h3
        clear ht h1 h2 h3 hpg z0 z1 z2
        go_upto_region 10 with fail
        obtain ⟨w7, hw7⟩ : ∃ w7, w7 = w6.alloc (.cells #[.int .i64 qs, .int .i64 ql, .int .i64 qb, .int .i64 qk, .bool qr, .bool qt, .int .i64 qn] 39) := ⟨_, rfl⟩
        obtain ⟨g7, hg7⟩ : ∃ g, g = w6.heap.size := ⟨_, rfl⟩
        have hb7 : Blk w7 g7 39 #[.int .i64 qs, .int .i64 ql, .int .i64 qb, .int .i64 qk, .bool qr, .bool qt, .int .i64 qn] := by rw [hw7, hg7]; exact Blk.new _ _ _
        have hm67 : Mod (fun _ => False) w6 w7 := by rw [hw7]; exact (Mod.refl _ _).alloc _
        have Hb7 := Lib.hid hb7; have Hm67 := Lib.hid hm67
        have Hc7 := Lib.hid (Hc6.out.new hm67)
        have Hm7 := Lib.hid (Hm6.out.trans hm67 (fun _ _ h => h.elim))
        have H7S : Hid (¬ ClkS g0 v6 g7) := Lib.hid (by
          rintro (h | h)
          · have := Hc6.out.blk.lt; omega
          · have := (Hc6.out.lt g7 h).2; omega)
        have hlt7 := hb7.lt
        have H7l := Lib.hid hlt7
        have Hw7 := Lib.hid hw7; have Hg7 := Lib.hid hg7
        rw [← hw7, ← hg7]
        clear hw7 hg7 hb7 hm67 hlt7
        go_wp2_with fail
        refine (makeRoom_any _ g0 v6 (clearK c k) w7 Hc7.out Hcl.out.1 Hcl.out.2.1 (by have := Hlen.out; have := Hcl.out.2.2.2.2; omega)).mono ?_
        rintro e w8 ⟨vo, rfl, ho8, v8, h1, h2, h3⟩
        have Ho8 := Lib.hid ho8; have Hc8 := Lib.hid h1
        have Hm8 := Lib.hid (Hm7.out.trans h2 (fun i hi hs => hs.elim (fun h => (.inl h : ClkS g0 (.slice A1 n1 c1) i)) (fun h => (Hv6.out i h).elim .inr (fun h => by omega))))
        have Hv8 : Hid (∀ j, v8.ownBlock = some j → (Value.slice A1 n1 c1).ownBlock = some j ∨ W.heap.size ≤ j) := Lib.hid (fun j hj => (h3 j hj).elim (fun h => Hv6.out j h) (fun h => .inr (Nat.le_trans Hm7.out.size h)))
        have hb8 := h2.blk Hb7.out H7S.out
        have Hs78 := Lib.hid h2.size
        have z0 := hb8.cell 0
        have z1 := hb8.cell 1
        have z2 := hb8.cell 2
        have z3 := hb8.cell 3
        have z4 := hb8.cell 4
        have z5 := hb8.cell 5
        have z6 := hb8.cell 6
        simp at z0 z1 z2 z3 z4 z5 z6
        clear h1 h2 h3 ho8 hb8
        go_wp2_with fail
        refine (come_any _ g0 v8 _ ⟨⟨qs, ql, qb⟩, qk, qr, qt, qn⟩ w8 Hc8.out Hra.out.1 (by have := Hlen.out; have := Hcl.out.2.2.2.2; have := Hra.out.2.2.1; omega) (Nat.le_trans Hm7.out.size (by have := Hm67.out.size; exact Nat.le_trans (Nat.le_refl _) Hs78.out))).mono ?_
        rintro e w9 ⟨rfl, ht⟩
        have Ho9 := Lib.hid (names_stay Ho8.out Hc8.out (by obtain ⟨_, _, h2, _⟩ := ht; exact h2))
        obtain ⟨v9, h1, h2, h3⟩ := ClkTo.step Hm8.out Hv8.out ht
        have Hc9 := Lib.hid h1; have Hm9 := Lib.hid h2; have Hv9 := Lib.hid h3
        clear ht h1 h2 h3 z0 z1 z2 z3 z4 z5 z6
        go_wp2_with fail
        refine (cool_any _ g0 v9 _ w9 Hc9.out (by rw [← Hpg.out]; exact Hra.out.2.1) (by have h5 := Hra.out.2.2.2; rw [Hpg.out] at h5; have := Hlen.out; have := Hcl.out.2.2.2.2; omega)).mono ?_
        rintro e w10 ⟨rfl, ht⟩
        have Ho10 := Lib.hid (names_stay Ho9.out Hc9.out (by obtain ⟨_, _, h2, _⟩ := ht; exact h2))
        obtain ⟨v10, h1, h2, h3⟩ := ClkTo.step Hm9.out Hv9.out ht
        obtain ⟨A9, n9, c9, rfl, Hn9, _, _, _⟩ := h1.form
        have Hc10 := Lib.hid h1; have Hm10 := Lib.hid h2
        clear ht h1 h2 h3
        have Had := Lib.hid (admit_comes Hrr.out Hno.out)
        rw [← Hpg.out] at Hc10
        obtain ⟨cf, hcf⟩ : ∃ cf, coolK (comeK (roomK (clearK c k)).1 (pageK c k)) = cf := ⟨_, rfl⟩
        rw [hcf] at Hc10 Had
        clear hcf
        have hend := clk_end (b := true) Hg0.out.symm Hg2.out.symm HzW.out HmW.out HrW.out Hc10.out Hv1.out Hm10.out
        have Hb9 := Lib.hid hend.1; have HE9 := Lib.hid hend.2
        have q0 := hend.1.cell 0
        have q1 := hend.1.cell 1
        have q2 := hend.1.cell 2
        have q3 := hend.1.cell 3
        have q4 := hend.1.cell 4
        have q5 := hend.1.cell 5
        have p0 := hend.1.frozen 0
        have p1 := hend.1.frozen 1
        have p2 := hend.1.frozen 2
        have p3 := hend.1.frozen 3
        have p4 := hend.1.frozen 4
        have p5 := hend.1.frozen 5
        simp at q0 q1 q2 q3 q4 q5
        obtain ⟨y0, y1, y2, y3, y4, y5⟩ := Hc10.out.cells
        clear hend
        go_wp2_with fail
        refine bodyPost_ret (v := .tuple #[.agg #[.int .i64 cf.most, .int .i64 cf.target, (.slice A9 n9 c9), .int .i64 (cf.hot : Int), .int .i64 (cf.cold : Int), .int .i64 (cf.test : Int)], vo, .bool true]) (by have h := Hb9.out.six (.int .i64 cf.most) (.int .i64 cf.target) (.slice A9 n9 c9) (.int .i64 (cf.hot : Int)) (.int .i64 (cf.cold : Int)) (.int .i64 (cf.test : Int)); simp [results, Try.results20, go_sem, h.1, h.2.1, h.2.2.1, h.2.2.2.1, h.2.2.2.2.1, h.2.2.2.2.2.1]) rfl ?_
        rw [Had.out]
        exact CkEnd.ad (HE9.out _ (Mod.six_one _ _ _ _ _ _ _ _)) ((Ho10.out.modS (Mod.six_one _ _ _ _ _ _ _ _) (fun j hj e => by have := (Ho10.out.block j hj).1; have := Hm7.out.size; have := HzW.out; have := Hg2.out; omega)).mono (by have := Hm7.out.size; have := HmW.out.size; omega))
  · have Hrt := Lib.hid hr
    have h1 := Hc3.out
    obtain ⟨pg, n4, cap4, hv4, Hnn, hnc, hcm, hin, Hpg, hne, x0, x1, x2, x3, x4, x5, x6, fz⟩ := h1.at_ hp
    injection hv4 with hA4 hn4 hc4
    subst hn4 hc4
    rw [hA4] at hA
    injection hA with hA
    subst hA
    subst hA4
    have hat7 : (⟨pg, 0, none⟩ : Addr).add (i * 7) = ⟨pg, i * 7, none⟩ := by rw [add_addr, Nat.zero_add]
    rw [hat7]
    have Hf := Lib.hid hf; have Hp := Lib.hid hp; have Hres := Lib.hid hres
    clear h1 hf hp hres hnc hcm hin hne x0 x1 x2 x3 x5 hr
    clear x6
    go_upto_region 5 with fail
    have h4 := Hc3.out.field (i := i) (j := 4) (u := .bool true) (q := { p with ref := true }) Hnn.out Hp.out (by decide) rfl
    have hm4 := (Hm3.out.mono (S' := ClkS g0 (.slice (some ⟨pg, 0, none⟩) n1 c1)) (fun _ _ h => .inl h)).setCell (p := ⟨pg, i * 7 + 4, none⟩) (fun _ => .inr rfl) (.bool true)
    obtain ⟨w4, hw4⟩ : ∃ w4, w4 = w3.setCell ⟨pg, i * 7 + 4, none⟩ (.bool true) := ⟨_, rfl⟩
    rw [← hw4] at h4 hm4 ⊢
    have Hc4 := Lib.hid h4; have Hm4 := Lib.hid hm4
    clear h4 hm4 hw4 fz x4
    have hend := clk_end (b := true) Hg0.out.symm Hg2.out.symm HzW.out HmW.out HrW.out Hc4.out Hv1.out Hm4.out
    have Hb9 := Lib.hid hend.1; have HE9 := Lib.hid hend.2
    have q0 := hend.1.cell 0
    have q1 := hend.1.cell 1
    have q2 := hend.1.cell 2
    have q3 := hend.1.cell 3
    have q4 := hend.1.cell 4
    have q5 := hend.1.cell 5
    have p0 := hend.1.frozen 0
    have p1 := hend.1.frozen 1
    have p2 := hend.1.frozen 2
    have p3 := hend.1.frozen 3
    have p4 := hend.1.frozen 4
    have p5 := hend.1.frozen 5
    simp at q0 q1 q2 q3 q4 q5
    obtain ⟨y0, y1, y2, y3, y4, y5⟩ := Hc4.out.cells
    clear hend
    go_wp2_with fail
    refine bodyPost_ret (v := .tuple #[.agg #[.int .i64 c.most, .int .i64 c.target, (.slice (some ⟨pg, 0, none⟩) n1 c1), .int .i64 (c.hot : Int), .int .i64 (c.cold : Int), .int .i64 (c.test : Int)], (.slice none 0 0), .bool true]) (by have h := Hb9.out.six (.int .i64 c.most) (.int .i64 c.target) (.slice (some ⟨pg, 0, none⟩) n1 c1) (.int .i64 (c.hot : Int)) (.int .i64 (c.cold : Int)) (.int .i64 (c.test : Int)); simp [results, Try.results20, go_sem, h.1, h.2.1, h.2.2.1, h.2.2.2.1, h.2.2.2.2.1, h.2.2.2.2.2.1]) rfl ?_
    rw [admit_res Hrt.out Hf.out Hp.out Hres.out]
    exact CkEnd.ad (out := []) (HE9.out _ (Mod.six_one _ _ _ _ _ _ _ _)) (OwnK.nil _ _ _ _)
end Go.Proofs.Ytcoajldhhimmoaa

/- The code's New and Same. -/
namespace Go.Proofs.Ytcoajldhhimmoaa
open Go.RowKit

set_option maxHeartbeats 1000000 in
set_option maxRecDepth 100000 in
theorem ckNew_any (m : Int) (w : World) : Calls Try.prog 19 #[.int .i64 m] w fun e w' => e = .returned (.agg #[.int .i64 (newK m).most, .int .i64 1, .slice none 0 0, .int .i64 0, .int .i64 0, .int .i64 0]) ∧ Mod (fun _ => False) w w' := by
  obtain ⟨W, hW, hmW, hbW, hzW⟩ := Blk.boxed w 36 #[.int .i64 0, .int .i64 0, .slice none 0 0, .int .i64 0, .int .i64 0, .int .i64 0]
  obtain ⟨G, hG⟩ : ∃ g, g = w.heap.size := ⟨_, rfl⟩
  rw [← hG] at hbW
  obtain ⟨M, hM⟩ : ∃ x, max 1 m = x := ⟨_, rfl⟩
  obtain ⟨R, hR⟩ : ∃ x, min M 1000 = x := ⟨_, rfl⟩
  have hmax := maxI_is (P := Try.prog) (t := 3) (ty := 3) hM
  have hmin := minI_is (P := Try.prog) (t := 3) (ty := 3) hR
  have e : (newK m).most = R := by show min (max m 1) 1000 = R; omega
  rw [e]
  have q0 := hbW.cell 0
  have q1 := hbW.cell 1
  have q2 := hbW.cell 2
  have q3 := hbW.cell 3
  have q4 := hbW.cell 4
  have q5 := hbW.cell 5
  have p0 := hbW.frozen 0
  have p1 := hbW.frozen 1
  have p2 := hbW.frozen 2
  have p3 := hbW.frozen 3
  have p4 := hbW.frozen 4
  have p5 := hbW.frozen 5
  simp at q0 q1 q2 q3 q4 q5
  have HW := Lib.hid hW; have HmW := Lib.hid hmW; have HbW := Lib.hid hbW; have HG := Lib.hid hG
  clear hW hmW hbW hzW hG hM hR e
  go_enter Try.func19, Try.ntmps19
  go_upto_region 1 with fail
  rw [← HW.out, ← HG.out]
  go_wp2_with fail
  refine bodyPost_ret (v := .agg #[.int .i64 R, .int .i64 1, .slice none 0 0, .int .i64 0, .int .i64 0, .int .i64 0]) (by have h := HbW.out.six (.int .i64 R) (.int .i64 1) (.slice none 0 0) (.int .i64 0) (.int .i64 0) (.int .i64 0); simp [results, Try.results19, go_sem, h.1, h.2.1, h.2.2.1, h.2.2.2.1, h.2.2.2.2.1, h.2.2.2.2.2.1]) rfl ?_
  exact ⟨rfl, HmW.out.six_new (by have := HG.out; omega) _ _ _ _ _ _⟩
end Go.Proofs.Ytcoajldhhimmoaa

/- The code's Same. -/
namespace Go.Proofs.Ytcoajldhhimmoaa
open Go.RowKit

end Go.Proofs.Ytcoajldhhimmoaa

/- The law's awake. -/
namespace Go.Proofs.Ytcoajldhhimmoaa
open Go.RowKit

/-- A clock's box, whatever it is called with. -/
theorem ClkV.args {B g : Nat} {w : World} {vp : Value} {c : ClkN} (h : ClkV B g w vp c) : ∃ A n cap, vp = .slice A n cap ∧ Hid (c.ps.length = n) ∧ RdsP w w.heap.size A n c.ps := by
  obtain ⟨A, n, cap, e, h1, _, _, h2⟩ := h.form
  exact ⟨A, n, cap, e, h1, h2⟩
theorem clk_new {W w2 : World} {B : Nat} {v : Value} {cs : Array Value} (c : ClkN) (e : clkC c v = cs) (ho : OwnP B w2 39 v c.ps) (hB : W.heap.size ≤ B) (hm : Mod (fun _ => False) W w2) :
    ClkV W.heap.size w2.heap.size (w2.alloc (.cells cs 36)) v c ∧ Mod (fun _ => False) W (w2.alloc (.cells cs 36)) ∧ W.heap.size ≤ w2.heap.size := by
  subst e
  exact ⟨⟨Blk.new _ _ _, (OwnK.alloc ho _).mono hB⟩, hm.alloc _, hm.size⟩
theorem clk_over {W w2 : World} {B g : Nat} {v c0 c1 c2 c3 c4 c5 d0 d1 d2 d3 d4 d5 : Value} (c : ClkN) (e : clkC c v = #[d0, d1, d2, d3, d4, d5]) (hb : Blk w2 g 36 #[c0, c1, c2, c3, c4, c5]) (hg : W.heap.size ≤ g) (ho : OwnP B w2 39 v c.ps) (hB : W.heap.size ≤ B) (hm : Mod (fun _ => False) W w2) :
    ClkV W.heap.size g ((((((w2.setCell ⟨g, 0, none⟩ d0).setCell ⟨g, 1, none⟩ d1).setCell ⟨g, 2, none⟩ d2).setCell ⟨g, 3, none⟩ d3).setCell ⟨g, 4, none⟩ d4).setCell ⟨g, 5, none⟩ d5) v c ∧
      Mod (fun _ => False) W ((((((w2.setCell ⟨g, 0, none⟩ d0).setCell ⟨g, 1, none⟩ d1).setCell ⟨g, 2, none⟩ d2).setCell ⟨g, 3, none⟩ d3).setCell ⟨g, 4, none⟩ d4).setCell ⟨g, 5, none⟩ d5) ∧ W.heap.size ≤ g :=
  ⟨⟨by rw [e]; exact (hb.six _ _ _ _ _ _).2.2.2.2.2.2, OwnP.mono (OwnK.modS ho (Mod.six_one _ _ _ _ _ _ _ _) (fun k hk e => own_blk_ne ho.2 hb (by decide) (by rw [hk, e]))) hB⟩, hm.six_new hg _ _ _ _ _ _, hg⟩
end Go.Proofs.Ytcoajldhhimmoaa

/- The law's Key: a name of a number. -/
namespace Go.Proofs.Ytcoajldhhimmoaa
open Go.RowKit

theorem mask1 (a : Int) : bits .and .i64 a 1 = a % 2 := by have := i64_mask a 1 1 (by decide) (by decide); simpa using this
theorem mask3 (a : Int) : bits .and .i64 a 3 = a % 4 := by have := i64_mask a 3 2 (by decide) (by decide); simpa using this
theorem mask7 (a : Int) : bits .and .i64 a 7 = a % 8 := by have := i64_mask a 7 3 (by decide) (by decide); simpa using this
set_option maxHeartbeats 1000000 in
set_option maxRecDepth 100000 in
theorem ckKey_any (n : Int) (w : World) (hn : FitI n) : Calls Try.prog 17 #[.int .i64 n] w fun e w' => e = .returned (.agg #[.int .i64 (keyN n).s, .int .i64 (keyN n).l, .int .i64 (keyN n).b]) ∧ Mod (fun _ => False) w w' := by
  obtain ⟨W, hW, hmW, hbW, hzW⟩ := Blk.boxed w 28 #[.int .i64 0, .int .i64 0, .int .i64 0]
  obtain ⟨G, hG⟩ : ∃ g, g = w.heap.size := ⟨_, rfl⟩
  rw [← hG] at hbW
  obtain ⟨n1, n2⟩ := hn.out
  obtain ⟨X, hX⟩ : ∃ x, n % 2 = x := ⟨_, rfl⟩
  obtain ⟨Y, hY⟩ : ∃ x, n / 2 % 2 = x := ⟨_, rfl⟩
  obtain ⟨Z, hZ⟩ : ∃ x, n / 4 % 8 = x := ⟨_, rfl⟩
  have m1 : bits .and .i64 n 1 = X := by rw [mask1, hX]
  have m2 : bits .and .i64 (n / 2) 1 = Y := by rw [mask1, hY]
  have m3 : bits .and .i64 (n / 4) 7 = Z := by rw [mask7, hZ]
  have ek : keyN n = ⟨X, Y, Z⟩ := by unfold keyN; rw [hX, hY, hZ]
  rw [ek]
  have q0 := hbW.cell 0
  have q1 := hbW.cell 1
  have q2 := hbW.cell 2
  have p0 := hbW.frozen 0
  have p1 := hbW.frozen 1
  have p2 := hbW.frozen 2
  simp at q0 q1 q2
  have HW := Lib.hid hW; have HmW := Lib.hid hmW; have HbW := Lib.hid hbW; have HG := Lib.hid hG
  clear hW hmW hbW hzW hG hX hY hZ ek hn
  go_enter Try.func17, Try.ntmps17
  go_upto_region 1 with fail
  rw [← HW.out, ← HG.out]
  go_wp2_with fail
  refine bodyPost_ret (v := .agg #[.int .i64 X, .int .i64 Y, .int .i64 Z]) (by have h := HbW.out.three (.int .i64 X) (.int .i64 Y) (.int .i64 Z); simp [results, Try.results17, go_sem, h.1, h.2.1, h.2.2.1]) rfl ?_
  exact ⟨rfl, HmW.out.three_new (by have := HG.out; omega) _ _ _⟩
end Go.Proofs.Ytcoajldhhimmoaa

/- The law's row: samples of a number. -/
namespace Go.Proofs.Ytcoajldhhimmoaa
open Go.RowKit

def rowTo (V i : Nat) : List (Int × Nat) := (List.range i).map fun (j : Nat) => ((j : Int), V)
def rowL (n : Int) : List (Int × Nat) := rowTo (n % 18446744073709551616).toNat (n % 4).toNat
theorem rowTo_len (V i : Nat) : (rowTo V i).length = i := by simp [rowTo]
theorem rowTo_succ (V i : Nat) : rowTo V (i + 1) = rowTo V i ++ [((i : Int), V)] := by simp [rowTo, List.range_succ]
theorem rowL_len (n : Int) : (rowL n).length ≤ 3 := by unfold rowL; rw [rowTo_len]; omega
set_option maxHeartbeats 1000000 in
set_option maxRecDepth 100000 in
theorem ccRow_any (n : Int) (w : World) : Calls Try.prog 14 #[.int .i64 n] w fun e w' => ∃ v, e = .returned v ∧ OwnS w.heap.size w' v (rowL n) ∧ Mod (fun _ => False) w w' := by
  obtain ⟨M, hM⟩ : ∃ m : Nat, (n % 4).toNat = m := ⟨_, rfl⟩
  obtain ⟨V, hV⟩ : ∃ m : Nat, (n % 18446744073709551616).toNat = m := ⟨_, rfl⟩
  have hM2 : n % 4 = (M : Int) := by omega
  have hM4 : M < 4 := by omega
  have m0 : bits .and .i64 n 3 = (M : Int) := by rw [mask3, hM2]
  have hv : IntKind.u64.wrap n = (V : Int) := by rw [IntKind.wrap_u64, ← hV]; omega
  have hrow : rowL n = rowTo V M := by unfold rowL; rw [hM, hV]
  have HR := Lib.hid hrow; have HM4 := Lib.hid hM4
  have hcs : Try.prog.cellsOf 31 = 2 := by kernel_rfl
  clear hM hV hM2 hrow hM4
  go_enter Try.func14, Try.ntmps14
  go_wp2_with fail
  go_loopg [3, 4] M (fun k s3 s4 wr => ∃ i : Nat, i + k = M ∧ s4 = .int .i64 (i : Int) ∧ OwnS w.heap.size wr s3 (rowTo V i) ∧ Mod (fun _ => False) w wr)
  case atStart => exact ⟨0, by omega, rfl, OwnS.nil _ _, Mod.refl _ _⟩
  case round =>
    obtain ⟨i, hik, rfl, ho, hm⟩ := hrel
    have Hik := Lib.hid hik; have Ho := Lib.hid ho; have Hm := Lib.hid hm
    clear hik ho hm
    by_cases hin : i < M
    · have hi1 : (i : Int) < (M : Int) := by omega
      have hi2 : (i : Int) ≤ 5 := by have := HM4.out; omega
      have hi3 : (0 : Int) ≤ (i : Int) := by omega
      have hr1 : (rowTo V i).length + 1 ≤ maxLen := by rw [rowTo_len]; unfold maxLen; omega
      have hr2 : ((rowTo V i).length + 1) * 16 ≤ 140737488355328 := by rw [rowTo_len]; omega
      have hsz := Hm.out.size
      have Hin := Lib.hid hin
      clear hin
      go_wp2_with (at_builtin; refine wpList_appS (p := ((i : Int), V)) (l := rowTo V i) rfl (.tmp 11) (.tmp 16) rfl rfl Ho.out rfl rfl hr1 hr2 hsz ?_; intro v3 w3 HO3 HB3)
      go_roundg (gk - 1)
      case measure => have := Hik.out; have := Hin.out; omega
      case rel => exact ⟨i + 1, by have := Hik.out; have := Hin.out; omega, by go_num, by rw [rowTo_succ]; exact HO3.out, Hm.out.trans (Mod.of_below HB3.out) (fun j hj h => by omega)⟩
    · have hi : i = M := by have := Hik.out; omega
      subst hi
      go_wp2_with fail
      go_ret
      exact ⟨_, rfl, by rw [HR.out]; exact Ho.out, Hm.out⟩
end Go.Proofs.Ytcoajldhhimmoaa
