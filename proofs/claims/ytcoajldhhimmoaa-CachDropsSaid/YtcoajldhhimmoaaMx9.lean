/- The texts Ql, Qm, Qn, Qo, Qp, Qq, one behind the other. -/
import Derived.Test.YtcoajldhhimmoaaMx1
import Derived.Test.YtcoajldhhimmoaaMx8
import Derived.Test.YtcoajldhhimmoaaMx5
/- The code's loops: as long as there are too many hot ones; as long as no cold one is loose. -/
namespace Go.Proofs.Ytcoajldhhimmoaa
open Go.RowKit

theorem cnt_hot (ps : List PagN) : ps.countP isHot = cntK 1 ps := rfl
theorem cnt_test (ps : List PagN) : ps.countP isTest = cntK 3 ps := rfl
theorem cnt_res (ps : List PagN) : ps.countP PagN.resi = cntK 1 ps + cntK 2 ps := by
  unfold cntK
  induction ps with
  | nil => rfl
  | cons p ps ih =>
    simp only [List.countP_cons, ih]
    by_cases h1 : p.kind = 1
    · simp [PagN.resi, h1]; omega
    · by_cases h2 : p.kind = 2
      · simp [PagN.resi, h2]; omega
      · simp [PagN.resi, h1, h2]
theorem any_loose {ps : List PagN} (h : ∀ p ∈ ps, OkP p) : ps.any isFreeC = ps.any isLoose := by
  induction ps with
  | nil => rfl
  | cons p ps ih =>
    rw [List.any_cons, List.any_cons, ih (fun q hq => h q (List.mem_cons_of_mem _ hq)), isFreeC_loose (h p (List.mem_cons_self ..))]
theorem Turn.free {c c' : ClkN} (h : Turn c c') : c'.ps.any isFree = c.ps.any isFree := by rw [free_res, free_res, h.res]
/-- The clock's word in a loop: it was turned, and is a base. -/
structure LoopK (B g : Nat) (w wr : World) (vp : Value) (c0 cx : ClkN) (vx : Value) : Prop where
  base : BaseK cx
  len : cx.ps.length ≤ c0.ps.length
  clk : ClkV B g wr vx cx
  mod : Mod (ClkS g vp) w wr
  own : ∀ k, vx.ownBlock = some k → vp.ownBlock = some k ∨ w.heap.size ≤ k
theorem LoopK.start {B g : Nat} {w : World} {vp : Value} {c : ClkN} (h : ClkV B g w vp c) (hb : BaseK c) : LoopK B g w w vp c c vp := ⟨hb, Nat.le_refl _, h, Mod.refl _ _, fun _ h => .inl h⟩
theorem LoopK.new {B g : Nat} {w wr w1 : World} {vp vx : Value} {c0 cx : ClkN} (h : LoopK B g w wr vp c0 cx vx) (hm : Mod (fun _ => False) wr w1) : LoopK B g w w1 vp c0 cx vx :=
  ⟨h.base, h.len, h.clk.new hm, h.mod.trans hm (fun _ _ h => h.elim), h.own⟩
theorem LoopK.turn {B g : Nat} {w wr w1 : World} {vp vx : Value} {c0 cx c1 : ClkN} (h : LoopK B g w wr vp c0 cx vx) (ht : ClkTo B g wr w1 vx c1) (hb : BaseK c1) (hl : c1.ps.length ≤ cx.ps.length) : ∃ v1, LoopK B g w w1 vp c0 c1 v1 := by
  obtain ⟨v1, h1, h2, h3⟩ := ClkTo.step h.mod h.own ht
  exact ⟨v1, hb, Nat.le_trans hl h.len, h1, h2, h3⟩
theorem LoopK.done {B g : Nat} {w wr : World} {vp vx : Value} {c0 cx : ClkN} (h : LoopK B g w wr vp c0 cx vx) : ClkTo B g w wr vp cx := ⟨vx, h.clk, h.mod, h.own⟩
set_option maxHeartbeats 1000000 in
set_option maxRecDepth 100000 in
theorem cool_any (B g : Nat) (vp : Value) (c : ClkN) (w : World) (h : ClkV B g w vp c) (hb : BaseK c) (hn : c.ps.length ≤ 100000) :
    Calls Try.prog 34 #[.pointer (some ⟨g, 0, none⟩)] w fun e w' => e = .returned (.tuple #[]) ∧ ClkTo B g w w' vp (coolK c) := by
  obtain ⟨_, _, K, hE⟩ := cool_ends hb
  have HL := Lib.hid (LoopK.start h hb); have Hn := Lib.hid hn; have HE := Lib.hid hE
  clear h hb hn hE
  go_enter Try.func34, Try.ntmps34
  go_wp2_with fail
  go_loopg [] K (fun k wr => ∃ cx vx, Ends coolF k cx (coolK c) ∧ LoopK B g w wr vp c cx vx)
  case atStart => exact ⟨c, vp, HE.out, HL.out⟩
  case round =>
    obtain ⟨cx, vx, he, hl⟩ := hrel
    obtain ⟨A, n, cap, rfl, Hnn, hnc, hcm, hr⟩ := hl.clk.form
    have HEx := Lib.hid he; have Hlx := Lib.hid hl; have Hr := Lib.hid hr
    obtain ⟨y0, y1, y2, y3, y4, y5⟩ := hl.clk.cells
    obtain ⟨q, hq⟩ : ∃ q, cntK 1 cx.ps = q := ⟨_, rfl⟩
    obtain ⟨D, hD⟩ : ∃ D, cx.most - cx.target = D := ⟨_, rfl⟩
    have hwD : IntKind.i64.wrap (cx.most - cx.target) = D := by rw [hD]; exact IntWalk.i64_in _ (by have := hl.base.most; have := hl.base.target; omega)
    have Hq := Lib.hid hq; have HD := Lib.hid hD
    have hnl : n ≤ 1000000 := by have := Hnn.out; have := hl.len; have := Hn.out; omega
    have Hcnt : Hid (∀ W, Mod (fun _ => False) wr W → Calls Try.prog 28 #[.agg #[.int .i64 cx.most, .int .i64 cx.target, .slice A n cap, .int .i64 (cx.hot : Int), .int .i64 (cx.cold : Int), .int .i64 (cx.test : Int)], .func (.func 45) #[] #[]] W fun e w' => e = .returned (.int .i64 (q : Int)) ∧ Mod (fun _ => False) wr w') := Lib.hid (by
      intro W hW
      refine (count_any 45 isHot (Lib.hid says_hot) cx.most cx.target cx.hot cx.cold cx.test A n cap cx.ps W ((Hr.out.new hW).fit) hnl).mono ?_
      rintro e w1 ⟨rfl, hm1⟩
      rw [cnt_hot, Hq.out]
      exact ⟨rfl, hW.trans hm1 (fun _ _ h => h)⟩)
    clear he hl hr hq hD hnc hcm
    by_cases hgo : D < (q : Int)
    · have hgo2 : decide (D < (q : Int)) = true := decide_eq_true hgo
      have Hf := Lib.hid (coolF_some (c := cx) (by rw [HD.out, Hq.out]; exact hgo))
      obtain ⟨j, hj, hE1⟩ := HEx.out.some_ Hf.out
      have Hj := Lib.hid hj; have HE1 := Lib.hid hE1
      have Hh := Lib.hid (hot_ends Hlx.out.base)
      have Hq0 : Hid (cntK 1 cx.ps ≠ 0) := Lib.hid (by have := Hlx.out.base.target; have := HD.out; have := Hq.out; omega)
      clear hj hE1
      go_upto_region 0 with fail
      go_region_with (first
        | (go_at_call 28; refine (Hcnt.out _ (Mod.refl _ _).drew).mono ?_; rintro e w1 ⟨rfl, hm1⟩; have HL1 := Lib.hid (Hlx.out.new hm1); have z0 := HL1.out.clk.cells.1; have z1 := HL1.out.clk.cells.2.1; clear hm1))
      all_goals (
        go_wp2_with fail
        refine (turnHot_any B g _ cx w1 HL1.out.clk HL1.out.base Hq0.out (by have := HL1.out.len; have := Hn.out; omega)).mono ?_
        rintro e w2 ⟨rfl, ht⟩
        obtain ⟨v1, hl1⟩ := HL1.out.turn ht Hh.out.1.base Hh.out.1.len
        have HL2 := Lib.hid hl1
        clear ht hl1
        go_wp2_with fail
        go_roundg (gk - 1)
        case measure => have := Hj.out; omega
        case rel =>
          have e1 : gk - 1 = j := by have := Hj.out; omega
          rw [e1]
          exact ⟨_, v1, HE1.out, HL2.out⟩)
    · have hgo2 : decide (D < (q : Int)) = false := decide_eq_false hgo
      have Hf := Lib.hid (coolF_none (c := cx) (by rw [HD.out, Hq.out]; exact hgo))
      have He := Lib.hid (HEx.out.none_ Hf.out)
      go_upto_region 0 with fail
      go_region_with (first
        | (go_at_call 28; refine (Hcnt.out _ (Mod.refl _ _).drew).mono ?_; rintro e w1 ⟨rfl, hm1⟩; have HL1 := Lib.hid (Hlx.out.new hm1); have z0 := HL1.out.clk.cells.1; have z1 := HL1.out.clk.cells.2.1; clear hm1))
      all_goals (
        go_wp2_with fail
        go_end0
        rw [He.out.2]
        exact ⟨rfl, HL1.out.done⟩)
end Go.Proofs.Ytcoajldhhimmoaa

/- The code's thaw; one look of its hand Cold. -/
namespace Go.Proofs.Ytcoajldhhimmoaa
open Go.RowKit

set_option maxHeartbeats 1000000 in
set_option maxRecDepth 100000 in
theorem thaw_any (B g : Nat) (vp : Value) (c : ClkN) (w : World) (h : ClkV B g w vp c) (hb : BaseK c) (hf : c.ps.any isFree = true) (hn : c.ps.length ≤ 100000) :
    Calls Try.prog 51 #[.pointer (some ⟨g, 0, none⟩)] w fun e w' => e = .returned (.tuple #[]) ∧ ClkTo B g w w' vp (warmK c) := by
  obtain ⟨_, _, _, _, K, hE⟩ := warm_ends hb hf
  have HL := Lib.hid (LoopK.start h hb); have Hn := Lib.hid hn; have HE := Lib.hid hE; have Hf := Lib.hid hf
  clear h hb hn hE hf
  go_enter Try.func51, Try.ntmps51
  go_wp2_with fail
  go_loopg [] K (fun k wr => ∃ cx vx, Ends warmF k cx (warmK c) ∧ LoopK B g w wr vp c cx vx ∧ cx.ps.any isFree = true)
  case atStart => exact ⟨c, vp, HE.out, HL.out, Hf.out⟩
  case round =>
    obtain ⟨cx, vx, he, hl, hfx⟩ := hrel
    obtain ⟨A, n, cap, rfl, Hnn, hnc, hcm, hr⟩ := hl.clk.form
    have HEx := Lib.hid he; have Hlx := Lib.hid hl; have Hr := Lib.hid hr; have Hfx := Lib.hid hfx
    have y2 := hl.clk.cells.2.2.1
    have hnl : n ≤ 1000000 := by have := Hnn.out; have := hl.len; have := Hn.out; omega
    obtain ⟨q, hq⟩ : ∃ q, cx.ps.any isLoose = q := ⟨_, rfl⟩
    have Hq := Lib.hid hq
    have Hcnt : Hid (Calls Try.prog 57 #[.slice A n cap, .func (.func 58) #[] #[]] wr fun e w' => e = .returned (.bool q) ∧ Mod (fun _ => False) wr w') := Lib.hid (by
      refine (contains_any 58 isFreeC (Lib.hid says_free) A n cap cx.ps wr Hr.out hnl).mono ?_
      rintro e w1 ⟨rfl, hm1⟩
      rw [any_loose Hlx.out.base.pgs.1, Hq.out]
      exact ⟨rfl, hm1⟩)
    clear he hl hr hq hnc hcm hfx
    go_wp2_with fail
    refine Hcnt.out.mono ?_
    rintro e w1 ⟨rfl, hm1⟩
    have HL1 := Lib.hid (Hlx.out.new hm1)
    clear hm1
    cases q with
    | false =>
      obtain ⟨j, hj, hE1⟩ := HEx.out.some_ (warmF_some Hq.out)
      have Hj := Lib.hid hj; have HE1 := Lib.hid hE1
      have Hh := Lib.hid (hot_ends Hlx.out.base)
      clear hj hE1
      go_wp2_with fail
      refine (turnHot_any B g _ cx w1 HL1.out.clk HL1.out.base (loose_free Hlx.out.base.pgs.1 Hfx.out Hq.out) (by have := HL1.out.len; have := Hn.out; omega)).mono ?_
      rintro e w2 ⟨rfl, ht⟩
      obtain ⟨v1, hl1⟩ := HL1.out.turn ht Hh.out.1.base Hh.out.1.len
      have HL2 := Lib.hid hl1
      clear ht hl1
      go_wp2_with fail
      go_roundg (gk - 1)
      case measure => have := Hj.out; omega
      case rel =>
        have e1 : gk - 1 = j := by have := Hj.out; omega
        rw [e1]
        exact ⟨_, v1, HE1.out, HL2.out, by rw [Hh.out.1.free]; exact Hfx.out⟩
    | true =>
      have He := Lib.hid (HEx.out.none_ (warmF_none Hq.out))
      go_wp2_with fail
      go_end0
      rw [He.out.2]
      exact ⟨rfl, HL1.out.done⟩
/-- What one look of the hand Cold comes to, as the document has it: behind it no cold one is missing that is loose. -/
def LookC (c c' : ClkN) (key : KeyN) (b : Bool) : Prop :=
  (b = false → ∃ y', BaseK y' ∧ y'.ps.any isFree = true ∧ warmK y' = c' ∧ y'.ps.length ≤ c.ps.length ∧ ∀ y out, y.ps.any isFree = true → warmK y = c → coldF (y, out, false) = some (y', out, false)) ∧
  (b = true → BaseK c' ∧ c'.ps.length ≤ c.ps.length ∧ ∀ y out, y.ps.any isFree = true → warmK y = c → coldF (y, out, false) = some (trimK c', out ++ [key], true))
theorem loose_is_free {ps : List PagN} (h : ps.any isLoose = true) : ps.any isFree = true := by
  obtain ⟨p, hp, hl⟩ := List.any_eq_true.1 h
  refine List.any_eq_true.2 ⟨p, hp, ?_⟩
  unfold isLoose at hl
  unfold isFree PagN.resi
  simp only [Bool.and_eq_true, beq_iff_eq] at hl ⊢
  simp [hl.1, hl.2]
theorem lookC_on {c : ClkN} {p : PagN} (hb : BaseK c) (hl : c.ps.any isLoose = true) (hp : c.ps[c.cold]? = some p) (h1 : p.kind ≠ 2 ∨ 0 < p.pins) (hlt : c.cold < c.ps.length) : LookC c { c with cold := onK c.ps.length c.cold } p.key false := by
  have hb' : BaseK { c with cold := onK c.ps.length c.cold } := (turn_hands hb (a := c.hot) (b := onK c.ps.length c.cold) (t := c.test) hb.hot (onK_lt hb.cold) hb.test).base
  have hf := loose_is_free hl
  refine ⟨fun _ => ⟨_, hb', hf, (warm_ends hb' hf).2.2.2.1 hl, Nat.le_refl _, fun y out hy hw => ?_⟩, (fun h => by cases h)⟩
  subst hw
  exact coldF_on hy hp h1
theorem lookC_trial {c : ClkN} {p : PagN} (hb : BaseK c) (hp : c.ps[c.cold]? = some p) (h1 : p.kind = 2) (h0 : p.pins = 0) (hr : p.ref = true) (ht : p.trial = false) : LookC c { c with ps := c.ps.set c.cold { p with trial := true, ref := false }, cold := onK c.ps.length c.cold } p.key false := by
  have hok := hb.ok_at hp
  have hlt := (List.getElem?_eq_some_iff.1 hp).1
  have hb' : BaseK { c with ps := c.ps.set c.cold { p with trial := true, ref := false }, cold := onK c.ps.length c.cold } :=
    (turn_set hb hp (q := { p with trial := true, ref := false }) rfl rfl rfl ⟨.inr (.inl h1), hok.2.1, fun h3 => hok.2.2 h3⟩ (fun h => h) (fun h => by cases h) { c with ps := c.ps.set c.cold { p with trial := true, ref := false }, cold := onK c.ps.length c.cold } rfl rfl rfl hb.hot (onK_lt hb.cold) hb.test).base
  have hl : (c.ps.set c.cold { p with trial := true, ref := false }).any isLoose = true := any_at (i := c.cold) (by rw [List.getElem?_set_self hlt]) (by show (p.kind == 2 && p.pins == 0) = true; rw [h1, h0]; rfl)
  have hf := loose_is_free hl
  refine ⟨fun _ => ⟨_, hb', hf, (warm_ends hb' hf).2.2.2.1 hl, by show (c.ps.set _ _).length ≤ _; rw [List.length_set]; exact Nat.le_refl _, fun y out hy hw => ?_⟩, (fun h => by cases h)⟩
  subst hw
  exact coldF_trial hy hp h1 h0 hr ht
theorem hot_base {c : ClkN} {p : PagN} (hb : BaseK c) (hp : c.ps[c.cold]? = some p) : BaseK { c with ps := c.ps.set c.cold { p with kind := 1, ref := false, trial := false }, cold := onK c.ps.length c.cold } := by
  obtain ⟨A, B, e, hA⟩ := split_at hp
  have hok := hb.ok_at hp
  have hpg := hb.pgs
  rw [e] at hpg
  refine ⟨hb.most, hb.target, ?_, ?_, ?_, ?_⟩
  · show PgsK (c.ps.set c.cold _)
    rw [e, ← hA, set_split]
    exact pgs_set hpg rfl ⟨.inl rfl, hok.2.1, fun h => by cases h⟩
  · show c.hot < max (c.ps.set _ _).length 1
    rw [List.length_set]
    exact hb.hot
  · show onK c.ps.length c.cold < max (c.ps.set _ _).length 1
    rw [List.length_set]
    exact onK_lt hb.cold
  · show c.test < max (c.ps.set _ _).length 1
    rw [List.length_set]
    exact hb.test
theorem hot_free {c : ClkN} {p : PagN} (hp : c.ps[c.cold]? = some p) (h0 : p.pins = 0) : (c.ps.set c.cold { p with kind := 1, ref := false, trial := false }).any isFree = true :=
  any_at (i := c.cold) (by rw [List.getElem?_set_self (List.getElem?_eq_some_iff.1 hp).1]) (by show ((1 : Int) == 1 || (1 : Int) == 2) && p.pins == 0; rw [h0]; rfl)
theorem lookC_hot {c : ClkN} {p : PagN} (hb : BaseK c) (hp : c.ps[c.cold]? = some p) (h1 : p.kind = 2) (h0 : p.pins = 0) (hr : p.ref = true) (ht : p.trial = true) :
    LookC c (warmK (coolK { c with ps := c.ps.set c.cold { p with kind := 1, ref := false, trial := false }, cold := onK c.ps.length c.cold })) p.key false := by
  have hb1 := hot_base hb hp
  have hf1 := hot_free hp h0
  have hc := (cool_ends hb1).1
  refine ⟨fun _ => ⟨_, hc.base, by rw [hc.free]; exact hf1, rfl, by have := hc.len; rw [show ({ c with ps := c.ps.set c.cold { p with kind := 1, ref := false, trial := false }, cold := onK c.ps.length c.cold } : ClkN).ps.length = c.ps.length from List.length_set] at this; exact this, fun y out hy hw => ?_⟩, (fun h => by cases h)⟩
  subst hw
  exact coldF_hot hy hp h1 h0 hr ht
theorem lookC_test {c : ClkN} {p : PagN} (hb : BaseK c) (hp : c.ps[c.cold]? = some p) (h1 : p.kind = 2) (h0 : p.pins = 0) (hr : p.ref = false) (ht : p.trial = true) :
    LookC c { c with ps := c.ps.set c.cold { p with kind := 3 }, cold := onK c.ps.length c.cold } p.key true := by
  refine ⟨(fun h => by cases h), fun _ => ⟨?_, by show (c.ps.set _ _).length ≤ _; rw [List.length_set]; exact Nat.le_refl _, fun y out hy hw => ?_⟩⟩
  · obtain ⟨A, B, e, hA⟩ := split_at hp
    have hpg := hb.pgs
    rw [e] at hpg
    refine ⟨hb.most, hb.target, ?_, ?_, ?_, ?_⟩
    · show PgsK (c.ps.set c.cold _)
      rw [e, ← hA, set_split]
      exact pgs_set hpg rfl ⟨.inr (.inr rfl), by show 0 ≤ p.pins; omega, fun _ => h0⟩
    · show c.hot < max (c.ps.set _ _).length 1
      rw [List.length_set]
      exact hb.hot
    · show onK c.ps.length c.cold < max (c.ps.set _ _).length 1
      rw [List.length_set]
      exact onK_lt hb.cold
    · show c.test < max (c.ps.set _ _).length 1
      rw [List.length_set]
      exact hb.test
  · subst hw
    exact coldF_test hy hp h1 h0 hr ht
theorem lookC_goes {c : ClkN} {p : PagN} (hb : BaseK c) (hp : c.ps[c.cold]? = some p) (h1 : p.kind = 2) (h0 : p.pins = 0) (hr : p.ref = false) (ht : p.trial = false) : LookC c (goesK c c.cold) p.key true := by
  refine ⟨(fun h => by cases h), fun _ => ⟨goes_base hb hp, by have := strike_len (List.getElem?_eq_some_iff.1 hp).1; show (strikeK c.ps c.cold).length ≤ _; omega, fun y out hy hw => ?_⟩⟩
  subst hw
  exact coldF_goes hy hp h1 h0 hr ht
set_option maxHeartbeats 4000000 in
set_option maxRecDepth 100000 in
theorem lookCold_any (B g : Nat) (vp : Value) (c : ClkN) (p : PagN) (w : World) (h : ClkV B g w vp c) (hb : BaseK c) (hl : c.ps.any isLoose = true) (hp : c.ps[c.cold]? = some p) (hn : c.ps.length ≤ 100000) :
    Calls Try.prog 52 #[.pointer (some ⟨g, 0, none⟩)] w fun e w' => ∃ c' b, LookC c c' p.key b ∧ e = .returned (.bool b) ∧ ClkTo B g w w' vp c' := by
  have hok := hb.ok_at hp
  have hlt := (List.getElem?_eq_some_iff.1 hp).1
  obtain ⟨pg, n, cap, rfl, Hnn, hnc, hcm, hin, Hpg, hne, x0, x1, x2, x3, x4, x5, x6, fz⟩ := h.at_ hp
  have y2 := h.cells.2.2.1
  have yh := h.cells.2.2.2.2.1
  have hat7 : (⟨pg, 0, none⟩ : Addr).add (c.cold * 7) = ⟨pg, c.cold * 7, none⟩ := by rw [add_addr, Nat.zero_add]
  have hin' : (c.cold : Int) < (n : Int) := by omega
  have Hc := Lib.hid h; have Hb := Lib.hid hb; have Hn := Lib.hid hn; have Hp := Lib.hid hp; have Hne := Lib.hid hne; have Hok := Lib.hid hok; have Hlt := Lib.hid hlt; have Hl := Lib.hid hl
  have Mw : Hid (Mod (fun _ => False) w w) := Lib.hid (Mod.refl _ _)
  clear hl h hb hn hp hne hok hlt hnc hcm hin
  obtain ⟨⟨s, l, b⟩, kd, rf, tr, pn⟩ := p
  simp only at x0 x1 x2 x3 x4 x5 x6
  go_enter Try.func52, Try.ntmps52
  go_upto_region 1 with fail
  go_region
  have Hc0 := Lib.hid Hc.out.drew
  have Mw0 : Hid (Mod (fun _ => False) w w.drew) := Lib.hid (Mod.refl _ _).drew
  obtain ⟨wa, hwa⟩ : ∃ wa, wa = w.drew := ⟨_, rfl⟩
  rw [← hwa] at Hc0 Mw0 ⊢
  have Mwa := Mw0
  clear hwa Mw0 Mw x0 x1 x2 x3 x4 x5 x6 y2 yh fz
  obtain ⟨x0, x1, x2, x3, x4, x5, x6, fz⟩ := Hc0.out.page_ Hp.out
  have y2 := Hc0.out.cells.2.2.1
  have yh := Hc0.out.cells.2.2.2.2.1
  simp only at x0 x1 x2 x3 x4 x5 x6
  by_cases hfr : kd = 2 ∧ pn = 0
  · obtain ⟨rfl, rfl⟩ := hfr
    go_wp2_with fail
    clear x0 x1 x2 x3 x4 x5 x6 y2 yh fz
    cases rf with
    | true =>
      cases tr with
      | true =>
        refine (isFreeC_is ⟨⟨s, l, b⟩, 2, true, true, 0⟩ true rfl wa).mono ?_
        rintro e w1 ⟨rfl, hm1⟩
        have Hc1 := Lib.hid (Hc0.out.new hm1)
        have Mw1 := Lib.hid (Mwa.out.trans hm1 (fun _ _ h => h))
        clear hm1
        obtain ⟨x0, x1, x2, x3, x4, x5, x6, fz⟩ := Hc1.out.page_ Hp.out
        have y2 := Hc1.out.cells.2.2.1
        have yh := Hc1.out.cells.2.2.2.2.1
        simp only at x0 x1 x2 x3 x4 x5 x6
        have h0 : ClkV B g (w1.setCell ⟨pg, c.cold * 7 + 3, none⟩ (.int .i64 1)) (.slice (some ⟨pg, 0, none⟩) n cap) { c with ps := c.ps.set c.cold ⟨⟨s, l, b⟩, 1, true, true, 0⟩ } := Hc1.out.field (j := 3) Hnn.out Hp.out (by decide) rfl
        have h1 := h0.field (i := c.cold) (j := 4) (p := ⟨⟨s, l, b⟩, 1, true, true, 0⟩) (q := ⟨⟨s, l, b⟩, 1, false, true, 0⟩) (u := (.bool false)) (by show (c.ps.set _ _).length = n; rw [List.length_set]; exact Hnn.out) (by show (c.ps.set _ _)[_]? = _; rw [List.getElem?_set_self Hlt.out]) (by decide) rfl
        simp only [List.set_set] at h1
        have h2 := h1.field (i := c.cold) (j := 5) (p := ⟨⟨s, l, b⟩, 1, false, true, 0⟩) (q := ⟨⟨s, l, b⟩, 1, false, false, 0⟩) (u := (.bool false)) (by show (c.ps.set _ _).length = n; rw [List.length_set]; exact Hnn.out) (by show (c.ps.set _ _)[_]? = _; rw [List.getElem?_set_self Hlt.out]) (by decide) rfl
        simp only [List.set_set] at h2
        obtain ⟨w4, hw4⟩ : ∃ w4, w4 = (((w1.setCell ⟨pg, c.cold * 7 + 3, none⟩ (.int .i64 1)).setCell ⟨pg, c.cold * 7 + 4, none⟩ (.bool false)).setCell ⟨pg, c.cold * 7 + 5, none⟩ (.bool false)) := ⟨_, rfl⟩
        have Mw4 := Lib.hid ((((Mw1.out.mono (S' := ClkS g (.slice (some ⟨pg, 0, none⟩) n cap)) (fun _ _ h => h.elim)).setCell (p := ⟨pg, c.cold * 7 + 3, none⟩) (fun _ => .inr rfl) (.int .i64 1)).setCell (p := ⟨pg, c.cold * 7 + 4, none⟩) (fun _ => .inr rfl) (.bool false)).setCell (p := ⟨pg, c.cold * 7 + 5, none⟩) (fun _ => .inr rfl) (.bool false))
        rw [← hw4] at h2 Mw4
        have Hc4 := Lib.hid h2
        have Hw4 := Lib.hid hw4
        clear h0 h1 h2 hw4
        go_upto_region 8 with fail
        rw [← Hw4.out]
        clear x0 x1 x2 x3 x4 x5 x6 y2 yh fz
        have y2 := Hc4.out.cells.2.2.1
        have yh := Hc4.out.cells.2.2.2.2.1
        go_wp2_with fail
        refine (ckNext_any B g _ _ c.cold w4 Hc4.out (by first | (show c.cold < (c.ps.set _ _).length; rw [List.length_set]; exact Hlt.out) | exact Hlt.out) (by first | (show (c.ps.set _ _).length ≤ _; rw [List.length_set]; have := Hn.out; omega) | (have := Hn.out; omega))).mono ?_
        rintro e w9 ⟨rfl, hm9⟩
        have Hc9 := Lib.hid (Hc4.out.new hm9)
        have M9 := Lib.hid (Mw4.out.trans hm9 (fun _ _ h => h.elim))
        clear hm9 y2 yh
        have yh := Hc9.out.cells.2.2.2.2.1
        have fh := Hc9.out.frozen 4
        have hq := Hc9.out.num 4 (.int .i64 ((onK c.ps.length c.cold : Nat) : Int)) (c' := { c with ps := c.ps.set c.cold ⟨⟨s, l, b⟩, 1, false, false, 0⟩, cold := onK c.ps.length c.cold }) (by simp [clkC]) rfl
        obtain ⟨w5, hw5⟩ : ∃ w5, w5 = w9.setCell ⟨g, 4, none⟩ (.int .i64 ((onK c.ps.length c.cold : Nat) : Int)) := ⟨_, rfl⟩
        have Mw5 := Lib.hid (M9.out.setCell (p := ⟨g, 4, none⟩) (fun _ => .inl rfl) (.int .i64 ((onK c.ps.length c.cold : Nat) : Int)))
        rw [← hw5] at hq Mw5
        have Hc5 := Lib.hid hq; have Hw5 := Lib.hid hw5
        have Hb5 := Lib.hid (hot_base Hb.out Hp.out)
        have Hf5 := Lib.hid (hot_free Hp.out rfl)
        have Hcl := Lib.hid (cool_ends Hb5.out)
        clear hq hw5
        go_upto_region 9 with fail
        rw [← Hw5.out]
        clear yh fh
        go_wp2_with fail
        refine (cool_any B g _ _ w5 Hc5.out Hb5.out (by show (c.ps.set _ _).length ≤ _; rw [List.length_set]; exact Hn.out)).mono ?_
        rintro e w6 ⟨rfl, ht⟩
        obtain ⟨v6, h1, h2, h3⟩ := ClkTo.step Mw5.out (fun _ h => .inl h) ht
        have H1 := Lib.hid h1; have H2 := Lib.hid h2; have H3 := Lib.hid h3
        clear ht h1 h2 h3
        go_wp2_with fail
        refine (thaw_any B g v6 _ w6 H1.out Hcl.out.1.base (by rw [Hcl.out.1.free]; exact Hf5.out) (by have hL := Hcl.out.1.len; have := Hn.out; rw [show ({ c with ps := c.ps.set c.cold ⟨⟨s, l, b⟩, 1, false, false, 0⟩, cold := onK c.ps.length c.cold } : ClkN).ps.length = c.ps.length from List.length_set] at hL; omega)).mono ?_
        rintro e w7 ⟨rfl, ht⟩
        have Ht := Lib.hid (ClkTo.step H2.out H3.out ht)
        clear ht
        go_wp2_with fail
        go_ret
        exact ⟨_, _, lookC_hot Hb.out Hp.out rfl rfl rfl rfl, rfl, Ht.out⟩
      | false =>
        refine (isFreeC_is ⟨⟨s, l, b⟩, 2, true, false, 0⟩ true rfl wa).mono ?_
        rintro e w1 ⟨rfl, hm1⟩
        have Hc1 := Lib.hid (Hc0.out.new hm1)
        have Mw1 := Lib.hid (Mwa.out.trans hm1 (fun _ _ h => h))
        clear hm1
        obtain ⟨x0, x1, x2, x3, x4, x5, x6, fz⟩ := Hc1.out.page_ Hp.out
        have y2 := Hc1.out.cells.2.2.1
        have yh := Hc1.out.cells.2.2.2.2.1
        simp only at x0 x1 x2 x3 x4 x5 x6
        have h0 : ClkV B g (w1.setCell ⟨pg, c.cold * 7 + 4, none⟩ (.bool false)) (.slice (some ⟨pg, 0, none⟩) n cap) { c with ps := c.ps.set c.cold ⟨⟨s, l, b⟩, 2, false, false, 0⟩ } := Hc1.out.field (j := 4) Hnn.out Hp.out (by decide) rfl
        have h1 := h0.field (i := c.cold) (j := 5) (p := ⟨⟨s, l, b⟩, 2, false, false, 0⟩) (q := ⟨⟨s, l, b⟩, 2, false, true, 0⟩) (u := (.bool true)) (by show (c.ps.set _ _).length = n; rw [List.length_set]; exact Hnn.out) (by show (c.ps.set _ _)[_]? = _; rw [List.getElem?_set_self Hlt.out]) (by decide) rfl
        simp only [List.set_set] at h1
        obtain ⟨w4, hw4⟩ : ∃ w4, w4 = ((w1.setCell ⟨pg, c.cold * 7 + 4, none⟩ (.bool false)).setCell ⟨pg, c.cold * 7 + 5, none⟩ (.bool true)) := ⟨_, rfl⟩
        have Mw4 := Lib.hid (((Mw1.out.mono (S' := ClkS g (.slice (some ⟨pg, 0, none⟩) n cap)) (fun _ _ h => h.elim)).setCell (p := ⟨pg, c.cold * 7 + 4, none⟩) (fun _ => .inr rfl) (.bool false)).setCell (p := ⟨pg, c.cold * 7 + 5, none⟩) (fun _ => .inr rfl) (.bool true))
        rw [← hw4] at h1 Mw4
        have Hc4 := Lib.hid h1
        have Hw4 := Lib.hid hw4
        clear h0 h1 hw4
        go_upto_region 13 with fail
        rw [← Hw4.out]
        clear x0 x1 x2 x3 x4 x5 x6 y2 yh fz
        have y2 := Hc4.out.cells.2.2.1
        have yh := Hc4.out.cells.2.2.2.2.1
        go_wp2_with fail
        refine (ckNext_any B g _ _ c.cold w4 Hc4.out (by first | (show c.cold < (c.ps.set _ _).length; rw [List.length_set]; exact Hlt.out) | exact Hlt.out) (by first | (show (c.ps.set _ _).length ≤ _; rw [List.length_set]; have := Hn.out; omega) | (have := Hn.out; omega))).mono ?_
        rintro e w9 ⟨rfl, hm9⟩
        have Hc9 := Lib.hid (Hc4.out.new hm9)
        have M9 := Lib.hid (Mw4.out.trans hm9 (fun _ _ h => h.elim))
        clear hm9 y2 yh
        have yh := Hc9.out.cells.2.2.2.2.1
        have fh := Hc9.out.frozen 4
        go_wp2_with fail
        go_ret
        refine ⟨_, _, lookC_trial Hb.out Hp.out rfl rfl rfl rfl, rfl, _, Hc9.out.num 4 _ (by simp [clkC]) rfl, M9.out.setCell (p := ⟨g, 4, none⟩) (fun _ => .inl rfl) _, fun _ h => .inl h⟩
    | false =>
      cases tr with
      | true =>
        refine (isFreeC_is ⟨⟨s, l, b⟩, 2, false, true, 0⟩ true rfl wa).mono ?_
        rintro e w1 ⟨rfl, hm1⟩
        have Hc1 := Lib.hid (Hc0.out.new hm1)
        have Mw1 := Lib.hid (Mwa.out.trans hm1 (fun _ _ h => h))
        clear hm1
        obtain ⟨x0, x1, x2, x3, x4, x5, x6, fz⟩ := Hc1.out.page_ Hp.out
        have y2 := Hc1.out.cells.2.2.1
        have yh := Hc1.out.cells.2.2.2.2.1
        simp only at x0 x1 x2 x3 x4 x5 x6
        have h0 : ClkV B g (w1.setCell ⟨pg, c.cold * 7 + 3, none⟩ (.int .i64 3)) (.slice (some ⟨pg, 0, none⟩) n cap) { c with ps := c.ps.set c.cold ⟨⟨s, l, b⟩, 3, false, true, 0⟩ } := Hc1.out.field (j := 3) Hnn.out Hp.out (by decide) rfl
        obtain ⟨w4, hw4⟩ : ∃ w4, w4 = (w1.setCell ⟨pg, c.cold * 7 + 3, none⟩ (.int .i64 3)) := ⟨_, rfl⟩
        have Mw4 := Lib.hid ((Mw1.out.mono (S' := ClkS g (.slice (some ⟨pg, 0, none⟩) n cap)) (fun _ _ h => h.elim)).setCell (p := ⟨pg, c.cold * 7 + 3, none⟩) (fun _ => .inr rfl) (.int .i64 3))
        rw [← hw4] at h0 Mw4
        have Hc4 := Lib.hid h0
        have Hw4 := Lib.hid hw4
        clear h0 hw4
        go_upto_region 16 with fail
        rw [← Hw4.out]
        clear x0 x1 x2 x3 x4 x5 x6 y2 yh fz
        have y2 := Hc4.out.cells.2.2.1
        have yh := Hc4.out.cells.2.2.2.2.1
        go_wp2_with fail
        refine (ckNext_any B g _ _ c.cold w4 Hc4.out (by first | (show c.cold < (c.ps.set _ _).length; rw [List.length_set]; exact Hlt.out) | exact Hlt.out) (by first | (show (c.ps.set _ _).length ≤ _; rw [List.length_set]; have := Hn.out; omega) | (have := Hn.out; omega))).mono ?_
        rintro e w9 ⟨rfl, hm9⟩
        have Hc9 := Lib.hid (Hc4.out.new hm9)
        have M9 := Lib.hid (Mw4.out.trans hm9 (fun _ _ h => h.elim))
        clear hm9 y2 yh
        have yh := Hc9.out.cells.2.2.2.2.1
        have fh := Hc9.out.frozen 4
        go_wp2_with fail
        go_ret
        refine ⟨_, _, lookC_test Hb.out Hp.out rfl rfl rfl rfl, rfl, _, Hc9.out.num 4 _ (by simp [clkC]) rfl, M9.out.setCell (p := ⟨g, 4, none⟩) (fun _ => .inl rfl) _, fun _ h => .inl h⟩
      | false =>
        refine (isFreeC_is ⟨⟨s, l, b⟩, 2, false, false, 0⟩ true rfl wa).mono ?_
        rintro e w1 ⟨rfl, hm1⟩
        have Hc1 := Lib.hid (Hc0.out.new hm1)
        have Mw1 := Lib.hid (Mwa.out.trans hm1 (fun _ _ h => h))
        clear hm1
        obtain ⟨x0, x1, x2, x3, x4, x5, x6, fz⟩ := Hc1.out.page_ Hp.out
        have y2 := Hc1.out.cells.2.2.1
        have yh := Hc1.out.cells.2.2.2.2.1
        simp only at x0 x1 x2 x3 x4 x5 x6
        go_wp2_with fail
        clear x0 x1 x2 x3 x4 x5 x6 y2 yh fz
        refine (leave_any B g _ c c.cold w1 Hc1.out Hb.out Hlt.out Hn.out).mono ?_
        rintro e w4 ⟨rfl, ht⟩
        have Ht := Lib.hid ht
        clear ht
        go_wp2_with fail
        go_ret
        exact ⟨_, _, lookC_goes Hb.out Hp.out rfl rfl rfl rfl, rfl, Ht.out.after Mw1.out⟩
  · have Hno : Hid (kd ≠ 2 ∨ 0 < pn) := Lib.hid (by
      have h0 := Hok.out.2.1
      simp only at h0
      omega)
    have hfc : isFreeC ⟨⟨s, l, b⟩, kd, rf, tr, pn⟩ = false := by
      unfold isFreeC
      simp only [Bool.and_eq_false_iff, beq_eq_false_iff_ne, decide_eq_false_iff_not]
      have := Hno.out
      omega
    have Hfc := Lib.hid hfc
    clear hfr hfc
    go_wp2_with fail
    clear x0 x1 x2 x3 x4 x5 x6 y2 yh fz
    refine (isFreeC_is ⟨⟨s, l, b⟩, kd, rf, tr, pn⟩ false Hfc.out wa).mono ?_
    rintro e w1 ⟨rfl, hm1⟩
    have Hc1 := Lib.hid (Hc0.out.new hm1)
    have Mw1 := Lib.hid (Mwa.out.trans hm1 (fun _ _ h => h))
    clear hm1
    obtain ⟨x0, x1, x2, x3, x4, x5, x6, fz⟩ := Hc1.out.page_ Hp.out
    have y2 := Hc1.out.cells.2.2.1
    have yh := Hc1.out.cells.2.2.2.2.1
    simp only at x0 x1 x2 x3 x4 x5 x6
    have Mw1s := Lib.hid (Mw1.out.mono (S' := ClkS g (.slice (some ⟨pg, 0, none⟩) n cap)) (fun _ _ h => h.elim))
    clear Mw1
    have Mw1 := Mw1s
    clear y2 yh
    have y2 := Hc1.out.cells.2.2.1
    have yh := Hc1.out.cells.2.2.2.2.1
    go_wp2_with fail
    refine (ckNext_any B g _ _ c.cold w1 Hc1.out (by first | (show c.cold < (c.ps.set _ _).length; rw [List.length_set]; exact Hlt.out) | exact Hlt.out) (by first | (show (c.ps.set _ _).length ≤ _; rw [List.length_set]; have := Hn.out; omega) | (have := Hn.out; omega))).mono ?_
    rintro e w9 ⟨rfl, hm9⟩
    have Hc9 := Lib.hid (Hc1.out.new hm9)
    have M9 := Lib.hid (Mw1.out.trans hm9 (fun _ _ h => h.elim))
    clear hm9 y2 yh
    have yh := Hc9.out.cells.2.2.2.2.1
    have fh := Hc9.out.frozen 4
    go_wp2_with fail
    go_ret
    refine ⟨_, _, lookC_on Hb.out Hl.out Hp.out Hno.out Hlt.out, rfl, _, Hc9.out.num 4 _ rfl rfl, M9.out.setCell (p := ⟨g, 4, none⟩) (fun _ => .inl rfl) _, fun _ h => .inl h⟩
end Go.Proofs.Ytcoajldhhimmoaa

/- The code's hand Cold turns till one was put out; room is made. -/
namespace Go.Proofs.Ytcoajldhhimmoaa
open Go.RowKit

set_option maxHeartbeats 2000000 in
set_option maxRecDepth 100000 in
theorem turnCold_any (B g : Nat) (vp : Value) (c : ClkN) (out : List KeyN) (w : World) (h : ClkV B g w vp c) (hb : BaseK c) (hf : c.ps.any isFree = true) (hn : c.ps.length ≤ 100000) :
    Calls Try.prog 41 #[.pointer (some ⟨g, 0, none⟩)] w fun e w' => ∃ (key : KeyN) (c' : ClkN), e = .returned (.agg #[.int .i64 key.s, .int .i64 key.l, .int .i64 key.b]) ∧ turnColdK c out = (trimK c', out ++ [key]) ∧ BaseK c' ∧ c'.ps.length ≤ c.ps.length ∧ ClkTo B g w w' vp c' := by
  obtain ⟨_, _, _, K, hE⟩ := cold_ends hb hf out
  obtain ⟨W, hW, hmW, hbW, hzW⟩ := Blk.boxed w 28 #[.int .i64 0, .int .i64 0, .int .i64 0]
  obtain ⟨G, hG⟩ : ∃ g, g = w.heap.size := ⟨_, rfl⟩
  rw [← hG] at hbW
  have hGg : G ≠ g := by have := h.blk.lt; omega
  have hGv : vp.ownBlock ≠ some G := fun e => by have := (h.lt G e).2; omega
  have HGS : Hid (¬ ClkS g vp G) := Lib.hid (by rintro (h | h); exact hGg h; exact hGv h)
  have HL := Lib.hid (LoopK.start (h.new hmW) hb); have Hn := Lib.hid hn; have HE := Lib.hid hE; have Hf := Lib.hid hf; have Hb := Lib.hid hb
  have HW := Lib.hid hW; have HmW := Lib.hid hmW; have HbW := Lib.hid hbW; have HG := Lib.hid hG
  clear h hb hn hE hf hW hmW hbW hG hGg hGv hzW
  go_enter Try.func41, Try.ntmps41
  go_upto_region 1 with fail
  rw [← HW.out, ← HG.out]
  go_wp2_with fail
  refine (thaw_any B g vp c W HL.out.clk Hb.out Hf.out Hn.out).mono ?_
  rintro e w1 ⟨rfl, ht⟩
  have Hwm := Lib.hid (warm_ends Hb.out Hf.out)
  obtain ⟨v1, hl1⟩ := HL.out.turn ht Hwm.out.1.base Hwm.out.1.len
  have HL1 := Lib.hid hl1
  have HbG := Lib.hid (hl1.mod.blk HbW.out HGS.out)
  clear ht hl1
  go_wp2_with fail
  go_loopg [] K (fun k wr => ∃ y vx, Ends coldF k (y, out, false) ((turnColdK c out).1, (turnColdK c out).2, true) ∧ BaseK y ∧ y.ps.any isFree = true ∧ y.ps.length ≤ c.ps.length ∧ LoopK B g W wr vp c (warmK y) vx)
  case atStart => exact ⟨c, v1, HE.out, Hb.out, Hf.out, Nat.le_refl _, HL1.out⟩
  case round =>
    obtain ⟨y, vx, he, hby, hfy, hly, hl⟩ := hrel
    have hwy := warm_ends hby hfy
    obtain ⟨p, hp, hok, hlt⟩ := hl.base.cold_at hwy.2.1
    obtain ⟨pg, n, cap, rfl, Hnn, hnc, hcm, hin, Hpg, hne, x0, x1, x2, x3, x4, x5, x6, fz⟩ := hl.clk.at_ hp
    have y2 := hl.clk.cells.2.2.1
    have yh := hl.clk.cells.2.2.2.2.1
    have hat7 : (⟨pg, 0, none⟩ : Addr).add ((warmK y).cold * 7) = ⟨pg, (warmK y).cold * 7, none⟩ := by rw [add_addr, Nat.zero_add]
    have hin' : ((warmK y).cold : Int) < (n : Int) := by omega
    have HEx := Lib.hid he; have Hby := Lib.hid hby; have Hfy := Lib.hid hfy; have Hly := Lib.hid hly; have Hl := Lib.hid hl; have Hwy := Lib.hid hwy; have Hp := Lib.hid hp
    obtain ⟨⟨s, l, b⟩, kd, rf, tr, pn⟩ := p
    simp only at x0 x1 x2
    obtain ⟨cc, hcc⟩ : ∃ cc, (warmK y).cold = cc := ⟨_, rfl⟩
    rw [hcc] at yh hin' hat7 x0 x1 x2
    have Hcc := Lib.hid hcc
    have y2a : ∀ o, (wr.alloc o).cell? ⟨g, 2, none⟩ = some (.slice (some ⟨pg, 0, none⟩) n cap) := fun o => (((Mod.refl (fun _ => False) wr).alloc o).cell (a := ⟨g, 2, none⟩) (World.block_lt_of_cell? wr _ y2) (fun h => h)).trans y2
    have yha : ∀ o, (wr.alloc o).cell? ⟨g, 4, none⟩ = some (.int .i64 (cc : Int)) := fun o => (((Mod.refl (fun _ => False) wr).alloc o).cell (a := ⟨g, 4, none⟩) (World.block_lt_of_cell? wr _ yh) (fun h => h)).trans yh
    have x0a : ∀ o, (wr.alloc o).cell? ⟨pg, cc * 7, none⟩ = some (.int .i64 s) := fun o => (((Mod.refl (fun _ => False) wr).alloc o).cell (a := ⟨pg, cc * 7, none⟩) (World.block_lt_of_cell? wr _ x0) (fun h => h)).trans x0
    have x1a : ∀ o, (wr.alloc o).cell? ⟨pg, cc * 7 + 1, none⟩ = some (.int .i64 l) := fun o => (((Mod.refl (fun _ => False) wr).alloc o).cell (a := ⟨pg, cc * 7 + 1, none⟩) (World.block_lt_of_cell? wr _ x1) (fun h => h)).trans x1
    have x2a : ∀ o, (wr.alloc o).cell? ⟨pg, cc * 7 + 2, none⟩ = some (.int .i64 b) := fun o => (((Mod.refl (fun _ => False) wr).alloc o).cell (a := ⟨pg, cc * 7 + 2, none⟩) (World.block_lt_of_cell? wr _ x2) (fun h => h)).trans x2
    clear he hby hfy hly hl hwy hp hok hlt hin hne hnc hcm x3 x4 x5 x6 fz hcc
    go_upto_region 2 with fail
    go_region
    obtain ⟨w2, hw2⟩ : ∃ w2, w2 = (wr.alloc (.cells #[.int .i64 s, .int .i64 l, .int .i64 b] 28)).drew := ⟨_, rfl⟩
    obtain ⟨G3, hG3⟩ : ∃ g, g = wr.heap.size := ⟨_, rfl⟩
    have hm2 : Mod (fun _ => False) wr w2 := by rw [hw2]; exact ((Mod.refl _ _).alloc _).drew
    have hb3 : Blk w2 G3 28 #[.int .i64 s, .int .i64 l, .int .i64 b] := by rw [hw2, hG3]; exact (Blk.new _ _ _).drew
    have HL2 := Lib.hid (Hl.out.new hm2)
    have H3S : Hid (¬ ClkS g (.slice (some ⟨pg, 0, none⟩) n cap) G3) := Lib.hid (by
      rintro (h | h)
      · have := Hl.out.clk.blk.lt; omega
      · have := (Hl.out.clk.lt G3 h).2; omega)
    have Hb3 := Lib.hid hb3; have Hw2 := Lib.hid hw2; have HG3 := Lib.hid hG3
    rw [← hw2, ← hG3]
    clear hw2 hG3 hm2 hb3 y2a yha x0a x1a x2a y2 yh x0 x1 x2
    go_wp2_with fail
    refine (lookCold_any B g _ (warmK y) _ w2 HL2.out.clk HL2.out.base Hwy.out.2.1 Hp.out (by have := HL2.out.len; have := Hn.out; omega)).mono ?_
    rintro e w3 ⟨c3, r, hk, rfl, ht⟩
    have Hb4 : Hid (Blk w3 G3 28 #[.int .i64 s, .int .i64 l, .int .i64 b]) := Lib.hid (by
      obtain ⟨_, _, h2, _⟩ := ht
      exact h2.blk Hb3.out H3S.out)
    have Hk := Lib.hid hk; have Ht := Lib.hid ht
    clear hk ht
    cases r with
    | false =>
      obtain ⟨y', k1, k2, k3, k4, k5⟩ := Hk.out.1 rfl
      obtain ⟨j, hj, hE1⟩ := HEx.out.some_ (k5 y out Hfy.out rfl)
      have hly' : c3.ps.length ≤ (warmK y).ps.length := by rw [← k3]; exact Nat.le_trans (warm_ends k1 k2).1.len k4
      obtain ⟨v3, hl3⟩ := HL2.out.turn Ht.out (by rw [← k3]; exact (warm_ends k1 k2).1.base) hly'
      have hly2 : y'.ps.length ≤ c.ps.length := by have := Hly.out; have := Hwy.out.1.len; omega
      have K1 := Lib.hid k1; have K2 := Lib.hid k2; have K3 := Lib.hid k3; have HL3 := Lib.hid hl3; have Hj := Lib.hid hj; have HE1 := Lib.hid hE1; have Hly2 := Lib.hid hly2
      clear k1 k2 k3 k4 k5 hj hE1 hly' hl3 hly2
      go_wp2_with fail
      go_roundg (gk - 1)
      case measure => have := Hj.out; omega
      case rel =>
        have e1 : gk - 1 = j := by have := Hj.out; omega
        rw [e1]
        exact ⟨y', v3, HE1.out, K1.out, K2.out, Hly2.out, by rw [K3.out]; exact HL3.out⟩
    | true =>
      obtain ⟨k1, k4, k5⟩ := Hk.out.2 rfl
      obtain ⟨j, hj, hE1⟩ := HEx.out.some_ (k5 y out Hfy.out rfl)
      have hT := (hE1.none_ coldF_done).2
      injection hT with hT1 hT2
      injection hT2 with hT2 _
      obtain ⟨v3, hl3⟩ := HL2.out.turn Ht.out k1 k4
      have hbG := hl3.mod.blk HbW.out HGS.out
      have K1 := Lib.hid k1; have HL3 := Lib.hid hl3; have HbG3 := Lib.hid hbG
      have HT : Hid (turnColdK c out = (trimK c3, out ++ [⟨s, l, b⟩])) := Lib.hid (Prod.ext hT1 hT2)
      have r0 := Hb4.out.cell 0
      have r1 := Hb4.out.cell 1
      have r2 := Hb4.out.cell 2
      have q0 := hbG.cell 0
      have q1 := hbG.cell 1
      have q2 := hbG.cell 2
      have f0 := hbG.frozen 0
      have f1 := hbG.frozen 1
      have f2 := hbG.frozen 2
      simp at r0 r1 r2 q0 q1 q2
      have hlen := HL3.out.len
      have Hlen := Lib.hid hlen
      clear k1 k4 k5 hj hE1 hT1 hT2 hl3 hbG hlen
      go_wp2_with fail
      refine bodyPost_ret (v := .agg #[.int .i64 s, .int .i64 l, .int .i64 b]) (by have h := HbG3.out.three (.int .i64 s) (.int .i64 l) (.int .i64 b); simp [results, Try.results41, go_sem, h.1, h.2.1, h.2.2.1]) rfl ?_
      refine ⟨⟨s, l, b⟩, c3, rfl, HT.out, K1.out, Hlen.out, v3, HL3.out.clk.modS (Mod.three_at _ _ _ _ _) (fun k hk e => ?_), ?_, fun k hk => (HL3.out.own k hk).imp id (fun h => Nat.le_trans HmW.out.size h)⟩
      · rcases hk with h | h
        · have := HG.out; have := HL.out.clk.blk.lt; exact HGS.out (.inl (by omega))
        · rcases HL3.out.own k h with h1 | h1
          · exact HGS.out (.inr (e ▸ h1))
          · have := HbW.out.lt; omega
      · exact (((HmW.out.mono (S' := ClkS g vp) (fun _ _ h => h.elim)).trans HL3.out.mod (fun _ _ h => h))).trans (Mod.three_at _ _ _ _ _) (fun i hi e => by have := HG.out; omega)
end Go.Proofs.Ytcoajldhhimmoaa

/- Room is made. -/
namespace Go.Proofs.Ytcoajldhhimmoaa
open Go.RowKit

/-- May room be made? -/
def RoomK (c : ClkN) : Prop := BaseK c ∧ ((cntK 1 c.ps + cntK 2 c.ps : Nat) : Int) ≤ c.most ∧ (((cntK 1 c.ps + cntK 2 c.ps : Nat) : Int) = c.most → c.ps.any isFree = true)
theorem room_step {c : ClkN} (h : RoomK c) (hf : c.most ≤ ((cntK 1 c.ps + cntK 2 c.ps : Nat) : Int)) (out : List KeyN) : RoomK (turnColdK c out).1 ∧ (turnColdK c out).2.length + (cntK 1 (turnColdK c out).1.ps + cntK 2 (turnColdK c out).1.ps) = out.length + (cntK 1 c.ps + cntK 2 c.ps) := by
  obtain ⟨h1, h2, h3⟩ := h
  obtain ⟨key, eo, ho, _⟩ := cold_ends h1 (h3 (by omega)) out
  obtain ⟨L1, L2, e1, e2⟩ := ho.res
  have k1 := res_len h1.pgs.1
  have k2 := res_len ho.base.pgs.1
  rw [e1] at k1
  rw [e2] at k2
  simp only [List.length_append, List.length_cons] at k1 k2
  have hm := ho.most
  exact ⟨⟨ho.base, by omega, fun e => by omega⟩, by rw [eo, List.length_append, List.length_singleton]; omega⟩
/-- Own rows of names stay where a clock is turned. -/
theorem names_stay {B2 g : Nat} {w w' : World} {vp v : Value} {rows : List (List Value)} {c : ClkN} {B : Nat} (h : OwnK 3 B2 w 28 v rows) (hc : ClkV B g w vp c) (hm : Mod (ClkS g vp) w w') : OwnK 3 B2 w' 28 v rows :=
  h.modS hm (fun k hk hs => by
    rcases hs with e | e
    · subst e
      exact own_blk_ne h.2 hc.blk (by decide) hk
    · exact owns_apart hc.ps.2 h.2 (by decide) k e hk)
/-- .. and a clock, where names are put to a row of them. -/
theorem clock_stays {B g B2 : Nat} {w w' : World} {vp v : Value} {rows : List (List Value)} {c : ClkN} (hc : ClkV B g w vp c) (h : OwnK 3 B2 w 28 v rows) (hm : Mod (fun k => v.ownBlock = some k) w w') : ClkV B g w' vp c :=
  hc.modS hm (fun k hk hs => by
    rcases hk with e | e
    · subst e
      exact own_blk_ne h.2 hc.blk (by decide) hs
    · exact owns_apart hc.ps.2 h.2 (by decide) k e hs)
theorem keyC_snoc (ks : List KeyN) (k : KeyN) : ks.map keyC ++ [[Value.int .i64 k.s, Value.int .i64 k.l, Value.int .i64 k.b]] = (ks ++ [k]).map keyC := by simp [keyC]
set_option maxHeartbeats 4000000 in
set_option maxRecDepth 100000 in
theorem makeRoom_any (B g : Nat) (vp : Value) (c : ClkN) (w : World) (h : ClkV B g w vp c) (hr : RoomK c) (ht : (cntK 3 c.ps : Int) ≤ c.most) (hn : c.ps.length ≤ 100000) :
    Calls Try.prog 32 #[.pointer (some ⟨g, 0, none⟩)] w fun e w' => ∃ vo, e = .returned vo ∧ OwnK 3 w.heap.size w' 28 vo ((roomK c).2.map keyC) ∧ ClkTo B g w w' vp (roomK c).1 := by
  obtain ⟨⟨K, hE⟩, _⟩ := room_ends hr.1 hr.2.1 hr.2.2 ht
  have HL := Lib.hid (LoopK.start h hr.1); have Hn := Lib.hid hn; have HE := Lib.hid hE; have HR := Lib.hid hr
  have H0 : Hid (OwnK 3 w.heap.size w 28 (.slice none 0 0) (([] : List KeyN).map keyC)) := Lib.hid (OwnK.nil _ _ _ _)
  clear h hn hE hr ht
  go_enter Try.func32, Try.ntmps32
  go_wp2_with fail
  go_loopg [3] K (fun k s3 wr => ∃ cx vx out, Ends roomF k (cx, out) (roomK c) ∧ RoomK cx ∧ out.length + (cntK 1 cx.ps + cntK 2 cx.ps) = cntK 1 c.ps + cntK 2 c.ps ∧ LoopK B g w wr vp c cx vx ∧ OwnK 3 w.heap.size wr 28 s3 (out.map keyC))
  case atStart => exact ⟨c, vp, [], HE.out, HR.out, by simp, HL.out, H0.out⟩
  case round =>
    obtain ⟨cx, vx, out, he, hrx, hox, hl, ho⟩ := hrel
    obtain ⟨A, n, cap, rfl, Hnn, hnc, hcm, hr⟩ := hl.clk.form
    have HEx := Lib.hid he; have Hlx := Lib.hid hl; have Hr := Lib.hid hr; have Hrx := Lib.hid hrx; have Hox := Lib.hid hox; have Ho := Lib.hid ho
    obtain ⟨y0, y1, y2, y3, y4, y5⟩ := hl.clk.cells
    obtain ⟨q, hq⟩ : ∃ q, cntK 1 cx.ps + cntK 2 cx.ps = q := ⟨_, rfl⟩
    have Hq := Lib.hid hq
    have hnl : n ≤ 1000000 := by have := Hnn.out; have := hl.len; have := Hn.out; omega
    have Hcnt : Hid (∀ W, Mod (fun _ => False) wr W → Calls Try.prog 28 #[.agg #[.int .i64 cx.most, .int .i64 cx.target, .slice A n cap, .int .i64 (cx.hot : Int), .int .i64 (cx.cold : Int), .int .i64 (cx.test : Int)], .func (.func 38) #[] #[]] W fun e w' => e = .returned (.int .i64 (q : Int)) ∧ Mod (fun _ => False) wr w') := Lib.hid (by
      intro W hW
      refine (count_any 38 PagN.resi (Lib.hid says_res) cx.most cx.target cx.hot cx.cold cx.test A n cap cx.ps W ((Hr.out.new hW).fit) hnl).mono ?_
      rintro e w1 ⟨rfl, hm1⟩
      rw [cnt_res, Hq.out]
      exact ⟨rfl, hW.trans hm1 (fun _ _ h => h)⟩)
    clear he hl hr hq hnc hcm hrx hox ho
    by_cases hgo : cx.most ≤ (q : Int)
    · have hgo2 : decide (cx.most ≤ (q : Int)) = true := decide_eq_true hgo
      have hroom : cx.most ≤ ((cntK 1 cx.ps + cntK 2 cx.ps : Nat) : Int) := by rw [Hq.out]; exact hgo
      obtain ⟨j, hj, hE1⟩ := HEx.out.some_ (roomF_some (out := out) hroom)
      have Hj := Lib.hid hj; have HE1 := Lib.hid hE1
      have Hst := Lib.hid (room_step Hrx.out hroom out)
      have Hfree : Hid (cx.ps.any isFree = true) := Lib.hid (Hrx.out.2.2 (by have := Hrx.out.2.1; omega))
      clear hj hE1 hroom
      go_upto_region 2 with fail
      go_cut [12] from 4 to 12 (fun s12 wx => s12 = .bool true ∧ Mod (fun _ => False) wr wx)
      case first =>
        go_region_with (first
          | (go_at_call 28; refine (Hcnt.out _ (Mod.refl _ _).drew).mono ?_; rintro e w1 ⟨rfl, hm1⟩; have HM1 := Lib.hid hm1; have z0 := (Hlx.out.new hm1).clk.cells.1; clear hm1))
        all_goals (
          go_wp2_with fail
          go_meet
          exact ⟨rfl, HM1.out⟩)
      case rest =>
        obtain ⟨rfl, hmc⟩ := hcut
        have HL1 := Lib.hid (Hlx.out.new hmc)
        have Ho1 := Lib.hid (Ho.out.mod hmc)
        clear hmc y0 y1 y2 y3 y4 y5
        go_wp2_with fail
        refine (turnCold_any B g _ cx out wc HL1.out.clk HL1.out.base Hfree.out (by have := HL1.out.len; have := Hn.out; omega)).mono ?_
        rintro e w2 ⟨key, c2, rfl, hT, hb2, hl2, ht⟩
        have Ho2 := Lib.hid (names_stay Ho1.out HL1.out.clk (by obtain ⟨_, _, h2, _⟩ := ht; exact h2))
        obtain ⟨v2, hlk⟩ := HL1.out.turn ht hb2 hl2
        have HL2 := Lib.hid hlk; have HT := Lib.hid hT; have Hb2 := Lib.hid hb2
        obtain ⟨⟨ks, kl, kb⟩, hkey⟩ : ∃ k, k = key := ⟨_, rfl⟩
        subst hkey
        dsimp only
        have hr1 : (out.map keyC).length + 1 ≤ maxLen := by rw [List.length_map]; have := Hox.out; have := HR.out.2.1; have := HR.out.1.most; unfold maxLen; omega
        have hr2 : ((out.map keyC).length + 1) * 24 ≤ 140737488355328 := by rw [List.length_map]; have := Hox.out; have := HR.out.2.1; have := HR.out.1.most; omega
        have hB2 : w.heap.size ≤ w2.heap.size := HL2.out.mod.size
        have hone : ∀ u ∈ [Value.int .i64 ks, Value.int .i64 kl, Value.int .i64 kb], u.oneCell' = true := by intro u hu; simp at hu; rcases hu with rfl | rfl | rfl <;> rfl
        clear hT hb2 hl2 ht hlk
        go_wp2_with (at_builtin; refine wpList_appK1g (r := [Value.int .i64 ks, Value.int .i64 kl, Value.int .i64 kb]) rfl (.tmp 13) (.tmp 16) _ rfl eltKey rfl Ho2.out rfl rfl rfl hone hr1 hr2 hB2 ?_; intro v3 w3 HO3 HM3 HT3; clear HT3)
        have HL3 : Hid (LoopK B g w w3 vp c c2 v2) := Lib.hid ⟨HL2.out.base, HL2.out.len, clock_stays HL2.out.clk Ho2.out HM3.out, HL2.out.mod.trans HM3.out (fun i hi hs => by have h1 := (Ho2.out.block i hs).1; omega), HL2.out.own⟩
        have HO4 : Hid (OwnK 3 w.heap.size w3 28 v3 ((out ++ [(⟨ks, kl, kb⟩ : KeyN)]).map keyC)) := Lib.hid (by rw [← keyC_snoc]; exact HO3.out)
        obtain ⟨_, _, _, K2, hE2⟩ := trim_ends Hb2.out
        have HE2 := Lib.hid hE2
        clear HM3 HO3 hE2 hr1 hr2 hB2 hone
        obtain ⟨go1, rfl⟩ : ∃ go1 : Nat, go1 = gk := ⟨_, rfl⟩
        go_loopg [] K2 (fun k wr => ∃ cy vy, Ends trimF k cy (trimK c2) ∧ LoopK B g w wr vp c cy vy ∧ OwnK 3 w.heap.size wr 28 v3 ((out ++ [(⟨ks, kl, kb⟩ : KeyN)]).map keyC))
        case atStart => exact ⟨c2, v2, HE2.out, HL3.out, HO4.out⟩
        case round =>
          obtain ⟨cy, vy, he, hl, ho⟩ := hrel
          obtain ⟨A, n, cap, rfl, Hny, hny, hcy, hr⟩ := hl.clk.form
          have HEy := Lib.hid he; have Hly := Lib.hid hl; have Hr := Lib.hid hr; have Hoy := Lib.hid ho
          obtain ⟨y0, y1, y2, y3, y4, y5⟩ := hl.clk.cells
          obtain ⟨q, hq⟩ : ∃ q, cntK 3 cy.ps = q := ⟨_, rfl⟩
          have Hq := Lib.hid hq
          have hnl : n ≤ 1000000 := by have := Hny.out; have := hl.len; have := Hn.out; omega
          have Hcnt : Hid (∀ W, Mod (fun _ => False) wr W → Calls Try.prog 28 #[.agg #[.int .i64 cy.most, .int .i64 cy.target, .slice A n cap, .int .i64 (cy.hot : Int), .int .i64 (cy.cold : Int), .int .i64 (cy.test : Int)], .func (.func 42) #[] #[]] W fun e w' => e = .returned (.int .i64 (q : Int)) ∧ Mod (fun _ => False) wr w') := Lib.hid (by
            intro W hW
            refine (count_any 42 isTest (Lib.hid says_test) cy.most cy.target cy.hot cy.cold cy.test A n cap cy.ps W ((Hr.out.new hW).fit) hnl).mono ?_
            rintro e w1 ⟨rfl, hm1⟩
            rw [cnt_test, Hq.out]
            exact ⟨rfl, hW.trans hm1 (fun _ _ h => h)⟩)
          clear he hl hr hq ho hny hcy
          by_cases hgy : cy.most < (q : Int)
          · have hgo3 : decide (cy.most < (q : Int)) = true := decide_eq_true hgy
            have hroom : cy.most < (cntK 3 cy.ps : Int) := by rw [Hq.out]; exact hgy
            obtain ⟨j2, hj2, hE3⟩ := HEy.out.some_ (trimF_some hroom)
            have Hj2 := Lib.hid hj2; have HE3 := Lib.hid hE3
            have Hte := Lib.hid (test_ends Hly.out.base)
            have Hq0 : Hid (cntK 3 cy.ps ≠ 0) := Lib.hid (by have := Hly.out.base.most; omega)
            clear hj2 hE3 hroom
            go_upto_region 4 with fail
            go_cut [26] from 18 to 26 (fun s26 wx => s26 = .bool true ∧ Mod (fun _ => False) wr wx)
            case first =>
              go_region_with (first
                | (go_at_call 28; refine (Hcnt.out _ (Mod.refl _ _).drew).mono ?_; rintro e w1 ⟨rfl, hm1⟩; have HM1 := Lib.hid hm1; have z0 := (Hly.out.new hm1).clk.cells.1; clear hm1))
              all_goals (
                go_wp2_with fail
                go_meet
                exact ⟨rfl, HM1.out⟩)
            case rest =>
              obtain ⟨rfl, hmc⟩ := hcut
              have HL5 := Lib.hid (Hly.out.new hmc)
              have Ho5 := Lib.hid (Hoy.out.mod hmc)
              clear hmc y0 y1 y2 y3 y4 y5
              go_wp2_with fail
              refine (turnTest_any B g _ cy _ HL5.out.clk HL5.out.base Hq0.out (by have := HL5.out.len; have := Hn.out; omega)).mono ?_
              rintro e w6 ⟨rfl, ht⟩
              have Ho6 := Lib.hid (names_stay Ho5.out HL5.out.clk (by obtain ⟨_, _, h2, _⟩ := ht; exact h2))
              obtain ⟨v6, hlk⟩ := HL5.out.turn ht Hte.out.1.base Hte.out.1.len
              have HL6 := Lib.hid hlk
              clear ht hlk
              go_wp2_with fail
              go_roundg (gk - 1)
              case measure => have := Hj2.out; omega
              case rel =>
                have e1 : gk - 1 = j2 := by have := Hj2.out; omega
                rw [e1]
                exact ⟨_, v6, HE3.out, HL6.out, Ho6.out⟩
          · have hgo3 : decide (cy.most < (q : Int)) = false := decide_eq_false hgy
            have He := Lib.hid (HEy.out.none_ (trimF_none (by rw [Hq.out]; exact hgy)))
            go_upto_region 4 with fail
            go_cut [26] from 18 to 26 (fun s26 wx => s26 = .bool false ∧ Mod (fun _ => False) wr wx)
            case first =>
              go_region_with (first
                | (go_at_call 28; refine (Hcnt.out _ (Mod.refl _ _).drew).mono ?_; rintro e w1 ⟨rfl, hm1⟩; have HM1 := Lib.hid hm1; have z0 := (Hly.out.new hm1).clk.cells.1; clear hm1))
              all_goals (
                go_wp2_with fail
                go_meet
                exact ⟨rfl, HM1.out⟩)
            case rest =>
              obtain ⟨rfl, hmc⟩ := hcut
              have HL5 := Lib.hid (Hly.out.new hmc)
              have Ho5 := Lib.hid (Hoy.out.mod hmc)
              clear hmc y0 y1 y2 y3 y4 y5
              go_wp2_with fail
              go_roundg (go1 - 1)
              case measure => have := Hj.out; omega
              case rel =>
                have e1 : go1 - 1 = j := by have := Hj.out; omega
                have e2 := He.out.2
                have hst := Hst.out
                have hE1 := HE1.out
                rw [HT.out] at hst hE1
                simp only at hst
                rw [e1]
                rw [e2] at hst hE1
                exact ⟨cy, _, _, hE1, hst.1, by have := hst.2; have := Hox.out; omega, HL5.out, Ho5.out⟩
    · have hgo2 : decide (cx.most ≤ (q : Int)) = false := decide_eq_false hgo
      have He := Lib.hid (HEx.out.none_ (roomF_none (out := out) (by rw [Hq.out]; exact hgo)))
      go_upto_region 2 with fail
      go_cut [12] from 4 to 12 (fun s12 wx => s12 = .bool false ∧ Mod (fun _ => False) wr wx)
      case first =>
        go_region_with (first
          | (go_at_call 28; refine (Hcnt.out _ (Mod.refl _ _).drew).mono ?_; rintro e w1 ⟨rfl, hm1⟩; have HM1 := Lib.hid hm1; have z0 := (Hlx.out.new hm1).clk.cells.1; clear hm1))
        all_goals (
          go_wp2_with fail
          go_meet
          exact ⟨rfl, HM1.out⟩)
      case rest =>
        obtain ⟨rfl, hmc⟩ := hcut
        have HL1 := Lib.hid (Hlx.out.new hmc)
        have Ho1 := Lib.hid (Ho.out.mod hmc)
        go_wp2_with fail
        go_ret
        have e := He.out.2
        exact ⟨_, rfl, by rw [e]; exact Ho1.out, by rw [e]; exact HL1.out.done⟩
end Go.Proofs.Ytcoajldhhimmoaa

/- Where a name is resident; pins; as what a page comes. -/
namespace Go.Proofs.Ytcoajldhhimmoaa
open Go.RowKit

/-- What residentOf answers. -/
def ResPtr (c : ClkN) (k : KeyN) (A : Option Addr) (v : Option Addr) : Prop :=
  (resAt c k = false ∧ v = none) ∨ (resAt c k = true ∧ ∃ i p ad, findK k c.ps = some i ∧ c.ps[i]? = some p ∧ p.resi = true ∧ A = some ad ∧ v = some (ad.add (i * 7)))
theorem findK_get {k : KeyN} {ps : List PagN} {i : Nat} (h : findK k ps = some i) : ∃ p, ps[i]? = some p ∧ p.key = k ∧ i < ps.length := by
  obtain ⟨p, hp, hk⟩ := findK_some h
  exact ⟨p, hp, hk, (List.getElem?_eq_some_iff.1 hp).1⟩
/-- Two boxes: a clock, a name. -/
theorem two_boxes (w : World) (cs ks : Array Value) : ∃ W, W = (w.alloc (.cells cs 36)).alloc (.cells ks 28) ∧ Mod (fun _ => False) w W ∧ Blk W w.heap.size 36 cs ∧ Blk W (w.heap.size + 1) 28 ks ∧ W.heap.size = w.heap.size + 2 := by
  refine ⟨_, rfl, ((Mod.refl _ _).alloc _).alloc _, (Blk.new _ _ _).alloc _, ?_, by simp⟩
  have h := Blk.new (w.alloc (.cells cs 36)) 28 ks
  simpa using h
set_option maxHeartbeats 2000000 in
set_option maxRecDepth 100000 in
theorem residentOf_any (c : ClkN) (k : KeyN) (A : Option Addr) (n cap : Nat) (w : World) (hs : RdsP w w.heap.size A n c.ps) (hn : n ≤ 100000) :
    Calls Try.prog 27 #[.agg #[.int .i64 c.most, .int .i64 c.target, .slice A n cap, .int .i64 (c.hot : Int), .int .i64 (c.cold : Int), .int .i64 (c.test : Int)], .agg #[.int .i64 k.s, .int .i64 k.l, .int .i64 k.b]] w fun e w' => ∃ v, e = .returned (.pointer v) ∧ ResPtr c k A v ∧ Mod (fun _ => False) w w' := by
  obtain ⟨W, hW, hmW, hbW, hkW, hzW⟩ := two_boxes w #[.int .i64 c.most, .int .i64 c.target, .slice A n cap, .int .i64 (c.hot : Int), .int .i64 (c.cold : Int), .int .i64 (c.test : Int)] #[.int .i64 k.s, .int .i64 k.l, .int .i64 k.b]
  obtain ⟨g, hg⟩ : ∃ g, g = w.heap.size := ⟨_, rfl⟩
  obtain ⟨g2, hg2⟩ : ∃ g, g = w.heap.size + 1 := ⟨_, rfl⟩
  rw [← hg] at hbW
  rw [← hg2] at hkW
  have y0 := hbW.cell 0
  have y1 := hbW.cell 1
  have y2 := hbW.cell 2
  have y3 := hbW.cell 3
  have y4 := hbW.cell 4
  have y5 := hbW.cell 5
  have z0 := hkW.cell 0
  have z1 := hkW.cell 1
  have z2 := hkW.cell 2
  simp at y0 y1 y2 y3 y4 y5 z0 z1 z2
  have Hs := Lib.hid (hs.new hmW).fit; have Hl := Lib.hid hs.len
  have HW := Lib.hid hW; have HmW := Lib.hid hmW; have HbW := Lib.hid hbW; have Hg := Lib.hid hg; have Hg2 := Lib.hid hg2
  clear hs hW hmW hbW hkW hg hg2 hzW
  go_enter Try.func27, Try.ntmps27
  go_upto_region 1 with fail
  rw [← HW.out, ← Hg2.out, ← Hg.out]
  go_wp2_with fail
  refine (find_any c k A n cap W Hs.out (by omega)).mono ?_
  rintro e w1 ⟨rfl, hm1⟩
  have Hm1 := Lib.hid (HmW.out.trans hm1 (fun _ _ h => h))
  have hb1 := hm1.blk HbW.out (fun h => h)
  have u2 := hb1.cell 2
  simp at u2
  have Hs1 := Lib.hid (Hs.out.new hm1).fit
  have Hb1 := Lib.hid hb1
  clear hm1 hb1 y0 y1 y2 y3 y4 y5 z0 z1 z2
  cases hf : findK k c.ps with
  | none =>
    have hr : resAt c k = false := by unfold resAt; rw [hf]
    have Hr := Lib.hid hr
    rw [show placeK k c.ps = -1 by unfold placeK; rw [hf]]
    clear hf hr
    go_wp2_with fail
    go_ret
    exact ⟨none, rfl, .inl ⟨Hr.out, rfl⟩, Hm1.out⟩
  | some i =>
    obtain ⟨p, hp, hk, hi⟩ := findK_get hf
    rw [show placeK k c.ps = (i : Int) by unfold placeK; rw [hf]]
    have hin : i < n := by have := Hl.out; omega
    obtain ⟨ad, p', rfl, _, hp', c0, c1, c2, c3, c4, c5, c6⟩ := Hs1.out.at_ hin
    rw [hp] at hp'
    injection hp' with hp'
    subst hp'
    have hin' : (i : Int) < (n : Int) := by omega
    have h0 : ¬ (i : Int) < 0 := by omega
    have hr : resAt c k = p.resi := by unfold resAt; rw [hf]; simp only [hp]
    have Hf := Lib.hid hf; have Hp := Lib.hid hp; have Hr := Lib.hid hr
    clear hf hp hr hk hi
    go_wp2_with fail
    refine (isRes_any p w1).mono ?_
    rintro e w2 ⟨rfl, hm2⟩
    have hb2 := hm2.blk Hb1.out (fun h => h)
    have v2 := hb2.cell 2
    simp at v2
    obtain ⟨r, hrr⟩ : ∃ r, p.resi = r := ⟨_, rfl⟩
    rw [hrr]
    have Hrr := Lib.hid hrr; have Hm2 := Lib.hid (Hm1.out.trans hm2 (fun _ _ h => h))
    clear hrr hm2 hb2 c0 c1 c2 c3 c4 c5 c6
    cases r with
    | true =>
      go_wp2_with fail
      go_ret
      exact ⟨_, rfl, .inr ⟨Hr.out.trans Hrr.out, i, p, ad, Hf.out, Hp.out, Hrr.out, rfl, rfl⟩, Hm2.out⟩
    | false =>
      go_wp2_with fail
      go_ret
      exact ⟨none, rfl, .inl ⟨Hr.out.trans Hrr.out, rfl⟩, Hm2.out⟩
set_option maxHeartbeats 1000000 in
set_option maxRecDepth 100000 in
theorem moreOf_any (p n : Int) (w : World) (hp : 0 ≤ p ∧ p ≤ 1000000) (hn : -1000000 ≤ n ∧ n ≤ 1000000) :
    Calls Try.prog 49 #[.int .i64 p, .int .i64 n] w fun e w' => e = .returned (.int .i64 (max (p + n) 0)) ∧ w' = w := by
  obtain ⟨M, hM⟩ : ∃ M, max 0 (p + n) = M := ⟨_, rfl⟩
  have hmax := maxI_is (P := Try.prog) (t := 3) (ty := 3) hM
  have e : max (p + n) 0 = M := by omega
  rw [e]
  obtain ⟨p1, p2⟩ := hp
  obtain ⟨n1, n2⟩ := hn
  have b1 : ¬ 9223372036854775807 - n < p := by omega
  clear hM e
  go_enter Try.func49, Try.ntmps49
  by_cases h0 : 0 < n
  · go_wp2_with fail
    go_ret
    exact ⟨rfl, rfl⟩
  · go_wp2_with fail
    go_ret
    exact ⟨rfl, rfl⟩
end Go.Proofs.Ytcoajldhhimmoaa

/- Touch, Pin, Drop of the code. -/
namespace Go.Proofs.Ytcoajldhhimmoaa
open Go.RowKit

/-- Three boxes: a clock, a name, what is answered. -/
theorem three_boxes (w : World) (cs ks zs : Array Value) : ∃ W, W = ((w.alloc (.cells cs 36)).alloc (.cells ks 28)).alloc (.cells zs 36) ∧ Mod (fun _ => False) w W ∧ Blk W w.heap.size 36 cs ∧ Blk W (w.heap.size + 1) 28 ks ∧ Blk W (w.heap.size + 2) 36 zs ∧ W.heap.size = w.heap.size + 3 := by
  refine ⟨_, rfl, (((Mod.refl _ _).alloc _).alloc _).alloc _, ((Blk.new _ _ _).alloc _).alloc _, ?_, ?_, by simp⟩
  · have h := (Blk.new (w.alloc (.cells cs 36)) 28 ks).alloc (.cells zs 36)
    simpa using h
  · have h := Blk.new ((w.alloc (.cells cs 36)).alloc (.cells ks 28)) 36 zs
    simpa using h
/-- A clock and whether it was: the clock's pages are the call's own. -/
def CkEnd (w w' : World) (c : ClkN) (b : Bool) (e : Ending) : Prop :=
  ∃ vp, e = .returned (.tuple #[.agg #[.int .i64 c.most, .int .i64 c.target, vp, .int .i64 (c.hot : Int), .int .i64 (c.cold : Int), .int .i64 (c.test : Int)], .bool b]) ∧ OwnP w.heap.size w' 39 vp c.ps ∧ Mod (fun _ => False) w w'
/-- Copied and laid into its box. -/
theorem clk_laid {w W w1 : World} {g0 : Nat} {cs : Array Value} {c : ClkN} {vp : Value} (hb : Blk W g0 36 cs) (hc : cs.size = 6) (_hg : w.heap.size = g0) (_hmW : Mod (fun _ => False) w W) (ho : OwnP (W.heap.size + 2) w1 39 vp c.ps) (hm : Mod (fun _ => False) W w1) :
    ∃ w2, w2 = (((((w1.setCell ⟨g0, 0, none⟩ (.int .i64 c.most)).setCell ⟨g0, 1, none⟩ (.int .i64 c.target)).setCell ⟨g0, 2, none⟩ vp).setCell ⟨g0, 3, none⟩ (.int .i64 (c.hot : Int))).setCell ⟨g0, 4, none⟩ (.int .i64 (c.cold : Int))).setCell ⟨g0, 5, none⟩ (.int .i64 (c.test : Int)) ∧
      ClkV W.heap.size g0 w2 vp c ∧ Mod (fun k => k = g0) W w2 := by
  have hb1 := hm.blk hb (fun h => h)
  have hm2 := Mod.six_one w1 g0 (.int .i64 c.most) (.int .i64 c.target) vp (.int .i64 (c.hot : Int)) (.int .i64 (c.cold : Int)) (.int .i64 (c.test : Int))
  have hgl := hb.lt
  refine ⟨_, rfl, ⟨?_, ?_⟩, (hm.mono (fun _ _ h => h.elim)).trans hm2 (fun _ _ h => h)⟩
  · obtain ⟨c0, c1, c2, c3, c4, c5, rfl⟩ : ∃ c0 c1 c2 c3 c4 c5, cs = #[c0, c1, c2, c3, c4, c5] := by
      obtain ⟨l⟩ := cs
      match l, hc with
      | [a, b, c, d, e, f], _ => exact ⟨a, b, c, d, e, f, rfl⟩
    exact (hb1.six _ _ _ _ _ _).2.2.2.2.2.2
  · exact OwnP.mono (OwnK.modS ho hm2 (fun k hk e => by have := (OwnK.block ho k hk).1; omega)) (by omega)
/-- What is answered is stored: all is new. -/
theorem clk_end {w W wq : World} {g0 g2 : Nat} {cs : Array Value} {c : ClkN} {vp v1 : Value} {b : Bool} (hg0 : w.heap.size = g0) (hg2 : w.heap.size + 2 = g2) (hzW : W.heap.size = w.heap.size + 3) (hmW : Mod (fun _ => False) w W) (hr : Blk W g2 36 cs)
    (hc : ClkV W.heap.size g0 wq vp c) (hv1 : ∀ k, v1.ownBlock = some k → W.heap.size ≤ k) (hm : Mod (ClkS g0 v1) W wq) :
    Blk wq g2 36 cs ∧ ∀ w', Mod (fun k => k = g2) wq w' → CkEnd w w' c b (.returned (.tuple #[.agg #[.int .i64 c.most, .int .i64 c.target, vp, .int .i64 (c.hot : Int), .int .i64 (c.cold : Int), .int .i64 (c.test : Int)], .bool b])) := by
  have h2S : ¬ ClkS g0 v1 g2 := by
    rintro (h | h)
    · omega
    · have := hv1 g2 h; omega
  refine ⟨hm.blk hr h2S, fun w' hm' => ⟨vp, rfl, ?_, ?_⟩⟩
  · exact OwnK.mono (OwnK.modS hc.ps hm' (fun k hk e => by have := (hc.lt k hk).1; omega)) (by omega)
  · have h1 : Mod (fun k => w.heap.size ≤ k) W wq := hm.mono (fun i hi h => by
      rcases h with h | h
      · omega
      · have := hv1 i h; omega)
    exact hmW.trans (h1.trans hm' (fun i hi h => by omega)) (fun i hi h => by omega)
theorem touch_no {c : ClkN} {k : KeyN} (h : resAt c k = false) : touchK c k = (c, false) := by
  unfold resAt at h
  unfold touchK
  cases hf : findK k c.ps with
  | none => rfl
  | some i =>
    rw [hf] at h
    simp only at h ⊢
    cases hp : c.ps[i]? with
    | none => rfl
    | some p =>
      rw [hp] at h
      simp only at h ⊢
      rw [h]
      rfl
theorem touch_yes {c : ClkN} {k : KeyN} {i : Nat} {p : PagN} (hf : findK k c.ps = some i) (hp : c.ps[i]? = some p) (hr : p.resi = true) : touchK c k = ({ c with ps := c.ps.set i { p with ref := true } }, true) := by
  unfold touchK
  rw [hf]
  simp only [hp]
  rw [if_pos hr]
theorem pin_no {c : ClkN} {k : KeyN} (h : resAt c k = false) (n : Int) : pinK c k n = (c, false) := by
  unfold resAt at h
  unfold pinK
  cases hf : findK k c.ps with
  | none => rfl
  | some i =>
    rw [hf] at h
    simp only at h ⊢
    cases hp : c.ps[i]? with
    | none => rfl
    | some p =>
      rw [hp] at h
      simp only at h ⊢
      rw [h]
      rfl
theorem pin_yes {c : ClkN} {k : KeyN} {i : Nat} {p : PagN} (n : Int) (hf : findK k c.ps = some i) (hp : c.ps[i]? = some p) (hr : p.resi = true) : pinK c k n = ({ c with ps := c.ps.set i { p with pins := max (p.pins + n) 0 } }, true) := by
  unfold pinK
  rw [hf]
  simp only [hp]
  rw [if_pos hr]
theorem drop_no {c : ClkN} {k : KeyN} (h : findK k c.ps = none) : dropK c k = (c, false) := by unfold dropK; rw [h]
theorem drop_yes {c : ClkN} {k : KeyN} {i : Nat} (h : findK k c.ps = some i) : dropK c k = (goesK c i, true) := by unfold dropK; rw [h]
set_option maxHeartbeats 4000000 in
set_option maxRecDepth 100000 in
theorem ckTouch_any (c : ClkN) (k : KeyN) (A : Option Addr) (n cap : Nat) (w : World) (hs : RdsP w w.heap.size A n c.ps) (hn : n ≤ 100000) :
    Calls Try.prog 22 #[.agg #[.int .i64 c.most, .int .i64 c.target, .slice A n cap, .int .i64 (c.hot : Int), .int .i64 (c.cold : Int), .int .i64 (c.test : Int)], .agg #[.int .i64 k.s, .int .i64 k.l, .int .i64 k.b]] w fun e w' => CkEnd w w' (touchK c k).1 (touchK c k).2 e := by
  obtain ⟨W, hW, hmW, hbW, hkW, hrW, hzW⟩ := three_boxes w #[.int .i64 c.most, .int .i64 c.target, .slice A n cap, .int .i64 (c.hot : Int), .int .i64 (c.cold : Int), .int .i64 (c.test : Int)] #[.int .i64 k.s, .int .i64 k.l, .int .i64 k.b] #[.int .i64 0, .int .i64 0, .slice none 0 0, .int .i64 0, .int .i64 0, .int .i64 0]
  obtain ⟨g0, hg0⟩ : ∃ g, g = w.heap.size := ⟨_, rfl⟩
  obtain ⟨g1, hg1⟩ : ∃ g, g = w.heap.size + 1 := ⟨_, rfl⟩
  obtain ⟨g2, hg2⟩ : ∃ g, g = w.heap.size + 2 := ⟨_, rfl⟩
  rw [← hg0] at hbW
  rw [← hg1] at hkW
  rw [← hg2] at hrW
  have y0 := hbW.cell 0
  have y1 := hbW.cell 1
  have y2 := hbW.cell 2
  have y3 := hbW.cell 3
  have y4 := hbW.cell 4
  have y5 := hbW.cell 5
  simp at y0 y1 y2 y3 y4 y5
  have Hs := Lib.hid (hs.new hmW).fit; have Hl := Lib.hid hs.len
  have HW := Lib.hid hW; have HmW := Lib.hid hmW; have HbW := Lib.hid hbW; have HkW := Lib.hid hkW; have HrW := Lib.hid hrW; have Hg0 := Lib.hid hg0; have Hg1 := Lib.hid hg1; have Hg2 := Lib.hid hg2; have HzW := Lib.hid hzW; have Hn := Lib.hid hn
  clear hs hW hmW hbW hkW hrW hg0 hg1 hg2 hzW hn
  go_enter Try.func22, Try.ntmps22
  go_upto_region 1 with fail
  rw [← HW.out, ← Hg2.out, ← Hg1.out, ← Hg0.out]
  go_wp2_with fail
  refine (ckCopied_any c A n cap W Hs.out (by have := Hn.out; omega)).mono ?_
  rintro e w1 ⟨vp, rfl, ho1, hm1⟩
  obtain ⟨A1, c1, rfl, hnc1, hcm1, hrd1⟩ := OwnP.form ho1
  obtain ⟨n1, hn1⟩ : ∃ n1, c.ps.length = n1 := ⟨_, rfl⟩
  rw [hn1] at ho1 hnc1 hrd1 ⊢
  dsimp only [clkC]
  obtain ⟨w2, hw2, hc2, hm2⟩ := clk_laid HbW.out rfl Hg0.out.symm HmW.out ho1 hm1
  have hk2 := hm2.blk HkW.out (by have := Hg0.out; have := Hg1.out; omega)
  have hb1 := hm1.blk HbW.out (fun h => h)
  have u0 := hb1.cell 0
  have u1 := hb1.cell 1
  have u2 := hb1.cell 2
  have u3 := hb1.cell 3
  have u4 := hb1.cell 4
  have u5 := hb1.cell 5
  have f0 := hb1.frozen 0
  have f1 := hb1.frozen 1
  have f2 := hb1.frozen 2
  have f3 := hb1.frozen 3
  have f4 := hb1.frozen 4
  have f5 := hb1.frozen 5
  simp at u0 u1 u2 u3 u4 u5
  have Hw2 := Lib.hid hw2; have Hc2 := Lib.hid hc2; have Hm2 := Lib.hid hm2; have Hn1 := Lib.hid hn1; have Hk2 := Lib.hid hk2
  have Hv1 : Hid (∀ j, (Value.slice A1 n1 c1).ownBlock = some j → W.heap.size ≤ j) := Lib.hid (fun j hj => (hc2.lt j hj).1)
  clear y0 y1 y2 y3 y4 y5 hw2 hc2 hm2 hk2 hn1 hb1 ho1 hm1 hnc1 hcm1 hrd1
  go_upto_region 2 with fail
  rw [← Hw2.out]
  clear u0 u1 u2 u3 u4 u5 f0 f1 f2 f3 f4 f5
  obtain ⟨y0, y1, y2, y3, y4, y5⟩ := Hc2.out.cells
  have z0 := Hk2.out.cell 0
  have z1 := Hk2.out.cell 1
  have z2 := Hk2.out.cell 2
  simp at z0 z1 z2
  have Hs2 : Hid (RdsP w2 w2.heap.size A1 n1 c.ps) := Lib.hid (OwnK.rds Hc2.out.ps (by rw [List.length_map]; exact Hn1.out))
  go_wp2_with fail
  refine (residentOf_any c k A1 n1 c1 w2 Hs2.out (by have := Hn1.out; have := Hl.out; have := Hn.out; omega)).mono ?_
  rintro e w3 ⟨v, rfl, hrp, hm3⟩
  have Hc3 := Lib.hid (Hc2.out.new hm3)
  have Hm3 := Lib.hid (Hm2.out.trans hm3 (fun _ _ h => h.elim))
  clear hm3 y0 y1 y2 y3 y4 y5 z0 z1 z2
  rcases hrp with ⟨hr, rfl⟩ | ⟨hr, i, p, ad, hf, hp, hres, hA, rfl⟩
  · have Hrr := Lib.hid hr
    clear hr
    have hend := clk_end (b := false) Hg0.out.symm Hg2.out.symm HzW.out HmW.out HrW.out Hc3.out Hv1.out (Hm3.out.mono (fun _ _ h => .inl h))
    have Hb9 := Lib.hid hend.1; have HE9 := Lib.hid hend.2
    have q0 := hend.1.cell 0
    have q1 := hend.1.cell 1
    have q2 := hend.1.cell 2
    have q3 := hend.1.cell 3
    have q4 := hend.1.cell 4
    have q5 := hend.1.cell 5
    have p0 := hend.1.frozen 0
    have p1 := hend.1.frozen 1
    have p2 := hend.1.frozen 2
    have p3 := hend.1.frozen 3
    have p4 := hend.1.frozen 4
    have p5 := hend.1.frozen 5
    simp at q0 q1 q2 q3 q4 q5
    obtain ⟨y0, y1, y2, y3, y4, y5⟩ := Hc3.out.cells
    clear hend
    go_wp2_with fail
    refine bodyPost_ret (v := .tuple #[.agg #[.int .i64 c.most, .int .i64 c.target, (.slice A1 n1 c1), .int .i64 (c.hot : Int), .int .i64 (c.cold : Int), .int .i64 (c.test : Int)], .bool false]) (by have h := Hb9.out.six (.int .i64 c.most) (.int .i64 c.target) (.slice A1 n1 c1) (.int .i64 (c.hot : Int)) (.int .i64 (c.cold : Int)) (.int .i64 (c.test : Int)); simp [results, Try.results22, go_sem, h.1, h.2.1, h.2.2.1, h.2.2.2.1, h.2.2.2.2.1, h.2.2.2.2.2.1]) rfl ?_
    rw [touch_no Hrr.out]
    exact HE9.out _ (Mod.six_one _ _ _ _ _ _ _ _)
  · have h1 := Hc3.out
    obtain ⟨pg, n4, cap4, hv4, Hnn, hnc, hcm, hin, Hpg, hne, x0, x1, x2, x3, x4, x5, x6, fz⟩ := h1.at_ hp
    injection hv4 with hA4 hn4 hc4
    subst hn4 hc4
    rw [hA4] at hA
    injection hA with hA
    subst hA
    subst hA4
    have hat7 : (⟨pg, 0, none⟩ : Addr).add (i * 7) = ⟨pg, i * 7, none⟩ := by rw [add_addr, Nat.zero_add]
    rw [hat7]
    have Hf := Lib.hid hf; have Hp := Lib.hid hp; have Hres := Lib.hid hres
    clear h1 hf hp hres hnc hcm hin hne x0 x1 x2 x3 x5 hr
    clear x6
    go_upto_region 6 with fail
    have h4 := Hc3.out.field (i := i) (j := 4) (u := .bool true) (q := { p with ref := true }) Hnn.out Hp.out (by decide) rfl
    have hm4 := (Hm3.out.mono (S' := ClkS g0 (.slice (some ⟨pg, 0, none⟩) n1 c1)) (fun _ _ h => .inl h)).setCell (p := ⟨pg, i * 7 + 4, none⟩) (fun _ => .inr rfl) (.bool true)
    obtain ⟨w4, hw4⟩ : ∃ w4, w4 = w3.setCell ⟨pg, i * 7 + 4, none⟩ (.bool true) := ⟨_, rfl⟩
    rw [← hw4] at h4 hm4 ⊢
    have Hc4 := Lib.hid h4; have Hm4 := Lib.hid hm4
    clear h4 hm4 hw4 fz x4
    have hend := clk_end (b := true) Hg0.out.symm Hg2.out.symm HzW.out HmW.out HrW.out Hc4.out Hv1.out Hm4.out
    have Hb9 := Lib.hid hend.1; have HE9 := Lib.hid hend.2
    have q0 := hend.1.cell 0
    have q1 := hend.1.cell 1
    have q2 := hend.1.cell 2
    have q3 := hend.1.cell 3
    have q4 := hend.1.cell 4
    have q5 := hend.1.cell 5
    have p0 := hend.1.frozen 0
    have p1 := hend.1.frozen 1
    have p2 := hend.1.frozen 2
    have p3 := hend.1.frozen 3
    have p4 := hend.1.frozen 4
    have p5 := hend.1.frozen 5
    simp at q0 q1 q2 q3 q4 q5
    obtain ⟨y0, y1, y2, y3, y4, y5⟩ := Hc4.out.cells
    clear hend
    go_wp2_with fail
    refine bodyPost_ret (v := .tuple #[.agg #[.int .i64 c.most, .int .i64 c.target, (.slice (some ⟨pg, 0, none⟩) n1 c1), .int .i64 (c.hot : Int), .int .i64 (c.cold : Int), .int .i64 (c.test : Int)], .bool true]) (by have h := Hb9.out.six (.int .i64 c.most) (.int .i64 c.target) (.slice (some ⟨pg, 0, none⟩) n1 c1) (.int .i64 (c.hot : Int)) (.int .i64 (c.cold : Int)) (.int .i64 (c.test : Int)); simp [results, Try.results22, go_sem, h.1, h.2.1, h.2.2.1, h.2.2.2.1, h.2.2.2.2.1, h.2.2.2.2.2.1]) rfl ?_
    rw [touch_yes Hf.out Hp.out Hres.out]
    exact HE9.out _ (Mod.six_one _ _ _ _ _ _ _ _)
set_option maxHeartbeats 4000000 in
set_option maxRecDepth 100000 in
theorem ckPin_any (c : ClkN) (k : KeyN) (m : Int) (A : Option Addr) (n cap : Nat) (w : World) (hs : RdsP w w.heap.size A n c.ps) (hn : n ≤ 100000) (hm0 : -1000000 ≤ m ∧ m ≤ 1000000) (hpins : ∀ p ∈ c.ps, 0 ≤ p.pins ∧ p.pins ≤ 1000000) :
    Calls Try.prog 36 #[.agg #[.int .i64 c.most, .int .i64 c.target, .slice A n cap, .int .i64 (c.hot : Int), .int .i64 (c.cold : Int), .int .i64 (c.test : Int)], .agg #[.int .i64 k.s, .int .i64 k.l, .int .i64 k.b], .int .i64 m] w fun e w' => CkEnd w w' (pinK c k m).1 (pinK c k m).2 e := by
  obtain ⟨W, hW, hmW, hbW, hkW, hrW, hzW⟩ := three_boxes w #[.int .i64 c.most, .int .i64 c.target, .slice A n cap, .int .i64 (c.hot : Int), .int .i64 (c.cold : Int), .int .i64 (c.test : Int)] #[.int .i64 k.s, .int .i64 k.l, .int .i64 k.b] #[.int .i64 0, .int .i64 0, .slice none 0 0, .int .i64 0, .int .i64 0, .int .i64 0]
  obtain ⟨g0, hg0⟩ : ∃ g, g = w.heap.size := ⟨_, rfl⟩
  obtain ⟨g1, hg1⟩ : ∃ g, g = w.heap.size + 1 := ⟨_, rfl⟩
  obtain ⟨g2, hg2⟩ : ∃ g, g = w.heap.size + 2 := ⟨_, rfl⟩
  rw [← hg0] at hbW
  rw [← hg1] at hkW
  rw [← hg2] at hrW
  have y0 := hbW.cell 0
  have y1 := hbW.cell 1
  have y2 := hbW.cell 2
  have y3 := hbW.cell 3
  have y4 := hbW.cell 4
  have y5 := hbW.cell 5
  simp at y0 y1 y2 y3 y4 y5
  have Hs := Lib.hid (hs.new hmW).fit; have Hl := Lib.hid hs.len
  have HW := Lib.hid hW; have HmW := Lib.hid hmW; have HbW := Lib.hid hbW; have HkW := Lib.hid hkW; have HrW := Lib.hid hrW; have Hg0 := Lib.hid hg0; have Hg1 := Lib.hid hg1; have Hg2 := Lib.hid hg2; have HzW := Lib.hid hzW; have Hn := Lib.hid hn
  have Hm0 := Lib.hid hm0; have Hpins := Lib.hid hpins
  clear hm0 hpins
  clear hs hW hmW hbW hkW hrW hg0 hg1 hg2 hzW hn
  go_enter Try.func36, Try.ntmps36
  go_upto_region 1 with fail
  rw [← HW.out, ← Hg2.out, ← Hg1.out, ← Hg0.out]
  go_wp2_with fail
  refine (ckCopied_any c A n cap W Hs.out (by have := Hn.out; omega)).mono ?_
  rintro e w1 ⟨vp, rfl, ho1, hm1⟩
  obtain ⟨A1, c1, rfl, hnc1, hcm1, hrd1⟩ := OwnP.form ho1
  obtain ⟨n1, hn1⟩ : ∃ n1, c.ps.length = n1 := ⟨_, rfl⟩
  rw [hn1] at ho1 hnc1 hrd1 ⊢
  dsimp only [clkC]
  obtain ⟨w2, hw2, hc2, hm2⟩ := clk_laid HbW.out rfl Hg0.out.symm HmW.out ho1 hm1
  have hk2 := hm2.blk HkW.out (by have := Hg0.out; have := Hg1.out; omega)
  have hb1 := hm1.blk HbW.out (fun h => h)
  have u0 := hb1.cell 0
  have u1 := hb1.cell 1
  have u2 := hb1.cell 2
  have u3 := hb1.cell 3
  have u4 := hb1.cell 4
  have u5 := hb1.cell 5
  have f0 := hb1.frozen 0
  have f1 := hb1.frozen 1
  have f2 := hb1.frozen 2
  have f3 := hb1.frozen 3
  have f4 := hb1.frozen 4
  have f5 := hb1.frozen 5
  simp at u0 u1 u2 u3 u4 u5
  have Hw2 := Lib.hid hw2; have Hc2 := Lib.hid hc2; have Hm2 := Lib.hid hm2; have Hn1 := Lib.hid hn1; have Hk2 := Lib.hid hk2
  have Hv1 : Hid (∀ j, (Value.slice A1 n1 c1).ownBlock = some j → W.heap.size ≤ j) := Lib.hid (fun j hj => (hc2.lt j hj).1)
  clear y0 y1 y2 y3 y4 y5 hw2 hc2 hm2 hk2 hn1 hb1 ho1 hm1 hnc1 hcm1 hrd1
  go_upto_region 2 with fail
  rw [← Hw2.out]
  clear u0 u1 u2 u3 u4 u5 f0 f1 f2 f3 f4 f5
  obtain ⟨y0, y1, y2, y3, y4, y5⟩ := Hc2.out.cells
  have z0 := Hk2.out.cell 0
  have z1 := Hk2.out.cell 1
  have z2 := Hk2.out.cell 2
  simp at z0 z1 z2
  have Hs2 : Hid (RdsP w2 w2.heap.size A1 n1 c.ps) := Lib.hid (OwnK.rds Hc2.out.ps (by rw [List.length_map]; exact Hn1.out))
  go_wp2_with fail
  refine (residentOf_any c k A1 n1 c1 w2 Hs2.out (by have := Hn1.out; have := Hl.out; have := Hn.out; omega)).mono ?_
  rintro e w3 ⟨v, rfl, hrp, hm3⟩
  have Hc3 := Lib.hid (Hc2.out.new hm3)
  have Hm3 := Lib.hid (Hm2.out.trans hm3 (fun _ _ h => h.elim))
  clear hm3 y0 y1 y2 y3 y4 y5 z0 z1 z2
  rcases hrp with ⟨hr, rfl⟩ | ⟨hr, i, p, ad, hf, hp, hres, hA, rfl⟩
  · have Hrr := Lib.hid hr
    clear hr
    have hend := clk_end (b := false) Hg0.out.symm Hg2.out.symm HzW.out HmW.out HrW.out Hc3.out Hv1.out (Hm3.out.mono (fun _ _ h => .inl h))
    have Hb9 := Lib.hid hend.1; have HE9 := Lib.hid hend.2
    have q0 := hend.1.cell 0
    have q1 := hend.1.cell 1
    have q2 := hend.1.cell 2
    have q3 := hend.1.cell 3
    have q4 := hend.1.cell 4
    have q5 := hend.1.cell 5
    have p0 := hend.1.frozen 0
    have p1 := hend.1.frozen 1
    have p2 := hend.1.frozen 2
    have p3 := hend.1.frozen 3
    have p4 := hend.1.frozen 4
    have p5 := hend.1.frozen 5
    simp at q0 q1 q2 q3 q4 q5
    obtain ⟨y0, y1, y2, y3, y4, y5⟩ := Hc3.out.cells
    clear hend
    go_wp2_with fail
    refine bodyPost_ret (v := .tuple #[.agg #[.int .i64 c.most, .int .i64 c.target, (.slice A1 n1 c1), .int .i64 (c.hot : Int), .int .i64 (c.cold : Int), .int .i64 (c.test : Int)], .bool false]) (by have h := Hb9.out.six (.int .i64 c.most) (.int .i64 c.target) (.slice A1 n1 c1) (.int .i64 (c.hot : Int)) (.int .i64 (c.cold : Int)) (.int .i64 (c.test : Int)); simp [results, Try.results36, go_sem, h.1, h.2.1, h.2.2.1, h.2.2.2.1, h.2.2.2.2.1, h.2.2.2.2.2.1]) rfl ?_
    rw [pin_no Hrr.out]
    exact HE9.out _ (Mod.six_one _ _ _ _ _ _ _ _)
  · have h1 := Hc3.out
    obtain ⟨pg, n4, cap4, hv4, Hnn, hnc, hcm, hin, Hpg, hne, x0, x1, x2, x3, x4, x5, x6, fz⟩ := h1.at_ hp
    injection hv4 with hA4 hn4 hc4
    subst hn4 hc4
    rw [hA4] at hA
    injection hA with hA
    subst hA
    subst hA4
    have hat7 : (⟨pg, 0, none⟩ : Addr).add (i * 7) = ⟨pg, i * 7, none⟩ := by rw [add_addr, Nat.zero_add]
    rw [hat7]
    have Hf := Lib.hid hf; have Hp := Lib.hid hp; have Hres := Lib.hid hres
    clear h1 hf hp hres hnc hcm hin hne x0 x1 x2 x3 x5 hr
    go_wp2_with fail
    refine (moreOf_any p.pins m w3 (Hpins.out p (List.mem_of_getElem? Hp.out)) Hm0.out).mono ?_
    rintro e w3' ⟨rfl, rfl⟩
    go_upto_region 6 with fail
    have h4 := Hc3.out.field (i := i) (j := 6) (u := .int .i64 (max (p.pins + m) 0)) (q := { p with pins := max (p.pins + m) 0 }) Hnn.out Hp.out (by decide) rfl
    have hm4 := (Hm3.out.mono (S' := ClkS g0 (.slice (some ⟨pg, 0, none⟩) n1 c1)) (fun _ _ h => .inl h)).setCell (p := ⟨pg, i * 7 + 6, none⟩) (fun _ => .inr rfl) (.int .i64 (max (p.pins + m) 0))
    obtain ⟨w4, hw4⟩ : ∃ w4, w4 = w3'.setCell ⟨pg, i * 7 + 6, none⟩ (.int .i64 (max (p.pins + m) 0)) := ⟨_, rfl⟩
    rw [← hw4] at h4 hm4 ⊢
    have Hc4 := Lib.hid h4; have Hm4 := Lib.hid hm4
    clear h4 hm4 hw4 fz x6 x4
    have hend := clk_end (b := true) Hg0.out.symm Hg2.out.symm HzW.out HmW.out HrW.out Hc4.out Hv1.out Hm4.out
    have Hb9 := Lib.hid hend.1; have HE9 := Lib.hid hend.2
    have q0 := hend.1.cell 0
    have q1 := hend.1.cell 1
    have q2 := hend.1.cell 2
    have q3 := hend.1.cell 3
    have q4 := hend.1.cell 4
    have q5 := hend.1.cell 5
    have p0 := hend.1.frozen 0
    have p1 := hend.1.frozen 1
    have p2 := hend.1.frozen 2
    have p3 := hend.1.frozen 3
    have p4 := hend.1.frozen 4
    have p5 := hend.1.frozen 5
    simp at q0 q1 q2 q3 q4 q5
    obtain ⟨y0, y1, y2, y3, y4, y5⟩ := Hc4.out.cells
    clear hend
    go_wp2_with fail
    refine bodyPost_ret (v := .tuple #[.agg #[.int .i64 c.most, .int .i64 c.target, (.slice (some ⟨pg, 0, none⟩) n1 c1), .int .i64 (c.hot : Int), .int .i64 (c.cold : Int), .int .i64 (c.test : Int)], .bool true]) (by have h := Hb9.out.six (.int .i64 c.most) (.int .i64 c.target) (.slice (some ⟨pg, 0, none⟩) n1 c1) (.int .i64 (c.hot : Int)) (.int .i64 (c.cold : Int)) (.int .i64 (c.test : Int)); simp [results, Try.results36, go_sem, h.1, h.2.1, h.2.2.1, h.2.2.2.1, h.2.2.2.2.1, h.2.2.2.2.2.1]) rfl ?_
    rw [pin_yes m Hf.out Hp.out Hres.out]
    exact HE9.out _ (Mod.six_one _ _ _ _ _ _ _ _)
set_option maxHeartbeats 4000000 in
set_option maxRecDepth 100000 in
theorem ckDrop_any (c : ClkN) (k : KeyN) (A : Option Addr) (n cap : Nat) (w : World) (hs : RdsP w w.heap.size A n c.ps) (hn : n ≤ 100000) (hb : BaseK c) :
    Calls Try.prog 25 #[.agg #[.int .i64 c.most, .int .i64 c.target, .slice A n cap, .int .i64 (c.hot : Int), .int .i64 (c.cold : Int), .int .i64 (c.test : Int)], .agg #[.int .i64 k.s, .int .i64 k.l, .int .i64 k.b]] w fun e w' => CkEnd w w' (dropK c k).1 (dropK c k).2 e := by
  obtain ⟨W, hW, hmW, hbW, hkW, hrW, hzW⟩ := three_boxes w #[.int .i64 c.most, .int .i64 c.target, .slice A n cap, .int .i64 (c.hot : Int), .int .i64 (c.cold : Int), .int .i64 (c.test : Int)] #[.int .i64 k.s, .int .i64 k.l, .int .i64 k.b] #[.int .i64 0, .int .i64 0, .slice none 0 0, .int .i64 0, .int .i64 0, .int .i64 0]
  obtain ⟨g0, hg0⟩ : ∃ g, g = w.heap.size := ⟨_, rfl⟩
  obtain ⟨g1, hg1⟩ : ∃ g, g = w.heap.size + 1 := ⟨_, rfl⟩
  obtain ⟨g2, hg2⟩ : ∃ g, g = w.heap.size + 2 := ⟨_, rfl⟩
  rw [← hg0] at hbW
  rw [← hg1] at hkW
  rw [← hg2] at hrW
  have y0 := hbW.cell 0
  have y1 := hbW.cell 1
  have y2 := hbW.cell 2
  have y3 := hbW.cell 3
  have y4 := hbW.cell 4
  have y5 := hbW.cell 5
  simp at y0 y1 y2 y3 y4 y5
  have Hs := Lib.hid (hs.new hmW).fit; have Hl := Lib.hid hs.len
  have HW := Lib.hid hW; have HmW := Lib.hid hmW; have HbW := Lib.hid hbW; have HkW := Lib.hid hkW; have HrW := Lib.hid hrW; have Hg0 := Lib.hid hg0; have Hg1 := Lib.hid hg1; have Hg2 := Lib.hid hg2; have HzW := Lib.hid hzW; have Hn := Lib.hid hn
  have Hb := Lib.hid hb
  clear hb
  clear hs hW hmW hbW hkW hrW hg0 hg1 hg2 hzW hn
  go_enter Try.func25, Try.ntmps25
  go_upto_region 1 with fail
  rw [← HW.out, ← Hg2.out, ← Hg1.out, ← Hg0.out]
  go_wp2_with fail
  refine (ckCopied_any c A n cap W Hs.out (by have := Hn.out; omega)).mono ?_
  rintro e w1 ⟨vp, rfl, ho1, hm1⟩
  obtain ⟨A1, c1, rfl, hnc1, hcm1, hrd1⟩ := OwnP.form ho1
  obtain ⟨n1, hn1⟩ : ∃ n1, c.ps.length = n1 := ⟨_, rfl⟩
  rw [hn1] at ho1 hnc1 hrd1 ⊢
  dsimp only [clkC]
  obtain ⟨w2, hw2, hc2, hm2⟩ := clk_laid HbW.out rfl Hg0.out.symm HmW.out ho1 hm1
  have hk2 := hm2.blk HkW.out (by have := Hg0.out; have := Hg1.out; omega)
  have hb1 := hm1.blk HbW.out (fun h => h)
  have u0 := hb1.cell 0
  have u1 := hb1.cell 1
  have u2 := hb1.cell 2
  have u3 := hb1.cell 3
  have u4 := hb1.cell 4
  have u5 := hb1.cell 5
  have f0 := hb1.frozen 0
  have f1 := hb1.frozen 1
  have f2 := hb1.frozen 2
  have f3 := hb1.frozen 3
  have f4 := hb1.frozen 4
  have f5 := hb1.frozen 5
  simp at u0 u1 u2 u3 u4 u5
  have Hw2 := Lib.hid hw2; have Hc2 := Lib.hid hc2; have Hm2 := Lib.hid hm2; have Hn1 := Lib.hid hn1; have Hk2 := Lib.hid hk2
  have Hv1 : Hid (∀ j, (Value.slice A1 n1 c1).ownBlock = some j → W.heap.size ≤ j) := Lib.hid (fun j hj => (hc2.lt j hj).1)
  clear y0 y1 y2 y3 y4 y5 hw2 hc2 hm2 hk2 hn1 hb1 ho1 hm1 hnc1 hcm1 hrd1
  go_upto_region 2 with fail
  rw [← Hw2.out]
  clear u0 u1 u2 u3 u4 u5 f0 f1 f2 f3 f4 f5
  obtain ⟨y0, y1, y2, y3, y4, y5⟩ := Hc2.out.cells
  have z0 := Hk2.out.cell 0
  have z1 := Hk2.out.cell 1
  have z2 := Hk2.out.cell 2
  simp at z0 z1 z2
  have Hs2 : Hid (RdsP w2 w2.heap.size A1 n1 c.ps) := Lib.hid (OwnK.rds Hc2.out.ps (by rw [List.length_map]; exact Hn1.out))
  go_wp2_with fail
  refine (find_any c k A1 n1 c1 w2 Hs2.out (by have := Hn1.out; have := Hl.out; have := Hn.out; omega)).mono ?_
  rintro e w3 ⟨rfl, hm3⟩
  have Hc3 := Lib.hid (Hc2.out.new hm3)
  have Hm3 := Lib.hid (Hm2.out.trans hm3 (fun _ _ h => h.elim))
  clear hm3 y0 y1 y2 y3 y4 y5 z0 z1 z2
  cases hf : findK k c.ps with
  | none =>
    rw [show placeK k c.ps = -1 by unfold placeK; rw [hf]]
    have Hrr := Lib.hid hf
    clear hf
    have hend := clk_end (b := false) Hg0.out.symm Hg2.out.symm HzW.out HmW.out HrW.out Hc3.out Hv1.out (Hm3.out.mono (fun _ _ h => .inl h))
    have Hb9 := Lib.hid hend.1; have HE9 := Lib.hid hend.2
    have q0 := hend.1.cell 0
    have q1 := hend.1.cell 1
    have q2 := hend.1.cell 2
    have q3 := hend.1.cell 3
    have q4 := hend.1.cell 4
    have q5 := hend.1.cell 5
    have p0 := hend.1.frozen 0
    have p1 := hend.1.frozen 1
    have p2 := hend.1.frozen 2
    have p3 := hend.1.frozen 3
    have p4 := hend.1.frozen 4
    have p5 := hend.1.frozen 5
    simp at q0 q1 q2 q3 q4 q5
    obtain ⟨y0, y1, y2, y3, y4, y5⟩ := Hc3.out.cells
    clear hend
    go_wp2_with fail
    refine bodyPost_ret (v := .tuple #[.agg #[.int .i64 c.most, .int .i64 c.target, (.slice A1 n1 c1), .int .i64 (c.hot : Int), .int .i64 (c.cold : Int), .int .i64 (c.test : Int)], .bool false]) (by have h := Hb9.out.six (.int .i64 c.most) (.int .i64 c.target) (.slice A1 n1 c1) (.int .i64 (c.hot : Int)) (.int .i64 (c.cold : Int)) (.int .i64 (c.test : Int)); simp [results, Try.results25, go_sem, h.1, h.2.1, h.2.2.1, h.2.2.2.1, h.2.2.2.2.1, h.2.2.2.2.2.1]) rfl ?_
    rw [drop_no Hrr.out]
    exact HE9.out _ (Mod.six_one _ _ _ _ _ _ _ _)
  | some i =>
    rw [show placeK k c.ps = (i : Int) by unfold placeK; rw [hf]]
    obtain ⟨p, hp, hk, hi⟩ := findK_get hf
    have h0 : ¬ (i : Int) < 0 := by omega
    have Hf := Lib.hid hf; have Hi := Lib.hid hi
    clear hf hp hk hi
    go_wp2_with fail
    refine (leave_any _ g0 _ c i w3 Hc3.out Hb.out Hi.out (by have := Hl.out; have := Hn.out; omega)).mono ?_
    rintro e w4 ⟨rfl, v4, h1, h2, h3⟩
    obtain ⟨A4, n4, c4, rfl, Hn4, _, _, _⟩ := h1.form
    have Hc4 := Lib.hid h1
    have Hm4 := Lib.hid ((Hm3.out.mono (S' := ClkS g0 (.slice A1 n1 c1)) (fun _ _ h => .inl h)).trans h2 (fun _ _ h => h))
    clear h1 h2 h3
    have hend := clk_end (b := true) Hg0.out.symm Hg2.out.symm HzW.out HmW.out HrW.out Hc4.out Hv1.out Hm4.out
    have Hb9 := Lib.hid hend.1; have HE9 := Lib.hid hend.2
    have q0 := hend.1.cell 0
    have q1 := hend.1.cell 1
    have q2 := hend.1.cell 2
    have q3 := hend.1.cell 3
    have q4 := hend.1.cell 4
    have q5 := hend.1.cell 5
    have p0 := hend.1.frozen 0
    have p1 := hend.1.frozen 1
    have p2 := hend.1.frozen 2
    have p3 := hend.1.frozen 3
    have p4 := hend.1.frozen 4
    have p5 := hend.1.frozen 5
    simp at q0 q1 q2 q3 q4 q5
    obtain ⟨y0, y1, y2, y3, y4, y5⟩ := Hc4.out.cells
    clear hend
    go_wp2_with fail
    refine bodyPost_ret (v := .tuple #[.agg #[.int .i64 (goesK c i).most, .int .i64 (goesK c i).target, (.slice A4 n4 c4), .int .i64 ((goesK c i).hot : Int), .int .i64 ((goesK c i).cold : Int), .int .i64 ((goesK c i).test : Int)], .bool true]) (by have h := Hb9.out.six (.int .i64 (goesK c i).most) (.int .i64 (goesK c i).target) (.slice A4 n4 c4) (.int .i64 ((goesK c i).hot : Int)) (.int .i64 ((goesK c i).cold : Int)) (.int .i64 ((goesK c i).test : Int)); simp [results, Try.results25, go_sem, h.1, h.2.1, h.2.2.1, h.2.2.2.1, h.2.2.2.2.1, h.2.2.2.2.2.1]) rfl ?_
    rw [drop_yes Hf.out]
    exact HE9.out _ (Mod.six_one _ _ _ _ _ _ _ _)
end Go.Proofs.Ytcoajldhhimmoaa
