/- The texts Qa, Qb, Qd, Odg, Qf, Ks, Kst, one behind the other. -/
import Derived.Test.YtcoajldhhimmoaaMx1
import Derived.Test.YtcoajldhhimmoaaMx4
import Derived.Test.YtcoajldhhimmoaaMx3
import Derived.Test.YtcoajldhhimmoaaMx5
/- The clock that the code turns, in memory: six cells, and its pages. -/
namespace Go.Proofs.Ytcoajldhhimmoaa
open Go.RowKit

def clkC (c : ClkN) (vp : Value) : Array Value := #[.int .i64 c.most, .int .i64 c.target, vp, .int .i64 c.hot, .int .i64 c.cold, .int .i64 c.test]
def pagV (p : PagN) : Value := .agg #[.int .i64 p.key.s, .int .i64 p.key.l, .int .i64 p.key.b, .int .i64 p.kind, .bool p.ref, .bool p.trial, .int .i64 p.pins]
def keyV (k : KeyN) : Value := .agg #[.int .i64 k.s, .int .i64 k.l, .int .i64 k.b]
def zeroPag : Value := .agg #[.int .i64 0, .int .i64 0, .int .i64 0, .int .i64 0, .bool false, .bool false, .int .i64 0]
def zeroKey : Value := .agg #[.int .i64 0, .int .i64 0, .int .i64 0]
theorem eltPag : EltK Try.prog 34 39 zeroPag 7 48 := EltK.mk Try.underlying34 (by kernel_rfl) rfl (by decide)
theorem eltKey : EltK Try.prog 56 28 zeroKey 3 24 := EltK.mk Try.underlying56 (by kernel_rfl) rfl (by decide)
theorem pagC_one (ps : List PagN) : ∀ u ∈ (ps.map pagC).flatten, u.oneCell' = true := by
  intro u hu
  obtain ⟨r, hr, hu⟩ := List.mem_flatten.1 hu
  obtain ⟨p, _, rfl⟩ := List.mem_map.1 hr
  simp only [pagC, List.mem_cons, List.not_mem_nil, or_false] at hu
  rcases hu with rfl | rfl | rfl | rfl | rfl | rfl | rfl <;> rfl
/-- One object laid into new memory, named. -/
theorem Blk.boxed (w : World) (t : TypeId) (cs : Array Value) : ∃ W, W = w.alloc (.cells cs t) ∧ Mod (fun _ => False) w W ∧ Blk W w.heap.size t cs ∧ W.heap.size = w.heap.size + 1 := ⟨_, rfl, (Mod.refl _ _).alloc _, Blk.new _ _ _, by simp⟩
/-- It lies at g; its pages are a row of the call's own. -/
structure ClkV (B g : Nat) (w : World) (vp : Value) (c : ClkN) : Prop where
  blk : Blk w g 36 (clkC c vp)
  ps : OwnP B w 39 vp c.ps
/-- What turning it may turn. -/
def ClkS (g : Nat) (vp : Value) (k : Nat) : Prop := k = g ∨ vp.ownBlock = some k
/-- It was turned: it is c now. -/
def ClkTo (B g : Nat) (w w' : World) (vp : Value) (c : ClkN) : Prop := ∃ vp', ClkV B g w' vp' c ∧ Mod (ClkS g vp) w w' ∧ ∀ k, vp'.ownBlock = some k → vp.ownBlock = some k ∨ w.heap.size ≤ k
section
variable {B g : Nat} {w w' w1 w2 : World} {vp vp1 : Value} {c c' : ClkN}
theorem ClkV.ne (h : ClkV B g w vp c) : vp.ownBlock ≠ some g := own_blk_ne h.ps.2 h.blk (by decide)
theorem ClkV.lt (h : ClkV B g w vp c) : ∀ k, vp.ownBlock = some k → B ≤ k ∧ k < w.heap.size := OwnK.block h.ps
theorem ClkV.new (h : ClkV B g w vp c) (hm : Mod (fun _ => False) w w') : ClkV B g w' vp c := ⟨hm.blk h.blk id, h.ps.mod hm⟩
theorem ClkV.drew (h : ClkV B g w vp c) : ClkV B g w.drew vp c := ⟨h.blk, h.ps⟩
theorem ClkV.drewN (h : ClkV B g w vp c) (n : Nat) : ClkV B g (w.drewN n) vp c := ⟨h.blk, h.ps⟩
theorem ClkV.modS {S : Nat → Prop} (h : ClkV B g w vp c) (hm : Mod S w w') (hS : ∀ k, ClkS g vp k → ¬ S k) : ClkV B g w' vp c :=
  ⟨hm.blk h.blk (hS g (.inl rfl)), OwnK.modS h.ps hm (fun k hk => hS k (.inr hk))⟩
theorem ClkV.mono {B' : Nat} (h : ClkV B g w vp c) (hB : B' ≤ B) : ClkV B' g w vp c := ⟨h.blk, h.ps.mono hB⟩
theorem ClkTo.mono {B' : Nat} (h : ClkTo B g w w' vp c) (hB : B' ≤ B) : ClkTo B' g w w' vp c := by
  obtain ⟨vp', h1, h2, h3⟩ := h
  exact ⟨vp', h1.mono hB, h2, h3⟩
theorem ClkTo.refl (h : ClkV B g w vp c) : ClkTo B g w w vp c := ⟨vp, h, Mod.refl _ _, fun _ h => .inl h⟩
/-- New memory ahead of it, or behind it. -/
theorem ClkTo.after (hm : Mod (fun _ => False) w w1) (h : ClkTo B g w1 w2 vp c) : ClkTo B g w w2 vp c := by
  obtain ⟨vp', h1, h2, h3⟩ := h
  exact ⟨vp', h1, (hm.mono (fun _ _ h => h.elim)).trans h2 (fun _ _ h => h), fun k hk => (h3 k hk).imp id (fun h => Nat.le_trans hm.size h)⟩
theorem ClkTo.then_ (h : ClkTo B g w w1 vp c) (hm : Mod (fun _ => False) w1 w2) : ClkTo B g w w2 vp c := by
  obtain ⟨vp', h1, h2, h3⟩ := h
  exact ⟨vp', h1.new hm, h2.trans hm (fun _ _ h => h.elim), h3⟩
/-- One turn behind another one. -/
theorem ClkTo.step (hm : Mod (ClkS g vp) w w1) (ho : ∀ k, vp1.ownBlock = some k → vp.ownBlock = some k ∨ w.heap.size ≤ k) (h : ClkTo B g w1 w2 vp1 c) : ClkTo B g w w2 vp c := by
  obtain ⟨vp', h1, h2, h3⟩ := h
  refine ⟨vp', h1, hm.trans h2 (fun i hi hs => ?_), fun k hk => ?_⟩
  · rcases hs with hs | hs
    · exact .inl hs
    · rcases ho i hs with h | h
      · exact .inr h
      · omega
  · rcases h3 k hk with h | h
    · exact ho k h
    · exact .inr (Nat.le_trans hm.size h)
theorem ClkTo.trans (h1 : ClkTo B g w w1 vp c) (h2 : ∀ vp1, ClkV B g w1 vp1 c → ClkTo B g w1 w2 vp1 c') : ClkTo B g w w2 vp c' := by
  obtain ⟨vp1, k1, k2, k3⟩ := h1
  exact ClkTo.step k2 k3 (h2 vp1 k1)
/-- Its cells. -/
theorem ClkV.cells (h : ClkV B g w vp c) : w.cell? ⟨g, 0, none⟩ = some (.int .i64 c.most) ∧ w.cell? ⟨g, 1, none⟩ = some (.int .i64 c.target) ∧ w.cell? ⟨g, 2, none⟩ = some vp ∧ w.cell? ⟨g, 3, none⟩ = some (.int .i64 c.hot) ∧ w.cell? ⟨g, 4, none⟩ = some (.int .i64 c.cold) ∧ w.cell? ⟨g, 5, none⟩ = some (.int .i64 c.test) := by
  refine ⟨?_, ?_, ?_, ?_, ?_, ?_⟩
  · exact (h.blk.cell 0).trans rfl
  · exact (h.blk.cell 1).trans rfl
  · exact (h.blk.cell 2).trans rfl
  · exact (h.blk.cell 3).trans rfl
  · exact (h.blk.cell 4).trans rfl
  · exact (h.blk.cell 5).trans rfl
theorem ClkV.frozen (h : ClkV B g w vp c) (i : Nat) : w.frozen? ⟨g, i, none⟩ = false := h.blk.frozen i
/-- Its pages' value. -/
theorem ClkV.form (h : ClkV B g w vp c) : ∃ A n cap, vp = .slice A n cap ∧ Hid (c.ps.length = n) ∧ n ≤ cap ∧ cap ≤ maxLen ∧ RdsP w w.heap.size A n c.ps := by
  obtain ⟨A, cap, h1, h2, h3, h4⟩ := OwnP.form h.ps
  exact ⟨A, _, cap, h1, Lib.hid rfl, h2, h3, h4⟩
/-- One number of it is written. -/
theorem ClkV.num (h : ClkV B g w vp c) (i : Nat) (u : Value) (hc : (clkC c vp).setIfInBounds i u = clkC c' vp) (hp : c'.ps = c.ps) : ClkV B g (w.setCell ⟨g, i, none⟩ u) vp c' := by
  have hm : Mod (fun k => k = g) w (w.setCell ⟨g, i, none⟩ u) := mod_oneCell _ _ _ _
  refine ⟨by rw [← hc]; exact h.blk.set_ i u, ?_⟩
  rw [hp]
  exact OwnK.modS h.ps hm (fun k hk e => h.ne (by rw [hk, e]))
theorem ClkTo.num (h : ClkV B g w vp c) (i : Nat) (u : Value) (hc : (clkC c vp).setIfInBounds i u = clkC c' vp) (hp : c'.ps = c.ps) : ClkTo B g w (w.setCell ⟨g, i, none⟩ u) vp c' :=
  ⟨vp, h.num i u hc hp, (mod_oneCell _ _ _ _).mono (fun _ _ h => .inl h), fun _ h => .inl h⟩
/-- One cell of one page is written. -/
theorem ClkV.field {pg n cap i j : Nat} {p q : PagN} {u : Value} (h : ClkV B g w (.slice (some ⟨pg, 0, none⟩) n cap) c) (hn : c.ps.length = n) (hp : c.ps[i]? = some p) (hj : j < 7) (hu : (pagC p).set j u = pagC q) :
    ClkV B g (w.setCell ⟨pg, i * 7 + j, none⟩ u) (.slice (some ⟨pg, 0, none⟩) n cap) { c with ps := c.ps.set i q } := by
  have hne : pg ≠ g := fun e => h.ne (by simp [Value.ownBlock, e])
  obtain ⟨_, h2, h3⟩ := OwnP.put_ h.ps hn hp hj hu
  exact ⟨h.blk.far (p := ⟨pg, i * 7 + j, none⟩) (fun e => hne e.symm) _, h3⟩
theorem ClkTo.field {pg n cap i j : Nat} {p q : PagN} {u : Value} (h : ClkV B g w (.slice (some ⟨pg, 0, none⟩) n cap) c) (hn : c.ps.length = n) (hp : c.ps[i]? = some p) (hj : j < 7) (hu : (pagC p).set j u = pagC q) :
    ClkTo B g w (w.setCell ⟨pg, i * 7 + j, none⟩ u) (.slice (some ⟨pg, 0, none⟩) n cap) { c with ps := c.ps.set i q } :=
  ⟨_, h.field hn hp hj hu, (mod_oneCell w pg (i * 7 + j) u).mono (fun k _ e => .inr (by rw [e]; simp [Value.ownBlock])), fun _ h => .inl h⟩
/-- Another row of pages is its own from now on: it lies where the old one did, or in new memory. -/
theorem ClkV.rows {vp' : Value} {ps' : List PagN} (h : Blk w g 36 (clkC c vp)) (hp : OwnP B w 39 vp' ps') : ClkV B g (w.setCell ⟨g, 2, none⟩ vp') vp' { c with ps := ps' } := by
  have hm : Mod (fun k => k = g) w (w.setCell ⟨g, 2, none⟩ vp') := mod_oneCell _ _ _ _
  exact ⟨h.set_ 2 vp', OwnK.modS hp hm (fun k hk e => own_blk_ne hp.2 h (by decide) (by rw [hk, e]))⟩
/-- The i-th page, where it lies. -/
theorem ClkV.at_ (h : ClkV B g w vp c) {i : Nat} {p : PagN} (hp : c.ps[i]? = some p) : ∃ pg n cap, vp = .slice (some ⟨pg, 0, none⟩) n cap ∧ Hid (c.ps.length = n) ∧ n ≤ cap ∧ cap ≤ maxLen ∧ i < n ∧ Hid (B ≤ pg ∧ pg < w.heap.size) ∧ pg ≠ g ∧
    w.cell? ⟨pg, i * 7, none⟩ = some (.int .i64 p.key.s) ∧ w.cell? ⟨pg, i * 7 + 1, none⟩ = some (.int .i64 p.key.l) ∧ w.cell? ⟨pg, i * 7 + 2, none⟩ = some (.int .i64 p.key.b) ∧ w.cell? ⟨pg, i * 7 + 3, none⟩ = some (.int .i64 p.kind) ∧
    w.cell? ⟨pg, i * 7 + 4, none⟩ = some (.bool p.ref) ∧ w.cell? ⟨pg, i * 7 + 5, none⟩ = some (.bool p.trial) ∧ w.cell? ⟨pg, i * 7 + 6, none⟩ = some (.int .i64 p.pins) ∧ ∀ j, w.frozen? ⟨pg, j, none⟩ = false := by
  have hi := (List.getElem?_eq_some_iff.1 hp).1
  obtain ⟨pg, cap, rfl, h1, h2, h3, h4⟩ := OwnP.form' h.ps (by omega)
  have hne : pg ≠ g := fun e => h.ne (by simp [Value.ownBlock, e])
  obtain ⟨cur, hb, _⟩ := OwnK.blk (by rw [← List.length_map (f := pagC)] at h; exact h.ps)
  have hrd := OwnK.rds (n := c.ps.length) h.ps (by rw [List.length_map])
  obtain ⟨ad, q, e1, _, hq, c0, c1, c2, c3, c4, c5, c6⟩ := RdsP.at_ (i := i) hrd hi
  injection e1 with e1
  subst e1
  rw [hp] at hq
  injection hq with hq
  subst hq
  simp only [add_addr, Nat.zero_add] at c0 c1 c2 c3 c4 c5 c6
  exact ⟨pg, _, cap, rfl, Lib.hid rfl, h1, h2, hi, Lib.hid ⟨h3, h4⟩, hne, c0, c1, c2, c3, c4, c5, c6, fun j => hb.frozen j⟩
end
end Go.Proofs.Ytcoajldhhimmoaa

/- The code's words on one page; counting pages, looking for one. -/
namespace Go.Proofs.Ytcoajldhhimmoaa
open Go.RowKit

def isPin (p : PagN) : Bool := p.resi && decide (0 < p.pins)
def isFreeC (p : PagN) : Bool := p.kind == 2 && decide (p.pins ≤ 0)
theorem isFreeC_loose {p : PagN} (h : OkP p) : isFreeC p = isLoose p := by
  unfold isFreeC isLoose
  have := h.2.1
  by_cases h0 : p.pins = 0
  · simp [h0]
  · have h1 : ¬ p.pins ≤ 0 := by omega
    simp [h0, h1]
set_option maxRecDepth 100000 in
theorem isHot_any (p : PagN) (w : World) : Calls Try.prog 45 #[pagV p] w fun e w' => e = .returned (.bool (isHot p)) ∧ Mod (fun _ => False) w w' := by
  obtain ⟨⟨s, l, b⟩, kd, rf, tr, pn⟩ := p
  unfold pagV
  dsimp only
  obtain ⟨W, hW, hmW, hbW, hzW⟩ := Blk.boxed w 39 #[.int .i64 s, .int .i64 l, .int .i64 b, .int .i64 kd, .bool rf, .bool tr, .int .i64 pn]
  obtain ⟨g, hg⟩ : ∃ g, g = w.heap.size := ⟨_, rfl⟩
  rw [← hg] at hbW
  have y0 := hbW.cell 0
  have y1 := hbW.cell 1
  have y2 := hbW.cell 2
  have y3 := hbW.cell 3
  have y4 := hbW.cell 4
  have y5 := hbW.cell 5
  have y6 := hbW.cell 6
  simp at y0 y1 y2 y3 y4 y5 y6
  have HW := Lib.hid hW; have HmW := Lib.hid hmW; have Hg := Lib.hid hg
  clear hW hmW hg hbW hzW
  go_enter Try.func45, Try.ntmps45
  go_upto_region 1 with fail
  rw [← HW.out, ← Hg.out]
  go_wp2_with fail
  go_ret
  exact ⟨by simp [isHot], HmW.out⟩
set_option maxRecDepth 100000 in
theorem isTest_any (p : PagN) (w : World) : Calls Try.prog 42 #[pagV p] w fun e w' => e = .returned (.bool (isTest p)) ∧ Mod (fun _ => False) w w' := by
  obtain ⟨⟨s, l, b⟩, kd, rf, tr, pn⟩ := p
  unfold pagV
  dsimp only
  obtain ⟨W, hW, hmW, hbW, hzW⟩ := Blk.boxed w 39 #[.int .i64 s, .int .i64 l, .int .i64 b, .int .i64 kd, .bool rf, .bool tr, .int .i64 pn]
  obtain ⟨g, hg⟩ : ∃ g, g = w.heap.size := ⟨_, rfl⟩
  rw [← hg] at hbW
  have y0 := hbW.cell 0
  have y1 := hbW.cell 1
  have y2 := hbW.cell 2
  have y3 := hbW.cell 3
  have y4 := hbW.cell 4
  have y5 := hbW.cell 5
  have y6 := hbW.cell 6
  simp at y0 y1 y2 y3 y4 y5 y6
  have HW := Lib.hid hW; have HmW := Lib.hid hmW; have Hg := Lib.hid hg
  clear hW hmW hg hbW hzW
  go_enter Try.func42, Try.ntmps42
  go_upto_region 1 with fail
  rw [← HW.out, ← Hg.out]
  go_wp2_with fail
  go_ret
  exact ⟨by simp [isTest], HmW.out⟩
set_option maxRecDepth 100000 in
theorem isRes_any (p : PagN) (w : World) : Calls Try.prog 38 #[pagV p] w fun e w' => e = .returned (.bool (PagN.resi p)) ∧ Mod (fun _ => False) w w' := by
  obtain ⟨⟨s, l, b⟩, kd, rf, tr, pn⟩ := p
  unfold pagV
  dsimp only
  obtain ⟨W, hW, hmW, hbW, hzW⟩ := Blk.boxed w 39 #[.int .i64 s, .int .i64 l, .int .i64 b, .int .i64 kd, .bool rf, .bool tr, .int .i64 pn]
  obtain ⟨g, hg⟩ : ∃ g, g = w.heap.size := ⟨_, rfl⟩
  rw [← hg] at hbW
  have y0 := hbW.cell 0
  have y1 := hbW.cell 1
  have y2 := hbW.cell 2
  have y3 := hbW.cell 3
  have y4 := hbW.cell 4
  have y5 := hbW.cell 5
  have y6 := hbW.cell 6
  simp at y0 y1 y2 y3 y4 y5 y6
  have HW := Lib.hid hW; have HmW := Lib.hid hmW; have Hg := Lib.hid hg
  clear hW hmW hg hbW hzW
  go_enter Try.func38, Try.ntmps38
  go_upto_region 1 with fail
  rw [← HW.out, ← Hg.out]
  by_cases h1 : kd = 1
  · have hb : ((kd : Int) == 1) = true := by simp [h1]
    have H1 := Lib.hid h1
    clear h1
    go_wp2_with fail
    go_ret
    exact ⟨by simp [PagN.resi, H1.out], HmW.out⟩
  · have hb : ((kd : Int) == 1) = false := by simp [h1]
    go_wp2_with fail
    go_ret
    exact ⟨by simp [PagN.resi, h1], HmW.out⟩
set_option maxRecDepth 100000 in
theorem isFreeC_any (p : PagN) (w : World) : Calls Try.prog 58 #[pagV p] w fun e w' => e = .returned (.bool (isFreeC p)) ∧ Mod (fun _ => False) w w' := by
  obtain ⟨⟨s, l, b⟩, kd, rf, tr, pn⟩ := p
  unfold pagV
  dsimp only
  obtain ⟨W, hW, hmW, hbW, hzW⟩ := Blk.boxed w 39 #[.int .i64 s, .int .i64 l, .int .i64 b, .int .i64 kd, .bool rf, .bool tr, .int .i64 pn]
  obtain ⟨g, hg⟩ : ∃ g, g = w.heap.size := ⟨_, rfl⟩
  rw [← hg] at hbW
  have y0 := hbW.cell 0
  have y1 := hbW.cell 1
  have y2 := hbW.cell 2
  have y3 := hbW.cell 3
  have y4 := hbW.cell 4
  have y5 := hbW.cell 5
  have y6 := hbW.cell 6
  simp at y0 y1 y2 y3 y4 y5 y6
  have HW := Lib.hid hW; have HmW := Lib.hid hmW; have Hg := Lib.hid hg
  clear hW hmW hg hbW hzW
  go_enter Try.func58, Try.ntmps58
  go_upto_region 1 with fail
  rw [← HW.out, ← Hg.out]
  by_cases h1 : kd = 2
  · have hb : ((kd : Int) == 2) = true := by simp [h1]
    have H1 := Lib.hid h1
    clear h1
    go_wp2_with fail
    go_ret
    exact ⟨by simp [isFreeC, H1.out], HmW.out⟩
  · have hb : ((kd : Int) == 2) = false := by simp [h1]
    go_wp2_with fail
    go_ret
    exact ⟨by simp [isFreeC, h1], HmW.out⟩
set_option maxRecDepth 100000 in
theorem isPin_any (p : PagN) (w : World) : Calls Try.prog 29 #[pagV p] w fun e w' => e = .returned (.bool (isPin p)) ∧ Mod (fun _ => False) w w' := by
  obtain ⟨⟨s, l, b⟩, kd, rf, tr, pn⟩ := p
  unfold pagV
  dsimp only
  obtain ⟨W, hW, hmW, hbW, hzW⟩ := Blk.boxed w 39 #[.int .i64 s, .int .i64 l, .int .i64 b, .int .i64 kd, .bool rf, .bool tr, .int .i64 pn]
  obtain ⟨g, hg⟩ : ∃ g, g = w.heap.size := ⟨_, rfl⟩
  rw [← hg] at hbW
  have y0 := hbW.cell 0
  have y1 := hbW.cell 1
  have y2 := hbW.cell 2
  have y3 := hbW.cell 3
  have y4 := hbW.cell 4
  have y5 := hbW.cell 5
  have y6 := hbW.cell 6
  simp at y0 y1 y2 y3 y4 y5 y6
  have HW := Lib.hid hW; have HmW := Lib.hid hmW; have Hg := Lib.hid hg
  clear hW hmW hg hbW hzW
  go_enter Try.func29, Try.ntmps29
  go_upto_region 1 with fail
  rw [← HW.out, ← Hg.out]
  have HbW : Hid (∀ w1, Mod (fun _ => False) W w1 → w1.cell? ⟨g, 6, none⟩ = some (.int .i64 pn)) := Lib.hid (fun w1 h => ((h.cell (a := ⟨g, 6, none⟩) (World.block_lt_of_cell? W _ y6) (fun h => h)).trans y6))
  go_wp2_with fail
  refine (isRes_any ⟨⟨s, l, b⟩, kd, rf, tr, pn⟩ W).mono ?_
  rintro e w1 ⟨rfl, hm1⟩
  have z6 := HbW.out w1 hm1
  have Hm1 := Lib.hid (HmW.out.trans hm1 (fun _ _ h => h))
  obtain ⟨r, hr⟩ : ∃ r, PagN.resi ⟨⟨s, l, b⟩, kd, rf, tr, pn⟩ = r := ⟨_, rfl⟩
  have Hr := Lib.hid hr
  rw [hr]
  clear hm1 hr
  cases r with
  | true =>
    go_wp2_with fail
    go_ret
    exact ⟨by simp [isPin, Hr.out], Hm1.out⟩
  | false =>
    go_wp2_with fail
    go_ret
    exact ⟨by simp [isPin, Hr.out], Hm1.out⟩
end Go.Proofs.Ytcoajldhhimmoaa

/- Pages counted; the first that is such. -/
namespace Go.Proofs.Ytcoajldhhimmoaa
open Go.RowKit

theorem count_take (P : PagN → Bool) {ps : List PagN} {i : Nat} {p : PagN} (h : ps[i]? = some p) : (ps.take (i + 1)).countP P = (ps.take i).countP P + if P p then 1 else 0 := by
  rw [take_one h, List.countP_append, List.countP_singleton]
/-- What a predicate of the code's answers. -/
def Says (F : Nat) (cap : List Value) (C : World → Prop) (P : PagN → Bool) : Prop := (∀ a w, (callFunc F a).run Try.prog w = .ok (.enter F a) w) ∧ ∀ (p : PagN) (w : World), C w → Calls Try.prog F (pagV p :: cap).toArray w fun e w' => e = .returned (.bool (P p)) ∧ Mod (fun _ => False) w w'
theorem enters {f : FuncId} {fn : Func} (hf : Try.prog.funcs[f]? = some fn) (hname : (fn.name == "runtime.NumGoroutine") = false) (hb : fn.body.isSome = true) (args : Array Value) (w : World) : (callFunc f args).run Try.prog w = .ok (.enter f args) w := by
  obtain ⟨c, hc⟩ := Option.isSome_iff_exists.1 hb
  have h1 : fn.name ≠ "runtime.NumGoroutine" := by simpa using hname
  simp [callFunc, hf, h1, hc]
theorem says_hot : Says 45 [] (fun _ => True) isHot := ⟨enters Try.func45 (by kernel_rfl) (by kernel_rfl), fun p w _ => isHot_any p w⟩
theorem says_test : Says 42 [] (fun _ => True) isTest := ⟨enters Try.func42 (by kernel_rfl) (by kernel_rfl), fun p w _ => isTest_any p w⟩
theorem says_res : Says 38 [] (fun _ => True) PagN.resi := ⟨enters Try.func38 (by kernel_rfl) (by kernel_rfl), fun p w _ => isRes_any p w⟩
theorem says_pin : Says 29 [] (fun _ => True) isPin := ⟨enters Try.func29 (by kernel_rfl) (by kernel_rfl), fun p w _ => isPin_any p w⟩
theorem says_free : Says 58 [] (fun _ => True) isFreeC := ⟨enters Try.func58 (by kernel_rfl) (by kernel_rfl), fun p w _ => isFreeC_any p w⟩
set_option maxHeartbeats 1000000 in
set_option maxRecDepth 100000 in
theorem count_any (F : Nat) (P : PagN → Bool) (HP : Hid (Says F [] (fun _ => True) P)) (m t h cl ts : Int) (A : Option Addr) (n cap : Nat) (ps : List PagN) (w : World) (hs : RdsP w w.heap.size A n ps) (hn : n ≤ 1000000) :
    Calls Try.prog 28 #[.agg #[.int .i64 m, .int .i64 t, .slice A n cap, .int .i64 h, .int .i64 cl, .int .i64 ts], .func (.func F) #[] #[]] w fun e w' => e = .returned (.int .i64 (ps.countP P : Int)) ∧ Mod (fun _ => False) w w' := by
  obtain ⟨W, hW, hmW, hbW, hzW⟩ := Blk.boxed w 36 #[.int .i64 m, .int .i64 t, .slice A n cap, .int .i64 h, .int .i64 cl, .int .i64 ts]
  obtain ⟨g, hg⟩ : ∃ g, g = w.heap.size := ⟨_, rfl⟩
  rw [← hg] at hbW
  have y2 := hbW.cell 2
  simp at y2
  have hF := HP.out.1
  have Hl := Lib.hid hs.len
  have Hs := Lib.hid (hs.new hmW).fit
  have HW := Lib.hid hW; have HmW := Lib.hid hmW; have Hg := Lib.hid hg
  clear hW hmW hg hbW hzW hs
  go_enter Try.func28, Try.ntmps28
  go_upto_region 1 with fail
  rw [← HW.out, ← Hg.out]
  go_wp2_with fail
  go_loopg [5, 11] n (fun k s5 s11 wr => ∃ i : Nat, i + k = n ∧ s11 = .int .i64 (i : Int) ∧ s5 = .int .i64 (((ps.take i).countP P : Nat) : Int) ∧ Mod (fun _ => False) W wr)
  case atStart => exact ⟨0, by omega, rfl, by simp, Mod.refl _ _⟩
  case round =>
    obtain ⟨i, hik, rfl, rfl, hm⟩ := hrel
    have Hik := Lib.hid hik; have Hm := Lib.hid hm
    clear hik hm
    by_cases hin : i < n
    · obtain ⟨ad, p, rfl, _, hp, c0, c1, c2, c3, c4, c5, c6⟩ := (Hs.out.new Hm.out).at_ hin
      have Hct := Lib.hid (count_take P hp)
      obtain ⟨⟨s, l, b⟩, kd, rf, tr, pn⟩ := p
      simp only at c0 c1 c2 c3 c4 c5 c6
      have hin' : (i : Int) < (n : Int) := by omega
      obtain ⟨W1, hW1, hm1, hb1, hz1⟩ := Blk.boxed wr 39 #[.int .i64 s, .int .i64 l, .int .i64 b, .int .i64 kd, .bool rf, .bool tr, .int .i64 pn]
      obtain ⟨g1, hg1⟩ : ∃ g, g = wr.heap.size := ⟨_, rfl⟩
      rw [← hg1] at hb1
      have y0 := hb1.cell 0
      have y1 := hb1.cell 1
      have y2 := hb1.cell 2
      have y3 := hb1.cell 3
      have y4 := hb1.cell 4
      have y5 := hb1.cell 5
      have y6 := hb1.cell 6
      simp at y0 y1 y2 y3 y4 y5 y6
      obtain ⟨q, hq⟩ : ∃ q, (ps.take i).countP P = q := ⟨_, rfl⟩
      have hqb : q ≤ 1000000 := by rw [← hq]; have := List.countP_le_length (p := P) (l := ps.take i); rw [List.length_take] at this; have := Hl.out; omega
      have hqb' : (q : Int) ≤ 1000000 := by omega
      have HmW1 := Lib.hid (Hm.out.trans hm1 (fun _ _ h => h))
      have HW1 := Lib.hid hW1; have Hg1 := Lib.hid hg1
      have Hq := Lib.hid hq
      rw [hq]
      clear hW1 hm1 hb1 hz1 hg1 hp hq
      go_upto_region 5 with fail
      rw [← HW1.out, ← Hg1.out]
      go_wp2_with fail
      refine (HP.out.2 ⟨⟨s, l, b⟩, kd, rf, tr, pn⟩ W1 trivial).mono ?_
      rintro e w2 ⟨rfl, hm2⟩
      have Hm2 := Lib.hid (HmW1.out.trans hm2 (fun _ _ h => h))
      obtain ⟨r, hr⟩ : ∃ r, P ⟨⟨s, l, b⟩, kd, rf, tr, pn⟩ = r := ⟨_, rfl⟩
      have Hr := Lib.hid hr
      rw [hr]
      clear hm2 hr
      cases r with
      | true =>
        go_wp2_with fail
        go_roundg (gk - 1)
        case measure => have := Hik.out; omega
        case rel => exact ⟨i + 1, by have := Hik.out; omega, by go_num, by rw [Hct.out, Hr.out, Hq.out]; simp, Hm2.out⟩
      | false =>
        go_wp2_with fail
        go_roundg (gk - 1)
        case measure => have := Hik.out; omega
        case rel => exact ⟨i + 1, by have := Hik.out; omega, by go_num, by rw [Hct.out, Hr.out, Hq.out]; simp, Hm2.out⟩
    · have hin' : ¬ (i : Int) < (n : Int) := by omega
      rw [List.take_of_length_le (by have := Hl.out; have := Hik.out; omega)]
      go_wp2_with fail
      go_ret
      exact ⟨rfl, HmW.out.trans Hm.out (fun _ _ h => h)⟩
/-- The place of the first that is such, or -1. -/
def fstI (P : PagN → Bool) (ps : List PagN) : Int := match ps.findIdx? P with
  | none => -1
  | some i => (i : Int)
theorem fst_on {P : PagN → Bool} {ps : List PagN} {i : Nat} {p : PagN} (h0 : (ps.take i).findIdx? P = none) (h : ps[i]? = some p) (hp : P p = false) : (ps.take (i + 1)).findIdx? P = none := by
  rw [take_one h, List.findIdx?_append, h0]
  simp [hp]
theorem fst_here {P : PagN → Bool} {ps : List PagN} {i : Nat} {p : PagN} (h0 : (ps.take i).findIdx? P = none) (h : ps[i]? = some p) (hp : P p = true) : ps.findIdx? P = some i := by
  obtain ⟨hi, e⟩ := List.getElem?_eq_some_iff.1 h
  refine List.findIdx?_eq_some_iff_getElem.2 ⟨hi, by rw [e]; exact hp, fun j hj => ?_⟩
  rw [List.findIdx?_eq_none_iff] at h0
  have := h0 (ps[j]'(by omega)) (by rw [List.mem_take_iff_getElem]; exact ⟨j, by omega, rfl⟩)
  simpa using this
set_option maxHeartbeats 1000000 in
set_option maxRecDepth 100000 in
theorem index_any (F : Nat) (caps : List Value) (C : World → Prop) (hC : ∀ w w', C w → Mod (fun _ => False) w w' → C w') (P : PagN → Bool) (HP : Hid (Says F caps C P)) (A : Option Addr) (n cap : Nat) (ps : List PagN) (w : World) (hs : RdsP w w.heap.size A n ps) (hw : C w) (hn : n ≤ 1000000) :
    Calls Try.prog 47 #[.slice A n cap, .func (.func F) #[] caps.toArray] w fun e w' => e = .returned (.int .i64 (fstI P ps)) ∧ Mod (fun _ => False) w w' := by
  have hF := HP.out.1
  have Hs := Lib.hid hs; have Hl := Lib.hid hs.len; have Hw := Lib.hid hw; have HC := Lib.hid hC
  clear hs hw hC
  go_enter Try.func47, Try.ntmps47
  go_wp2_with fail
  go_loopg [8] n (fun k s8 wr => ∃ i : Nat, i + k = n ∧ s8 = .int .i64 (i : Int) ∧ (ps.take i).findIdx? P = none ∧ Mod (fun _ => False) w wr)
  case atStart => exact ⟨0, by omega, rfl, by simp, Mod.refl _ _⟩
  case round =>
    obtain ⟨i, hik, rfl, hr, hm⟩ := hrel
    have Hik := Lib.hid hik; have Hr := Lib.hid hr; have Hm := Lib.hid hm
    clear hik hr hm
    by_cases hin : i < n
    · obtain ⟨ad, p, rfl, _, hp, c0, c1, c2, c3, c4, c5, c6⟩ := (Hs.out.new Hm.out).at_ hin
      have Hp := Lib.hid hp
      obtain ⟨⟨s, l, b⟩, kd, rf, tr, pn⟩ := p
      simp only at c0 c1 c2 c3 c4 c5 c6
      have hin' : (i : Int) < (n : Int) := by omega
      clear hp
      go_wp2_with fail
      refine (HP.out.2 ⟨⟨s, l, b⟩, kd, rf, tr, pn⟩ wr (HC.out _ _ Hw.out Hm.out)).mono ?_
      rintro e w1 ⟨rfl, hm1⟩
      have Hm1 := Lib.hid (Hm.out.trans hm1 (fun _ _ h => h))
      obtain ⟨r, hb⟩ : ∃ r, P ⟨⟨s, l, b⟩, kd, rf, tr, pn⟩ = r := ⟨_, rfl⟩
      have Hb := Lib.hid hb
      rw [hb]
      clear hm1 hb
      cases r with
      | false =>
        go_wp2_with fail
        go_roundg (gk - 1)
        case measure => have := Hik.out; omega
        case rel => exact ⟨i + 1, by have := Hik.out; omega, by go_num, fst_on Hr.out Hp.out Hb.out, Hm1.out⟩
      | true =>
        go_wp2_with fail
        go_ret
        exact ⟨by unfold fstI; rw [fst_here Hr.out Hp.out Hb.out]; rfl, Hm1.out⟩
    · have hin' : ¬ (i : Int) < (n : Int) := by omega
      go_wp2_with fail
      go_ret
      exact ⟨by have h := Hr.out; rw [List.take_of_length_le (by have := Hl.out; have := Hik.out; omega)] at h; unfold fstI; rw [h]; rfl, Hm.out⟩
set_option maxRecDepth 100000 in
/-- The code's Find: what its closure holds. -/
theorem cloKey (p : PagN) (g : Nat) (k : KeyN) (w : World) (hc : Blk w g 28 #[.int .i64 k.s, .int .i64 k.l, .int .i64 k.b]) :
    Calls Try.prog 48 #[pagV p, .pointer (some ⟨g, 0, none⟩)] w fun e w' => e = .returned (.bool (p.key == k)) ∧ Mod (fun _ => False) w w' := by
  obtain ⟨⟨s, l, b⟩, kd, rf, tr, pn⟩ := p
  obtain ⟨ks, kl, kb⟩ := k
  unfold pagV
  dsimp only at hc ⊢
  obtain ⟨W, hW, hmW, hbW, hzW⟩ := Blk.boxed w 39 #[.int .i64 s, .int .i64 l, .int .i64 b, .int .i64 kd, .bool rf, .bool tr, .int .i64 pn]
  obtain ⟨G, hG⟩ : ∃ g, g = w.heap.size := ⟨_, rfl⟩
  rw [← hG] at hbW
  have y0 := hbW.cell 0
  have y1 := hbW.cell 1
  have y2 := hbW.cell 2
  have hcW := hmW.blk hc (fun h => h)
  have z0 := hcW.cell 0
  have z1 := hcW.cell 1
  have z2 := hcW.cell 2
  simp at y0 y1 y2 z0 z1 z2
  have HW := Lib.hid hW; have HmW := Lib.hid hmW; have HG := Lib.hid hG
  clear hW hmW hG hbW hzW hc hcW
  go_enter Try.func48, Try.ntmps48
  go_upto_region 1 with fail
  rw [← HW.out, ← HG.out]
  by_cases h1 : s = ks
  · by_cases h2 : l = kl
    · by_cases h3 : b = kb
      · subst h1 h2 h3
        go_wp2_with fail
        go_ret
        exact ⟨by simp, HmW.out⟩
      · subst h1 h2
        go_wp2_with fail
        go_ret
        exact ⟨by simp [h3], HmW.out⟩
    · subst h1
      go_wp2_with fail
      go_ret
      exact ⟨by simp [h2], HmW.out⟩
  · go_wp2_with fail
    go_ret
    exact ⟨by simp [h1], HmW.out⟩
theorem says_key (g : Nat) (k : KeyN) : Says 48 [.pointer (some ⟨g, 0, none⟩)] (fun w => Blk w g 28 #[.int .i64 k.s, .int .i64 k.l, .int .i64 k.b]) (fun p => p.key == k) := ⟨enters Try.func48 (by kernel_rfl) (by kernel_rfl), fun p w h => cloKey p g k w h⟩
/-- The place of a name. -/
def placeK (k : KeyN) (ps : List PagN) : Int := match findK k ps with
  | none => -1
  | some i => (i : Int)
theorem fst_key (k : KeyN) (ps : List PagN) : fstI (fun p => p.key == k) ps = placeK k ps := rfl
set_option maxHeartbeats 1000000 in
set_option maxRecDepth 100000 in
theorem find_any (c : ClkN) (k : KeyN) (A : Option Addr) (n cap : Nat) (w : World) (hs : RdsP w w.heap.size A n c.ps) (hn : n ≤ 1000000) :
    Calls Try.prog 35 #[.agg (clkC c (.slice A n cap)), keyV k] w fun e w' => e = .returned (.int .i64 (placeK k c.ps)) ∧ Mod (fun _ => False) w w' := by
  obtain ⟨m, t, ps, h, cl, ts⟩ := c
  obtain ⟨ks, kl, kb⟩ := k
  unfold clkC keyV
  dsimp only at hs ⊢
  obtain ⟨W, hW⟩ : ∃ W, W = (w.alloc (.cells #[.int .i64 m, .int .i64 t, .slice A n cap, .int .i64 (h : Int), .int .i64 (cl : Int), .int .i64 (ts : Int)] 36)).alloc (.cells #[.int .i64 ks, .int .i64 kl, .int .i64 kb] 28) := ⟨_, rfl⟩
  obtain ⟨g, hg⟩ : ∃ g, g = w.heap.size := ⟨_, rfl⟩
  obtain ⟨g2, hg2⟩ : ∃ g, g = w.heap.size + 1 := ⟨_, rfl⟩
  have hmW : Mod (fun _ => False) w W := by rw [hW]; exact ((Mod.refl _ _).alloc _).alloc _
  have hbW : Blk W g 36 #[.int .i64 m, .int .i64 t, .slice A n cap, .int .i64 (h : Int), .int .i64 (cl : Int), .int .i64 (ts : Int)] := by rw [hW, hg]; exact (Blk.new _ _ _).alloc _
  have hkW : Blk W g2 28 #[.int .i64 ks, .int .i64 kl, .int .i64 kb] := by
    rw [hW, hg2]
    have h := Blk.new (w.alloc (.cells #[.int .i64 m, .int .i64 t, .slice A n cap, .int .i64 (h : Int), .int .i64 (cl : Int), .int .i64 (ts : Int)] 36)) 28 #[.int .i64 ks, .int .i64 kl, .int .i64 kb]
    simpa using h
  have y2 := hbW.cell 2
  simp at y2
  have Hs := Lib.hid (hs.new hmW).fit
  have Hk := Lib.hid hkW
  have HW := Lib.hid hW; have HmW := Lib.hid hmW; have Hg := Lib.hid hg; have Hg2 := Lib.hid hg2
  clear hW hmW hg hg2 hbW hkW hs
  go_enter Try.func35, Try.ntmps35
  go_upto_region 1 with fail
  rw [← HW.out, ← Hg2.out, ← Hg.out]
  go_wp2_with fail
  refine (index_any 48 [.pointer (some ⟨g2, 0, none⟩)] _ (fun w w' h1 h2 => h2.blk h1 (fun h => h)) (fun p => p.key == ⟨ks, kl, kb⟩) (Lib.hid (says_key g2 ⟨ks, kl, kb⟩)) A n cap ps W Hs.out Hk.out hn).mono ?_
  rintro e w1 ⟨rfl, hm1⟩
  have Hm1 := Lib.hid hm1
  clear hm1
  go_wp2_with fail
  go_ret
  exact ⟨by rw [fst_key]; rfl, HmW.out.trans Hm1.out (fun _ _ h => h)⟩
theorem fst_has (P : PagN → Bool) (ps : List PagN) : (decide (0 ≤ fstI P ps)) = ps.any P := by
  unfold fstI
  cases h : ps.findIdx? P with
  | none =>
    rw [List.findIdx?_eq_none_iff] at h
    have : ps.any P = false := List.any_eq_false.2 (fun x hx => by rw [h x hx]; decide)
    rw [this]
    rfl
  | some i =>
    obtain ⟨hi, h1, _⟩ := List.findIdx?_eq_some_iff_getElem.1 h
    have : ps.any P = true := List.any_eq_true.2 ⟨_, List.getElem_mem hi, h1⟩
    rw [this]
    simp
set_option maxHeartbeats 1000000 in
set_option maxRecDepth 100000 in
theorem contains_any (F : Nat) (P : PagN → Bool) (HP : Hid (Says F [] (fun _ => True) P)) (A : Option Addr) (n cap : Nat) (ps : List PagN) (w : World) (hs : RdsP w w.heap.size A n ps) (hn : n ≤ 1000000) :
    Calls Try.prog 57 #[.slice A n cap, .func (.func F) #[] #[]] w fun e w' => e = .returned (.bool (ps.any P)) ∧ Mod (fun _ => False) w w' := by
  have Hs := Lib.hid hs
  clear hs
  go_enter Try.func57, Try.ntmps57
  go_wp2_with fail
  refine (index_any F [] (fun _ => True) (fun _ _ _ _ => trivial) P HP A n cap ps w Hs.out trivial hn).mono ?_
  rintro e w1 ⟨rfl, hm1⟩
  have Hm1 := Lib.hid hm1
  clear hm1
  go_wp2_with fail
  go_ret
  exact ⟨by rw [← fst_has]; rfl, Hm1.out⟩
end Go.Proofs.Ytcoajldhhimmoaa

/- Rows grown by zeros, one element laid in: what slices.Insert comes to, whatever the type. -/
namespace Go.Proofs.Ytcoajldhhimmoaa
open Go.RowKit

section
variable {w : World} {g n cap K B : Nat} {e : TypeId} {rows : List (List Value)}
theorem Blk.shape_ {t : TypeId} {cs : Array Value} (h : Blk w g t cs) : w.shape? g = some (t, cs.size) := by
  unfold Blk at h
  simp [World.shape?, h]
/-- The spare room's first element, as it is. -/
theorem OwnK.extend (h : OwnK K B w e (.slice (some ⟨g, 0, none⟩) n cap) rows) (hp : n + 1 ≤ cap) : ∃ x, OwnK K B w e (.slice (some ⟨g, 0, none⟩) (n + 1) cap) (rows ++ [x]) := by
  obtain ⟨cur, hb, hB, hr, hnc, hc, hs, ht⟩ := h.blk
  have h2 : (n + 1) * K ≤ cap * K := Nat.mul_le_mul_right K hp
  have h3 : (n + 1) * K = n * K + K := by rw [Nat.add_mul, Nat.one_mul]
  have hsz : cur.toList.length = cap * K := by simpa using hs
  refine ⟨(cur.toList.drop (n * K)).take K, OwnK.of_blk hb hB (by simp [hr]) hp hc hs (h.1.app (AllK.cons (by rw [List.length_take, List.length_drop]; omega) (AllK.nil K))) ?_⟩
  rw [h3, List.take_add, ht, List.flatten_append]
  simp
theorem zeroCells_flat {z : Array Value} {K : Nat} (hz : z.size = K) (hK : 0 < K) (k : Nat) : (Builtin.zeroCells z k).toList = (List.replicate k z.toList).flatten := by
  have ha : AllK K (List.replicate k z.toList) := fun r hr => by rw [List.eq_of_mem_replicate hr]; simpa using hz
  have hl := flat_len ha
  rw [List.length_replicate] at hl
  apply List.ext_getElem?
  intro x
  by_cases hx : x < k * K
  · have hq : x / K < k := Nat.div_lt_of_lt_mul (by rw [Nat.mul_comm]; exact hx)
    have h1 := flat_get ha (i := x / K) (j := x % K) (r := z.toList) (by simp [hq]) (Nat.mod_lt _ hK)
    have h2 : x / K * K + x % K = x := by rw [Nat.mul_comm]; exact Nat.div_add_mod x K
    rw [h2] at h1
    rw [h1]
    have hm : x % K < z.size := by rw [hz]; exact Nat.mod_lt _ hK
    simp only [Builtin.zeroCells, Array.toList_map, List.getElem?_map, Array.toList_range, hz]
    rw [List.getElem?_range hx]
    simp [hm]
  · rw [List.getElem?_eq_none (by simp [Builtin.zeroCells, hz]; omega), List.getElem?_eq_none (by omega)]
/-- append(s[:p], make([]T, k)..) without room. -/
theorem run_grow_zeros {P : Program} {t tn : TypeId} {kn : IntKind} {z : Value} {bytes p k : Nat} (hE : EltK P t e z K bytes) (htn : P.underlying tn = some (.int kn)) (h : OwnK K B w e (.slice (some ⟨g, 0, none⟩) n cap) rows) (hp : p ≤ n) (hk : 0 < k) (hg : cap < p + k)
    (hm : p + k ≤ maxLen) (hb : (p + k) * bytes ≤ 140737488355328) :
    ∃ C W1, p + k ≤ C ∧ C ≤ maxLen ∧ (∀ ty, (Builtin.append_ #[t, tn] ty #[.slice (some ⟨g, 0, none⟩) p cap, .int .i64 (k : Int)]).run P w = .ok (.slice (some ⟨w.heap.size, 0, none⟩) (p + k) C) W1) ∧
      OwnK K w.heap.size W1 e (.slice (some ⟨w.heap.size, 0, none⟩) (p + k) C) (rows.take p ++ List.replicate k z.cells.toList) ∧ Mod (fun _ => False) w W1 := by
  obtain ⟨ht, ⟨i, hi, hz, hsize, hby⟩, hzs, hK⟩ := hE
  have hcut := h.cut hp
  have hfl := flat_len hcut.1
  have hlen : (rows.take p).length = p := by obtain ⟨_, _, _, hr, _⟩ := h.blk; rw [List.length_take]; omega
  have hold : (Builtin.firstCells i.size p (.slice (some ⟨g, 0, none⟩) p cap)).run P w.drew = .ok (rows.take p).flatten.toArray w.drew := by
    refine run_firstCells_some (P := P) w.drew i.size p ⟨g, 0, none⟩ p cap (rows.take p).flatten (by rw [hfl, hlen, hsize]) (fun j u hu => ?_)
    have h3 : w.ownsRow B e K (.slice (some ⟨g, 0, none⟩) p cap) (rows.take p).length (rows.take p).flatten := hcut.2
    exact h3.cells (g := g) rfl j u hu
  have hm' : ((p + k : Nat) : Int) ≤ 9223372036854775807 := by unfold maxLen at hm; omega
  have hkb : k * i.bytes ≤ 281474976710656 := by
    rw [hby]
    have := Nat.mul_le_mul_right bytes (Nat.le_add_left k p)
    omega
  have hge := grownCap_ge w (p + k) cap e
  have hcm := grownCap_le_maxLen w (p + k) cap e hm
  have hall : AllK K (rows.take p ++ List.replicate k z.cells.toList) := hcut.1.app (fun r hr => by rw [List.eq_of_mem_replicate hr]; simpa using hzs)
  refine ⟨_, _, hge, hcm, fun ty => Lib.run_append_grow_zeros (P := P) w t tn ty e i z .i64 kn ht htn hi hz (some ⟨g, 0, none⟩) p cap _ hold k hk (by omega) hg hm' hkb (by rw [hby]; exact growslice_fits (by omega) hb), ?_, ((Mod.refl _ w).drew).alloc _⟩
  refine OwnK.of_blk (heap_alloc_new w.drew _) (Nat.le_refl _) (by simp [hlen]) hge hcm ?_ hall ?_
  · simp only [Array.size_append, List.size_toArray, size_zeroCells, hzs, hfl, hlen, ← Nat.add_mul]
    congr 1
    omega
  · rw [Array.toList_append, Array.toList_append, zeroCells_flat hzs hK k, List.append_assoc, ← List.append_assoc, List.flatten_append]
    have h5 : (p + k) * K = ((rows.take p).flatten ++ (List.replicate k z.cells.toList).flatten).length := by
      rw [← List.flatten_append, flat_len hall]
      simp [hlen]
    rw [h5]
    exact List.take_left
end
/-- One laid in. -/
theorem insert_at {α : Type} (rows : List α) (x r : α) {p n : Nat} (hn : rows.length = n) (hp : p ≤ n) :
    ((((rows ++ [x]).take (p + 1) ++ rows.drop p ++ (rows ++ [x]).drop (p + 1 + (rows.drop p).length)).take p) ++ [r]) ++ ((((rows ++ [x]).take (p + 1) ++ rows.drop p ++ (rows ++ [x]).drop (p + 1 + (rows.drop p).length))).drop (p + [r].length)) = rows.take p ++ [r] ++ rows.drop p := by
  have hl : ((rows ++ [x]).take (p + 1)).length = p + 1 := by simp; omega
  have h1 : (rows ++ [x]).drop (p + 1 + (rows.drop p).length) = [] := List.drop_eq_nil_of_le (by simp; omega)
  rw [h1, List.append_nil, List.take_append_of_le_length (by omega), List.take_take, Nat.min_eq_left (by omega), List.take_append_of_le_length (by omega)]
  congr 1
  rw [show p + [r].length = ((rows ++ [x]).take (p + 1)).length by rw [hl]; rfl, List.drop_left]
theorem insert_grown {α : Type} (rows : List α) (z r : α) {p n : Nat} (hn : rows.length = n) (hp : p ≤ n) :
    (((rows.take p ++ List.replicate (n + 1 - p) z).take p ++ [r] ++ (rows.take p ++ List.replicate (n + 1 - p) z).drop (p + [r].length)).take (p + 1) ++ rows.drop p ++
      ((rows.take p ++ List.replicate (n + 1 - p) z).take p ++ [r] ++ (rows.take p ++ List.replicate (n + 1 - p) z).drop (p + [r].length)).drop (p + 1 + (rows.drop p).length)) = rows.take p ++ [r] ++ rows.drop p := by
  have hl : (rows.take p).length = p := by simp; omega
  have e1 : (rows.take p ++ List.replicate (n + 1 - p) z).take p = rows.take p := by rw [List.take_append_of_le_length (by omega), List.take_of_length_le (by omega)]
  rw [e1]
  generalize ht : (rows.take p ++ List.replicate (n + 1 - p) z).drop (p + [r].length) = tail
  have htl : tail.length = n - p := by
    rw [← ht, List.length_drop, List.length_append, List.length_replicate, hl, List.length_singleton]
    omega
  have h2 : (rows.take p ++ [r]).length = p + 1 := by simp [hl]
  have h3 : (rows.take p ++ [r] ++ tail).take (p + 1) = rows.take p ++ [r] := by rw [← h2, List.take_left]
  have h4 : (rows.take p ++ [r] ++ tail).drop (p + 1 + (rows.drop p).length) = [] := List.drop_eq_nil_of_le (by rw [List.length_append, h2, htl, List.length_drop]; omega)
  rw [h3, h4, List.append_nil]
end Go.Proofs.Ytcoajldhhimmoaa

/- The clock's smallest steps: the target moved, the next place, the three hands, a copy. -/
namespace Go.Proofs.Ytcoajldhhimmoaa
open Go.RowKit

set_option maxHeartbeats 1000000 in
set_option maxRecDepth 100000 in
theorem aim_any (B g : Nat) (vp : Value) (c : ClkN) (n : Int) (w : World) (h : ClkV B g w vp c) (hb : BaseK c) (hn : -1 ≤ n ∧ n ≤ 1) :
    Calls Try.prog 39 #[.pointer (some ⟨g, 0, none⟩), .int .i64 n] w fun e w' => e = .returned (.tuple #[]) ∧ ClkTo B g w w' vp (aimK c n) := by
  obtain ⟨y0, y1, _, _, _, _⟩ := h.cells
  have f1 := h.frozen 1
  have h1 := hb.most
  have h2 := hb.target
  obtain ⟨T1, hT1⟩ : ∃ x, c.target + n = x := ⟨_, rfl⟩
  obtain ⟨M, hM⟩ : ∃ x, min T1 c.most = x := ⟨_, rfl⟩
  obtain ⟨R, hR⟩ : ∃ x, max 1 M = x := ⟨_, rfl⟩
  have hmin := minI_is (P := Try.prog) (t := 3) (ty := 3) hM
  have hmax := maxI_is (P := Try.prog) (t := 3) (ty := 3) hR
  have hwr : IntKind.i64.wrap (c.target + n) = T1 := by rw [hT1]; exact IntWalk.i64_in _ (by omega)
  have Hfin : Hid (ClkTo B g w (w.setCell ⟨g, 1, none⟩ (.int .i64 R)) vp (aimK c n)) := Lib.hid (ClkTo.num h 1 _ (by
    have e : min (max (c.target + n) 1) c.most = R := by omega
    show (clkC c vp).setIfInBounds 1 _ = clkC { c with target := min (max (c.target + n) 1) c.most } vp
    rw [e]
    rfl) rfl)
  have HT1 := Lib.hid hT1; have HM := Lib.hid hM; have HR := Lib.hid hR
  clear hT1 hM hR h h1 h2 hn hb
  go_enter Try.func39, Try.ntmps39
  go_region
  go_end0
  exact ⟨rfl, Hfin.out.then_ (Mod.refl _ _).drew⟩
set_option maxHeartbeats 1000000 in
set_option maxRecDepth 100000 in
theorem ckNext_any (B g : Nat) (vp : Value) (c : ClkN) (i : Nat) (w : World) (h : ClkV B g w vp c) (hi : i < c.ps.length) (hn : c.ps.length ≤ 1000000) :
    Calls Try.prog 59 #[.pointer (some ⟨g, 0, none⟩), .int .i64 (i : Int)] w fun e w' => e = .returned (.int .i64 ((onK c.ps.length i : Nat) : Int)) ∧ Mod (fun _ => False) w w' := by
  obtain ⟨A, n, cap, rfl, Hn, _, _, _⟩ := h.form
  obtain ⟨_, _, y2, _, _, _⟩ := h.cells
  have hn2 := Hn.out
  rw [hn2] at hi hn ⊢
  have hm : ((i : Int) + 1).tmod (n : Int) = ((onK n i : Nat) : Int) := by
    unfold onK
    by_cases h1 : n ≤ i + 1
    · have : n = i + 1 := by omega
      subst this
      rw [if_pos (Nat.le_refl _)]
      have e : ((i : Int) + 1) = (((i + 1 : Nat)) : Int) := by omega
      rw [e]
      simp
    · rw [if_neg h1]
      rw [Int.tmod_eq_of_lt (by omega) (by omega)]
      omega
  have hm2 : ((i : Int) + 1) % (n : Int) = ((onK n i : Nat) : Int) := by
    rw [← hm, Int.tmod_eq_emod_of_nonneg (by omega)]
  have h0 : ¬ (n : Int) = 0 := by omega
  have b1 : (i : Int) < (n : Int) := by omega
  have b2 : (n : Int) ≤ 1000000 := by omega
  clear hn2 h hi hn
  go_enter Try.func59, Try.ntmps59
  go_wp2_with fail
  go_ret
  exact ⟨rfl, Mod.refl _ _⟩
set_option maxHeartbeats 1000000 in
set_option maxRecDepth 100000 in
theorem hands_any (B g : Nat) (vp : Value) (c : ClkN) (w : World) (_h : ClkV B g w vp c) :
    Calls Try.prog 40 #[.pointer (some ⟨g, 0, none⟩)] w fun e w' => e = .returned (.agg #[.pointer (some ⟨g, 3, none⟩), .pointer (some ⟨g, 4, none⟩), .pointer (some ⟨g, 5, none⟩)]) ∧ Mod (fun _ => False) w w' := by
  obtain ⟨W, hW, hmW, hbW, hzW⟩ := Blk.boxed w 77 #[.pointer none, .pointer none, .pointer none]
  obtain ⟨G, hG⟩ : ∃ g, g = w.heap.size := ⟨_, rfl⟩
  rw [← hG] at hbW
  have r0 := hbW.cell 0
  have r1 := hbW.cell 1
  have r2 := hbW.cell 2
  have f0 := hbW.frozen 0
  have f1 := hbW.frozen 1
  have f2 := hbW.frozen 2
  simp at r0 r1 r2
  have HW := Lib.hid hW; have HmW := Lib.hid hmW; have HbW := Lib.hid hbW; have HG := Lib.hid hG
  clear hW hmW hbW hzW hG
  go_enter Try.func40, Try.ntmps40
  go_upto_region 1 with fail
  rw [← HW.out, ← HG.out]
  go_region
  go_wp2_with fail
  refine bodyPost_ret (v := .agg #[.pointer (some ⟨g, 3, none⟩), .pointer (some ⟨g, 4, none⟩), .pointer (some ⟨g, 5, none⟩)]) (by have h := HbW.out.three (.pointer (some ⟨g, 3, none⟩)) (.pointer (some ⟨g, 4, none⟩)) (.pointer (some ⟨g, 5, none⟩)); simp [results, Try.results40, go_sem, h.1, h.2.1, h.2.2.1]) rfl ?_
  exact ⟨rfl, (HmW.out.three_new (by have := HG.out; omega) _ _ _).drew⟩
set_option maxHeartbeats 1000000 in
set_option maxRecDepth 100000 in
theorem ckCopied_any (c : ClkN) (A : Option Addr) (n cap : Nat) (w : World) (hs : RdsP w w.heap.size A n c.ps) (hn : n ≤ 1000000) :
    Calls Try.prog 26 #[.agg (clkC c (.slice A n cap))] w fun e w' => ∃ vp, e = .returned (.agg (clkC c vp)) ∧ OwnP (w.heap.size + 2) w' 39 vp c.ps ∧ Mod (fun _ => False) w w' := by
  obtain ⟨m, t, ps, h, cl, ts⟩ := c
  unfold clkC
  dsimp only at hs ⊢
  obtain ⟨W, hW⟩ : ∃ W, W = (w.alloc (.cells #[.int .i64 m, .int .i64 t, .slice A n cap, .int .i64 (h : Int), .int .i64 (cl : Int), .int .i64 (ts : Int)] 36)).alloc (.cells #[.int .i64 0, .int .i64 0, .slice none 0 0, .int .i64 0, .int .i64 0, .int .i64 0] 36) := ⟨_, rfl⟩
  obtain ⟨g, hg⟩ : ∃ g, g = w.heap.size := ⟨_, rfl⟩
  obtain ⟨g2, hg2⟩ : ∃ g, g = w.heap.size + 1 := ⟨_, rfl⟩
  have hmW : Mod (fun _ => False) w W := by rw [hW]; exact ((Mod.refl _ _).alloc _).alloc _
  have hzW : W.heap.size = w.heap.size + 2 := by rw [hW]; simp
  have hbW : Blk W g 36 #[.int .i64 m, .int .i64 t, .slice A n cap, .int .i64 (h : Int), .int .i64 (cl : Int), .int .i64 (ts : Int)] := by rw [hW, hg]; exact (Blk.new _ _ _).alloc _
  have hrW : Blk W g2 36 #[.int .i64 0, .int .i64 0, .slice none 0 0, .int .i64 0, .int .i64 0, .int .i64 0] := by
    rw [hW, hg2]
    have h := Blk.new (w.alloc (.cells #[.int .i64 m, .int .i64 t, .slice A n cap, .int .i64 (h : Int), .int .i64 (cl : Int), .int .i64 (ts : Int)] 36)) 36 #[.int .i64 0, .int .i64 0, .slice none 0 0, .int .i64 0, .int .i64 0, .int .i64 0]
    simpa using h
  have y2 := hbW.cell 2
  simp at y2
  have Hown : Hid (OwnK 7 W.heap.size W 39 (.slice none 0 0) []) := Lib.hid (OwnK.nil _ _ _ _)
  have Hr := Lib.hid (RdsK.fit (RdsP.new hs hmW))
  have Hone := Lib.hid (pagC_one ps)
  have Hl := Lib.hid hs.len
  have hr1 : ([] : List (List Value)).length + n ≤ maxLen := by unfold maxLen; simp; omega
  have hr2 : (([] : List (List Value)).length + n) * 48 ≤ 140737488355328 := by simp; omega
  have HW := Lib.hid hW; have HmW := Lib.hid hmW; have HbW := Lib.hid hbW; have HrW := Lib.hid hrW; have Hg := Lib.hid hg; have Hg2 := Lib.hid hg2; have HzW := Lib.hid hzW
  clear hW hmW hbW hrW hg hg2 hzW hs
  go_enter Try.func26, Try.ntmps26
  go_upto_region 1 with fail
  rw [← HW.out, ← Hg2.out, ← Hg.out]
  go_upto_region 2 with (at_builtin; refine wpList_appK (v := .slice none 0 0) rfl (.const (.slice none 0 0)) (.tmp 4) _ rfl eltPag rfl Hown.out rfl Hr.out Hone.out hr1 hr2 (Nat.le_refl _) ?_; intro v4 w4 HO HB HG; clear HG; obtain ⟨A4, L4, c4, rfl, HL4, _, _, _⟩ := HO.out.formN; have hb4 := HbW.out.below HB.out (HbW.out.lt); have f2 := hb4.frozen 2; have z2 := hb4.cell 2; simp at z2; have Hb4 := Lib.hid hb4; clear hb4)
  obtain ⟨W5, hW5⟩ : ∃ W5, W5 = w4.setCell ⟨g, 2, none⟩ (.slice A4 L4 c4) := ⟨_, rfl⟩
  have hb5 : Blk W5 g 36 #[.int .i64 m, .int .i64 t, .slice A4 L4 c4, .int .i64 (h : Int), .int .i64 (cl : Int), .int .i64 (ts : Int)] := by rw [hW5]; exact Hb4.out.set_ 2 _
  have hr5 : Blk W5 g2 36 #[.int .i64 0, .int .i64 0, .slice none 0 0, .int .i64 0, .int .i64 0, .int .i64 0] := by rw [hW5]; exact (HrW.out.below HB.out HrW.out.lt).far (p := ⟨g, 2, none⟩) (by have := Hg.out; have := Hg2.out; show g2 ≠ g; omega) _
  have hm45 : Mod (fun _ => False) w w4 := HmW.out.trans (Mod.of_below HB.out) (fun i hi h => by have := HzW.out; omega)
  have hm5 : Mod (fun _ => False) w W5 := by rw [hW5]; exact hm45.trans (mod_oneCell w4 g 2 _) (fun i hi h => by have := Hg.out; omega)
  have ho5 : OwnK 7 (w.heap.size + 2) W5 39 (.slice A4 L4 c4) (ps.map pagC) := by
    have h1 := HO.out
    rw [List.nil_append] at h1
    have h2 := OwnK.modS h1 (mod_oneCell w4 g 2 (.slice A4 L4 c4)) (fun k hk h => by have := (OwnK.block h1 k hk).1; have := HzW.out; have := Hg.out; omega)
    rw [hW5]
    exact h2.mono (by have := HzW.out; omega)
  have z0 := hb5.cell 0
  have z1 := hb5.cell 1
  have z2 := hb5.cell 2
  have z3 := hb5.cell 3
  have z4 := hb5.cell 4
  have z5 := hb5.cell 5
  have r0 := hr5.cell 0
  have r1 := hr5.cell 1
  have r2 := hr5.cell 2
  have r3 := hr5.cell 3
  have r4 := hr5.cell 4
  have r5 := hr5.cell 5
  have q0 := hr5.frozen 0
  have q1 := hr5.frozen 1
  have q2 := hr5.frozen 2
  have q3 := hr5.frozen 3
  have q4 := hr5.frozen 4
  have q5 := hr5.frozen 5
  simp at z0 z1 z2 z3 z4 z5 r0 r1 r2 r3 r4 r5
  have HW5 := Lib.hid hW5; have Hr5 := Lib.hid hr5; have Hm5 := Lib.hid hm5; have Ho5 := Lib.hid ho5
  clear hW5 hb5 hr5 hm45 hm5 ho5
  rw [← HW5.out]
  go_wp2_with fail
  refine bodyPost_ret (v := .agg #[.int .i64 m, .int .i64 t, .slice A4 L4 c4, .int .i64 (h : Int), .int .i64 (cl : Int), .int .i64 (ts : Int)]) (by have hh := Hr5.out.six (.int .i64 m) (.int .i64 t) (.slice A4 L4 c4) (.int .i64 (h : Int)) (.int .i64 (cl : Int)) (.int .i64 (ts : Int)); simp [results, Try.results26, go_sem, hh.1, hh.2.1, hh.2.2.1, hh.2.2.2.1, hh.2.2.2.2.1, hh.2.2.2.2.2.1]) rfl ?_
  exact ⟨_, rfl, OwnK.modS Ho5.out (Mod.six_one _ _ _ _ _ _ _ _) (fun k hk h => by have := (OwnK.block Ho5.out k hk).1; have := Hg2.out; omega), Hm5.out.six_new (by have := Hg2.out; omega) _ _ _ _ _ _⟩
end Go.Proofs.Ytcoajldhhimmoaa

/- Two rows of samples compared: the document's Same. -/
namespace Go.Proofs.Ytcoajldhhimmoaa
open Go.RowKit

/-- The first i are alike. -/
def SameTo (l1 l2 : List (Int × Nat)) (i : Nat) : Prop := ∀ j, j < i → l1[j]? = l2[j]?
theorem SameTo.done {l1 l2 : List (Int × Nat)} {n : Nat} (h : SameTo l1 l2 n) (h1 : l1.length = n) (h2 : l2.length = n) : l1 = l2 := List.ext_getElem? fun j => by
  rcases Nat.lt_or_ge j n with hj | hj
  · exact h j hj
  · rw [List.getElem?_eq_none (by omega), List.getElem?_eq_none (by omega)]
set_option maxHeartbeats 1000000 in
set_option maxRecDepth 100000 in
theorem sameS_any (A1 A2 : Option Addr) (n1 n2 c1 c2 B1 B2 : Nat) (l1 l2 : List (Int × Nat)) (b : Bool) (w : World) (hs1 : RdsS w B1 A1 n1 l1) (hs2 : RdsS w B2 A2 n2 l2) (hn : n1 ≤ 1000000) (hb : decide (l1 = l2) = b) :
    Calls Try.prog 12 #[.slice A1 n1 c1, .slice A2 n2 c2] w fun e w' => e = .returned (.bool b) ∧ Mod (fun _ => False) w w' := by
  have Hs1 := Lib.hid hs1.fit; have Hs2 := Lib.hid hs2.fit; have Hl1 := Lib.hid hs1.1; have Hl2 := Lib.hid hs2.1; have Hb := Lib.hid hb
  have hcs : Try.prog.cellsOf 31 = 2 := by kernel_rfl
  clear hs1 hs2 hb
  by_cases hnn : n1 = n2
  · subst hnn
    go_enter Try.func12, Try.ntmps12
    go_wp2_with fail
    go_loopg [5] n1 (fun k s5 wr => ∃ i : Nat, i + k = n1 ∧ s5 = .int .i64 (i : Int) ∧ SameTo l1 l2 i ∧ Mod (fun _ => False) w wr)
    case atStart => exact ⟨0, by omega, rfl, (fun j h => by omega), Mod.refl _ _⟩
    case round =>
      obtain ⟨i, hik, rfl, hr, hm⟩ := hrel
      have Hik := Lib.hid hik; have Hr := Lib.hid hr; have Hm := Lib.hid hm
      clear hik hr hm
      by_cases hin : i < n1
      · obtain ⟨a1, ⟨T, V⟩, rfl, _, hp, hc0, hc1⟩ := Hs1.out.at2 hin (Nat.le_refl _) Hm.out (fun _ _ h => h)
        obtain ⟨a2, ⟨S, U⟩, rfl, _, hq, hd0, hd1⟩ := Hs2.out.at2 hin (Nat.le_refl _) Hm.out (fun _ _ h => h)
        have hc1' := cell_whole hc1
        have hd1' := cell_whole hd1
        have Hp := Lib.hid hp; have Hq := Lib.hid hq
        clear hp hq hc1 hd1
        have hin' : (i : Int) < (n1 : Int) := by omega
        by_cases hT : T = S
        · subst hT
          by_cases hV : V = U
          · subst hV
            go_upto_region 6 with fail
            go_quiet (fail)
            go_wp2_with fail
            go_roundg (gk - 1)
            case measure => have := Hik.out; omega
            case rel => exact ⟨i + 1, by have := Hik.out; omega, by go_num, (fun j hj => by
              rcases Nat.lt_or_ge j i with h | h
              · exact Hr.out j h
              · obtain rfl : j = i := by omega
                rw [Hp.out, Hq.out]), Hm.out.drewN _⟩
          · have hVi : ¬ (V : Int) = (U : Int) := by omega
            have hVb : ((V : Int) == (U : Int)) = false := by simp; omega
            have Hno : Hid (b = false) := Lib.hid (by
              rw [← Hb.out, decide_eq_false_iff_not]
              intro e
              have h1 := Hp.out
              rw [e, Hq.out] at h1
              injection h1 with h1
              injection h1 with _ h1
              exact hV h1.symm)
            clear hV
            go_upto_region 6 with fail
            go_quiet (fail)
            go_wp2_with fail
            go_ret
            exact ⟨by rw [Hno.out]; rfl, Hm.out.drewN _⟩
        · have hTb : (T == S) = false := by simp [hT]
          have Hno : Hid (b = false) := Lib.hid (by
            rw [← Hb.out, decide_eq_false_iff_not]
            intro e
            have h1 := Hp.out
            rw [e, Hq.out] at h1
            injection h1 with h1
            injection h1 with h1 _
            exact hT h1.symm)
          go_upto_region 6 with fail
          go_quiet (fail)
          go_wp2_with fail
          go_ret
          exact ⟨by rw [Hno.out]; rfl, Hm.out.drewN _⟩
      · have hi : i = n1 := by have := Hik.out; omega
        have Hyes : Hid (b = true) := Lib.hid (by
          rw [← Hb.out, decide_eq_true_iff]
          exact SameTo.done (by rw [← hi]; exact Hr.out) Hl1.out Hl2.out)
        clear hi
        go_wp2_with fail
        go_ret
        exact ⟨by rw [Hyes.out]; rfl, Hm.out⟩
  · have hni : ((n1 : Int) == (n2 : Int)) = false := by simp; omega
    have hni2 : ((n1 : Int) != (n2 : Int)) = true := by simp; omega
    have Hno : Hid (b = false) := Lib.hid (by
      rw [← Hb.out, decide_eq_false_iff_not]
      intro e
      apply hnn
      rw [← Hl1.out, ← Hl2.out, e])
    clear hnn
    go_enter Try.func12, Try.ntmps12
    go_wp2_with fail
    go_ret
    exact ⟨by rw [Hno.out]; rfl, Mod.refl _ _⟩
end Go.Proofs.Ytcoajldhhimmoaa

/- One cell of one sample of a row of the call's own written; the tables stay. -/
namespace Go.Proofs.Ytcoajldhhimmoaa
open Go.RowKit

/-- One cell of one sample written: l[k].V = x; l[k].T = x. -/
theorem cellsS_setV {l : List (Int × Nat)} {i : Nat} {p : Int × Nat} (h : l[i]? = some p) (x : Nat) : (cellsS l).set (i * 2 + 1) (.int .u64 (x : Int)) = cellsS (l.set i (p.1, x)) := by
  have h1 := cellsS_set l i (p.1, x)
  obtain ⟨h2, e⟩ := List.getElem?_eq_some_iff.1 (cellsS_get h).1
  have h3 : (cellsS l).set (i * 2) (.int .i64 p.1) = cellsS l := by rw [← e]; exact List.set_getElem_self h2
  rw [h3] at h1
  exact h1
theorem cellsS_setT {l : List (Int × Nat)} {i : Nat} {p : Int × Nat} (h : l[i]? = some p) (x : Int) : (cellsS l).set (i * 2) (.int .i64 x) = cellsS (l.set i (x, p.2)) := by
  have h1 := cellsS_set l i (x, p.2)
  obtain ⟨h2, e⟩ := List.getElem?_eq_some_iff.1 (cellsS_get h).2
  have h3 : ((cellsS l).set (i * 2) (.int .i64 x)).set (i * 2 + 1) (.int .u64 (p.2 : Int)) = (cellsS l).set (i * 2) (.int .i64 x) := by
    rw [List.set_comm _ _ (by omega), ← e, List.set_getElem_self h2]
  rw [h3] at h1
  exact h1
theorem OwnS.setV {w : World} {B g n cap k : Nat} {l : List (Int × Nat)} {p : Int × Nat} (h : OwnS B w (.slice (some ⟨g, 0, none⟩) n cap) l) (hn : l.length = n) (hp : l[k]? = some p) (x : Nat) :
    w.cell? ⟨g, k * 2 + 1, none⟩ = some (.int .u64 (p.2 : Int)) ∧ w.frozen? ⟨g, k * 2 + 1, none⟩ = false ∧ OwnS B (w.setCell ⟨g, k * 2 + 1, none⟩ (.int .u64 (x : Int))) (.slice (some ⟨g, 0, none⟩) n cap) (l.set k (p.1, x)) := by
  have h' : w.ownsRow B 31 2 (.slice (some ⟨g, 0, none⟩) n cap) n (cellsS l) := by
    have := h; unfold OwnS at this; rwa [hn] at this
  have hk := (List.getElem?_eq_some_iff.1 hp).1
  have hl := cellsS_len l
  refine ⟨?_, h'.frozenAt _, ?_⟩
  · rw [h'.cellAt _ (by omega)]; exact (cellsS_get hp).2
  · have h2 := (h'.stored (k * 2 + 1) (.int .u64 (x : Int))).1
    rw [cellsS_setV hp] at h2
    unfold OwnS
    rw [List.length_set, hn]
    exact h2
theorem OwnS.setT {w : World} {B g n cap k : Nat} {l : List (Int × Nat)} {p : Int × Nat} (h : OwnS B w (.slice (some ⟨g, 0, none⟩) n cap) l) (hn : l.length = n) (hp : l[k]? = some p) (x : Int) :
    w.cell? ⟨g, k * 2, none⟩ = some (.int .i64 p.1) ∧ w.frozen? ⟨g, k * 2, none⟩ = false ∧ OwnS B (w.setCell ⟨g, k * 2, none⟩ (.int .i64 x)) (.slice (some ⟨g, 0, none⟩) n cap) (l.set k (x, p.2)) := by
  have h' : w.ownsRow B 31 2 (.slice (some ⟨g, 0, none⟩) n cap) n (cellsS l) := by
    have := h; unfold OwnS at this; rwa [hn] at this
  have hk := (List.getElem?_eq_some_iff.1 hp).1
  have hl := cellsS_len l
  refine ⟨?_, h'.frozenAt _, ?_⟩
  · rw [h'.cellAt _ (by omega)]; exact (cellsS_get hp).1
  · have h2 := (h'.stored (k * 2) (.int .i64 x)).1
    rw [cellsS_setT hp] at h2
    unfold OwnS
    rw [List.length_set, hn]
    exact h2
theorem at_gx (g k : Nat) : (⟨g, 0, none⟩ : Addr).add (k * 2) = ⟨g, k * 2, none⟩ := by rw [add_addr, Nat.zero_add]
end Go.Proofs.Ytcoajldhhimmoaa
