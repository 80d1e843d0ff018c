/- The texts Ra, Rb, Rc, Rx, one behind the other. -/
import Derived.Test.YthogflfjdfcpeaaMq1
import Derived.Test.YthogflfjdfcpeaaMq8
import Derived.Test.YthogflfjdfcpeaaMq9
import Derived.Test.YthogflfjdfcpeaaMq5
/- The ring that the document turns, in memory, at this seat's types. -/
namespace Go.Proofs.Ythogflfjdfcpeaa
open Go.RowKit

/-- It lies at g; its pages and who was put out are rows of the call's own. -/
structure RngV (B g : Nat) (w : World) (vp vo : Value) (c : ClkN) (out : List KeyN) : Prop where
  blk : Blk w g 70 (ringC c vp vo)
  ps : OwnP B w 30 vp c.ps
  out : OwnK 3 B w 28 vo (out.map keyC)
/-- It was turned: it is c now; who was put out stays. -/
def RngTo (B g : Nat) (w w' : World) (vp vo : Value) (c : ClkN) (out : List KeyN) : Prop := ∃ vp', RngV B g w' vp' vo c out ∧ Mod (ClkS g vp) w w' ∧ ∀ k, vp'.ownBlock = some k → vp.ownBlock = some k ∨ w.heap.size ≤ k
section
variable {B g : Nat} {w w' w1 w2 : World} {vp vp1 vo : Value} {c c' : ClkN} {out : List KeyN}
theorem RngV.ne (h : RngV B g w vp vo c out) : vp.ownBlock ≠ some g := own_blk_ne h.ps.2 h.blk (by decide)
theorem RngV.ne_out (h : RngV B g w vp vo c out) : vo.ownBlock ≠ some g := own_blk_ne h.out.2 h.blk (by decide)
theorem RngV.apart (h : RngV B g w vp vo c out) : ∀ k, vp.ownBlock = some k → vo.ownBlock ≠ some k := owns_apart h.ps.2 h.out.2 (by decide)
theorem RngV.lt (h : RngV B g w vp vo c out) : ∀ k, vp.ownBlock = some k → B ≤ k ∧ k < w.heap.size := OwnK.block h.ps
theorem RngV.new (h : RngV B g w vp vo c out) (hm : Mod (fun _ => False) w w') : RngV B g w' vp vo c out := ⟨hm.blk h.blk id, h.ps.mod hm, h.out.mod hm⟩
theorem RngV.drew (h : RngV B g w vp vo c out) : RngV B g w.drew vp vo c out := ⟨h.blk, h.ps, h.out⟩
theorem RngV.drewN (h : RngV B g w vp vo c out) (n : Nat) : RngV B g (w.drewN n) vp vo c out := ⟨h.blk, h.ps, h.out⟩
theorem RngV.modS {S : Nat → Prop} (h : RngV B g w vp vo c out) (hm : Mod S w w') (hS : ∀ k, ClkS g vp k → ¬ S k) (hO : ∀ k, vo.ownBlock = some k → ¬ S k) : RngV B g w' vp vo c out :=
  ⟨hm.blk h.blk (hS g (.inl rfl)), OwnK.modS h.ps hm (fun k hk => hS k (.inr hk)), OwnK.modS h.out hm hO⟩
theorem RngV.mono {B' : Nat} (h : RngV B g w vp vo c out) (hB : B' ≤ B) : RngV B' g w vp vo c out := ⟨h.blk, h.ps.mono hB, h.out.mono hB⟩
theorem RngTo.refl (h : RngV B g w vp vo c out) : RngTo B g w w vp vo c out := ⟨vp, h, Mod.refl _ _, fun _ h => .inl h⟩
theorem RngTo.after (hm : Mod (fun _ => False) w w1) (h : RngTo B g w1 w2 vp vo c out) : RngTo B g w w2 vp vo c out := by
  obtain ⟨vp', h1, h2, h3⟩ := h
  exact ⟨vp', h1, (hm.mono (fun _ _ h => h.elim)).trans h2 (fun _ _ h => h), fun k hk => (h3 k hk).imp id (fun h => Nat.le_trans hm.size h)⟩
theorem RngTo.then_ (h : RngTo B g w w1 vp vo c out) (hm : Mod (fun _ => False) w1 w2) : RngTo B g w w2 vp vo c out := by
  obtain ⟨vp', h1, h2, h3⟩ := h
  exact ⟨vp', h1.new hm, h2.trans hm (fun _ _ h => h.elim), h3⟩
theorem RngTo.step (hm : Mod (ClkS g vp) w w1) (ho : ∀ k, vp1.ownBlock = some k → vp.ownBlock = some k ∨ w.heap.size ≤ k) (h : RngTo B g w1 w2 vp1 vo c out) : RngTo B g w w2 vp vo c out := by
  obtain ⟨vp', h1, h2, h3⟩ := h
  refine ⟨vp', h1, hm.trans h2 (fun i hi hs => ?_), fun k hk => ?_⟩
  · rcases hs with hs | hs
    · exact .inl hs
    · rcases ho i hs with h | h
      · exact .inr h
      · omega
  · rcases h3 k hk with h | h
    · exact ho k h
    · exact .inr (Nat.le_trans hm.size h)
/-- Its cells. -/
theorem RngV.cells (h : RngV B g w vp vo c out) : w.cell? ⟨g, 0, none⟩ = some (.int .i64 c.most) ∧ w.cell? ⟨g, 1, none⟩ = some (.int .i64 c.target) ∧ w.cell? ⟨g, 2, none⟩ = some vp ∧ w.cell? ⟨g, 3, none⟩ = some (.int .i64 c.hot) ∧ w.cell? ⟨g, 4, none⟩ = some (.int .i64 c.cold) ∧ w.cell? ⟨g, 5, none⟩ = some (.int .i64 c.test) ∧ w.cell? ⟨g, 6, none⟩ = some vo :=
  ⟨h.blk.cell 0, h.blk.cell 1, h.blk.cell 2, h.blk.cell 3, h.blk.cell 4, h.blk.cell 5, h.blk.cell 6⟩
theorem RngV.frozen (h : RngV B g w vp vo c out) (i : Nat) : w.frozen? ⟨g, i, none⟩ = false := h.blk.frozen i
theorem RngV.form (h : RngV B g w vp vo c out) : ∃ A n cap, vp = .slice A n cap ∧ Hid (c.ps.length = n) ∧ n ≤ cap ∧ cap ≤ maxLen ∧ RdsP w w.heap.size A n c.ps := by
  obtain ⟨A, cap, h1, h2, h3, h4⟩ := OwnP.form h.ps
  exact ⟨A, _, cap, h1, Lib.hid rfl, h2, h3, h4⟩
/-- One number of it is written. -/
theorem RngV.num (h : RngV B g w vp vo c out) (i : Nat) (u : Value) (hc : (ringC c vp vo).setIfInBounds i u = ringC c' vp vo) (hp : c'.ps = c.ps) : RngV B g (w.setCell ⟨g, i, none⟩ u) vp vo c' out := by
  have hm : Mod (fun k => k = g) w (w.setCell ⟨g, i, none⟩ u) := mod_oneCell _ _ _ _
  refine ⟨by rw [← hc]; exact h.blk.set_ i u, ?_, OwnK.modS h.out hm (fun k hk e => h.ne_out (by rw [hk, e]))⟩
  rw [hp]
  exact OwnK.modS h.ps hm (fun k hk e => h.ne (by rw [hk, e]))
theorem RngTo.num (h : RngV B g w vp vo c out) (i : Nat) (u : Value) (hc : (ringC c vp vo).setIfInBounds i u = ringC c' vp vo) (hp : c'.ps = c.ps) : RngTo B g w (w.setCell ⟨g, i, none⟩ u) vp vo c' out :=
  ⟨vp, h.num i u hc hp, (mod_oneCell _ _ _ _).mono (fun _ _ h => .inl h), fun _ h => .inl h⟩
/-- A page is written, one cell of it, or whole. -/
theorem RngV.field {pg n cap i j : Nat} {p q : PagN} {u : Value} (h : RngV B g w (.slice (some ⟨pg, 0, none⟩) n cap) vo c out) (hn : c.ps.length = n) (hp : c.ps[i]? = some p) (hj : j < 7) (hu : (pagC p).set j u = pagC q) :
    RngV B g (w.setCell ⟨pg, i * 7 + j, none⟩ u) (.slice (some ⟨pg, 0, none⟩) n cap) vo { c with ps := c.ps.set i q } out := by
  have hne : pg ≠ g := fun e => h.ne (by simp [Value.ownBlock, e])
  obtain ⟨_, _, h3⟩ := OwnP.put_ h.ps hn hp hj hu
  exact ⟨h.blk.far (p := ⟨pg, i * 7 + j, none⟩) (fun e => hne e.symm) _, h3, OwnK.modS h.out (mod_oneCell w pg (i * 7 + j) u) (fun k hk e => h.apart pg (by simp [Value.ownBlock]) (by rw [hk, e]))⟩
theorem RngV.whole {pg n cap i : Nat} {p q : PagN} (h : RngV B g w (.slice (some ⟨pg, 0, none⟩) n cap) vo c out) (hn : c.ps.length = n) (hp : c.ps[i]? = some p) :
    RngV B g (((((((w.setCell ⟨pg, i * 7, none⟩ (.int .i64 q.key.s)).setCell ⟨pg, i * 7 + 1, none⟩ (.int .i64 q.key.l)).setCell ⟨pg, i * 7 + 2, none⟩ (.int .i64 q.key.b)).setCell ⟨pg, i * 7 + 3, none⟩ (.int .i64 q.kind)).setCell ⟨pg, i * 7 + 4, none⟩ (.bool q.ref)).setCell ⟨pg, i * 7 + 5, none⟩ (.bool q.trial)).setCell ⟨pg, i * 7 + 6, none⟩ (.int .i64 q.pins)) (.slice (some ⟨pg, 0, none⟩) n cap) vo { c with ps := c.ps.set i q } out ∧
    Mod (fun k => k = pg) w (((((((w.setCell ⟨pg, i * 7, none⟩ (.int .i64 q.key.s)).setCell ⟨pg, i * 7 + 1, none⟩ (.int .i64 q.key.l)).setCell ⟨pg, i * 7 + 2, none⟩ (.int .i64 q.key.b)).setCell ⟨pg, i * 7 + 3, none⟩ (.int .i64 q.kind)).setCell ⟨pg, i * 7 + 4, none⟩ (.bool q.ref)).setCell ⟨pg, i * 7 + 5, none⟩ (.bool q.trial)).setCell ⟨pg, i * 7 + 6, none⟩ (.int .i64 q.pins)) := by
  have hne : pg ≠ g := fun e => h.ne (by simp [Value.ownBlock, e])
  have hm := mod_cellsTo (pagC q) w pg (i * 7) 0
  have h1 := OwnK.whole (us := pagC q) (i := i) h.ps (by rw [List.length_map]; exact hn) (r := pagC p) (by rw [List.getElem?_map, hp]; rfl) rfl
  refine ⟨⟨hm.blk h.blk (fun e => hne e.symm), ?_, OwnK.modS h.out hm (fun k hk e => h.apart pg (by simp [Value.ownBlock]) (by rw [hk, e]))⟩, hm⟩
  unfold OwnP
  rw [List.map_set]
  exact h1
/-- Another row of pages is its own from now on. -/
theorem RngV.rows {vp' : Value} {ps' : List PagN} (h : Blk w g 70 (ringC c vp vo)) (ho : OwnK 3 B w 28 vo (out.map keyC)) (hp : OwnP B w 30 vp' ps') : RngV B g (w.setCell ⟨g, 2, none⟩ vp') vp' vo { c with ps := ps' } out := by
  have hm : Mod (fun k => k = g) w (w.setCell ⟨g, 2, none⟩ vp') := mod_oneCell _ _ _ _
  exact ⟨h.set_ 2 vp', OwnK.modS hp hm (fun k hk e => own_blk_ne hp.2 h (by decide) (by rw [hk, e])), OwnK.modS ho hm (fun k hk e => own_blk_ne ho.2 h (by decide) (by rw [hk, e]))⟩
/-- The i-th page, where it lies. -/
theorem RngV.at_ (h : RngV B g w vp vo c out) {i : Nat} {p : PagN} (hp : c.ps[i]? = some p) : ∃ pg n cap, vp = .slice (some ⟨pg, 0, none⟩) n cap ∧ Hid (c.ps.length = n) ∧ n ≤ cap ∧ cap ≤ maxLen ∧ i < n ∧ Hid (B ≤ pg ∧ pg < w.heap.size) ∧ pg ≠ g ∧
    w.cell? ⟨pg, i * 7, none⟩ = some (.int .i64 p.key.s) ∧ w.cell? ⟨pg, i * 7 + 1, none⟩ = some (.int .i64 p.key.l) ∧ w.cell? ⟨pg, i * 7 + 2, none⟩ = some (.int .i64 p.key.b) ∧ w.cell? ⟨pg, i * 7 + 3, none⟩ = some (.int .i64 p.kind) ∧
    w.cell? ⟨pg, i * 7 + 4, none⟩ = some (.bool p.ref) ∧ w.cell? ⟨pg, i * 7 + 5, none⟩ = some (.bool p.trial) ∧ w.cell? ⟨pg, i * 7 + 6, none⟩ = some (.int .i64 p.pins) ∧ ∀ j, w.frozen? ⟨pg, j, none⟩ = false := by
  have hi := (List.getElem?_eq_some_iff.1 hp).1
  obtain ⟨pg, cap, rfl, h1, h2, h3, h4⟩ := OwnP.form' h.ps (by omega)
  have hne : pg ≠ g := fun e => h.ne (by simp [Value.ownBlock, e])
  obtain ⟨cur, hb, _⟩ := OwnK.blk (by rw [← List.length_map (f := pagC)] at h; exact h.ps)
  have hrd := OwnK.rds (n := c.ps.length) h.ps (by rw [List.length_map])
  obtain ⟨ad, q, e1, _, hq, c0, c1, c2, c3, c4, c5, c6⟩ := RdsP.at_ (i := i) hrd hi
  injection e1 with e1
  subst e1
  rw [hp] at hq
  injection hq with hq
  subst hq
  simp only [add_addr, Nat.zero_add] at c0 c1 c2 c3 c4 c5 c6
  exact ⟨pg, _, cap, rfl, Lib.hid rfl, h1, h2, hi, Lib.hid ⟨h3, h4⟩, hne, c0, c1, c2, c3, c4, c5, c6, fun j => hb.frozen j⟩
end
end Go.Proofs.Ythogflfjdfcpeaa

/- The document's small steps: a copy, a place, a count; the target moved; the next place; a hand where one has gone; whether one is loose. -/
namespace Go.Proofs.Ythogflfjdfcpeaa
open Go.RowKit

/-COPIED-/
set_option maxHeartbeats 1000000 in
set_option maxRecDepth 100000 in
theorem rkNew_any (m : Int) (w : World) : Calls Try.prog 17 #[.int .i64 m] w fun e w' => e = .returned (.agg #[.int .i64 (newK m).most, .int .i64 1, .slice none 0 0, .int .i64 0, .int .i64 0, .int .i64 0]) ∧ Mod (fun _ => False) w w' := by
  obtain ⟨W, hW, hmW, hbW, hzW⟩ := Blk.boxed w 25 #[.int .i64 0, .int .i64 0, .slice none 0 0, .int .i64 0, .int .i64 0, .int .i64 0]
  obtain ⟨G, hG⟩ : ∃ g, g = w.heap.size := ⟨_, rfl⟩
  rw [← hG] at hbW
  obtain ⟨M, hM⟩ : ∃ x, max m 1 = x := ⟨_, rfl⟩
  obtain ⟨R, hR⟩ : ∃ x, min M 1000 = x := ⟨_, rfl⟩
  have hmax := maxI_is (P := Try.prog) (t := 3) (ty := 3) hM
  have hmin := minI_is (P := Try.prog) (t := 3) (ty := 3) hR
  have e : (newK m).most = R := by show min (max m 1) 1000 = R; omega
  rw [e]
  have q0 := hbW.cell 0
  have q1 := hbW.cell 1
  have q2 := hbW.cell 2
  have q3 := hbW.cell 3
  have q4 := hbW.cell 4
  have q5 := hbW.cell 5
  have p0 := hbW.frozen 0
  have p1 := hbW.frozen 1
  have p2 := hbW.frozen 2
  have p3 := hbW.frozen 3
  have p4 := hbW.frozen 4
  have p5 := hbW.frozen 5
  simp at q0 q1 q2 q3 q4 q5
  have HW := Lib.hid hW; have HmW := Lib.hid hmW; have HbW := Lib.hid hbW; have HG := Lib.hid hG
  clear hW hmW hbW hzW hG hM hR e
  go_enter Try.func17, Try.ntmps17
  go_upto_region 1 with fail
  rw [← HW.out, ← HG.out]
  go_wp2_with fail
  refine bodyPost_ret (v := .agg #[.int .i64 R, .int .i64 1, .slice none 0 0, .int .i64 0, .int .i64 0, .int .i64 0]) (by have h := HbW.out.six (.int .i64 R) (.int .i64 1) (.slice none 0 0) (.int .i64 0) (.int .i64 0) (.int .i64 0); simp [results, Try.results17, go_sem, h.1, h.2.1, h.2.2.1, h.2.2.2.1, h.2.2.2.2.1, h.2.2.2.2.2.1]) rfl ?_
  exact ⟨rfl, HmW.out.six_new (by have := HG.out; omega) _ _ _ _ _ _⟩
set_option maxHeartbeats 1000000 in
set_option maxRecDepth 100000 in
theorem rkCount_any (kd m t h cl ts : Int) (A : Option Addr) (n cap : Nat) (ps : List PagN) (w : World) (hs : RdsP w w.heap.size A n ps) (hn : n ≤ 1000000) :
    Calls Try.prog 52 #[.agg #[.int .i64 m, .int .i64 t, .slice A n cap, .int .i64 h, .int .i64 cl, .int .i64 ts], .int .i64 kd] w fun e w' => e = .returned (.int .i64 (cntK kd ps : Int)) ∧ Mod (fun _ => False) w w' := by
  obtain ⟨W, hW, hmW, hbW, hzW⟩ := Blk.boxed w 25 #[.int .i64 m, .int .i64 t, .slice A n cap, .int .i64 h, .int .i64 cl, .int .i64 ts]
  obtain ⟨g, hg⟩ : ∃ g, g = w.heap.size := ⟨_, rfl⟩
  rw [← hg] at hbW
  have Hl := Lib.hid hs.len
  have Hs := Lib.hid (hs.new hmW).fit
  have HW := Lib.hid hW; have HmW := Lib.hid hmW; have Hg := Lib.hid hg; have HbW := Lib.hid hbW
  clear hW hmW hg hbW hzW hs
  go_enter Try.func52, Try.ntmps52
  go_upto_region 1 with fail
  rw [← HW.out, ← Hg.out]
  go_wp2_with fail
  go_loopg [5, 6] n (fun k s5 s6 wr => ∃ i : Nat, i + k = n ∧ s6 = .int .i64 (i : Int) ∧ s5 = .int .i64 ((cntK kd (ps.take i) : Nat) : Int) ∧ wr = W)
  case atStart => exact ⟨0, by omega, rfl, by simp [cntK], rfl⟩
  case round =>
    obtain ⟨i, hik, rfl, rfl, rfl⟩ := hrel
    have Hik := Lib.hid hik
    clear hik
    have y2 := HbW.out.cell 2
    simp at y2
    by_cases hin : i < n
    · obtain ⟨ad, p, rfl, _, hp, c0, c1, c2, c3, c4, c5, c6⟩ := Hs.out.at_ hin
      have Hct := Lib.hid (cnt_take kd hp)
      have hin' : (i : Int) < (n : Int) := by omega
      obtain ⟨q, hq⟩ : ∃ q, cntK kd (ps.take i) = q := ⟨_, rfl⟩
      have hqb : (q : Int) ≤ 1000000 := by
        have h1 : cntK kd (ps.take i) ≤ (ps.take i).length := List.countP_le_length
        rw [List.length_take] at h1
        have := Hl.out
        omega
      have Hq := Lib.hid hq
      rw [hq]
      clear hp hq
      by_cases hk : p.kind = kd
      · have Hk := Lib.hid hk
        clear hk
        have hkk : ((p.kind : Int) == kd) = true := by rw [Hk.out]; simp
        go_wp2_with fail
        go_roundg (gk - 1)
        case measure => have := Hik.out; omega
        case rel => exact ⟨i + 1, by have := Hik.out; omega, by go_num, by rw [Hct.out, if_pos Hk.out, Hq.out]; simp, rfl⟩
      · have Hk := Lib.hid hk
        clear hk
        have hkk : ((p.kind : Int) == kd) = false := by simpa using Hk.out
        go_wp2_with fail
        go_roundg (gk - 1)
        case measure => have := Hik.out; omega
        case rel => exact ⟨i + 1, by have := Hik.out; omega, by go_num, by rw [Hct.out, if_neg Hk.out, Hq.out]; simp, rfl⟩
    · have hin' : ¬ (i : Int) < (n : Int) := by omega
      rw [List.take_of_length_le (by have := Hl.out; have := Hik.out; omega)]
      go_wp2_with fail
      go_ret
      exact ⟨rfl, HmW.out⟩
set_option maxHeartbeats 2000000 in
set_option maxRecDepth 100000 in
theorem rkFind_any (c : ClkN) (k : KeyN) (A : Option Addr) (n cap : Nat) (w : World) (hs : RdsP w w.heap.size A n c.ps) (hn : n ≤ 1000000) :
    Calls Try.prog 20 #[.agg #[.int .i64 c.most, .int .i64 c.target, .slice A n cap, .int .i64 (c.hot : Int), .int .i64 (c.cold : Int), .int .i64 (c.test : Int)], .agg #[.int .i64 k.s, .int .i64 k.l, .int .i64 k.b]] w fun e w' => e = .returned (.int .i64 (placeK k c.ps)) ∧ Mod (fun _ => False) w w' := by
  obtain ⟨W, hW, hmW, hbW, hkW, hzW⟩ := two_boxes w #[.int .i64 c.most, .int .i64 c.target, .slice A n cap, .int .i64 (c.hot : Int), .int .i64 (c.cold : Int), .int .i64 (c.test : Int)] #[.int .i64 k.s, .int .i64 k.l, .int .i64 k.b]
  obtain ⟨g, hg⟩ : ∃ g, g = w.heap.size := ⟨_, rfl⟩
  obtain ⟨g2, hg2⟩ : ∃ g, g = w.heap.size + 1 := ⟨_, rfl⟩
  rw [← hg] at hbW
  rw [← hg2] at hkW
  obtain ⟨ks, kl, kb⟩ := k
  have Hs := Lib.hid (hs.new hmW).fit; have Hl := Lib.hid hs.len
  have HW := Lib.hid hW; have HmW := Lib.hid hmW; have HbW := Lib.hid hbW; have HkW := Lib.hid hkW; have Hg := Lib.hid hg; have Hg2 := Lib.hid hg2
  clear hs hW hmW hbW hkW hg hg2 hzW
  go_enter Try.func20, Try.ntmps20
  go_upto_region 1 with fail
  rw [← HW.out, ← Hg2.out, ← Hg.out]
  go_wp2_with fail
  go_loopg [5] n (fun k s5 wr => ∃ i : Nat, i + k = n ∧ s5 = .int .i64 (i : Int) ∧ findK ⟨ks, kl, kb⟩ (c.ps.take i) = none ∧ Mod (fun _ => False) W wr)
  case atStart => exact ⟨0, by omega, rfl, by simp [findK], Mod.refl _ _⟩
  case round =>
    obtain ⟨i, hik, rfl, hr, hm⟩ := hrel
    have Hik := Lib.hid hik; have Hr := Lib.hid hr; have Hm := Lib.hid hm
    have hb1 := hm.blk HbW.out (fun h => h)
    have hk1 := hm.blk HkW.out (fun h => h)
    have y2 := hb1.cell 2
    have z0 := hk1.cell 0
    have z1 := hk1.cell 1
    have z2 := hk1.cell 2
    simp at y2 z0 z1 z2
    clear hik hr hm hb1 hk1
    by_cases hin : i < n
    · obtain ⟨ad, p, rfl, _, hp, c0, c1, c2, c3, c4, c5, c6⟩ := (Hs.out.new Hm.out).at_ hin
      have Hp := Lib.hid hp
      obtain ⟨⟨s, l, b⟩, kd, rf, tr, pn⟩ := p
      simp only at c0 c1 c2 c3 c4 c5 c6
      have hin' : (i : Int) < (n : Int) := by omega
      clear hp c3 c4 c5 c6
      by_cases d0 : s = ks
      · subst d0
        by_cases d1 : l = kl
        · subst d1
          by_cases d2 : b = kb
          · subst d2
            have Hf := Lib.hid (find_here Hr.out Hp.out rfl)
            go_upto_region 4 with fail
            go_quiet (fail)
            go_wp2_with fail
            go_ret
            exact ⟨by unfold placeK; rw [Hf.out]; rfl, HmW.out.trans (Hm.out.drewN _) (fun _ _ h => h)⟩
          · have Hf := Lib.hid (find_on Hr.out Hp.out (fun e => d2 (by injection e)))
            have D := Lib.hid d2
            go_upto_region 4 with fail
            go_quiet (fail)
            go_wp2_with fail
            go_roundg (gk - 1)
            case measure => have := Hik.out; omega
            case rel => exact ⟨i + 1, by have := Hik.out; omega, by go_num, Hf.out, Hm.out.drewN _⟩
        · have Hf := Lib.hid (find_on Hr.out Hp.out (fun e => d1 (by injection e)))
          have D := Lib.hid d1
          go_upto_region 4 with fail
          go_quiet (fail)
          go_wp2_with fail
          go_roundg (gk - 1)
          case measure => have := Hik.out; omega
          case rel => exact ⟨i + 1, by have := Hik.out; omega, by go_num, Hf.out, Hm.out.drewN _⟩
      · have Hf := Lib.hid (find_on Hr.out Hp.out (fun e => d0 (by injection e)))
        have D := Lib.hid d0
        go_upto_region 4 with fail
        go_quiet (fail)
        go_wp2_with fail
        go_roundg (gk - 1)
        case measure => have := Hik.out; omega
        case rel => exact ⟨i + 1, by have := Hik.out; omega, by go_num, Hf.out, Hm.out.drewN _⟩
    · have hin' : ¬ (i : Int) < (n : Int) := by omega
      have Hf := Lib.hid (find_end Hr.out (by have := Hl.out; have := Hik.out; omega))
      go_wp2_with fail
      go_ret
      exact ⟨by unfold placeK; rw [Hf.out]; rfl, HmW.out.trans Hm.out (fun _ _ h => h)⟩
set_option maxHeartbeats 1000000 in
set_option maxRecDepth 100000 in
theorem rkAim_any (B g : Nat) (vp vo : Value) (c : ClkN) (os : List KeyN) (n : Int) (w : World) (h : RngV B g w vp vo c os) (hb : BaseK c) (hn : -1 ≤ n ∧ n ≤ 1) :
    Calls Try.prog 55 #[.pointer (some ⟨g, 0, none⟩), .int .i64 n] w fun e w' => e = .returned (.tuple #[]) ∧ RngTo B g w w' vp vo (aimK c n) os := by
  obtain ⟨y0, y1, _⟩ := h.cells
  have f1 := h.frozen 1
  have h1 := hb.most
  have h2 := hb.target
  obtain ⟨T1, hT1⟩ : ∃ x, c.target + n = x := ⟨_, rfl⟩
  obtain ⟨M, hM⟩ : ∃ x, max T1 1 = x := ⟨_, rfl⟩
  obtain ⟨R, hR⟩ : ∃ x, min M c.most = x := ⟨_, rfl⟩
  have hmax := maxI_is (P := Try.prog) (t := 3) (ty := 3) hM
  have hmin := minI_is (P := Try.prog) (t := 3) (ty := 3) hR
  have hwr : IntKind.i64.wrap (c.target + n) = T1 := by rw [hT1]; exact IntWalk.i64_in _ (by omega)
  have Hfin : Hid (RngTo B g w (w.setCell ⟨g, 1, none⟩ (.int .i64 R)) vp vo (aimK c n) os) := Lib.hid (RngTo.num h 1 _ (by
    have e : min (max (c.target + n) 1) c.most = R := by omega
    show (ringC c vp vo).setIfInBounds 1 _ = ringC { c with target := min (max (c.target + n) 1) c.most } vp vo
    rw [e]
    rfl) rfl)
  have HT1 := Lib.hid hT1; have HM := Lib.hid hM; have HR := Lib.hid hR
  clear hT1 hM hR h h1 h2 hn hb
  go_enter Try.func55, Try.ntmps55
  go_region
  go_end0
  exact ⟨rfl, Hfin.out.then_ (Mod.refl _ _).drew⟩
set_option maxHeartbeats 1000000 in
set_option maxRecDepth 100000 in
theorem rkOn_any (g : Nat) (A : Option Addr) (n cap i : Nat) (w : World) (y2 : w.cell? ⟨g, 2, none⟩ = some (.slice A n cap)) (hi : i ≤ 1000000) :
    Calls Try.prog 67 #[.pointer (some ⟨g, 0, none⟩), .int .i64 (i : Int)] w fun e w' => e = .returned (.int .i64 ((onK n i : Nat) : Int)) ∧ w' = w := by
  go_enter Try.func67, Try.ntmps67
  have b2 : (i : Int) ≤ 1000000 := by omega
  by_cases h : n ≤ i + 1
  · have e : onK n i = 0 := by unfold onK; rw [if_pos h]
    have b1 : (n : Int) ≤ (i : Int) + 1 := by omega
    rw [e]
    clear h e
    go_wp2_with fail
    go_ret
    exact ⟨rfl, rfl⟩
  · have e : onK n i = i + 1 := by unfold onK; rw [if_neg h]
    have b1 : ¬ (n : Int) ≤ (i : Int) + 1 := by omega
    rw [e]
    clear h e
    go_wp2_with fail
    go_ret
    exact ⟨rfl, rfl⟩
set_option maxHeartbeats 1000000 in
set_option maxRecDepth 100000 in
theorem rkGone_any (g : Nat) (A : Option Addr) (n cap hd i : Nat) (w : World) (y2 : w.cell? ⟨g, 2, none⟩ = some (.slice A n cap)) (hh : hd ≤ 1000000) :
    Calls Try.prog 65 #[.pointer (some ⟨g, 0, none⟩), .int .i64 (hd : Int), .int .i64 (i : Int)] w fun e w' => e = .returned (.int .i64 ((goneK n hd i : Nat) : Int)) ∧ w' = w := by
  go_enter Try.func65, Try.ntmps65
  have b2 : (hd : Int) ≤ 1000000 := by omega
  by_cases h : i < hd
  · have b1 : (i : Int) < (hd : Int) := by omega
    have E := Lib.hid (gone_up (n := n) h)
    clear h
    go_wp2_with fail
    go_ret
    exact ⟨by rw [E.out]; rfl, rfl⟩
  · have b1 : ¬ (i : Int) < (hd : Int) := by omega
    by_cases h2 : n ≤ hd
    · have b3 : (n : Int) ≤ (hd : Int) := by omega
      have E := Lib.hid (gone_last (n := n) h h2)
      clear h h2
      go_wp2_with fail
      go_ret
      exact ⟨by rw [E.out]; rfl, rfl⟩
    · have b3 : ¬ (n : Int) ≤ (hd : Int) := by omega
      have E := Lib.hid (gone_not (n := n) h h2)
      clear h h2
      go_wp2_with fail
      go_ret
      exact ⟨by rw [E.out]; rfl, rfl⟩
end Go.Proofs.Ythogflfjdfcpeaa

/- The document's goes. -/
namespace Go.Proofs.Ythogflfjdfcpeaa
open Go.RowKit

set_option linter.unusedSimpArgs false in
set_option maxHeartbeats 4000000 in
set_option maxRecDepth 100000 in
theorem rkGoes_any (B g : Nat) (vp vo : Value) (c : ClkN) (os : List KeyN) (i : Nat) (w : World) (h : RngV B g w vp vo c os) (hb : BaseK c) (hi : i < c.ps.length) (hn : c.ps.length ≤ 100000) (hB : B ≤ w.heap.size) :
    Calls Try.prog 54 #[.pointer (some ⟨g, 0, none⟩), .int .i64 (i : Int)] w fun e w' => e = .returned (.tuple #[]) ∧ RngTo B g w w' vp vo (goesK c i) os := by
  obtain ⟨A, n, cap, rfl, Hnn, hnc, hcm, hR⟩ := h.form
  have hn9 : n ≤ 100000 := by have := Hnn.out; omega
  have hin : i < n := by have := Hnn.out; omega
  obtain ⟨q, hq⟩ : ∃ q, q = i + 1 := ⟨_, rfl⟩
  obtain ⟨A8, hA8⟩ : ∃ A8, (if cap = q then A else A.map (·.add (q * 7))) = A8 := ⟨_, rfl⟩
  have hdr : RdsK 7 w w.heap.size A8 (n - q) ((c.ps.drop q).map pagC) := by rw [← hA8]; exact hR.drop (k := q) (by omega) hnc
  have htk : RdsK 7 w w.heap.size A i ((c.ps.take i).map pagC) := hR.take (k := i) (by omega)
  have HX : Hid (∀ W' : World, Mod (fun _ => False) w W' → W'.cell? ⟨g, 2, none⟩ = some (.slice A n cap)) := Lib.hid (fun W' hm => (h.new hm).cells.2.2.1)
  have hwq : IntKind.i64.wrap ((i : Int) + 1) = (q : Int) := by rw [IntWalk.i64_in _ (by omega)]; omega
  have b1 : (i : Int) ≤ (n : Int) := by omega
  have b2 : (i : Int) ≤ (cap : Int) := by omega
  have b3 : (q : Int) ≤ (n : Int) := by omega
  have b4 : (q : Int) ≤ (cap : Int) := by omega
  have b5 : (0 : Int) ≤ (q : Int) := by omega
  have b6 : (n : Int) ≤ (cap : Int) := by omega
  have b7 : ((n - q : Nat) : Int) = (n : Int) - (q : Int) := by omega
  have hr1 : ([] : List (List Value)).length + i ≤ maxLen := by unfold maxLen; simp; omega
  have hr2 : (([] : List (List Value)).length + i) * 48 ≤ 140737488355328 := by simp; omega
  have hlt : ((c.ps.take i).map pagC).length = i := by rw [List.length_map, List.length_take]; omega
  have hr3 : (([] : List (List Value)) ++ (c.ps.take i).map pagC).length + (n - q) ≤ maxLen := by rw [List.nil_append, hlt]; unfold maxLen; omega
  have hr4 : ((([] : List (List Value)) ++ (c.ps.take i).map pagC).length + (n - q)) * 48 ≤ 140737488355328 := by rw [List.nil_append, hlt]; omega
  have Hlit : Hid (OwnK 7 w.heap.size (w.alloc (.cells #[] 30)).drew 30 (.slice (some ⟨w.heap.size, 0, none⟩) 0 0) []) := Lib.hid (own_litK (Nat.le_refl _)).drew
  have Htk := Lib.hid (htk.fit.alloc (Nat.le_refl _) (.cells #[] 30)).drew
  have hszL : w.heap.size ≤ (w.alloc (.cells #[] 30)).drew.heap.size := by show w.heap.size ≤ (w.alloc _).heap.size; simp
  have Hdr := Lib.hid hdr; have Hone1 := Lib.hid (pagC_one (c.ps.take i)); have Hone2 := Lib.hid (pagC_one (c.ps.drop q)); have Hq := Lib.hid hq
  have Hr := Lib.hid h; have Hb := Lib.hid hb; have Hn := Lib.hid hn; have Hi := Lib.hid hi; have HB := Lib.hid hB
  clear h hb hn hi hB hnc hcm hR hn9 hq hdr htk hlt hin
  go_enter Try.func54, Try.ntmps54
  go_upto_region 0 with fail
  refine wp_region_T (fun W' => W'.cell? ⟨g, 2, none⟩ = some (.slice A n cap)) 19 (by kernel_rfl) (HX.out _ (Mod.refl _ w).drew) (fun hHeld => ?_)
  refine wpAnyT_take (i := 0) (v := ?_) rfl (by decide) (by kernel_rfl) (by kernel_rfl) (by kernel_rfl) (by kernel_rfl) (fun _ _ _ h => h) (Or.inl ⟨by rfl, ?_⟩) hHeld ?_
  rotate_left
  · (intro w hSw; (try dsimp only at hSw); go_simp; first | done | with_reducible rfl)
  simp only [Act.put, List.setIfInBounds_toArray, List.set_cons_zero, List.set_cons_succ]
  refine wpAnyT_take (i := 2) (v := ?_) rfl (by decide) (by kernel_rfl) (by kernel_rfl) (by kernel_rfl) (by kernel_rfl) (fun _ _ _ h => h) (Or.inl ⟨by rfl, ?_⟩) hHeld ?_
  rotate_left
  · (intro w hSw; (try dsimp only at hSw); go_simp; first | done | with_reducible rfl)
  simp only [Act.put, List.setIfInBounds_toArray, List.set_cons_zero, List.set_cons_succ]
  refine wpAnyT_take (i := 3) (v := ?_) rfl (by decide) (by kernel_rfl) (by kernel_rfl) (by kernel_rfl) (by kernel_rfl) (fun _ _ _ h => h) (Or.inl ⟨by rfl, ?_⟩) hHeld ?_
  rotate_left
  · (intro w hSw; (try dsimp only at hSw); go_simp; first | done | with_reducible rfl)
  simp only [Act.put, List.setIfInBounds_toArray, List.set_cons_zero, List.set_cons_succ]
  refine wpAnyT_take (i := 4) (v := ?_) rfl (by decide) (by kernel_rfl) (by kernel_rfl) (by kernel_rfl) (by kernel_rfl) (fun _ _ _ h => h) (Or.inl ⟨by rfl, ?_⟩) hHeld ?_
  rotate_left
  · (intro w hSw; (try dsimp only at hSw); go_simp; first | done | with_reducible rfl)
  simp only [Act.put, List.setIfInBounds_toArray, List.set_cons_zero, List.set_cons_succ]
  refine wpAnyT_take (i := 5) (v := ?_) rfl (by decide) (by kernel_rfl) (by kernel_rfl) (by kernel_rfl) (by kernel_rfl) (fun _ _ _ h => h) (Or.inl ⟨by rfl, ?_⟩) hHeld ?_
  rotate_left
  · (intro w hSw; (try dsimp only at hSw); go_simp; first | done | with_reducible rfl)
  simp only [Act.put, List.setIfInBounds_toArray, List.set_cons_zero, List.set_cons_succ]
  refine wpAnyT_take (i := 6) (v := ?_) rfl (by decide) (by kernel_rfl) (by kernel_rfl) (by kernel_rfl) (by kernel_rfl) (fun _ _ _ h => h) (Or.inl ⟨by rfl, ?_⟩) hHeld ?_
  rotate_left
  · (intro w hSw; (try dsimp only at hSw); go_simp; first | done | with_reducible rfl)
  simp only [Act.put, List.setIfInBounds_toArray, List.set_cons_zero, List.set_cons_succ]
  refine wpAnyT_take (i := 7) (v := ?_) rfl (by decide) (by kernel_rfl) (by kernel_rfl) (by kernel_rfl) (by kernel_rfl) (fun _ _ _ h => h) (Or.inl ⟨by rfl, ?_⟩) hHeld ?_
  rotate_left
  · (intro w hSw; (try dsimp only at hSw); go_simp; first | done | with_reducible rfl)
  simp only [Act.put, List.setIfInBounds_toArray, List.set_cons_zero, List.set_cons_succ]
  refine wpAnyT_take (i := 8) (v := ?_) rfl (by decide) (by kernel_rfl) (by kernel_rfl) (by kernel_rfl) (by kernel_rfl) (fun _ _ _ h => h) (Or.inl ⟨by rfl, ?_⟩) hHeld ?_
  rotate_left
  · (intro w hSw; (try dsimp only at hSw); go_simp; first | done | with_reducible rfl)
  simp only [Act.put, List.setIfInBounds_toArray, List.set_cons_zero, List.set_cons_succ]
  refine wpAnyT_take (i := 10) (v := ?_) rfl (by decide) (by kernel_rfl) (by kernel_rfl) (by kernel_rfl) (by kernel_rfl) (fun _ _ _ h => h) (Or.inl ⟨by rfl, ?_⟩) hHeld ?_
  rotate_left
  · (intro w hSw; (try dsimp only at hSw); go_simp; first | done | with_reducible rfl)
  simp only [Act.put, List.setIfInBounds_toArray, List.set_cons_zero, List.set_cons_succ]
  refine wpAnyT_take (i := 11) (v := ?_) rfl (by decide) (by kernel_rfl) (by kernel_rfl) (by kernel_rfl) (by kernel_rfl) (fun _ _ _ h => h) (Or.inl ⟨by rfl, ?_⟩) hHeld ?_
  rotate_left
  · (intro w hSw; (try dsimp only at hSw); go_simp; first | done | with_reducible rfl)
  simp only [Act.put, List.setIfInBounds_toArray, List.set_cons_zero, List.set_cons_succ]
  refine wpAnyT_take (i := 12) (v := ?_) rfl (by decide) (by kernel_rfl) (by kernel_rfl) (by kernel_rfl) (by kernel_rfl) (fun _ _ _ h => h) (Or.inl ⟨by rfl, ?_⟩) hHeld ?_
  rotate_left
  · (intro w hSw; (try dsimp only at hSw); go_simp; first | done | with_reducible rfl)
  simp only [Act.put, List.setIfInBounds_toArray, List.set_cons_zero, List.set_cons_succ]
  refine wpAnyT_take (i := 13) (v := ?_) rfl (by decide) (by kernel_rfl) (by kernel_rfl) (by kernel_rfl) (by kernel_rfl) (fun _ _ _ h => h) (Or.inl ⟨by rfl, ?_⟩) hHeld ?_
  rotate_left
  · (intro w hSw; (try dsimp only at hSw); go_simp; first | done | with_reducible rfl)
  simp only [Act.put, List.setIfInBounds_toArray, List.set_cons_zero, List.set_cons_succ]
  refine wpAnyT_take (i := 14) (v := ?_) rfl (by decide) (by kernel_rfl) (by kernel_rfl) (by kernel_rfl) (by kernel_rfl) (fun _ _ _ h => h) (Or.inl ⟨by rfl, ?_⟩) hHeld ?_
  rotate_left
  · (intro w hSw; (try dsimp only at hSw); go_simp; first | done | with_reducible rfl)
  simp only [Act.put, List.setIfInBounds_toArray, List.set_cons_zero, List.set_cons_succ]
  refine wpAnyT_take (i := 15) (v := ?_) rfl (by decide) (by kernel_rfl) (by kernel_rfl) (by kernel_rfl) (by kernel_rfl) (fun _ _ _ h => h) (Or.inl ⟨by rfl, ?_⟩) hHeld ?_
  rotate_left
  · (intro w hSw; (try dsimp only at hSw); go_simp; first | done | with_reducible rfl)
  simp only [Act.put, List.setIfInBounds_toArray, List.set_cons_zero, List.set_cons_succ]
  refine wpAnyT_take (i := 16) (v := ?_) rfl (by decide) (by kernel_rfl) (by kernel_rfl) (by kernel_rfl) (by kernel_rfl) (fun _ _ _ h => h) (Or.inl ⟨by rfl, ?_⟩) hHeld ?_
  rotate_left
  · (intro w hSw; (try dsimp only at hSw); go_simp; first | done | with_reducible rfl)
  simp only [Act.put, List.setIfInBounds_toArray, List.set_cons_zero, List.set_cons_succ]
  refine wpAnyT_take (i := 17) (v := ?_) rfl (by decide) (by kernel_rfl) (by kernel_rfl) (by kernel_rfl) (by kernel_rfl) (fun _ _ _ h => h) (Or.inl ⟨by rfl, ?_⟩) hHeld ?_
  rotate_left
  · (intro w hSw; (try dsimp only at hSw); go_simp; first | done | with_reducible rfl)
  simp only [Act.put, List.setIfInBounds_toArray, List.set_cons_zero, List.set_cons_succ]
  refine wpAnyT_ready (rs := [1]) (by kernel_rfl) (by simp) (AllReadyT.cons rfl (fun K hK => ?_) AllReadyT.nil)
  go_simp
  refine hK.out _ _ (HX.out _ (((Mod.refl _ w).alloc _).drew)) (fun hHeld => ?_)
  clear hK K
  refine wpAnyT_ready (rs := [9]) (by kernel_rfl) (by simp) (AllReadyT.cons rfl (fun K hK => ?_) AllReadyT.nil)
  refine step_appK (v := .slice (some ⟨w.heap.size, 0, none⟩) 0 0) (news := (c.ps.take i).map pagC) rfl (.tmp 5) (.tmp 12) _ rfl eltPag rfl Hlit.out rfl Htk.out Hone1.out hr1 hr2 hszL ?_
  intro v10 w10 HO10 HMo10 HOb10
  obtain ⟨A10, n10, c10, rfl, _⟩ := HO10.out.formN
  have hm10 : Mod (fun _ => False) w w10 := (((((Mod.refl (fun j => w.heap.size ≤ j) w).alloc _).drew).trans HMo10.out (fun j _ e => (Hlit.out.block j e).1))).mono (fun j hj h => by omega)
  refine hK.out _ _ (HX.out _ hm10) (fun hHeld => ?_)
  clear hK K
  have Hm10 := Lib.hid hm10
  have Hdr10 := Lib.hid (Hdr.out.new hm10)
  have hsz10 : w.heap.size ≤ w10.heap.size := hm10.size
  clear hm10
  refine wpAnyT_ready (rs := [18]) (by kernel_rfl) (by simp) (AllReadyT.cons rfl (fun K hK => ?_) AllReadyT.nil)
  refine step_appK (v := .slice A10 n10 c10) (news := (c.ps.drop q).map pagC) rfl (.tmp 13) (.tmp 21) _ rfl eltPag rfl HO10.out rfl Hdr10.out Hone2.out hr3 hr4 hsz10 ?_
  intro v11 w11 HO11 HMo11 HOb11
  obtain ⟨A11, n11, c11, rfl, HL11, _⟩ := HO11.out.formN
  have hm11 : Mod (fun _ => False) w w11 := ((Hm10.out.mono (fun _ _ h => h.elim) : Mod (fun j => w.heap.size ≤ j) w w10).trans HMo11.out (fun j _ e => (HO10.out.block j e).1)).mono (fun j hj h => by omega)
  refine hK.out _ _ (HX.out _ hm11) (fun hHeld => ?_)
  clear hK K hHeld
  have k2 := (Hr.out.new hm11).cells.2.2.1
  have f2 := (Hr.out.new hm11).frozen 2
  have Hm11 := Lib.hid hm11
  clear hm11
  refine wpAnyT_rest (by kernel_rfl) ?_
  refine wpAny_take (i := 19) (v := ?_) rfl (by kernel_rfl) (by kernel_rfl) (by kernel_rfl) (fun _ _ _ h => h) (Or.inl ⟨by rfl, ?_⟩) ?_
  rotate_left
  · (intro w; go_simp; first | done | with_reducible rfl)
  simp only [Act.put, List.setIfInBounds_toArray, List.set_cons_zero, List.set_cons_succ]
  refine wpAny_take (i := 20) (v := ?_) rfl (by kernel_rfl) (by kernel_rfl) (by kernel_rfl) (fun _ _ _ h => h) (Or.inl ⟨by rfl, ?_⟩) ?_
  rotate_left
  · (intro w; go_simp; first | done | with_reducible rfl)
  simp only [Act.put, List.setIfInBounds_toArray, List.set_cons_zero, List.set_cons_succ]
  refine wpAny_take (i := 21) (v := ?_) rfl (by kernel_rfl) (by kernel_rfl) (by kernel_rfl) (fun _ _ _ h => h) (Or.inl ⟨by rfl, ?_⟩) ?_
  rotate_left
  · (intro w; go_simp; first | done | with_reducible rfl)
  simp only [Act.put, List.setIfInBounds_toArray, List.set_cons_zero, List.set_cons_succ]
  refine wpAny_ready (rs := [22]) (by kernel_rfl) (by simp) (AllReady.cons rfl (fun K hK => ?_) AllReady.nil)
  go_simp
  refine hK _ _ ?_
  clear hK K
  refine wpAny_done (by kernel_rfl) ?_ _
  obtain ⟨W2, hW2⟩ : ∃ W2, W2 = w11.setCell ⟨g, 2, none⟩ (.slice A11 n11 c11) := ⟨_, rfl⟩
  have hown : OwnP w.heap.size w11 30 (.slice A11 n11 c11) (strikeK c.ps i) := by
    have h := HO11.out
    rw [List.nil_append, ← List.map_append, Hq.out] at h
    exact h
  have hc2 : RngV B g W2 (.slice A11 n11 c11) vo { c with ps := strikeK c.ps i } os := by
    rw [hW2]
    exact RngV.rows (Hr.out.new Hm11.out).blk (Hr.out.new Hm11.out).out (hown.mono HB.out)
  have hm2 : Mod (fun k => k = g) w W2 := by rw [hW2]; exact (Hm11.out.mono (fun _ _ h => h.elim)).trans (mod_oneCell w11 g 2 _) (fun _ _ h => h)
  have hl2 : (strikeK c.ps i).length = n11 := by have h := HL11.out; rw [List.nil_append, ← List.map_append, List.length_map, Hq.out] at h; exact h
  have Hown : Hid (∀ k, (Value.slice A11 n11 c11).ownBlock = some k → w.heap.size ≤ k) := Lib.hid (fun k hk => (OwnK.block hown k hk).1)
  obtain ⟨_, _, y2, y3, y4, y5, _⟩ := hc2.cells
  have g3 := hc2.frozen 3
  have g4 := hc2.frozen 4
  have g5 := hc2.frozen 5
  have Hfin : Hid (RngV B g (((W2.setCell ⟨g, 3, none⟩ (.int .i64 ((goneK n11 c.hot i : Nat) : Int))).setCell ⟨g, 4, none⟩ (.int .i64 ((goneK n11 c.cold i : Nat) : Int))).setCell ⟨g, 5, none⟩ (.int .i64 ((goneK n11 c.test i : Nat) : Int))) (.slice A11 n11 c11) vo (goesK c i) os ∧ Mod (fun k => k = g) w (((W2.setCell ⟨g, 3, none⟩ (.int .i64 ((goneK n11 c.hot i : Nat) : Int))).setCell ⟨g, 4, none⟩ (.int .i64 ((goneK n11 c.cold i : Nat) : Int))).setCell ⟨g, 5, none⟩ (.int .i64 ((goneK n11 c.test i : Nat) : Int)))) := Lib.hid (by
    have h3 := hc2.num 3 (.int .i64 ((goneK n11 c.hot i : Nat) : Int)) (c' := { c with ps := strikeK c.ps i, hot := goneK n11 c.hot i }) rfl rfl
    have h4 := h3.num 4 (.int .i64 ((goneK n11 c.cold i : Nat) : Int)) (c' := { c with ps := strikeK c.ps i, hot := goneK n11 c.hot i, cold := goneK n11 c.cold i }) rfl rfl
    have h5 := h4.num 5 (.int .i64 ((goneK n11 c.test i : Nat) : Int)) (c' := { c with ps := strikeK c.ps i, hot := goneK n11 c.hot i, cold := goneK n11 c.cold i, test := goneK n11 c.test i }) rfl rfl
    refine ⟨?_, ((hm2.trans (mod_oneCell _ g 3 _) (fun _ _ h => h)).trans (mod_oneCell _ g 4 _) (fun _ _ h => h)).trans (mod_oneCell _ g 5 _) (fun _ _ h => h)⟩
    rw [← hl2] at h5 ⊢
    exact h5)
  have bh : c.hot ≤ 1000000 := by have := Hb.out.hot; have := Hn.out; omega
  have bc : c.cold ≤ 1000000 := by have := Hb.out.cold; have := Hn.out; omega
  have bt : c.test ≤ 1000000 := by have := Hb.out.test; have := Hn.out; omega
  have Hmw := Lib.hid Hm11.out
  clear hown hc2 hm2 hl2 HO11 HMo11 HOb11 HL11 HO10 HMo10 HOb10 Hdr10 k2 f2
  have HW2 := Lib.hid hW2
  go_upto_region 1 with fail
  rw [← HW2.out]
  clear hW2
  refine wp_region_any (by kernel_rfl) ?_
  refine wpAny_take (i := 0) (v := ?_) rfl (by kernel_rfl) (by kernel_rfl) (by kernel_rfl) (fun _ _ _ h => h) (Or.inl ⟨by rfl, ?_⟩) ?_
  rotate_left
  · (intro w; go_simp; first | done | with_reducible rfl)
  simp only [Act.put, List.setIfInBounds_toArray, List.set_cons_zero, List.set_cons_succ]
  refine wpAny_take (i := 1) (v := ?_) rfl (by kernel_rfl) (by kernel_rfl) (by kernel_rfl) (fun _ _ _ h => h) (Or.inl ⟨by rfl, ?_⟩) ?_
  rotate_left
  · (intro w; go_simp; first | done | with_reducible rfl)
  simp only [Act.put, List.setIfInBounds_toArray, List.set_cons_zero, List.set_cons_succ]
  refine wpAny_take (i := 2) (v := ?_) rfl (by kernel_rfl) (by kernel_rfl) (by kernel_rfl) (fun _ _ _ h => h) (Or.inl ⟨by rfl, ?_⟩) ?_
  rotate_left
  · (intro w; go_simp; first | done | with_reducible rfl)
  simp only [Act.put, List.setIfInBounds_toArray, List.set_cons_zero, List.set_cons_succ]
  refine wpAny_take (i := 3) (v := ?_) rfl (by kernel_rfl) (by kernel_rfl) (by kernel_rfl) (fun _ _ _ h => h) (Or.inl ⟨by rfl, ?_⟩) ?_
  rotate_left
  · (intro w; go_simp; first | done | with_reducible rfl)
  simp only [Act.put, List.setIfInBounds_toArray, List.set_cons_zero, List.set_cons_succ]
  refine wpAny_take (i := 4) (v := ?_) rfl (by kernel_rfl) (by kernel_rfl) (by kernel_rfl) (fun _ _ _ h => h) (Or.inl ⟨by rfl, ?_⟩) ?_
  rotate_left
  · (intro w; go_simp; first | done | with_reducible rfl)
  simp only [Act.put, List.setIfInBounds_toArray, List.set_cons_zero, List.set_cons_succ]
  refine wpAny_take (i := 5) (v := ?_) rfl (by kernel_rfl) (by kernel_rfl) (by kernel_rfl) (fun _ _ _ h => h) (Or.inl ⟨by rfl, ?_⟩) ?_
  rotate_left
  · (intro w; go_simp; first | done | with_reducible rfl)
  simp only [Act.put, List.setIfInBounds_toArray, List.set_cons_zero, List.set_cons_succ]
  refine wpAny_take (i := 6) (v := ?_) rfl (by kernel_rfl) (by kernel_rfl) (by kernel_rfl) (fun _ _ _ h => h) (Or.inl ⟨by rfl, ?_⟩) ?_
  rotate_left
  · (intro w; go_simp; first | done | with_reducible rfl)
  simp only [Act.put, List.setIfInBounds_toArray, List.set_cons_zero, List.set_cons_succ]
  refine wpAny_take (i := 7) (v := ?_) rfl (by kernel_rfl) (by kernel_rfl) (by kernel_rfl) (fun _ _ _ h => h) (Or.inl ⟨by rfl, ?_⟩) ?_
  rotate_left
  · (intro w; go_simp; first | done | with_reducible rfl)
  simp only [Act.put, List.setIfInBounds_toArray, List.set_cons_zero, List.set_cons_succ]
  refine wpAny_take (i := 9) (v := ?_) rfl (by kernel_rfl) (by kernel_rfl) (by kernel_rfl) (fun _ _ _ h => h) (Or.inl ⟨by rfl, ?_⟩) ?_
  rotate_left
  · (intro w; go_simp; first | done | with_reducible rfl)
  simp only [Act.put, List.setIfInBounds_toArray, List.set_cons_zero, List.set_cons_succ]
  refine wpAny_take (i := 11) (v := ?_) rfl (by kernel_rfl) (by kernel_rfl) (by kernel_rfl) (fun _ _ _ h => h) (Or.inl ⟨by rfl, ?_⟩) ?_
  rotate_left
  · (intro w; go_simp; first | done | with_reducible rfl)
  simp only [Act.put, List.setIfInBounds_toArray, List.set_cons_zero, List.set_cons_succ]
  refine wpAny_take (i := 12) (v := ?_) rfl (by kernel_rfl) (by kernel_rfl) (by kernel_rfl) (fun _ _ _ h => h) (Or.inl ⟨by rfl, ?_⟩) ?_
  rotate_left
  · (intro w; go_simp; first | done | with_reducible rfl)
  simp only [Act.put, List.setIfInBounds_toArray, List.set_cons_zero, List.set_cons_succ]
  refine wpAny_take (i := 13) (v := ?_) rfl (by kernel_rfl) (by kernel_rfl) (by kernel_rfl) (fun _ _ _ h => h) (Or.inl ⟨by rfl, ?_⟩) ?_
  rotate_left
  · (intro w; go_simp; first | done | with_reducible rfl)
  simp only [Act.put, List.setIfInBounds_toArray, List.set_cons_zero, List.set_cons_succ]
  refine wpAny_take (i := 14) (v := ?_) rfl (by kernel_rfl) (by kernel_rfl) (by kernel_rfl) (fun _ _ _ h => h) (Or.inl ⟨by rfl, ?_⟩) ?_
  rotate_left
  · (intro w; go_simp; first | done | with_reducible rfl)
  simp only [Act.put, List.setIfInBounds_toArray, List.set_cons_zero, List.set_cons_succ]
  refine wpAny_take (i := 15) (v := ?_) rfl (by kernel_rfl) (by kernel_rfl) (by kernel_rfl) (fun _ _ _ h => h) (Or.inl ⟨by rfl, ?_⟩) ?_
  rotate_left
  · (intro w; go_simp; first | done | with_reducible rfl)
  simp only [Act.put, List.setIfInBounds_toArray, List.set_cons_zero, List.set_cons_succ]
  refine wpAny_take (i := 17) (v := ?_) rfl (by kernel_rfl) (by kernel_rfl) (by kernel_rfl) (fun _ _ _ h => h) (Or.inl ⟨by rfl, ?_⟩) ?_
  rotate_left
  · (intro w; go_simp; first | done | with_reducible rfl)
  simp only [Act.put, List.setIfInBounds_toArray, List.set_cons_zero, List.set_cons_succ]
  refine wpAny_take (i := 19) (v := ?_) rfl (by kernel_rfl) (by kernel_rfl) (by kernel_rfl) (fun _ _ _ h => h) (Or.inl ⟨by rfl, ?_⟩) ?_
  rotate_left
  · (intro w; go_simp; first | done | with_reducible rfl)
  simp only [Act.put, List.setIfInBounds_toArray, List.set_cons_zero, List.set_cons_succ]
  refine wpAny_take (i := 20) (v := ?_) rfl (by kernel_rfl) (by kernel_rfl) (by kernel_rfl) (fun _ _ _ h => h) (Or.inl ⟨by rfl, ?_⟩) ?_
  rotate_left
  · (intro w; go_simp; first | done | with_reducible rfl)
  simp only [Act.put, List.setIfInBounds_toArray, List.set_cons_zero, List.set_cons_succ]
  refine wpAny_take (i := 21) (v := ?_) rfl (by kernel_rfl) (by kernel_rfl) (by kernel_rfl) (fun _ _ _ h => h) (Or.inl ⟨by rfl, ?_⟩) ?_
  rotate_left
  · (intro w; go_simp; first | done | with_reducible rfl)
  simp only [Act.put, List.setIfInBounds_toArray, List.set_cons_zero, List.set_cons_succ]
  refine wpAny_take (i := 22) (v := ?_) rfl (by kernel_rfl) (by kernel_rfl) (by kernel_rfl) (fun _ _ _ h => h) (Or.inl ⟨by rfl, ?_⟩) ?_
  rotate_left
  · (intro w; go_simp; first | done | with_reducible rfl)
  simp only [Act.put, List.setIfInBounds_toArray, List.set_cons_zero, List.set_cons_succ]
  refine wpAny_take (i := 23) (v := ?_) rfl (by kernel_rfl) (by kernel_rfl) (by kernel_rfl) (fun _ _ _ h => h) (Or.inl ⟨by rfl, ?_⟩) ?_
  rotate_left
  · (intro w; go_simp; first | done | with_reducible rfl)
  simp only [Act.put, List.setIfInBounds_toArray, List.set_cons_zero, List.set_cons_succ]
  refine wpAny_take (i := 25) (v := ?_) rfl (by kernel_rfl) (by kernel_rfl) (by kernel_rfl) (fun _ _ _ h => h) (Or.inl ⟨by rfl, ?_⟩) ?_
  rotate_left
  · (intro w; go_simp; first | done | with_reducible rfl)
  simp only [Act.put, List.setIfInBounds_toArray, List.set_cons_zero, List.set_cons_succ]
  refine wpAny_toT (fun W' => W'.cell? ⟨g, 2, none⟩ = some (.slice A11 n11 c11) ∧ W'.cell? ⟨g, 3, none⟩ = some (.int .i64 (c.hot : Int)) ∧ W'.cell? ⟨g, 4, none⟩ = some (.int .i64 (c.cold : Int)) ∧ W'.cell? ⟨g, 5, none⟩ = some (.int .i64 (c.test : Int))) 27 ⟨y2, y3, y4, y5⟩ (fun hHeld => ?_)
  refine wpAnyT_takeAt (i := 8) (v := ?_) rfl (by kernel_rfl) (by kernel_rfl) (by kernel_rfl) (by kernel_rfl) (fun _ _ _ h => h) (Or.inl ⟨by rfl, ?_⟩) hHeld ?_
  rotate_left
  · (intro w hSw; (try dsimp only at hSw); go_simp; first | done | with_reducible rfl)
  simp only [Act.put, List.setIfInBounds_toArray, List.set_cons_zero, List.set_cons_succ]
  refine wpAnyT_takeAt (i := 16) (v := ?_) rfl (by kernel_rfl) (by kernel_rfl) (by kernel_rfl) (by kernel_rfl) (fun _ _ _ h => h) (Or.inl ⟨by rfl, ?_⟩) hHeld ?_
  rotate_left
  · (intro w hSw; (try dsimp only at hSw); go_simp; first | done | with_reducible rfl)
  simp only [Act.put, List.setIfInBounds_toArray, List.set_cons_zero, List.set_cons_succ]
  refine wpAnyT_takeAt (i := 24) (v := ?_) rfl (by kernel_rfl) (by kernel_rfl) (by kernel_rfl) (by kernel_rfl) (fun _ _ _ h => h) (Or.inl ⟨by rfl, ?_⟩) hHeld ?_
  rotate_left
  · (intro w hSw; (try dsimp only at hSw); go_simp; first | done | with_reducible rfl)
  simp only [Act.put, List.setIfInBounds_toArray, List.set_cons_zero, List.set_cons_succ]
  refine wpAnyT_ready (rs := [10]) (by kernel_rfl) (by simp) (AllReadyT.cons rfl (fun K hK => ?_) AllReadyT.nil)
  go_simp
  refine (rkGone_any g A11 n11 c11 c.hot i W2.drew y2 bh).mono ?_
  rintro e w' ⟨rfl, rfl⟩
  go_simp
  refine hK.out _ _ ⟨y2, y3, y4, y5⟩ (fun hHeld => ?_)
  clear hK K
  refine wpAnyT_ready (rs := [18]) (by kernel_rfl) (by simp) (AllReadyT.cons rfl (fun K hK => ?_) AllReadyT.nil)
  go_simp
  refine (rkGone_any g A11 n11 c11 c.cold i W2.drew y2 bc).mono ?_
  rintro e w' ⟨rfl, rfl⟩
  go_simp
  refine hK.out _ _ ⟨y2, y3, y4, y5⟩ (fun hHeld => ?_)
  clear hK K
  refine wpAnyT_ready (rs := [26]) (by kernel_rfl) (by simp) (AllReadyT.cons rfl (fun K hK => ?_) AllReadyT.nil)
  go_simp
  refine (rkGone_any g A11 n11 c11 c.test i W2.drew y2 bt).mono ?_
  rintro e w' ⟨rfl, rfl⟩
  go_simp
  refine hK.out _ _ ⟨y2, y3, y4, y5⟩ (fun hHeld => ?_)
  clear hK K
  refine wpAnyT_rest (by kernel_rfl) ?_
  refine wpAny_take (i := 27) (v := ?_) rfl (by kernel_rfl) (by kernel_rfl) (by kernel_rfl) (fun _ _ _ h => h) (Or.inl ⟨by rfl, ?_⟩) ?_
  rotate_left
  · (intro w; go_simp; first | done | with_reducible rfl)
  simp only [Act.put, List.setIfInBounds_toArray, List.set_cons_zero, List.set_cons_succ]
  refine wpAny_take (i := 28) (v := ?_) rfl (by kernel_rfl) (by kernel_rfl) (by kernel_rfl) (fun _ _ _ h => h) (Or.inl ⟨by rfl, ?_⟩) ?_
  rotate_left
  · (intro w; go_simp; first | done | with_reducible rfl)
  simp only [Act.put, List.setIfInBounds_toArray, List.set_cons_zero, List.set_cons_succ]
  refine wpAny_take (i := 29) (v := ?_) rfl (by kernel_rfl) (by kernel_rfl) (by kernel_rfl) (fun _ _ _ h => h) (Or.inl ⟨by rfl, ?_⟩) ?_
  rotate_left
  · (intro w; go_simp; first | done | with_reducible rfl)
  simp only [Act.put, List.setIfInBounds_toArray, List.set_cons_zero, List.set_cons_succ]
  refine wpAny_ready (rs := [30]) (by kernel_rfl) (by simp) (AllReady.cons rfl (fun K hK => ?_) AllReady.nil)
  go_simp
  refine hK _ _ ?_
  clear hK K
  refine wpAny_take (i := 31) (v := ?_) rfl (by kernel_rfl) (by kernel_rfl) (by kernel_rfl) (fun _ _ _ h => h) (Or.inl ⟨by rfl, ?_⟩) ?_
  rotate_left
  · (intro w; go_simp; first | done | with_reducible rfl)
  simp only [Act.put, List.setIfInBounds_toArray, List.set_cons_zero, List.set_cons_succ]
  refine wpAny_take (i := 32) (v := ?_) rfl (by kernel_rfl) (by kernel_rfl) (by kernel_rfl) (fun _ _ _ h => h) (Or.inl ⟨by rfl, ?_⟩) ?_
  rotate_left
  · (intro w; go_simp; first | done | with_reducible rfl)
  simp only [Act.put, List.setIfInBounds_toArray, List.set_cons_zero, List.set_cons_succ]
  refine wpAny_take (i := 33) (v := ?_) rfl (by kernel_rfl) (by kernel_rfl) (by kernel_rfl) (fun _ _ _ h => h) (Or.inl ⟨by rfl, ?_⟩) ?_
  rotate_left
  · (intro w; go_simp; first | done | with_reducible rfl)
  simp only [Act.put, List.setIfInBounds_toArray, List.set_cons_zero, List.set_cons_succ]
  refine wpAny_ready (rs := [34]) (by kernel_rfl) (by simp) (AllReady.cons rfl (fun K hK => ?_) AllReady.nil)
  go_simp
  refine hK _ _ ?_
  clear hK K
  refine wpAny_take (i := 35) (v := ?_) rfl (by kernel_rfl) (by kernel_rfl) (by kernel_rfl) (fun _ _ _ h => h) (Or.inl ⟨by rfl, ?_⟩) ?_
  rotate_left
  · (intro w; go_simp; first | done | with_reducible rfl)
  simp only [Act.put, List.setIfInBounds_toArray, List.set_cons_zero, List.set_cons_succ]
  refine wpAny_take (i := 36) (v := ?_) rfl (by kernel_rfl) (by kernel_rfl) (by kernel_rfl) (fun _ _ _ h => h) (Or.inl ⟨by rfl, ?_⟩) ?_
  rotate_left
  · (intro w; go_simp; first | done | with_reducible rfl)
  simp only [Act.put, List.setIfInBounds_toArray, List.set_cons_zero, List.set_cons_succ]
  refine wpAny_take (i := 37) (v := ?_) rfl (by kernel_rfl) (by kernel_rfl) (by kernel_rfl) (fun _ _ _ h => h) (Or.inl ⟨by rfl, ?_⟩) ?_
  rotate_left
  · (intro w; go_simp; first | done | with_reducible rfl)
  simp only [Act.put, List.setIfInBounds_toArray, List.set_cons_zero, List.set_cons_succ]
  refine wpAny_ready (rs := [38]) (by kernel_rfl) (by simp) (AllReady.cons rfl (fun K hK => ?_) AllReady.nil)
  go_simp
  refine hK _ _ ?_
  clear hK K
  refine wpAny_done (by kernel_rfl) ?_ _
  all_goals (
    go_end0
    refine ⟨rfl, .slice A11 n11 c11, ?_, ?_, fun k hk => .inr (Hown.out k hk)⟩
    · first
        | exact Hfin.out.1
        | exact Hfin.out.1.drew
    · first
        | exact Hfin.out.2.mono (fun _ _ h => .inl h)
        | exact Hfin.out.2.drew.mono (fun _ _ h => .inl h))
end Go.Proofs.Ythogflfjdfcpeaa

/- The document's Same. -/
namespace Go.Proofs.Ythogflfjdfcpeaa
open Go.RowKit

set_option maxHeartbeats 4000000 in
set_option maxRecDepth 100000 in
theorem rkSame_any (a b : ClkN) (A A2 : Option Addr) (n cap n2 cap2 : Nat) (w : World) (hs : RdsP w w.heap.size A n a.ps) (hs2 : RdsP w w.heap.size A2 n2 b.ps) (hn : n ≤ 100000) (hn2 : n2 ≤ 100000) :
    Calls Try.prog 15 #[.agg #[.int .i64 a.most, .int .i64 a.target, .slice A n cap, .int .i64 (a.hot : Int), .int .i64 (a.cold : Int), .int .i64 (a.test : Int)], .agg #[.int .i64 b.most, .int .i64 b.target, .slice A2 n2 cap2, .int .i64 (b.hot : Int), .int .i64 (b.cold : Int), .int .i64 (b.test : Int)]] w fun e w' => e = .returned (.bool (decide (a = b))) ∧ Mod (fun _ => False) w w' := by
  obtain ⟨am, ag, ps, ah, ac, ae⟩ := a
  obtain ⟨bm, bg, qs, bh, bc, be⟩ := b
  dsimp only at hs hs2 ⊢
  obtain ⟨W, hW, hmW, hbW, hkW, hzW⟩ := two_clocks w #[.int .i64 am, .int .i64 ag, .slice A n cap, .int .i64 (ah : Int), .int .i64 (ac : Int), .int .i64 (ae : Int)] #[.int .i64 bm, .int .i64 bg, .slice A2 n2 cap2, .int .i64 (bh : Int), .int .i64 (bc : Int), .int .i64 (be : Int)]
  obtain ⟨g, hg⟩ : ∃ g, g = w.heap.size := ⟨_, rfl⟩
  obtain ⟨g2, hg2⟩ : ∃ g, g = w.heap.size + 1 := ⟨_, rfl⟩
  rw [← hg] at hbW
  rw [← hg2] at hkW
  have y0 := hbW.cell 0
  have z0 := hkW.cell 0
  have y1 := hbW.cell 1
  have z1 := hkW.cell 1
  have y2 := hbW.cell 2
  have z2 := hkW.cell 2
  have y3 := hbW.cell 3
  have z3 := hkW.cell 3
  have y4 := hbW.cell 4
  have z4 := hkW.cell 4
  have y5 := hbW.cell 5
  have z5 := hkW.cell 5
  simp at y0 y1 y2 y3 y4 y5 z0 z1 z2 z3 z4 z5
  have Hs := Lib.hid (hs.new hmW).fit; have Hs2 := Lib.hid (hs2.new hmW).fit
  have HbW := Lib.hid hbW; have HkW := Lib.hid hkW; have Hl := Lib.hid hs.len; have Hl2 := Lib.hid hs2.len; have HW := Lib.hid hW; have HmW := Lib.hid hmW; have Hg := Lib.hid hg; have Hg2 := Lib.hid hg2
  clear hs hs2 hW hmW hbW hkW hg hg2 hzW
  go_enter Try.func15, Try.ntmps15
  go_upto_region 1 with fail
  rw [← HW.out, ← Hg2.out, ← Hg.out]
  by_cases f0 : am = bm
  · subst f0
    by_cases f1 : ag = bg
    · subst f1
      by_cases f2 : ah = bh
      · subst f2
        by_cases f3 : ac = bc
        · subst f3
          by_cases f4 : ae = be
          · subst f4
            by_cases hnn : n = n2
            · subst hnn
              go_wp2_with fail
              go_loopg [5] n (fun k s5 wr => ∃ i : Nat, i + k = n ∧ s5 = .int .i64 (i : Int) ∧ ps.take i = qs.take i ∧ Mod (fun _ => False) W wr)
              case atStart => exact ⟨0, by omega, rfl, by simp, Mod.refl _ _⟩
              case round =>
                obtain ⟨i, hik, rfl, hr, hm⟩ := hrel
                have Hik := Lib.hid hik; have Hr := Lib.hid hr; have Hm := Lib.hid hm
                have y2 := (hm.blk HbW.out (fun h => h)).cell 2
                have z2 := (hm.blk HkW.out (fun h => h)).cell 2
                simp at y2 z2
                clear hik hr hm
                by_cases hin : i < n
                · obtain ⟨ad, p, rfl, _, hp, c0, c1, c2, c3, c4, c5, c6⟩ := (Hs.out.new Hm.out).at_ hin
                  obtain ⟨ad2, p2, rfl, _, hp2, e0, e1, e2, e3, e4, e5, e6⟩ := (Hs2.out.new Hm.out).at_ hin
                  obtain ⟨⟨s, l, b⟩, kd, rf, tr, pn⟩ := p
                  obtain ⟨⟨s2, l2, b2⟩, kd2, rf2, tr2, pn2⟩ := p2
                  simp only at c0 c1 c2 c3 c4 c5 c6 e0 e1 e2 e3 e4 e5 e6
                  have Hp := Lib.hid hp; have Hp2 := Lib.hid hp2
                  have hin' : (i : Int) < (n : Int) := by omega
                  clear hp hp2
                  by_cases d0 : s = s2
                  · subst d0
                    by_cases d1 : l = l2
                    · subst d1
                      by_cases d2 : b = b2
                      · subst d2
                        by_cases d3 : kd = kd2
                        · subst d3
                          by_cases d4 : rf = rf2
                          · subst d4
                            by_cases d5 : tr = tr2
                            · subst d5
                              by_cases d6 : pn = pn2
                              · subst d6
                                go_upto_region 6 with fail
                                go_quiet (fail)
                                go_wp2_with fail
                                go_roundg (gk - 1)
                                case measure => have := Hik.out; omega
                                case rel => exact ⟨i + 1, by have := Hik.out; omega, by go_num, alike_on Hr.out Hp.out Hp2.out rfl, Hm.out.drewN _⟩
                              · have hne := alike_not Hp.out Hp2.out (by intro h; injection h with h1 h2 h3 h4 h5; first | (injection h1 with h1 h6 h7; exact d6 h1) | (injection h1 with h1 h6 h7; exact d6 h6) | (injection h1 with h1 h6 h7; exact d6 h7) | exact d6 h2 | exact d6 h3 | exact d6 h4 | exact d6 h5)
                                have Hne := Lib.hid hne
                                clear hne
                                go_upto_region 6 with fail
                                go_quiet (fail)
                                go_wp2_with fail
                                go_ret
                                exact ⟨by rw [decide_eq_false (fun e => Hne.out (by injection e))]; rfl, HmW.out.trans (Hm.out.drewN _) (fun _ _ h => h)⟩
                            · have hne := alike_not Hp.out Hp2.out (by intro h; injection h with h1 h2 h3 h4 h5; first | (injection h1 with h1 h6 h7; exact d5 h1) | (injection h1 with h1 h6 h7; exact d5 h6) | (injection h1 with h1 h6 h7; exact d5 h7) | exact d5 h2 | exact d5 h3 | exact d5 h4 | exact d5 h5)
                              have Hne := Lib.hid hne
                              clear hne
                              go_upto_region 6 with fail
                              go_quiet (fail)
                              go_wp2_with fail
                              go_ret
                              exact ⟨by rw [decide_eq_false (fun e => Hne.out (by injection e))]; rfl, HmW.out.trans (Hm.out.drewN _) (fun _ _ h => h)⟩
                          · have hne := alike_not Hp.out Hp2.out (by intro h; injection h with h1 h2 h3 h4 h5; first | (injection h1 with h1 h6 h7; exact d4 h1) | (injection h1 with h1 h6 h7; exact d4 h6) | (injection h1 with h1 h6 h7; exact d4 h7) | exact d4 h2 | exact d4 h3 | exact d4 h4 | exact d4 h5)
                            have Hne := Lib.hid hne
                            clear hne
                            go_upto_region 6 with fail
                            go_quiet (fail)
                            go_wp2_with fail
                            go_ret
                            exact ⟨by rw [decide_eq_false (fun e => Hne.out (by injection e))]; rfl, HmW.out.trans (Hm.out.drewN _) (fun _ _ h => h)⟩
                        · have hne := alike_not Hp.out Hp2.out (by intro h; injection h with h1 h2 h3 h4 h5; first | (injection h1 with h1 h6 h7; exact d3 h1) | (injection h1 with h1 h6 h7; exact d3 h6) | (injection h1 with h1 h6 h7; exact d3 h7) | exact d3 h2 | exact d3 h3 | exact d3 h4 | exact d3 h5)
                          have Hne := Lib.hid hne
                          clear hne
                          go_upto_region 6 with fail
                          go_quiet (fail)
                          go_wp2_with fail
                          go_ret
                          exact ⟨by rw [decide_eq_false (fun e => Hne.out (by injection e))]; rfl, HmW.out.trans (Hm.out.drewN _) (fun _ _ h => h)⟩
                      · have hne := alike_not Hp.out Hp2.out (by intro h; injection h with h1 h2 h3 h4 h5; first | (injection h1 with h1 h6 h7; exact d2 h1) | (injection h1 with h1 h6 h7; exact d2 h6) | (injection h1 with h1 h6 h7; exact d2 h7) | exact d2 h2 | exact d2 h3 | exact d2 h4 | exact d2 h5)
                        have Hne := Lib.hid hne
                        clear hne
                        go_upto_region 6 with fail
                        go_quiet (fail)
                        go_wp2_with fail
                        go_ret
                        exact ⟨by rw [decide_eq_false (fun e => Hne.out (by injection e))]; rfl, HmW.out.trans (Hm.out.drewN _) (fun _ _ h => h)⟩
                    · have hne := alike_not Hp.out Hp2.out (by intro h; injection h with h1 h2 h3 h4 h5; first | (injection h1 with h1 h6 h7; exact d1 h1) | (injection h1 with h1 h6 h7; exact d1 h6) | (injection h1 with h1 h6 h7; exact d1 h7) | exact d1 h2 | exact d1 h3 | exact d1 h4 | exact d1 h5)
                      have Hne := Lib.hid hne
                      clear hne
                      go_upto_region 6 with fail
                      go_quiet (fail)
                      go_wp2_with fail
                      go_ret
                      exact ⟨by rw [decide_eq_false (fun e => Hne.out (by injection e))]; rfl, HmW.out.trans (Hm.out.drewN _) (fun _ _ h => h)⟩
                  · have hne := alike_not Hp.out Hp2.out (by intro h; injection h with h1 h2 h3 h4 h5; first | (injection h1 with h1 h6 h7; exact d0 h1) | (injection h1 with h1 h6 h7; exact d0 h6) | (injection h1 with h1 h6 h7; exact d0 h7) | exact d0 h2 | exact d0 h3 | exact d0 h4 | exact d0 h5)
                    have Hne := Lib.hid hne
                    clear hne
                    go_upto_region 6 with fail
                    go_quiet (fail)
                    go_wp2_with fail
                    go_ret
                    exact ⟨by rw [decide_eq_false (fun e => Hne.out (by injection e))]; rfl, HmW.out.trans (Hm.out.drewN _) (fun _ _ h => h)⟩
                · have hin' : ¬ (i : Int) < (n : Int) := by omega
                  have heq : ps = qs := by
                    have h := Hr.out
                    rw [List.take_of_length_le (by have := Hl.out; have := Hik.out; omega), List.take_of_length_le (by have := Hl2.out; have := Hik.out; omega)] at h
                    exact h
                  have He := Lib.hid heq
                  clear heq
                  go_wp2_with fail
                  go_ret
                  exact ⟨by rw [He.out]; simp, HmW.out.trans Hm.out (fun _ _ h => h)⟩
            · have b1 : ((n : Int) == (n2 : Int)) = false := by simp; omega
              have Hnq : Hid (ps ≠ qs) := Lib.hid (fun e => hnn (by rw [← Hl.out, ← Hl2.out, e]))
              go_wp2_with fail
              go_ret
              refine ⟨?_, HmW.out⟩
              rw [decide_eq_false (fun e => Hnq.out (by injection e))]
              rfl
          · have b1 : ((ae : Int) == (be : Int)) = false := by simp; omega
            have D := Lib.hid f4
            go_wp2_with fail
            go_ret
            refine ⟨?_, HmW.out⟩
            rw [decide_eq_false (fun e => D.out (by injection e))]
            rfl
        · have b1 : ((ac : Int) == (bc : Int)) = false := by simp; omega
          have D := Lib.hid f3
          go_wp2_with fail
          go_ret
          refine ⟨?_, HmW.out⟩
          rw [decide_eq_false (fun e => D.out (by injection e))]
          rfl
      · have b1 : ((ah : Int) == (bh : Int)) = false := by simp; omega
        have D := Lib.hid f2
        go_wp2_with fail
        go_ret
        refine ⟨?_, HmW.out⟩
        rw [decide_eq_false (fun e => D.out (by injection e))]
        rfl
    · have b1 : ((ag : Int) == (bg : Int)) = false := by simp; omega
      have D := Lib.hid f1
      go_wp2_with fail
      go_ret
      refine ⟨?_, HmW.out⟩
      rw [decide_eq_false (fun e => D.out (by injection e))]
      rfl
  · have b1 : ((am : Int) == (bm : Int)) = false := by simp; omega
    have D := Lib.hid f0
    go_wp2_with fail
    go_ret
    refine ⟨?_, HmW.out⟩
    rw [decide_eq_false (fun e => D.out (by injection e))]
    rfl
end Go.Proofs.Ythogflfjdfcpeaa
