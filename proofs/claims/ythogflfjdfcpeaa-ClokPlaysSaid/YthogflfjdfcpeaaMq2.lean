/- The texts Yw, Yra, Yl, Yn, Yrc, Td, Td2, Xm, Refm, Sli, And, Fit, Ow, Qc, Post, In, Sm, Vm, Rm, Pk, Pm, Dm, Yrb, Mn, Cm, Tm, Ce, Ct, Cs, Ve, Vp, Vz, Oz, Vg, Uw, Nu, Lf, Ln, one behind the other. -/
import Derived.Test.YthogflfjdfcpeaaMq1
/- Models in memory: rows of series (five cells each) and of iterators (two cells each), each with a row of samples of its own. -/
namespace Go.Proofs.Ythogflfjdfcpeaa
open Go.RowKit

/-- A series with its row's slice; an iterator with it. -/
def serC (p : SerN × Value) : List Value := [.int .i64 p.1.id, .bool p.1.sea, .bool p.1.any, .int .i64 p.1.last, p.2]
def iteC (p : IteN × Value) : List Value := [.int .i64 p.1.id, p.2]
/-- The slice v reads as l, below block B. -/
def SliS (w : World) (B : Nat) (v : Value) (l : List (Int × Nat)) : Prop := ∃ A n c, v = .slice A n c ∧ RdsS w B A n l ∧ n ≤ c ∧ c ≤ maxLen
/-- A row of series, of iterators, reads so: each element's row lies below block B, too. -/
def RdsSer (w : World) (B : Nat) (A : Option Addr) (n : Nat) (ps : List (SerN × Value)) : Prop := RdsK 5 w B A n (ps.map serC) ∧ ∀ p ∈ ps, SliS w B p.2 p.1.l
def RdsIte (w : World) (B : Nat) (A : Option Addr) (n : Nat) (ps : List (IteN × Value)) : Prop := RdsK 2 w B A n (ps.map iteC) ∧ ∀ p ∈ ps, SliS w B p.2 p.1.rest
section
variable {w w' : World} {B B' n : Nat} {A : Option Addr} {v : Value} {l : List (Int × Nat)}
theorem SliS.more (h : SliS w B v l) (hB : B ≤ B') : SliS w B' v l := by
  obtain ⟨A, n, c, e, h1, h2⟩ := h
  exact ⟨A, n, c, e, h1.more hB, h2⟩
theorem SliS.mod {S : Nat → Prop} (h : SliS w B v l) (hm : Mod S w w') (hB : B ≤ w.heap.size) (hS : ∀ j, j < B → ¬ S j) : SliS w' B v l := by
  obtain ⟨A, n, c, e, h1, h2⟩ := h
  exact ⟨A, n, c, e, h1.mod hm hB hS, h2⟩
theorem SliS.fit (h : SliS w B v l) : SliS w w.heap.size v l := by
  obtain ⟨A, n, c, e, h1, h2⟩ := h
  exact ⟨A, n, c, e, h1.fit, h2⟩
theorem SliS.new (h : SliS w B v l) (hm : Mod (fun _ => False) w w') : SliS w' w.heap.size v l := by
  obtain ⟨A, n, c, e, h1, h2⟩ := h
  exact ⟨A, n, c, e, h1.new hm, h2⟩
theorem SliS.nil (w : World) (B : Nat) : SliS w B (.slice none 0 0) [] := ⟨none, 0, 0, rfl, RdsS.nil _ _ _, Nat.le_refl _, Nat.zero_le _⟩
variable {ps : List (SerN × Value)} {qs : List (IteN × Value)}
theorem RdsSer.nil (w : World) (B : Nat) (A : Option Addr) : RdsSer w B A 0 [] := ⟨RdsK.nil _ _ _ _, fun _ h => by cases h⟩
theorem RdsIte.nil (w : World) (B : Nat) (A : Option Addr) : RdsIte w B A 0 [] := ⟨RdsK.nil _ _ _ _, fun _ h => by cases h⟩
theorem RdsSer.mod {S : Nat → Prop} (h : RdsSer w B A n ps) (hm : Mod S w w') (hB : B ≤ w.heap.size) (hS : ∀ j, j < B → ¬ S j) : RdsSer w' B A n ps := ⟨h.1.mod hm hB hS, fun p hp => (h.2 p hp).mod hm hB hS⟩
theorem RdsIte.mod {S : Nat → Prop} (h : RdsIte w B A n qs) (hm : Mod S w w') (hB : B ≤ w.heap.size) (hS : ∀ j, j < B → ¬ S j) : RdsIte w' B A n qs := ⟨h.1.mod hm hB hS, fun p hp => (h.2 p hp).mod hm hB hS⟩
theorem RdsSer.new (h : RdsSer w B A n ps) (hm : Mod (fun _ => False) w w') : RdsSer w' w.heap.size A n ps := ⟨h.1.new hm, fun p hp => (h.2 p hp).new hm⟩
theorem RdsIte.new (h : RdsIte w B A n qs) (hm : Mod (fun _ => False) w w') : RdsIte w' w.heap.size A n qs := ⟨h.1.new hm, fun p hp => (h.2 p hp).new hm⟩
theorem RdsSer.more (h : RdsSer w B A n ps) (hB : B ≤ B') : RdsSer w B' A n ps := ⟨h.1.more hB, fun p hp => (h.2 p hp).more hB⟩
theorem RdsIte.more (h : RdsIte w B A n qs) (hB : B ≤ B') : RdsIte w B' A n qs := ⟨h.1.more hB, fun p hp => (h.2 p hp).more hB⟩
theorem RdsSer.fit (h : RdsSer w B A n ps) : RdsSer w w.heap.size A n ps := ⟨h.1.fit, fun p hp => (h.2 p hp).fit⟩
theorem RdsIte.fit (h : RdsIte w B A n qs) : RdsIte w w.heap.size A n qs := ⟨h.1.fit, fun p hp => (h.2 p hp).fit⟩
theorem RdsSer.len (h : RdsSer w B A n ps) : ps.length = n := by have := h.1.1; rwa [List.length_map] at this
theorem RdsIte.len (h : RdsIte w B A n qs) : qs.length = n := by have := h.1.1; rwa [List.length_map] at this
theorem RdsSer.take {k : Nat} (h : RdsSer w B A n ps) (hk : k ≤ n) : RdsSer w B A k (ps.take k) := ⟨by rw [List.map_take]; exact h.1.take hk, fun p hp => h.2 p (List.mem_of_mem_take hp)⟩
theorem RdsIte.take {k : Nat} (h : RdsIte w B A n qs) (hk : k ≤ n) : RdsIte w B A k (qs.take k) := ⟨by rw [List.map_take]; exact h.1.take hk, fun p hp => h.2 p (List.mem_of_mem_take hp)⟩
theorem RdsSer.drop {k c : Nat} (h : RdsSer w B A n ps) (hk : k ≤ n) (hc : n ≤ c) : RdsSer w B (if c = k then A else A.map (·.add (k * 5))) (n - k) (ps.drop k) := ⟨by rw [List.map_drop]; exact h.1.drop hk hc (by decide), fun p hp => h.2 p (List.mem_of_mem_drop hp)⟩
theorem RdsIte.drop {k c : Nat} (h : RdsIte w B A n qs) (hk : k ≤ n) (hc : n ≤ c) : RdsIte w B (if c = k then A else A.map (·.add (k * 2))) (n - k) (qs.drop k) := ⟨by rw [List.map_drop]; exact h.1.drop hk hc (by decide), fun p hp => h.2 p (List.mem_of_mem_drop hp)⟩
theorem add_cell5 (a : Addr) (i j : Nat) (hj : 0 < j) : (⟨(a.add (i * 5)).block, (a.add (i * 5)).off + j, none⟩ : Addr) = a.add (i * 5 + j) := by
  rw [← add_add]
  have : ¬ j = 0 := by omega
  simp [Addr.add, this]
/-- The i-th series: its five cells, as the model's loads spell them. -/
theorem RdsSer.at_ {i : Nat} (h : RdsSer w B A n ps) (hi : i < n) : ∃ ad s A' n' c', A = some ad ∧ ad.block < B ∧ ps[i]? = some (s, .slice A' n' c') ∧ RdsS w B A' n' s.l ∧ n' ≤ c' ∧ c' ≤ maxLen ∧
    w.cell? (ad.add (i * 5)) = some (.int .i64 s.id) ∧ w.cell? ⟨(ad.add (i * 5)).block, (ad.add (i * 5)).off + 1, none⟩ = some (.bool s.sea) ∧ w.cell? ⟨(ad.add (i * 5)).block, (ad.add (i * 5)).off + 2, none⟩ = some (.bool s.any) ∧
    w.cell? ⟨(ad.add (i * 5)).block, (ad.add (i * 5)).off + 3, none⟩ = some (.int .i64 s.last) ∧ w.cell? ⟨(ad.add (i * 5)).block, (ad.add (i * 5)).off + 4, none⟩ = some (.slice A' n' c') := by
  obtain ⟨ad, r, e, hb, hr, hl, hc⟩ := h.1.at_ hi (by decide)
  rw [List.getElem?_map] at hr
  obtain ⟨⟨s, u⟩, hp, rfl⟩ := Option.map_eq_some_iff.1 hr
  obtain ⟨A', n', c', rfl, h1, h2, h3⟩ := h.2 _ (List.mem_of_getElem? hp)
  refine ⟨ad, s, A', n', c', e, hb, hp, h1, h2, h3, ?_, ?_, ?_, ?_, ?_⟩
  · exact hc 0 _ rfl
  · rw [add_cell5 _ _ _ (by decide)]; exact hc 1 _ rfl
  · rw [add_cell5 _ _ _ (by decide)]; exact hc 2 _ rfl
  · rw [add_cell5 _ _ _ (by decide)]; exact hc 3 _ rfl
  · rw [add_cell5 _ _ _ (by decide)]; exact hc 4 _ rfl
theorem RdsIte.at_ {i : Nat} (h : RdsIte w B A n qs) (hi : i < n) : ∃ ad s A' n' c', A = some ad ∧ ad.block < B ∧ qs[i]? = some (s, .slice A' n' c') ∧ RdsS w B A' n' s.rest ∧ n' ≤ c' ∧ c' ≤ maxLen ∧
    w.cell? (ad.add (i * 2)) = some (.int .i64 s.id) ∧ w.cell? ⟨(ad.add (i * 2)).block, (ad.add (i * 2)).off + 1, none⟩ = some (.slice A' n' c') := by
  obtain ⟨ad, r, e, hb, hr, hl, hc⟩ := h.1.at_ hi (by decide)
  rw [List.getElem?_map] at hr
  obtain ⟨⟨s, u⟩, hp, rfl⟩ := Option.map_eq_some_iff.1 hr
  obtain ⟨A', n', c', rfl, h1, h2, h3⟩ := h.2 _ (List.mem_of_getElem? hp)
  refine ⟨ad, s, A', n', c', e, hb, hp, h1, h2, h3, ?_, ?_⟩
  · exact hc 0 _ rfl
  · rw [add_one_cell]; exact hc 1 _ rfl
end

/-- A model that reads so: its three cells are those of 'm'. -/
def RdsM (w : World) (B : Nat) (A : Option Addr) (n c : Nat) (A2 : Option Addr) (n2 c2 : Nat) (m : ModN) : Prop :=
  ∃ (ps : List (SerN × Value)) (qs : List (IteN × Value)), ps.map (·.1) = m.ser ∧ qs.map (·.1) = m.ite ∧ RdsSer w B A n ps ∧ RdsIte w B A2 n2 qs ∧ n ≤ c ∧ c ≤ maxLen ∧ n2 ≤ c2 ∧ c2 ≤ maxLen
section
variable {w w' : World} {B B' n c n2 c2 : Nat} {A A2 : Option Addr} {m : ModN}
theorem RdsM.nil (w : World) (B : Nat) : RdsM w B none 0 0 none 0 0 .nil := ⟨[], [], rfl, rfl, RdsSer.nil _ _ _, RdsIte.nil _ _ _, Nat.le_refl _, Nat.zero_le _, Nat.le_refl _, Nat.zero_le _⟩
theorem RdsM.mod {S : Nat → Prop} (h : RdsM w B A n c A2 n2 c2 m) (hm : Mod S w w') (hB : B ≤ w.heap.size) (hS : ∀ j, j < B → ¬ S j) : RdsM w' B A n c A2 n2 c2 m := by
  obtain ⟨ps, qs, h1, h2, h3, h4, h5⟩ := h
  exact ⟨ps, qs, h1, h2, h3.mod hm hB hS, h4.mod hm hB hS, h5⟩
theorem RdsM.new (h : RdsM w B A n c A2 n2 c2 m) (hm : Mod (fun _ => False) w w') : RdsM w' w.heap.size A n c A2 n2 c2 m := by
  obtain ⟨ps, qs, h1, h2, h3, h4, h5⟩ := h
  exact ⟨ps, qs, h1, h2, h3.new hm, h4.new hm, h5⟩
theorem RdsM.fit (h : RdsM w B A n c A2 n2 c2 m) : RdsM w w.heap.size A n c A2 n2 c2 m := by
  obtain ⟨ps, qs, h1, h2, h3, h4, h5⟩ := h
  exact ⟨ps, qs, h1, h2, h3.fit, h4.fit, h5⟩
theorem RdsM.more (h : RdsM w B A n c A2 n2 c2 m) (hB : B ≤ B') : RdsM w B' A n c A2 n2 c2 m := by
  obtain ⟨ps, qs, h1, h2, h3, h4, h5⟩ := h
  exact ⟨ps, qs, h1, h2, h3.more hB, h4.more hB, h5⟩
end

/-- Two rows of the call's own whose elements have two types share no block. -/
theorem owns_apart {w : World} {B B' e e' K K' n n' : Nat} {v v' : Value} {xs xs' : List Value} (h : w.ownsRow B e K v n xs) (h' : w.ownsRow B' e' K' v' n' xs') (hne : e ≠ e') : ∀ k, v.ownBlock = some k → v'.ownBlock ≠ some k := by
  intro k hk hk'
  rcases h.2 with ⟨rfl, _⟩ | ⟨g, cap, cur, rfl, _, hg, _⟩
  · simp [Value.ownBlock] at hk
  rcases h'.2 with ⟨rfl, _⟩ | ⟨g', cap', cur', rfl, _, hg', _⟩
  · simp [Value.ownBlock] at hk'
  have e1 : g = k := by simpa [Value.ownBlock] using hk
  have e2 : g' = k := by simpa [Value.ownBlock] using hk'
  subst e1
  subst e2
  rw [hg] at hg'
  injection hg' with hg'
  injection hg' with _ ht
  exact hne ht
section
variable {w w' : World} {B B' : Nat} {e : TypeId} {v : Value} {ps : List (SerN × Value)} {qs : List (IteN × Value)}
end
end Go.Proofs.Ythogflfjdfcpeaa

/- The clock that the document turns, in memory: a ring of seven cells, its pages, and who was put out. -/
namespace Go.Proofs.Ythogflfjdfcpeaa
open Go.RowKit

def keyC (k : KeyN) : List Value := [.int .i64 k.s, .int .i64 k.l, .int .i64 k.b]
def ringC (c : ClkN) (vp vo : Value) : Array Value := #[.int .i64 c.most, .int .i64 c.target, vp, .int .i64 c.hot, .int .i64 c.cold, .int .i64 c.test, vo]
/-- The ring's type, a page's and a name's are three. -/
structure RingT (t eP eK : TypeId) : Prop where
  p : eP ≠ t
  k : eK ≠ t
  pk : eP ≠ eK
/-- The ring lies at g; its pages and who was put out are rows of the call's own. -/
structure RingV (B g : Nat) (w : World) (t eP eK : TypeId) (c : ClkN) (out : List KeyN) (vp vo : Value) : Prop where
  blk : Blk w g t (ringC c vp vo)
  low : B ≤ g
  ps : OwnP B w eP vp c.ps
  out : OwnK 3 B w eK vo (out.map keyC)
  ty : RingT t eP eK
section
variable {B g : Nat} {w w' : World} {t eP eK : TypeId} {c c' : ClkN} {out : List KeyN} {vp vo : Value}
theorem mod_oneCell (w : World) (g i : Nat) (u : Value) : Mod (fun k => k = g) w (w.setCell ⟨g, i, none⟩ u) := (Mod.refl (fun k => k = g) w).setCell (p := ⟨g, i, none⟩) (fun _ => rfl) u
theorem RingV.ps_ne (h : RingV B g w t eP eK c out vp vo) : vp.ownBlock ≠ some g := own_blk_ne h.ps.2 h.blk h.ty.p
theorem RingV.out_ne (h : RingV B g w t eP eK c out vp vo) : vo.ownBlock ≠ some g := own_blk_ne h.out.2 h.blk h.ty.k
theorem RingV.apart (h : RingV B g w t eP eK c out vp vo) : ∀ k, vp.ownBlock = some k → vo.ownBlock ≠ some k := owns_apart h.ps.2 h.out.2 h.ty.pk
theorem RingV.new (h : RingV B g w t eP eK c out vp vo) (hm : Mod (fun _ => False) w w') : RingV B g w' t eP eK c out vp vo :=
  ⟨hm.blk h.blk id, h.low, h.ps.mod hm, h.out.mod hm, h.ty⟩
theorem RingV.modS {S : Nat → Prop} (h : RingV B g w t eP eK c out vp vo) (hm : Mod S w w') (hS : ∀ k, B ≤ k → ¬ S k) : RingV B g w' t eP eK c out vp vo :=
  ⟨hm.blk h.blk (hS g h.low), h.low, h.ps.modS hm hS, h.out.modS hm (fun k hk => hS k (h.out.block k hk).1), h.ty⟩
theorem RingV.mono {B' : Nat} (h : RingV B g w t eP eK c out vp vo) (hB : B' ≤ B) : RingV B' g w t eP eK c out vp vo :=
  ⟨h.blk, by have := h.low; omega, h.ps.mono hB, h.out.mono hB, h.ty⟩
/-- One number of it is written. -/
theorem RingV.num (h : RingV B g w t eP eK c out vp vo) (i : Nat) (u : Value) (hc : (ringC c vp vo).setIfInBounds i u = ringC c' vp vo) (hp : c'.ps = c.ps) :
    w.frozen? ⟨g, i, none⟩ = false ∧ RingV B g (w.setCell ⟨g, i, none⟩ u) t eP eK c' out vp vo := by
  have hm : Mod (fun k => k = g) w (w.setCell ⟨g, i, none⟩ u) := mod_oneCell _ _ _ _
  refine ⟨h.blk.frozen i, ?_, h.low, ?_, ?_, h.ty⟩
  · rw [← hc]; exact h.blk.set_ i u
  · rw [hp]; exact OwnK.modS h.ps hm (fun k hk e => h.ps_ne (by rw [hk, e]))
  · exact OwnK.modS h.out hm (fun k hk e => h.out_ne (by rw [hk, e]))
/-- A page is written. -/
theorem RingV.page {pg n cap i : Nat} {p q : PagN} (h : RingV B g w t eP eK c out (.slice (some ⟨pg, 0, none⟩) n cap) vo) (hn : c.ps.length = n) (hp : c.ps[i]? = some p) :
    RingV B g (cellsTo w pg (i * 7) 0 (pagC q)) t eP eK { c with ps := c.ps.set i q } out (.slice (some ⟨pg, 0, none⟩) n cap) vo := by
  have hne : pg ≠ g := fun e => h.ps_ne (by simp [Value.ownBlock, e])
  have hm := mod_cellsTo (pagC q) w pg (i * 7) 0
  refine ⟨hm.blk h.blk (fun e => hne e.symm), h.low, ?_, OwnK.modS h.out hm (fun k hk e => h.apart pg (by simp [Value.ownBlock]) (by rw [hk, e])), h.ty⟩
  have := OwnK.whole (us := pagC q) (i := i) h.ps (by rw [List.length_map]; exact hn) (r := pagC p) (by rw [List.getElem?_map, hp]; rfl) rfl
  unfold OwnP
  rw [List.map_set]
  exact this
/-- One cell of a page is written. -/
theorem RingV.field {pg n cap i j : Nat} {p q : PagN} {u : Value} (h : RingV B g w t eP eK c out (.slice (some ⟨pg, 0, none⟩) n cap) vo) (hn : c.ps.length = n) (hp : c.ps[i]? = some p) (hj : j < 7) (hu : (pagC p).set j u = pagC q) :
    w.frozen? ⟨pg, i * 7 + j, none⟩ = false ∧ RingV B g (w.setCell ⟨pg, i * 7 + j, none⟩ u) t eP eK { c with ps := c.ps.set i q } out (.slice (some ⟨pg, 0, none⟩) n cap) vo := by
  have hne : pg ≠ g := fun e => h.ps_ne (by simp [Value.ownBlock, e])
  have hm : Mod (fun k => k = pg) w (w.setCell ⟨pg, i * 7 + j, none⟩ u) := mod_oneCell _ _ _ _
  obtain ⟨_, h2, h3⟩ := OwnP.put_ h.ps hn hp hj hu
  exact ⟨h2, hm.blk h.blk (fun e => hne e.symm), h.low, h3, OwnK.modS h.out hm (fun k hk e => h.apart pg (by simp [Value.ownBlock]) (by rw [hk, e])), h.ty⟩
/-- Another row of pages is its own from now on. -/
theorem RingV.rows {vp' : Value} {ps' : List PagN} (h : RingV B g w t eP eK c out vp vo) (hp : OwnP B w eP vp' ps') :
    w.frozen? ⟨g, 2, none⟩ = false ∧ RingV B g (w.setCell ⟨g, 2, none⟩ vp') t eP eK { c with ps := ps' } out vp' vo := by
  have hm : Mod (fun k => k = g) w (w.setCell ⟨g, 2, none⟩ vp') := mod_oneCell _ _ _ _
  refine ⟨h.blk.frozen 2, h.blk.set_ 2 vp', h.low, ?_, ?_, h.ty⟩
  · exact OwnK.modS hp hm (fun k hk e => own_blk_ne hp.2 h.blk h.ty.p (by rw [hk, e]))
  · exact OwnK.modS h.out hm (fun k hk e => h.out_ne (by rw [hk, e]))
end
end Go.Proofs.Ythogflfjdfcpeaa

/- Which pages stay: the mathematics of the clock: who is put out; who comes. -/
namespace Go.Proofs.Ythogflfjdfcpeaa

theorem goes_base {c : ClkN} (h : BaseK c) {i : Nat} {p : PagN} (hp : c.ps[i]? = some p) : BaseK (goesK c i) := by
  obtain ⟨A, B, e, rfl⟩ := split_at hp
  have hpg := h.pgs
  rw [e] at hpg
  have es : strikeK c.ps A.length = A ++ B := by rw [e, strike_split]
  have eg : (goesK c A.length).ps = A ++ B := es
  have hl : c.ps.length = (A ++ B).length + 1 := by rw [e]; simp; omega
  refine ⟨h.most, h.target, by rw [eg]; exact pgs_strike hpg, ?_, ?_, ?_⟩
  · rw [eg]; show goneK (strikeK c.ps A.length).length c.hot A.length < _; rw [es]; exact goneK_lt (by have := h.hot; omega) (by rw [List.length_append]; omega)
  · rw [eg]; show goneK (strikeK c.ps A.length).length c.cold A.length < _; rw [es]; exact goneK_lt (by have := h.cold; omega) (by rw [List.length_append]; omega)
  · rw [eg]; show goneK (strikeK c.ps A.length).length c.test A.length < _; rw [es]; exact goneK_lt (by have := h.test; omega) (by rw [List.length_append]; omega)
/-- One is put out. -/
structure Out1 (c c' : ClkN) (key : KeyN) : Prop where
  base : BaseK c'
  most : c'.most = c.most
  target : c'.target ≤ c.target
  res : ∃ L1 L2, resL c.ps = L1 ++ (key, 0) :: L2 ∧ resL c'.ps = L1 ++ L2
  keys : (c'.ps.map (·.key)).Sublist (c.ps.map (·.key))
  tests : (cntK 3 c'.ps : Int) ≤ c'.most
theorem Out1.of {a b c : ClkN} {key : KeyN} (h : Turn a b) (k : Out1 b c key) : Out1 a c key :=
  ⟨k.base, k.most.trans h.most, Int.le_trans k.target h.target, by rw [← h.res]; exact k.res, k.keys.trans h.keys, k.tests⟩
theorem out_trial {c : ClkN} (h : BaseK c) {i : Nat} {p : PagN} (hp : c.ps[i]? = some p) (h2 : p.kind = 2) (h0 : p.pins = 0) (hi : c.cold = i) : Out1 c (trimK { c with ps := c.ps.set i { p with kind := 3 }, cold := onK c.ps.length c.cold }) p.key := by
  obtain ⟨A, B, e, rfl⟩ := split_at hp
  have hpg := h.pgs
  rw [e] at hpg
  have es : c.ps.set A.length { p with kind := 3 } = A ++ { p with kind := 3 } :: B := by rw [e, set_split]
  have hl : (c.ps.set A.length { p with kind := 3 }).length = c.ps.length := List.length_set ..
  have hb : BaseK { c with ps := c.ps.set A.length { p with kind := 3 }, cold := onK c.ps.length c.cold } :=
    ⟨h.most, h.target, by show PgsK (c.ps.set A.length _); rw [es]; exact pgs_set hpg rfl ⟨.inr (.inr rfl), by rw [h0]; decide, fun _ => h0⟩, by show c.hot < max (c.ps.set A.length _).length 1; rw [hl]; exact h.hot, by show onK _ _ < max (c.ps.set A.length _).length 1; rw [hl]; exact onK_lt h.cold, by show c.test < max (c.ps.set A.length _).length 1; rw [hl]; exact h.test⟩
  obtain ⟨t, _, t3, _⟩ := trim_ends hb
  refine ⟨t.base, t.most, t.target, ⟨resL A, resL B, ?_, ?_⟩, ?_, t3⟩
  · rw [e, resL_app, resL_cons, if_pos (by unfold PagN.resi; simp [h2]), h0]
    rfl
  · rw [t.res]
    show resL (c.ps.set A.length _) = _
    rw [es, resL_app, resL_cons, if_neg (by unfold PagN.resi; simp)]
    rfl
  · refine t.keys.trans ?_
    show ((c.ps.set A.length _).map _).Sublist _
    rw [es, e]
    simp
theorem out_goes {c : ClkN} (h : BaseK c) {i : Nat} {p : PagN} (hp : c.ps[i]? = some p) (h2 : p.kind = 2) (h0 : p.pins = 0) : Out1 c (trimK (goesK c i)) p.key := by
  have hb := goes_base h hp
  obtain ⟨t, _, t3, _⟩ := trim_ends hb
  obtain ⟨A, B, e, rfl⟩ := split_at hp
  have es : (goesK c A.length).ps = A ++ B := by show strikeK c.ps A.length = _; rw [e, strike_split]
  refine ⟨t.base, t.most, t.target, ⟨resL A, resL B, ?_, ?_⟩, ?_, t3⟩
  · rw [e, resL_app, resL_cons, if_pos (by unfold PagN.resi; simp [h2]), h0]
    rfl
  · rw [t.res, es, resL_app]
  · refine t.keys.trans ?_
    rw [es, e]
    exact keys_strike A B p
/-- One look of the hand Cold. -/
theorem coldF_step {K : Nat} {c c' : ClkN} {out out' : List KeyN} {b : Bool} (h : BaseK c) (hK : c.ps.length ≤ K) (e : coldF (c, out, false) = some (c', out', b)) :
    (b = false → Turn c c' ∧ out' = out) ∧ (b = true → ∃ key, out' = out ++ [key] ∧ Out1 c c' key) ∧ muC K (c', out', b) < muC K (c, out, false) := by
  unfold coldF at e
  simp only [Bool.false_eq_true, if_false] at e
  split at e
  · cases e
  · rename_i hfree
    have hf : c.ps.any isFree = true := by simpa using hfree
    obtain ⟨t1, hl1, _, hw, _⟩ := warm_ends h hf
    obtain ⟨d, hd⟩ : ∃ d, d = warmK c := ⟨_, rfl⟩
    rw [← hd] at e t1 hl1 hw
    have hb := t1.base
    cases hp : d.ps[d.cold]? with
    | none => rw [hp] at e; cases e
    | some p =>
      rw [hp] at e
      simp only at e
      have hok := hb.ok_at hp
      obtain ⟨A, B, es, hA⟩ := split_at hp
      have hln : d.ps.length = A.length + 1 + B.length := by rw [es]; simp; omega
      have hcold : d.cold = A.length := hA.symm
      have hrot : rotK d.ps d.cold = p :: (B ++ A) := by rw [es, hcold, rot_at]
      obtain ⟨y, hy1, hy2⟩ := List.any_eq_true.1 hl1
      have hdK : (rotK d.ps d.cold).findIdx isLoose ≤ K := by
        refine Nat.le_trans List.findIdx_le_length ?_
        unfold rotK
        rw [List.length_append, List.length_drop, List.length_take]
        have := t1.len
        omega
      -- what the round began with is no less than what it has behind warming
      have hmu : 1 + (refsK d.ps * (K + 2) + (rotK d.ps d.cold).findIdx isLoose) ≤ muC K (c, out, false) := by
        show _ ≤ 1 + (refsK c.ps * (K + 2) + if c.ps.any isLoose then (rotK c.ps c.cold).findIdx isLoose else K + 1)
        have hr := Nat.mul_le_mul_right (K + 2) t1.refs
        by_cases hcl : c.ps.any isLoose = true
        · rw [if_pos hcl, hw hcl]
          exact Nat.le_refl _
        · rw [if_neg hcl]
          omega
      split at e
      · rename_i hno
        injection e with e
        injection e with e1 e2
        injection e2 with e2 e3
        subst e1 e2 e3
        have hnl : isLoose p = false := by
          unfold isLoose
          rcases hno with h1 | h1
          · simp [h1]
          · have : ¬ p.pins = 0 := by omega
            simp [this]
        have hex : ∃ x, x ∈ B ++ A ∧ isLoose x = true := by
          refine ⟨y, ?_, hy2⟩
          rw [es] at hy1
          rcases List.mem_append.1 hy1 with hy1 | hy1
          · exact List.mem_append_right _ hy1
          rcases List.mem_cons.1 hy1 with rfl | hy1
          · rw [hnl] at hy2; cases hy2
          · exact List.mem_append_left _ hy1
        have hnew : rotK d.ps (onK d.ps.length d.cold) = B ++ A ++ [p] := by
          rw [hcold]
          have : rotK d.ps (onK d.ps.length A.length) = rotK (A ++ p :: B) (onK d.ps.length A.length) := by rw [← es]
          rw [this, rot_on A B _ _ hln]
        refine ⟨fun _ => ⟨t1.trans (turn_hands hb hb.hot (onK_lt hb.cold) hb.test), rfl⟩, (fun h => by cases h), Nat.lt_of_lt_of_le ?_ hmu⟩
        show 1 + (refsK d.ps * (K + 2) + if d.ps.any isLoose then (rotK d.ps (onK d.ps.length d.cold)).findIdx isLoose else K + 1) < _
        rw [if_pos hl1, hnew, hrot]
        have := find_near (q := p) hnl hex
        omega
      · rename_i hno
        have h2 : p.kind = 2 := Classical.not_not.1 (fun h => hno (.inl h))
        have h0 : p.pins = 0 := by
          have := hok.2.1
          have : ¬ 0 < p.pins := fun h => hno (.inr h)
          omega
        split at e
        · rename_i hr
          -- one that was looked at is less; whatever stands behind, that is enough
          have hless : ∀ (q : PagN), q.ref = false → refsK (d.ps.set d.cold q) + 1 = refsK d.ps := fun q hq => by
            rw [es, hcold, set_split]
            unfold refsK
            simp only [List.countP_append, List.countP_cons]
            simp [hq, hr]
            omega
          have hfin : ∀ (g : ClkN), refsK g.ps + 1 ≤ refsK d.ps → g.ps.length ≤ K → muC K (g, out, false) < muC K (c, out, false) := fun g h1 h2 => by
            refine Nat.lt_of_lt_of_le ?_ hmu
            show 1 + (refsK g.ps * (K + 2) + if g.ps.any isLoose then (rotK g.ps g.cold).findIdx isLoose else K + 1) < _
            have h3 := Nat.mul_le_mul_right (K + 2) h1
            rw [Nat.add_mul, Nat.one_mul] at h3
            have h4 : (if g.ps.any isLoose then (rotK g.ps g.cold).findIdx isLoose else K + 1) ≤ K + 1 := by
              split
              · refine Nat.le_trans List.findIdx_le_length ?_
                unfold rotK
                rw [List.length_append, List.length_drop, List.length_take]
                omega
              · exact Nat.le_refl _
            omega
          split at e
          · injection e with e
            injection e with e1 e2
            injection e2 with e2 e3
            subst e1 e2 e3
            have ts := turn_set (q := { p with kind := 1, trial := false, ref := false }) hb hp rfl rfl (by unfold PagN.resi; simp [h2]) ⟨.inl rfl, hok.2.1, fun h3 => by simp at h3⟩ (fun h3 => by simp at h3) (fun h3 => by simp at h3) { d with ps := d.ps.set d.cold { p with kind := 1, trial := false, ref := false }, cold := onK d.ps.length d.cold } rfl rfl rfl hb.hot (onK_lt hb.cold) hb.test
            obtain ⟨tc, _, _⟩ := cool_ends ts.base
            refine ⟨fun _ => ⟨(t1.trans ts).trans tc, rfl⟩, (fun h => by cases h), hfin _ ?_ ?_⟩
            · have h5 := tc.refs
              have h6 := hless { p with kind := 1, trial := false, ref := false } rfl
              have h7 : refsK ({ d with ps := d.ps.set d.cold { p with kind := 1, trial := false, ref := false }, cold := onK d.ps.length d.cold } : ClkN).ps = refsK (d.ps.set d.cold { p with kind := 1, trial := false, ref := false }) := rfl
              omega
            · have h5 := tc.len
              have h6 := ts.len
              have h7 := t1.len
              omega
          · injection e with e
            injection e with e1 e2
            injection e2 with e2 e3
            subst e1 e2 e3
            have ts := turn_set (q := { p with trial := true, ref := false }) hb hp rfl rfl (by unfold PagN.resi; rfl) ⟨.inr (.inl h2), hok.2.1, fun h3 => hok.2.2 h3⟩ (fun h3 => h3) (fun h3 => by simp at h3) { d with ps := d.ps.set d.cold { p with trial := true, ref := false }, cold := onK d.ps.length d.cold } rfl rfl rfl hb.hot (onK_lt hb.cold) hb.test
            refine ⟨fun _ => ⟨t1.trans ts, rfl⟩, (fun h => by cases h), hfin _ ?_ ?_⟩
            · exact Nat.le_of_eq (hless { p with trial := true, ref := false } rfl)
            · have h6 := ts.len
              have h7 := t1.len
              omega
        · split at e
          · injection e with e
            injection e with e1 e2
            injection e2 with e2 e3
            subst e1 e2 e3
            refine ⟨(fun h => by cases h), fun _ => ⟨p.key, rfl, Out1.of t1 (out_trial hb hp h2 h0 rfl)⟩, ?_⟩
            show 0 < 1 + _
            omega
          · injection e with e
            injection e with e1 e2
            injection e2 with e2 e3
            subst e1 e2 e3
            refine ⟨(fun h => by cases h), fun _ => ⟨p.key, rfl, Out1.of t1 (out_goes hb hp h2 h0)⟩, ?_⟩
            show 0 < 1 + _
            omega
/-- The hand Cold turns: it ends; one that had no pins was put out. -/
theorem cold_ends {c : ClkN} (h : BaseK c) (hf : c.ps.any isFree = true) (out : List KeyN) : ∃ key, (turnColdK c out).2 = out ++ [key] ∧ Out1 c (turnColdK c out).1 key ∧ ∃ k, Ends coldF k (c, out, false) ((turnColdK c out).1, (turnColdK c out).2, true) := by
  obtain ⟨k, _, h2, h3⟩ := ends_run (f := coldF) (fun x => (x.2.2 = false → Turn c x.1 ∧ x.2.1 = out) ∧ (x.2.2 = true → ∃ key, x.2.1 = out ++ [key] ∧ Out1 c x.1 key)) (muC c.ps.length) (by
    rintro ⟨d, o, b⟩ ⟨d', o', b'⟩ ⟨h1, h2⟩ e
    cases b with
    | true => cases e
    | false =>
      obtain ⟨t, ho⟩ := h1 rfl
      obtain ⟨g1, g2, g3⟩ := coldF_step (K := c.ps.length) t.base t.len e
      have ho' : o = out := ho
      subst ho'
      exact ⟨⟨fun hb => ⟨t.trans (g1 hb).1, (g1 hb).2⟩, fun hb => by
        obtain ⟨key, k1, k2⟩ := g2 hb
        exact ⟨key, k1, Out1.of t k2⟩⟩, g3⟩) (muC c.ps.length (c, out, false)) (c, out, false) ⟨fun _ => ⟨Turn.refl h, rfl⟩, fun hb => by cases hb⟩ (Nat.le_refl _)
  obtain ⟨x, hx⟩ : ∃ x, x = runF coldF (muC c.ps.length (c, out, false)) (c, out, false) := ⟨_, rfl⟩
  have hturn : turnColdK c out = (x.1, x.2.1) := by rw [hx]; rfl
  have hlast := h2.last
  rw [← hx] at h2 h3 hlast
  rw [hturn]
  obtain ⟨d, o, b⟩ := x
  cases b with
  | true =>
    obtain ⟨key, k1, k2⟩ := h3.2 rfl
    exact ⟨key, k1, k2, k, h2⟩
  | false =>
    exfalso
    obtain ⟨t, _⟩ := h3.1 rfl
    have hb : BaseK d := t.base
    have hf2 : d.ps.any isFree = true := by
      have := t.res
      rw [free_res] at hf ⊢
      have e : resL d.ps = resL c.ps := this
      rw [e]
      exact hf
    unfold coldF at hlast
    simp only [Bool.false_eq_true, if_false] at hlast
    rw [if_neg (by rw [hf2]; decide)] at hlast
    obtain ⟨t1, hl1, _, _, _⟩ := warm_ends hb hf2
    obtain ⟨y, hy1, _⟩ := List.any_eq_true.1 hl1
    obtain ⟨p, hp⟩ := hand_at t1.base.cold (by rintro e; rw [e] at hy1; cases hy1)
    rw [hp] at hlast
    simp only at hlast
    split at hlast
    · cases hlast
    · split at hlast
      · split at hlast <;> cases hlast
      · split at hlast <;> cases hlast

theorem res_len {ps : List PagN} (h : ∀ p ∈ ps, OkP p) : (resL ps).length = cntK 1 ps + cntK 2 ps := by
  induction ps with
  | nil => rfl
  | cons p ps ih =>
    have ih' := ih (fun q hq => h q (List.mem_cons_of_mem _ hq))
    rw [resL_cons, List.length_append, ih']
    unfold cntK
    simp only [List.countP_cons]
    have hp := (h p (List.mem_cons_self ..)).1
    unfold PagN.resi
    rcases hp with e | e | e <;> simp [e] <;> omega
/-- What a clock is that such calls make. -/
structure Good (c : ClkN) : Prop where
  base : BaseK c
  room : ((cntK 1 c.ps + cntK 2 c.ps : Nat) : Int) ≤ c.most
  trial : (cntK 3 c.ps : Int) ≤ c.most
  hots : (cntK 1 c.ps : Int) ≤ c.most - c.target
theorem good_new (most : Int) : Good (newK most) := by
  have h : 1 ≤ min (max most 1) 1000 ∧ min (max most 1) 1000 ≤ 1000 := by omega
  refine ⟨⟨h, ⟨Int.le_refl _, h.1⟩, ⟨(fun p hp => by cases hp), List.nodup_nil⟩, Nat.zero_lt_one, Nat.zero_lt_one, Nat.zero_lt_one⟩, ?_, ?_, ?_⟩
  · show ((0 : Nat) : Int) ≤ min (max most 1) 1000; omega
  · show ((0 : Nat) : Int) ≤ min (max most 1) 1000; omega
  · show ((0 : Nat) : Int) ≤ min (max most 1) 1000 - 1; omega
/-- What room is made: who is put out. -/
theorem room_ends {c : ClkN} (h : BaseK c) (hr : ((cntK 1 c.ps + cntK 2 c.ps : Nat) : Int) ≤ c.most) (hf : ((cntK 1 c.ps + cntK 2 c.ps : Nat) : Int) = c.most → c.ps.any isFree = true) (ht : (cntK 3 c.ps : Int) ≤ c.most) :
    (∃ k, Ends roomF k (c, []) (roomK c)) ∧
    (((cntK 1 c.ps + cntK 2 c.ps : Nat) : Int) < c.most ∧ roomK c = (c, []) ∨ ((cntK 1 c.ps + cntK 2 c.ps : Nat) : Int) = c.most ∧ ∃ key, (roomK c).2 = [key] ∧ Out1 c (roomK c).1 key ∧ roomK c = turnColdK c []) ∧
    ((cntK 1 (roomK c).1.ps + cntK 2 (roomK c).1.ps : Nat) : Int) < c.most ∧ (cntK 3 (roomK c).1.ps : Int) ≤ c.most ∧ BaseK (roomK c).1 ∧ (roomK c).1.most = c.most ∧ ((roomK c).1.ps.map (·.key)).Sublist (c.ps.map (·.key)) := by
  by_cases hfull : ((cntK 1 c.ps + cntK 2 c.ps : Nat) : Int) = c.most
  · obtain ⟨key, k1, k2, _⟩ := cold_ends h (hf hfull) []
    have hlen : cntK 1 (turnColdK c []).1.ps + cntK 2 (turnColdK c []).1.ps + 1 = cntK 1 c.ps + cntK 2 c.ps := by
      rw [← res_len k2.base.pgs.1, ← res_len h.pgs.1]
      obtain ⟨L1, L2, e1, e2⟩ := k2.res
      rw [e1, e2]
      simp
      omega
    have hstep : roomF (c, []) = some (turnColdK c []) := by
      unfold roomF
      rw [if_pos (by show c.most ≤ ((cntK 1 c.ps + cntK 2 c.ps : Nat) : Int); omega)]
    have hlast : roomF (turnColdK c []) = none := by
      unfold roomF
      rw [if_neg (by have := k2.most; omega)]
    have hends : Ends roomF 1 (c, []) (turnColdK c []) := ⟨_, hstep, hlast, rfl⟩
    have hrun : roomK c = turnColdK c [] := hends.run (n := cntK 1 c.ps + cntK 2 c.ps) (by have := h.most; omega)
    rw [hrun]
    exact ⟨⟨1, hends⟩, .inr ⟨hfull, key, by simpa using k1, k2, rfl⟩, by omega, by have := k2.tests; have := k2.most; omega, k2.base, k2.most, k2.keys⟩
  · have hlast : roomF (c, []) = none := by
      unfold roomF
      rw [if_neg (by show ¬ c.most ≤ ((cntK 1 c.ps + cntK 2 c.ps : Nat) : Int); omega)]
    have hends : Ends roomF 0 (c, []) (c, []) := ⟨hlast, rfl⟩
    have hrun : roomK c = (c, []) := hends.run (n := cntK 1 c.ps + cntK 2 c.ps) (Nat.zero_le _)
    rw [hrun]
    exact ⟨⟨0, hends⟩, .inl ⟨by omega, rfl⟩, by show ((cntK 1 c.ps + cntK 2 c.ps : Nat) : Int) < _; omega, ht, h, rfl, List.Sublist.refl _⟩
theorem findK_some {k : KeyN} {ps : List PagN} {i : Nat} (h : findK k ps = some i) : ∃ p, ps[i]? = some p ∧ p.key = k := by
  unfold findK at h
  obtain ⟨hi, h1, _⟩ := List.findIdx?_eq_some_iff_getElem.1 h
  exact ⟨ps[i], List.getElem?_eq_getElem hi, by simpa using h1⟩
theorem findK_none {k : KeyN} {ps : List PagN} (h : findK k ps = none) : ∀ p ∈ ps, p.key ≠ k := by
  unfold findK at h
  rw [List.findIdx?_eq_none_iff] at h
  intro p hp
  simpa using h p hp
/-- In what has each name once, who has it stands where it is looked for. -/
theorem findK_at {k : KeyN} {ps : List PagN} (hn : (ps.map (·.key)).Nodup) {i : Nat} {p : PagN} (hp : ps[i]? = some p) (hk : p.key = k) : findK k ps = some i := by
  cases h : findK k ps with
  | none => exact absurd hk (findK_none h p (List.mem_of_getElem? hp))
  | some j =>
    obtain ⟨q, hq, hqk⟩ := findK_some h
    have hi : (ps.map (·.key))[i]? = some k := by rw [List.getElem?_map, hp, ← hk]; rfl
    have hj : (ps.map (·.key))[j]? = some k := by rw [List.getElem?_map, hq, ← hqk]; rfl
    have hl := (List.getElem?_eq_some_iff.1 hj).1
    rw [List.Nodup, List.pairwise_iff_getElem] at hn
    obtain ⟨hi1, hi2⟩ := List.getElem?_eq_some_iff.1 hi
    obtain ⟨hj1, hj2⟩ := List.getElem?_eq_some_iff.1 hj
    rcases Nat.lt_trichotomy i j with h1 | h1 | h1
    · exact absurd (hi2.trans hj2.symm) (hn i j hi1 hj1 h1)
    · rw [h1]
    · exact absurd (hj2.trans hi2.symm) (hn j i hj1 hi1 h1)
/-- Who comes stands there; all else is as it was. -/
theorem come_base {c : ClkN} (h : BaseK c) {p : PagN} (hok : OkP p) (hnew : ∀ q ∈ c.ps, q.key ≠ p.key) : BaseK (comeK c p) ∧ (comeK c p).most = c.most ∧ (comeK c p).target = c.target ∧ p ∈ (comeK c p).ps ∧
    (∀ k, cntK k (comeK c p).ps = cntK k c.ps + if p.kind = k then 1 else 0) ∧ ∃ L1 L2, resL c.ps = L1 ++ L2 ∧ resL (comeK c p).ps = L1 ++ (if p.resi then [(p.key, p.pins)] else []) ++ L2 := by
  unfold comeK
  by_cases he : c.ps = []
  · rw [if_pos he]
    refine ⟨⟨h.most, h.target, ⟨fun q hq => ?_, ?_⟩, Nat.zero_lt_one, Nat.zero_lt_one, Nat.zero_lt_one⟩, rfl, rfl, List.mem_cons_self .., fun k => ?_, [], [], ?_, ?_⟩
    · rcases List.mem_cons.1 hq with rfl | hq
      · exact hok
      · cases hq
    · simp
    · rw [he]
      unfold cntK
      simp [List.countP_cons]
    · rw [he]; rfl
    · show resL [p] = _
      rw [resL_cons]
      simp [resL]
  · rw [if_neg he]
    have hpos : 0 < c.ps.length := List.length_pos_iff.2 he
    have hlen : (c.ps.take c.hot ++ p :: c.ps.drop c.hot).length = c.ps.length + 1 := by
      rw [List.length_append, List.length_cons, List.length_take, List.length_drop]
      omega
    have hspl : c.ps = c.ps.take c.hot ++ c.ps.drop c.hot := (List.take_append_drop _ _).symm
    have h1 := h.hot
    have h2 := h.cold
    have h3 := h.test
    refine ⟨⟨h.most, h.target, ⟨fun q hq => ?_, ?_⟩, ?_, ?_, ?_⟩, rfl, rfl, ?_, fun k => ?_, resL (c.ps.take c.hot), resL (c.ps.drop c.hot), ?_, ?_⟩
    · rcases List.mem_append.1 hq with hq | hq
      · exact h.pgs.1 q (List.mem_of_mem_take hq)
      rcases List.mem_cons.1 hq with rfl | hq
      · exact hok
      · exact h.pgs.1 q (List.mem_of_mem_drop hq)
    · have hn := h.pgs.2
      rw [hspl, List.map_append, List.nodup_append] at hn
      show ((c.ps.take c.hot ++ p :: c.ps.drop c.hot).map _).Nodup
      rw [List.map_append, List.map_cons, List.nodup_append, List.nodup_cons]
      refine ⟨hn.1, ⟨fun hm => ?_, hn.2.1⟩, fun a ha b hb => ?_⟩
      · obtain ⟨q, hq, e⟩ := List.mem_map.1 hm
        exact hnew q (List.mem_of_mem_drop hq) e
      · rcases List.mem_cons.1 hb with rfl | hb
        · obtain ⟨q, hq, e⟩ := List.mem_map.1 ha
          intro e2
          exact hnew q (List.mem_of_mem_take hq) (e.trans e2)
        · exact hn.2.2 a ha b hb
    · show c.hot + 1 < max (c.ps.take c.hot ++ p :: c.ps.drop c.hot).length 1
      rw [hlen]; omega
    · show (if c.hot ≤ c.cold then c.cold + 1 else c.cold) < max (c.ps.take c.hot ++ p :: c.ps.drop c.hot).length 1
      rw [hlen]; split <;> omega
    · show (if c.hot ≤ c.test then c.test + 1 else c.test) < max (c.ps.take c.hot ++ p :: c.ps.drop c.hot).length 1
      rw [hlen]; split <;> omega
    · show p ∈ c.ps.take c.hot ++ p :: c.ps.drop c.hot
      exact List.mem_append_right _ (List.mem_cons_self ..)
    · show cntK k (c.ps.take c.hot ++ p :: c.ps.drop c.hot) = _
      have : cntK k c.ps = cntK k (c.ps.take c.hot) + cntK k (c.ps.drop c.hot) := by
        unfold cntK
        rw [← List.countP_append, ← hspl]
      rw [this]
      unfold cntK
      simp only [List.countP_append, List.countP_cons, beq_iff_eq]
      omega
    · rw [← resL_app, ← hspl]
    · show resL (c.ps.take c.hot ++ p :: c.ps.drop c.hot) = _
      rw [resL_app, resL_cons, List.append_assoc]
theorem res_mem {ps : List PagN} {x : KeyN × Int} : x ∈ resL ps ↔ ∃ p ∈ ps, p.resi = true ∧ (p.key, p.pins) = x := by
  unfold resL
  simp only [List.mem_map, List.mem_filter]
  constructor
  · rintro ⟨p, ⟨h1, h2⟩, h3⟩
    exact ⟨p, h1, h2, h3⟩
  · rintro ⟨p, h1, h2, h3⟩
    exact ⟨p, ⟨h1, h2⟩, h3⟩
/-- Each name is resident once. -/
theorem res_nodup {ps : List PagN} (hn : (ps.map (·.key)).Nodup) : ((resL ps).map (·.1)).Nodup := by
  unfold resL
  rw [List.map_map]
  have : ((fun x : KeyN × Int => x.1) ∘ fun p : PagN => (p.key, p.pins)) = fun p => p.key := rfl
  rw [this]
  exact hn.sublist ((List.filter_sublist).map _)
end Go.Proofs.Ythogflfjdfcpeaa

/- Which pages stay: the mathematics of the clock: what Admit, Touch, Pin, Drop come to. -/
namespace Go.Proofs.Ythogflfjdfcpeaa

/-- A page is written: its kind and name stay. -/
theorem good_set {c : ClkN} (h : Good c) {i : Nat} {p q : PagN} (hp : c.ps[i]? = some p) (hk : q.key = p.key) (hkd : q.kind = p.kind) (hq : OkP q) : Good { c with ps := c.ps.set i q } ∧ (q.pins = p.pins → resL (c.ps.set i q) = resL c.ps) := by
  have hb := h.base
  obtain ⟨A, B, e, rfl⟩ := split_at hp
  have hpg := hb.pgs
  rw [e] at hpg
  have es : c.ps.set A.length q = A ++ q :: B := by rw [e, set_split]
  have hl : (c.ps.set A.length q).length = c.ps.length := List.length_set ..
  have hc : ∀ k, cntK k (c.ps.set A.length q) = cntK k c.ps := fun k => by
    rw [es, e]
    unfold cntK
    simp only [List.countP_append, List.countP_cons, hkd]
  refine ⟨⟨⟨hb.most, hb.target, by show PgsK (c.ps.set A.length q); rw [es]; exact pgs_set hpg hk hq, by show c.hot < max (c.ps.set A.length q).length 1; rw [hl]; exact hb.hot, by show c.cold < max (c.ps.set A.length q).length 1; rw [hl]; exact hb.cold, by show c.test < max (c.ps.set A.length q).length 1; rw [hl]; exact hb.test⟩, ?_, ?_, ?_⟩, fun hpin => ?_⟩
  · show ((cntK 1 (c.ps.set A.length q) + cntK 2 (c.ps.set A.length q) : Nat) : Int) ≤ c.most
    rw [hc, hc]; exact h.room
  · show (cntK 3 (c.ps.set A.length q) : Int) ≤ c.most
    rw [hc]; exact h.trial
  · show (cntK 1 (c.ps.set A.length q) : Int) ≤ c.most - c.target
    rw [hc]; exact h.hots
  · rw [es, e, resL_app, resL_app, resL_cons, resL_cons, hk, hpin]
    have : q.resi = p.resi := by unfold PagN.resi; rw [hkd]
    rw [this]
theorem good_goes {c : ClkN} (h : Good c) {i : Nat} {p : PagN} (hp : c.ps[i]? = some p) : Good (goesK c i) ∧ ((goesK c i).ps.map (·.key)).Sublist (c.ps.map (·.key)) ∧ (∀ q ∈ (goesK c i).ps, q.key ≠ p.key) ∧ (p.resi = false → resL (goesK c i).ps = resL c.ps) := by
  have hb := goes_base h.base hp
  obtain ⟨A, B, e, rfl⟩ := split_at hp
  have es : (goesK c A.length).ps = A ++ B := by show strikeK c.ps A.length = _; rw [e, strike_split]
  have hc : ∀ k, cntK k (goesK c A.length).ps ≤ cntK k c.ps := fun k => by
    rw [es, e]
    unfold cntK
    simp only [List.countP_append, List.countP_cons]
    omega
  have h1 := hc 1
  have h2 := hc 2
  have h3 := hc 3
  have g1 := h.room
  have g2 := h.trial
  have g3 := h.hots
  refine ⟨⟨hb, ?_, ?_, ?_⟩, by rw [es, e]; exact keys_strike A B p, fun q hq => ?_, fun hr => by rw [es, e, resL_app, resL_app, resL_cons, hr]; rfl⟩
  · show ((cntK 1 (goesK c A.length).ps + cntK 2 (goesK c A.length).ps : Nat) : Int) ≤ c.most
    omega
  · show (cntK 3 (goesK c A.length).ps : Int) ≤ c.most
    omega
  · show (cntK 1 (goesK c A.length).ps : Int) ≤ c.most - c.target
    omega
  · have hn := h.base.pgs.2
    rw [e, List.map_append, List.map_cons, List.nodup_append, List.nodup_cons] at hn
    rw [es] at hq
    rcases List.mem_append.1 hq with hq | hq
    · exact hn.2.2 _ (List.mem_map.2 ⟨q, hq, rfl⟩) _ (List.mem_cons_self ..)
    · intro e2
      exact hn.2.1.1 (List.mem_map.2 ⟨q, hq, e2⟩)
theorem touch_is {c : ClkN} (h : Good c) (k : KeyN) : Good (touchK c k).1 ∧ (touchK c k).1.most = c.most ∧ (touchK c k).1.target = c.target ∧ resL (touchK c k).1.ps = resL c.ps ∧ ((touchK c k).2 = false → (touchK c k).1 = c) ∧ ((touchK c k).2 = true ↔ ∃ p ∈ c.ps, p.key = k ∧ p.resi = true) := by
  unfold touchK
  cases hf : findK k c.ps with
  | none =>
    refine ⟨h, rfl, rfl, rfl, fun _ => rfl, ?_⟩
    constructor
    · intro e; cases e
    · rintro ⟨p, hp, hk, _⟩; exact absurd hk (findK_none hf p hp)
  | some i =>
    obtain ⟨p, hp, hk⟩ := findK_some hf
    simp only [hp]
    by_cases hr : p.resi = true
    · rw [if_pos hr]
      have hok := h.base.ok_at hp
      obtain ⟨g1, g2⟩ := good_set (q := { p with ref := true }) h hp rfl rfl hok
      exact ⟨g1, rfl, rfl, g2 rfl, (fun e => by cases e), ⟨fun _ => ⟨p, List.mem_of_getElem? hp, hk, hr⟩, fun _ => rfl⟩⟩
    · rw [if_neg hr]
      refine ⟨h, rfl, rfl, rfl, fun _ => rfl, ?_⟩
      constructor
      · intro e; cases e
      · rintro ⟨q, hq, hqk, hqr⟩
        obtain ⟨j, hj, e⟩ := List.getElem_of_mem hq
        have h1 := findK_at h.base.pgs.2 (i := j) (p := q) (by rw [List.getElem?_eq_getElem hj, e]) hqk
        rw [hf] at h1
        injection h1 with h1
        subst h1
        rw [List.getElem?_eq_getElem hj, e] at hp
        injection hp with hp
        subst hp
        exact absurd hqr hr
theorem resAt_iff {c : ClkN} (h : BaseK c) (k : KeyN) : resAt c k = true ↔ ∃ p ∈ c.ps, p.key = k ∧ p.resi = true := by
  unfold resAt
  cases hf : findK k c.ps with
  | none =>
    constructor
    · intro e; cases e
    · rintro ⟨p, hp, hk, _⟩; exact absurd hk (findK_none hf p hp)
  | some i =>
    obtain ⟨p, hp, hk⟩ := findK_some hf
    simp only [hp]
    constructor
    · intro e; exact ⟨p, List.mem_of_getElem? hp, hk, e⟩
    · rintro ⟨q, hq, hqk, hqr⟩
      obtain ⟨j, hj, e⟩ := List.getElem_of_mem hq
      have h1 := findK_at h.pgs.2 (i := j) (p := q) (by rw [List.getElem?_eq_getElem hj, e]) hqk
      rw [hf] at h1
      injection h1 with h1
      subst h1
      rw [List.getElem?_eq_getElem hj, e] at hp
      injection hp with hp
      subst hp
      exact hqr
/-- Nobody comes, where all have pins. -/
theorem admit_no {c : ClkN} (h : Good c) {k : KeyN} (e : (admitK c k).2.2 = false) : admitK c k = (c, [], false) ∧ ((cntK 1 c.ps + cntK 2 c.ps : Nat) : Int) = c.most ∧ c.ps.any isFree = false ∧ resAt c k = false := by
  obtain ⟨_, _, _, _, _, t⟩ := touch_is h k
  unfold admitK at e ⊢
  by_cases hr : resAt c k = true
  · rw [if_pos hr] at e
    have : (touchK c k).2 = true := t.2 ((resAt_iff h.base k).1 hr)
    exact absurd (this.symm.trans e) (by decide)
  · rw [if_neg hr] at e ⊢
    by_cases hc : c.most ≤ (cntK 1 c.ps + cntK 2 c.ps : Nat) ∧ c.ps.any isFree = false
    · rw [if_pos hc]
      exact ⟨rfl, by have := h.room; omega, hc.2, by simpa using hr⟩
    · rw [if_neg hc] at e
      cases e
/-- Who comes is there; whom it put out is not; who has pins stays. -/
structure Came (c c' : ClkN) (k : KeyN) (out : List KeyN) : Prop where
  good : Good c'
  most : c'.most = c.most
  here : ∃ p ∈ c'.ps, p.key = k ∧ p.resi = true
  pinned : ∀ x ∈ resL c.ps, x.2 ≠ 0 → x ∈ resL c'.ps
  from_ : ∀ x ∈ resL c'.ps, x ∈ resL c.ps ∨ x = (k, 0)
  gone : ∀ key ∈ out, (key, 0) ∈ resL c.ps ∧ ∀ n, (key, n) ∉ resL c'.ps
  one : out.length ≤ 1
  none_ : ((cntK 1 c.ps + cntK 2 c.ps : Nat) : Int) < c.most → out = []
  full : (∀ p ∈ c.ps, p.key = k → p.resi = false) → ((cntK 1 c.ps + cntK 2 c.ps : Nat) : Int) = c.most → out.length = 1
  kept : ∀ x ∈ resL c.ps, x.1 ∉ out → x ∈ resL c'.ps
theorem come_all {c : ClkN} (h : BaseK c) (hroom : ((cntK 1 c.ps + cntK 2 c.ps : Nat) : Int) ≤ c.most) (htrial : (cntK 3 c.ps : Int) ≤ c.most) {k : KeyN} (hk : ∀ q ∈ c.ps, q.key ≠ k) (hf : ((cntK 1 c.ps + cntK 2 c.ps : Nat) : Int) = c.most → c.ps.any isFree = true) {p : PagN} (hp : p.key = k) (hr : p.resi = true) (h0 : p.pins = 0) (hok : OkP p) :
    Came c (coolK (comeK (roomK c).1 p)) k (roomK c).2 := by
  obtain ⟨_, hor, r1, r2, r3, r4, r5⟩ := room_ends h hroom hf htrial
  have hnew : ∀ q ∈ (roomK c).1.ps, q.key ≠ p.key := fun q hq e => by
    have hm : q.key ∈ (roomK c).1.ps.map (·.key) := List.mem_map.2 ⟨q, hq, rfl⟩
    obtain ⟨q', hq', e'⟩ := List.mem_map.1 (r5.subset hm)
    exact hk q' hq' (by rw [e', e, hp])
  obtain ⟨c1, c2, c3, c4, c5, L1, L2, c6, c7⟩ := come_base r3 hok hnew
  obtain ⟨t, t2, _⟩ := cool_ends c1
  rw [if_pos hr] at c7
  have hres : resL (coolK (comeK (roomK c).1 p)).ps = L1 ++ [(k, 0)] ++ L2 := by rw [t.res, c7, hp, h0]
  have hmost : (coolK (comeK (roomK c).1 p)).most = c.most := t.most.trans (c2.trans r4)
  have hk3 : p.kind ≠ 3 := (resi_of hok).1 hr
  have hsub : ∀ x ∈ resL (roomK c).1.ps, x ∈ resL c.ps := fun x hx => by
    rcases hor with ⟨_, e⟩ | ⟨_, key, _, o, _⟩
    · rw [e] at hx; exact hx
    · obtain ⟨M1, M2, e1, e2⟩ := o.res
      rw [e2] at hx
      rw [e1]
      rcases List.mem_append.1 hx with hx | hx
      · exact List.mem_append_left _ hx
      · exact List.mem_append_right _ (List.mem_cons_of_mem _ hx)
  have hin : ∀ x, x ∈ resL (coolK (comeK (roomK c).1 p)).ps ↔ x ∈ resL (roomK c).1.ps ∨ x = (k, 0) := fun x => by
    rw [hres, c6]
    simp only [List.mem_append, List.mem_cons, List.not_mem_nil, or_false]
    constructor
    · rintro ((h | h) | h)
      · exact .inl (.inl h)
      · exact .inr h
      · exact .inl (.inr h)
    · rintro ((h | h) | h)
      · exact .inl (.inl h)
      · exact .inr h
      · exact .inl (.inr h)
  refine ⟨⟨t.base, ?_, ?_, t2⟩, hmost, ?_, ?_, ?_, ?_, ?_, ?_, ?_, ?_⟩
  · have e1 := res_len t.base.pgs.1
    have e2 := res_len r3.pgs.1
    rw [hres] at e1
    rw [c6] at e2
    simp only [List.length_append, List.length_cons, List.length_nil] at e1 e2
    rw [← e1, hmost]
    omega
  · have := t.tests
    have e := c5 3
    rw [if_neg hk3] at e
    rw [hmost]
    omega
  · have : (k, (0 : Int)) ∈ resL (coolK (comeK (roomK c).1 p)).ps := (hin _).2 (.inr rfl)
    obtain ⟨q, h1, h2, h3⟩ := res_mem.1 this
    injection h3 with h3 _
    exact ⟨q, h1, h3, h2⟩
  · intro x hx hx0
    refine (hin x).2 (.inl ?_)
    rcases hor with ⟨_, e⟩ | ⟨_, key, _, o, _⟩
    · rw [e]; exact hx
    · obtain ⟨M1, M2, e1, e2⟩ := o.res
      rw [e1] at hx
      rw [e2]
      rcases List.mem_append.1 hx with hx | hx
      · exact List.mem_append_left _ hx
      rcases List.mem_cons.1 hx with rfl | hx
      · exact absurd rfl hx0
      · exact List.mem_append_right _ hx
  · intro x hx
    rcases (hin x).1 hx with hx | hx
    · exact .inl (hsub x hx)
    · exact .inr hx
  · intro key hkey
    rcases hor with ⟨_, e⟩ | ⟨_, key', e1, o, _⟩
    · rw [e] at hkey; cases hkey
    · rw [e1] at hkey
      obtain rfl := List.mem_singleton.1 hkey
      obtain ⟨M1, M2, e2, e3⟩ := o.res
      have hmem : (key, (0 : Int)) ∈ resL c.ps := by rw [e2]; exact List.mem_append_right _ (List.mem_cons_self ..)
      refine ⟨hmem, fun n hn => ?_⟩
      rcases (hin _).1 hn with hn | hn
      · have hnd := res_nodup h.pgs.2
        rw [e2, List.map_append, List.map_cons, List.nodup_append, List.nodup_cons] at hnd
        rw [e3] at hn
        rcases List.mem_append.1 hn with hn | hn
        · exact hnd.2.2 _ (List.mem_map.2 ⟨_, hn, rfl⟩) _ (List.mem_cons_self ..) rfl
        · exact hnd.2.1.1 (List.mem_map.2 ⟨_, hn, rfl⟩)
      · injection hn with hn _
        obtain ⟨q, h1, _, h3⟩ := res_mem.1 hmem
        injection h3 with h3 _
        exact hk q h1 (h3.trans hn)
  · rcases hor with ⟨_, e⟩ | ⟨_, key', e1, _, _⟩
    · rw [e]; exact Nat.zero_le _
    · rw [e1]; exact Nat.le_refl _
  · intro hlt
    rcases hor with ⟨_, e⟩ | ⟨e, _⟩
    · rw [e]
    · omega
  · intro _ hfull
    rcases hor with ⟨e, _⟩ | ⟨_, key', e1, _, _⟩
    · omega
    · rw [e1]; rfl
  · intro x hx hx0
    refine (hin x).2 (.inl ?_)
    rcases hor with ⟨_, e⟩ | ⟨_, key, e0, o, _⟩
    · rw [e]; exact hx
    · obtain ⟨M1, M2, e1, e2⟩ := o.res
      rw [e1] at hx
      rw [e2]
      rcases List.mem_append.1 hx with hx | hx
      · exact List.mem_append_left _ hx
      rcases List.mem_cons.1 hx with rfl | hx
      · exact absurd (by rw [e0]; exact List.mem_singleton.2 rfl) hx0
      · exact List.mem_append_right _ hx
theorem admit_yes {c : ClkN} (h : Good c) {k : KeyN} (e : (admitK c k).2.2 = true) : Came c (admitK c k).1 k (admitK c k).2.1 := by
  obtain ⟨t1, t2, _, t3, _, t4⟩ := touch_is h k
  unfold admitK at e ⊢
  by_cases hr : resAt c k = true
  · rw [if_pos hr]
    obtain ⟨p, hp, hpk, hpr⟩ := (resAt_iff h.base k).1 hr
    refine ⟨t1, t2, ?_, fun x hx _ => by rw [t3]; exact hx, fun x hx => .inl (by rw [← t3]; exact hx), (fun key hk => by cases hk), Nat.zero_le _, fun _ => rfl, fun hno _ => absurd (hno p hp hpk) (by rw [hpr]; decide), fun x hx _ => by rw [t3]; exact hx⟩
    have : (p.key, p.pins) ∈ resL (touchK c k).1.ps := by rw [t3]; exact res_mem.2 ⟨p, hp, hpr, rfl⟩
    obtain ⟨q, h1, h2, h3⟩ := res_mem.1 this
    injection h3 with h3 _
    exact ⟨q, h1, h3.trans hpk, h2⟩
  · rw [if_neg hr] at e ⊢
    by_cases hc : c.most ≤ (cntK 1 c.ps + cntK 2 c.ps : Nat) ∧ c.ps.any isFree = false
    · rw [if_pos hc] at e
      cases e
    · rw [if_neg hc]
      have hf : ((cntK 1 c.ps + cntK 2 c.ps : Nat) : Int) = c.most → c.ps.any isFree = true := fun hfull => by
        cases ha : c.ps.any isFree with
        | true => rfl
        | false => exact absurd ⟨by omega, ha⟩ hc
      cases hfk : findK k c.ps with
      | none =>
        have e1 : clearK c k = c := by unfold clearK; rw [hfk]
        have e2 : pageK c k = ⟨k, 2, false, true, 0⟩ := by unfold pageK; rw [hfk]
        rw [e1, e2]
        exact come_all h.base h.room h.trial (findK_none hfk) hf rfl rfl rfl ⟨.inr (.inl rfl), Int.le_refl _, fun _ => rfl⟩
      | some i =>
        obtain ⟨p, hp, hpk⟩ := findK_some hfk
        have e1 : clearK c k = aimK (goesK c i) 1 := by unfold clearK; rw [hfk]
        have e2 : pageK c k = ⟨k, 1, false, false, 0⟩ := by unfold pageK; rw [hfk]
        have hrf : p.resi = false := by
          unfold resAt at hr
          rw [hfk] at hr
          simp only [hp] at hr
          simpa using hr
        obtain ⟨g1, g2, g3, g4⟩ := good_goes h hp
        have hres : resL (goesK c i).ps = resL c.ps := g4 hrf
        have hcnt : cntK 1 (goesK c i).ps + cntK 2 (goesK c i).ps = cntK 1 c.ps + cntK 2 c.ps := by rw [← res_len g1.base.pgs.1, ← res_len h.base.pgs.1, hres]
        have hb1 : BaseK (aimK (goesK c i) 1) := aim_base g1.base 1
        have hall := come_all (c := aimK (goesK c i) 1) hb1 (by show ((cntK 1 (goesK c i).ps + cntK 2 (goesK c i).ps : Nat) : Int) ≤ c.most; rw [hcnt]; exact h.room) g1.trial (k := k) (fun q hq => by rw [← hpk]; exact g3 q hq)
          (fun hfull => by
            have e3 : (aimK (goesK c i) 1).ps = (goesK c i).ps := rfl
            have e4 : (aimK (goesK c i) 1).most = c.most := rfl
            rw [e3, free_res, hres, ← free_res]
            rw [e3, hcnt, e4] at hfull
            exact hf hfull) (p := ⟨k, 1, false, false, 0⟩) rfl rfl rfl ⟨.inl rfl, Int.le_refl _, fun _ => rfl⟩
        rw [e1, e2]
        obtain ⟨a1, a2, a3, a4, a5, a6, a7, a8, a9, a10⟩ := hall
        have e5 : resL (aimK (goesK c i) 1).ps = resL c.ps := hres
        rw [e5] at a4 a5 a6 a10
        exact ⟨a1, a2, a3, a4, a5, a6, a7, fun hlt => a8 (by show ((cntK 1 (goesK c i).ps + cntK 2 (goesK c i).ps : Nat) : Int) < c.most; rw [hcnt]; exact hlt), fun _ hfull => a9 (fun q hq hqk => absurd hqk (by rw [← hpk]; exact g3 q hq)) (by show ((cntK 1 (goesK c i).ps + cntK 2 (goesK c i).ps : Nat) : Int) = c.most; rw [hcnt]; exact hfull), a10⟩
theorem admit_good {c : ClkN} (h : Good c) (k : KeyN) : Good (admitK c k).1 ∧ (admitK c k).1.most = c.most := by
  cases e : (admitK c k).2.2 with
  | false => rw [(admit_no h e).1]; exact ⟨h, rfl⟩
  | true => exact ⟨(admit_yes h e).good, (admit_yes h e).most⟩
theorem pin_is {c : ClkN} (h : Good c) (k : KeyN) (n : Int) : Good (pinK c k n).1 ∧ (pinK c k n).1.most = c.most ∧ (pinK c k n).1.target = c.target ∧ ((pinK c k n).2 = false → (pinK c k n).1 = c) ∧ ((pinK c k n).2 = true ↔ resAt c k = true) := by
  unfold pinK resAt
  cases hf : findK k c.ps with
  | none => exact ⟨h, rfl, rfl, fun _ => rfl, ⟨(fun e => by cases e), (fun e => by cases e)⟩⟩
  | some i =>
    obtain ⟨p, hp, hk⟩ := findK_some hf
    simp only [hp]
    by_cases hr : p.resi = true
    · rw [if_pos hr]
      have hok := h.base.ok_at hp
      obtain ⟨g1, _⟩ := good_set (q := { p with pins := max (p.pins + n) 0 }) h hp rfl rfl ⟨hok.1, by show 0 ≤ max (p.pins + n) 0; omega, fun h3 => absurd h3 ((resi_of hok).1 hr)⟩
      exact ⟨g1, rfl, rfl, (fun e => by cases e), ⟨fun _ => hr, fun _ => rfl⟩⟩
    · rw [if_neg hr]
      exact ⟨h, rfl, rfl, fun _ => rfl, ⟨(fun e => by cases e), fun e => absurd e hr⟩⟩
theorem drop_is {c : ClkN} (h : Good c) (k : KeyN) : Good (dropK c k).1 ∧ (dropK c k).1.most = c.most ∧ ((dropK c k).2 = false → (dropK c k).1 = c) := by
  unfold dropK
  cases hf : findK k c.ps with
  | none => exact ⟨h, rfl, fun _ => rfl⟩
  | some i =>
    obtain ⟨p, hp, hk⟩ := findK_some hf
    exact ⟨(good_goes h hp).1, rfl, fun e => by cases e⟩
end Go.Proofs.Ythogflfjdfcpeaa

/- The clock's scripts: a name of a number, one step of a script, a clock that a script led somewhere; the rows of small scripts. -/
namespace Go.Proofs.Ythogflfjdfcpeaa

def keyN (n : Int) : KeyN := ⟨n % 2, n / 2 % 2, n / 4 % 8⟩
/-- One step: what comes of it, who was put out, and whether it was. -/
def stepK (c : ClkN) (n : Int) : ClkN × List KeyN × Bool :=
  if n % 8 < 3 then admitK c (keyN (n / 8))
  else if n % 8 < 5 then ((touchK c (keyN (n / 8))).1, [], (touchK c (keyN (n / 8))).2)
  else if n % 8 < 7 then ((pinK c (keyN (n / 8)) (n / 256 % 4 - 1 - n % 2)).1, [], (pinK c (keyN (n / 8)) (n / 256 % 4 - 1 - n % 2)).2)
  else if 0 < n / 256 % 4 then admitK c (keyN (n / 8))
  else ((dropK c (keyN (n / 8))).1, [], (dropK c (keyN (n / 8))).2)
theorem step_good {c : ClkN} (h : Good c) (n : Int) : Good (stepK c n).1 ∧ (stepK c n).1.most = c.most ∧ ((stepK c n).2.2 = false → stepK c n = (c, [], false)) := by
  have ha := admit_good h (keyN (n / 8))
  have hn : (admitK c (keyN (n / 8))).2.2 = false → admitK c (keyN (n / 8)) = (c, [], false) := fun e => (admit_no h e).1
  unfold stepK
  split
  · exact ⟨ha.1, ha.2, hn⟩
  split
  · obtain ⟨h1, h2, _, _, h3, _⟩ := touch_is h (keyN (n / 8))
    exact ⟨h1, h2, fun e => by rw [h3 e]; simp only at e; rw [e]⟩
  split
  · obtain ⟨h1, h2, _, h3, _⟩ := pin_is h (keyN (n / 8)) (n / 256 % 4 - 1 - n % 2)
    exact ⟨h1, h2, fun e => by rw [h3 e]; simp only at e; rw [e]⟩
  split
  · exact ⟨ha.1, ha.2, hn⟩
  · obtain ⟨h1, h2, h3⟩ := drop_is h (keyN (n / 8))
    exact ⟨h1, h2, fun e => by rw [h3 e]; simp only at e; rw [e]⟩
def ledK (most : Int) (l : List Int) : ClkN := l.foldl (fun c n => (stepK c n).1) (newK most)
theorem led_good (most : Int) (l : List Int) : Good (ledK most l) ∧ (ledK most l).most = (newK most).most := by
  unfold ledK
  have : ∀ (l : List Int) (c : ClkN), Good c → Good (l.foldl (fun c n => (stepK c n).1) c) ∧ (l.foldl (fun c n => (stepK c n).1) c).most = c.most := by
    intro l
    induction l with
    | nil => intro c h; exact ⟨h, rfl⟩
    | cons n l ih =>
      intro c h
      obtain ⟨h1, h2, _⟩ := step_good h n
      obtain ⟨h3, h4⟩ := ih _ h1
      exact ⟨h3, h4.trans h2⟩
  exact this l _ (good_new most)
theorem led_snoc (most : Int) (l : List Int) (n : Int) : ledK most (l ++ [n]) = (stepK (ledK most l) n).1 := by unfold ledK; rw [List.foldl_append]; rfl
theorem led_take {most : Int} {l : List Int} {i : Nat} {n : Int} (h : l[i]? = some n) : ledK most (l.take (i + 1)) = (stepK (ledK most (l.take i)) n).1 := by
  rw [List.take_add_one, h]
  exact led_snoc most _ n
/-- How many pages there are at most: as many as may be, and as many on trial. -/
theorem Good.len {c : ClkN} (h : Good c) : c.ps.length ≤ 2000 := by
  have : ∀ ps : List PagN, (∀ p ∈ ps, OkP p) → ps.length = cntK 1 ps + cntK 2 ps + cntK 3 ps := by
    intro ps
    induction ps with
    | nil => intro _; rfl
    | cons p ps ih =>
      intro hp
      have h1 := ih (fun q hq => hp q (List.mem_cons_of_mem _ hq))
      have h2 := (hp p (List.mem_cons_self ..)).1
      unfold cntK at h1 ⊢
      simp only [List.length_cons, List.countP_cons]
      rcases h2 with e | e | e <;> simp [e] <;> omega
  have e := this c.ps h.base.pgs.1
  have h1 := h.room
  have h2 := h.trial
  have h3 := h.base.most
  omega
/-! The rows of small scripts: letters are names, a small one comes, a great one is touched. -/
end Go.Proofs.Ythogflfjdfcpeaa

/- Plain mathematics of times by their differences: what a reader's bits are, and that they are what was told. -/
namespace Go.Proofs.Ythogflfjdfcpeaa

def H63 : Nat := 9223372036854775808
def Fits (x : Int) : Prop := -(H63 : Int) ≤ x ∧ x < (H63 : Int)
/-- k bits off what a reader has left. -/
def takeB (k R rem : Nat) : Option (Nat × Nat × Nat) := if k ≤ rem then some (R / 2 ^ (rem - k), R % 2 ^ (rem - k), rem - k) else none
/-- Fields: numbers, and in how many bits. -/
def flen : List (Nat × Nat) → Nat
  | [] => 0
  | (_, w) :: fs => w + flen fs
def fnum : List (Nat × Nat) → Nat
  | [] => 0
  | (v, w) :: fs => v % 2 ^ w * 2 ^ flen fs + fnum fs
theorem flen_app (as' bs : List (Nat × Nat)) : flen (as' ++ bs) = flen as' + flen bs := by
  induction as' with
  | nil => show flen bs = 0 + flen bs; omega
  | cons a as' ih => show a.2 + flen (as' ++ bs) = a.2 + flen as' + flen bs; omega
theorem fnum_app (as' bs : List (Nat × Nat)) : fnum (as' ++ bs) = fnum as' * 2 ^ flen bs + fnum bs := by
  induction as' with
  | nil => show fnum bs = 0 * _ + fnum bs; omega
  | cons a as' ih =>
    show a.1 % 2 ^ a.2 * 2 ^ flen (as' ++ bs) + fnum (as' ++ bs) = (a.1 % 2 ^ a.2 * 2 ^ flen as' + fnum as') * 2 ^ flen bs + fnum bs
    rw [ih, flen_app, Nat.pow_add, Nat.add_mul, Nat.mul_assoc, Nat.add_assoc]
/-- The five heads. -/
def hv (h : Nat) : Nat := if h = 0 then 0 else if h = 1 then 2 else if h = 2 then 6 else if h = 3 then 14 else 15
def hw (h : Nat) : Nat := if h = 0 then 1 else if h = 1 then 2 else if h = 2 then 3 else 4
/-- Which head a difference has. -/
def hd (d : Int) : Nat := if d = 0 then 0 else if -64 ≤ d ∧ d < 64 then 1 else if -256 ≤ d ∧ d < 256 then 2 else if -2048 ≤ d ∧ d < 2048 then 3 else 4
end Go.Proofs.Ythogflfjdfcpeaa

/- More of times: a difference told in any length; what a row has; how long it is. -/
namespace Go.Proofs.Ythogflfjdfcpeaa

/-- What a row that is read has. -/
theorem takeB_some {k R rem : Nat} {p : Nat × Nat × Nat} (h : takeB k R rem = some p) (hR : R < 2 ^ rem) : p.1 < 2 ^ k ∧ p.2.1 < 2 ^ p.2.2 ∧ p.2.2 + k = rem := by
  unfold takeB at h
  split at h
  · rename_i hk
    injection h with h
    subst h
    refine ⟨?_, Nat.mod_lt _ (Nat.two_pow_pos _), (by show rem - k + k = rem; omega)⟩
    rw [Nat.div_lt_iff_lt_mul (Nat.two_pow_pos _), ← Nat.pow_add]
    rwa [show k + (rem - k) = rem by omega]
  · cases h
end Go.Proofs.Ythogflfjdfcpeaa

/- Plain mathematics of values by what turns: how many 0s a number has ahead and behind; what is told, and that it is read back. -/
namespace Go.Proofs.Ythogflfjdfcpeaa

/-- 0s ahead, 31 at most; 0s behind. -/
def ahd : Nat → Nat → Nat → Nat
  | 0, n, _ => n
  | f + 1, n, x => if x / 2 ^ (63 - n) = 0 then ahd f (n + 1) x else n
def aheadN (x : Nat) : Nat := ahd 31 0 x
def bhd : Nat → Nat → Nat → Nat
  | 0, n, _ => n
  | f + 1, n, x => if x / 2 ^ n % 2 = 0 then bhd f (n + 1) x else n
def behindN (x : Nat) : Nat := bhd 64 0 x
/-- A window: how many 0s ahead, and behind. -/
def WinOk : Option (Nat × Nat) → Prop
  | none => True
  | some (a, b) => a ≤ 31 ∧ a + b ≤ 63
def freshX (x : Nat) : List (Nat × Nat) := [(1, 1), (1, 1), (aheadN x, 5), (63 - aheadN x - behindN x, 6), (x / 2 ^ behindN x, 64 - aheadN x - behindN x)]
def fitsX : Option (Nat × Nat) → Nat → Bool
  | none, _ => false
  | some (a, b), x => decide (a ≤ aheadN x ∧ b ≤ behindN x)
def insideX : Option (Nat × Nat) → Nat → List (Nat × Nat)
  | none, _ => []
  | some (a, b), x => [(1, 1), (0, 1), (x / 2 ^ b, 64 - a - b)]
def fieldsX (win : Option (Nat × Nat)) (x : Nat) : List (Nat × Nat) := if x = 0 then [(0, 1)] else if fitsX win x = true then insideX win x else freshX x
def winX (win : Option (Nat × Nat)) (x : Nat) : Option (Nat × Nat) := if x = 0 then win else if fitsX win x = true then win else some (aheadN x, behindN x)
/-- One value's turn is read. -/
def rdX (win : Option (Nat × Nat)) (R rem : Nat) : Option (Nat × Option (Nat × Nat) × Nat × Nat) :=
  match takeB 1 R rem with
  | none => none
  | some (c0, R1, rem1) =>
    if c0 = 0 then some (0, win, R1, rem1) else
    match takeB 1 R1 rem1 with
    | none => none
    | some (c1, R2, rem2) =>
      if c1 = 0 then
        match win with
        | none => none
        | some (a, b) =>
          match takeB (64 - a - b) R2 rem2 with
          | none => none
          | some (y, R3, rem3) => some (y * 2 ^ b, win, R3, rem3)
      else
        match takeB 5 R2 rem2 with
        | none => none
        | some (a, R3, rem3) =>
          match takeB 6 R3 rem3 with
          | none => none
          | some (m, R4, rem4) =>
            if 64 < a + (m + 1) then none else
            match takeB (m + 1) R4 rem4 with
            | none => none
            | some (y, R5, rem5) => some (y * 2 ^ (64 - a - (m + 1)), some (a, 64 - a - (m + 1)), R5, rem5)
end Go.Proofs.Ythogflfjdfcpeaa

namespace Go.Proofs.Ythogflfjdfcpeaa

end Go.Proofs.Ythogflfjdfcpeaa

/- Slices of integers that came in. -/
namespace Go.Proofs.Ythogflfjdfcpeaa
open Go.RowKit

/-- The slice at A, n long, reads as zs in every world that is as w was below B. -/
def SeesI (k : IntKind) (w : World) (B : Nat) (A : Option Addr) (n : Nat) (zs : List Int) : Prop :=
  zs.length = n ∧ (0 < n → ∃ ad, A = some ad ∧ ad.block < B ∧ ∀ j u, zs[j]? = some u → w.cell? (ad.add j) = some (.int k u))
theorem addr_block (a : Addr) (j : Nat) : (a.add j).block = a.block := by unfold Addr.add; split <;> rfl
theorem SeesI.at_ {k : IntKind} {w w' : World} {B n i : Nat} {A : Option Addr} {zs : List Int} (h : SeesI k w B A n zs) (hi : i < n) (hB : B ≤ w.heap.size) {S : Nat → Prop} (hm : Mod S w w') (hS : ∀ j, j < B → ¬ S j) :
    ∃ ad x, A = some ad ∧ zs[i]? = some x ∧ w'.cell? (ad.add i) = some (.int k x) := by
  obtain ⟨ad, e, hb, hc⟩ := h.2 (by omega)
  have hl : i < zs.length := by have := h.1; omega
  refine ⟨ad, zs[i], e, List.getElem?_eq_getElem hl, ?_⟩
  rw [hm.cell (a := ad.add i) (by rw [addr_block]; omega) (by rw [addr_block]; exact hS _ hb)]
  exact hc i _ (List.getElem?_eq_getElem hl)

/-- What the row's step tells of a slice of integers that came in. -/
theorem seesI_of {k : IntKind} {w : World} {a : Option Addr} {len cap : Nat} {zs : List Int}
    (h : (a = none ∧ len = 0 ∧ cap = 0 ∧ zs = []) ∨
      ∃ x, a = some x ∧ len ≤ cap ∧ cap ≤ maxLen ∧ zs.length = cap ∧ (∀ i, i < zs.length → w.cell? (x.add i) = some (.int k (zs.getD i 0))) ∧ ∀ n ∈ zs, (Lit.int k n).wf = true) :
    SeesI k w w.heap.size a len (zs.take len) ∧ ∀ x ∈ zs.take len, (Lit.int k x).wf = true := by
  rcases h with ⟨rfl, rfl, rfl, rfl⟩ | ⟨x, rfl, hl, hm, hz, hc, hw⟩
  · exact ⟨⟨rfl, fun h => by omega⟩, fun x h => by simp at h⟩
  · refine ⟨⟨by rw [List.length_take]; omega, fun h0 => ⟨x, rfl, ?_, fun j u hu => ?_⟩⟩, fun y hy => hw y (List.mem_of_mem_take hy)⟩
    · have := World.block_lt_of_cell? w _ (hc 0 (by omega))
      rwa [addr_block] at this
    · rw [List.getElem?_take] at hu
      split at hu
      · have hj : j < zs.length := (List.getElem?_eq_some_iff.1 hu).1
        rw [hc j hj, List.getD_eq_getElem?_getD, hu]
        rfl
      · cases hu
end Go.Proofs.Ythogflfjdfcpeaa

/- '&' with a mask on int, whatever the sign. -/
namespace Go.Proofs.Ythogflfjdfcpeaa

theorem i64_mask (a : Int) (m i : Nat) (hm : m = 2 ^ i - 1) (hi : i ≤ 62) : bits .and .i64 a (m : Int) = a % ((2 ^ i : Nat) : Int) := by
  have hp : (2 : Nat) ^ i ≤ 2 ^ 62 := Nat.pow_le_pow_right (by omega) hi
  have hp0 : 0 < (2 : Nat) ^ i := Nat.two_pow_pos i
  show IntKind.i64.wrap ((BitVec.ofInt 64 a &&& BitVec.ofInt 64 (m : Int)).toNat : Int) = _
  have hmm : (BitVec.ofInt 64 (m : Int)).toNat = m := by
    rw [BitVec.ofInt_natCast, BitVec.toNat_ofNat]
    exact Nat.mod_eq_of_lt (by omega)
  rw [BitVec.toNat_and, hmm, hm, Nat.and_two_pow_sub_one_eq_mod, BitVec.toNat_ofInt]
  have hd : ((2 ^ i : Nat) : Int) ∣ (18446744073709551616 : Int) := by
    refine ⟨((2 ^ (64 - i) : Nat) : Int), ?_⟩
    rw [← Int.natCast_mul, ← Nat.pow_add, show i + (64 - i) = 64 by omega]
    rfl
  have h1 : (((a % ((2 ^ 64 : Nat) : Int)).toNat % 2 ^ i : Nat) : Int) = a % ((2 ^ i : Nat) : Int) := by
    rw [Int.natCast_emod, Int.toNat_of_nonneg (Int.emod_nonneg _ (by decide))]
    exact Int.emod_emod_of_dvd a hd
  rw [h1, IntKind.wrap_i64]
  have h2 : 0 ≤ a % ((2 ^ i : Nat) : Int) := Int.emod_nonneg _ (by omega)
  have h3 : a % ((2 ^ i : Nat) : Int) < ((2 ^ i : Nat) : Int) := Int.emod_lt_of_pos _ (by omega)
  generalize a % ((2 ^ i : Nat) : Int) = x at *
  generalize (2 : Nat) ^ i = y at *
  omega
theorem i64_and255 (a : Int) : bits .and .i64 a 255 = a % 256 := i64_mask a 255 8 rfl (by omega)
end Go.Proofs.Ythogflfjdfcpeaa

namespace Go.Proofs.Ythogflfjdfcpeaa
open Go.RowKit
theorem fit_i64 {a : Int} (h : (Lit.int .i64 a).wf = true) : FitI a := by
  have := bounds_i64 h
  exact ⟨by omega, by omega⟩
end Go.Proofs.Ythogflfjdfcpeaa

/- Rows of bytes of the call's own: an append's result, one cell of such, one cell written. -/
namespace Go.Proofs.Ythogflfjdfcpeaa
open Go.RowKit

end Go.Proofs.Ythogflfjdfcpeaa

/- Regions that draw their order, whose calls make memory and turn nothing that is read: one walk in the text's order, over a class of worlds. -/
namespace Go.Proofs.Ythogflfjdfcpeaa
open Go.RowKit
section
variable {P : Program} {ops : Array Oper} {C S : World → Prop} {md : Region.Mode}

/-- A region whose operations are written out, at a class of worlds. -/
theorem wp_region_class {id : Nat} {Q : Exit → Act → World → Prop} {a : Act} {w : World} {l : List Oper} (C : World → Prop) (hm : P.follows .mixedOrders = true) (hB : Region.lexB .any l.toArray = true) (hC : C w.drew)
    (h : wpQuiet P l.toArray C (fun a' => ∀ w', C w' → Q .normal a' w') l a) : (Code.region id l.toArray true).wp P Q a w :=
  wp_region_quiet (C := C) hm hB hC (by simpa using h)

variable {Q : Act → Prop} {a : Act} {o : Oper} {rest : List Oper}
theorem quiet_skip (hw : Region.wanted o (yielded ops a.tmps) = false) (h : wpQuiet P ops C Q rest (a.put o.dst undef)) : wpQuiet P ops C Q (o :: rest) a := by
  unfold wpQuiet
  rw [if_neg (by simp [hw])]
  exact h
end
end Go.Proofs.Ythogflfjdfcpeaa

/- The row's last step where of the world behind the call it is known that what was there is as it was. -/
namespace Go.Proofs.Ythogflfjdfcpeaa
open Go.RowKit Go.WideShapes Go.ChangeShapes
section
variable {H : Type} {enc : TypeId × Value → H} {P : Program}
end
theorem below_of_mod {w w' : World} (h : Mod (fun _ => False) w w') : Below w.heap.size w w' := h.below (Nat.le_refl _) (fun _ h => h.elim)
end Go.Proofs.Ythogflfjdfcpeaa

/- A slice of bytes that came in, as a list of numbers. -/
namespace Go.Proofs.Ythogflfjdfcpeaa
open Go.RowKit
end Go.Proofs.Ythogflfjdfcpeaa

/- Plain mathematics of small numbers, many to a word: what a word holds; what is told of numbers; that it is read back, and that only they are told so. -/
namespace Go.Proofs.Ythogflfjdfcpeaa

/-- Numbers of b bits, the first one lowest. -/
def pk (b : Nat) : List Nat → Nat
  | [] => 0
  | x :: xs => x + 2 ^ b * pk b xs
end Go.Proofs.Ythogflfjdfcpeaa

/- Numbers of any length: the mathematics. -/
namespace Go.Proofs.Ythogflfjdfcpeaa

/-- The bytes of a number; the first argument bounds how many steps are taken. -/
def encF : Nat → Nat → List Nat
  | 0, u => [u]
  | f + 1, u => if u < 128 then [u] else (u % 128 + 128) :: encF f (u / 128)
def enc (u : Nat) : List Nat := encF u u
/-- What is read from the i-th byte on, acc behind. -/
def decF : Nat → Nat → List Nat → Nat × Nat
  | _, _, [] => (0, 0)
  | i, acc, x :: xs =>
    if 10 ≤ i then (0, 0)
    else if 128 ≤ x then decF (i + 1) (acc + (x - 128) * 2 ^ (7 * i)) xs
    else if (i = 9 ∧ 2 ≤ x) ∨ (x = 0 ∧ 0 < i) then (0, 0)
    else (acc + x * 2 ^ (7 * i), i + 1)
def dec (bs : List Nat) : Nat × Nat := decF 0 0 bs

end Go.Proofs.Ythogflfjdfcpeaa

/- Plain mathematics of runs: what bytes are told of a row of values; what bytes are read as; that one is the other's way back, and the only one. -/
namespace Go.Proofs.Ythogflfjdfcpeaa

end Go.Proofs.Ythogflfjdfcpeaa

/- Plain mathematics of numbers of so many bits each in bytes: what is packed, and that it is read back; how many bits a number has. -/
namespace Go.Proofs.Ythogflfjdfcpeaa

end Go.Proofs.Ythogflfjdfcpeaa

/- Plain mathematics of a frame of reference: values by their least; what is told, and that it is read back, and nothing else is. -/
namespace Go.Proofs.Ythogflfjdfcpeaa

end Go.Proofs.Ythogflfjdfcpeaa

/- Plain mathematics of a dictionary: the values that are unlike, each value's place among them; what is told, and that it is read back, and nothing else is. -/
namespace Go.Proofs.Ythogflfjdfcpeaa

/-- Where a value stands; as long as the row, where nowhere. -/
def plc (x : Nat) : List Nat → Nat
  | [] => 0
  | y :: ys => if y = x then 0 else plc x ys + 1
theorem plc_get {x : Nat} {l : List Nat} (h : x ∈ l) : l[plc x l]? = some x := by
  induction l with
  | nil => cases h
  | cons y ys ih =>
    unfold plc
    split
    · rename_i hy; subst hy; rfl
    · rename_i hy
      rcases List.mem_cons.1 h with rfl | h
      · exact absurd rfl hy
      · rw [List.getElem?_cons_succ]; exact ih h
theorem plc_first {x j : Nat} {l : List Nat} (h : j < plc x l) : l[j]? ≠ some x := by
  induction l generalizing j with
  | nil => exact absurd h (Nat.not_lt_zero _)
  | cons y ys ih =>
    unfold plc at h
    split at h
    · omega
    · rename_i hy
      cases j with
      | zero => rw [List.getElem?_cons_zero]; intro e; injection e with e; exact hy e
      | succ j => rw [List.getElem?_cons_succ]; exact ih (by omega)
/-- Where the j-th is the value and none ahead of it, it stands at j. -/
theorem plc_is {x j : Nat} {l : List Nat} (hj : l[j]? = some x) (hl : ∀ i, i < j → l[i]? ≠ some x) : plc x l = j := by
  rcases Nat.lt_trichotomy (plc x l) j with h | h | h
  · exact absurd (plc_get (List.mem_iff_getElem?.2 ⟨j, hj⟩)) (hl _ h)
  · exact h
  · exact absurd hj (plc_first h)
theorem plc_app {x : Nat} {l : List Nat} (h : x ∈ l) (t : List Nat) : plc x (l ++ t) = plc x l := by
  induction l with
  | nil => cases h
  | cons y ys ih =>
    show (if y = x then 0 else plc x (ys ++ t) + 1) = if y = x then 0 else plc x ys + 1
    by_cases hy : y = x
    · rw [if_pos hy, if_pos hy]
    · rw [if_neg hy, if_neg hy]
      rcases List.mem_cons.1 h with rfl | h
      · exact absurd rfl hy
      · rw [ih h]
end Go.Proofs.Ythogflfjdfcpeaa

/- The clock's loops, round by round, as the document's code goes through them. -/
namespace Go.Proofs.Ythogflfjdfcpeaa

theorem Ends.none_ {σ : Type} {f : σ → Option σ} {k : Nat} {s t : σ} (h : Ends f k s t) (e : f s = none) : k = 0 ∧ t = s := by
  cases k with
  | zero => exact ⟨rfl, h.2.symm⟩
  | succ k =>
    obtain ⟨s', h1, _⟩ := h
    rw [e] at h1
    cases h1
theorem Ends.some_ {σ : Type} {f : σ → Option σ} {k : Nat} {s s' t : σ} (h : Ends f k s t) (e : f s = some s') : ∃ j, k = j + 1 ∧ Ends f j s' t := by
  cases k with
  | zero =>
    rw [h.1] at e
    cases e
  | succ k =>
    obtain ⟨s2, h1, h2⟩ := h
    rw [e] at h1
    injection h1 with h1
    exact ⟨k, rfl, by rw [h1]; exact h2⟩
/-! A counting loop; a looking loop. -/
section
variable {ps : List PagN} {i : Nat} {p : PagN} {k : KeyN}
theorem take_one (h : ps[i]? = some p) : ps.take (i + 1) = ps.take i ++ [p] := by rw [List.take_add_one, h]; rfl
theorem cnt_take (kd : Int) (h : ps[i]? = some p) : cntK kd (ps.take (i + 1)) = cntK kd (ps.take i) + if p.kind = kd then 1 else 0 := by
  rw [take_one h]
  unfold cntK
  rw [List.countP_append, List.countP_singleton]
  simp only [beq_iff_eq]
theorem any_take {f : PagN → Bool} (h : ps[i]? = some p) : (ps.take (i + 1)).any f = ((ps.take i).any f || f p) := by
  rw [take_one h, List.any_append]
  simp
theorem any_at {f : PagN → Bool} (h : ps[i]? = some p) (hf : f p = true) : ps.any f = true := List.any_eq_true.2 ⟨p, List.mem_of_getElem? h, hf⟩
theorem find_on (h0 : findK k (ps.take i) = none) (h : ps[i]? = some p) (hk : p.key ≠ k) : findK k (ps.take (i + 1)) = none := by
  rw [take_one h]
  unfold findK at h0 ⊢
  rw [List.findIdx?_append, h0]
  simp [hk]
theorem find_here (h0 : findK k (ps.take i) = none) (h : ps[i]? = some p) (hk : p.key = k) : findK k ps = some i := by
  obtain ⟨hi, e⟩ := List.getElem?_eq_some_iff.1 h
  unfold findK at h0 ⊢
  refine List.findIdx?_eq_some_iff_getElem.2 ⟨hi, by rw [e]; simpa using hk, fun j hj => ?_⟩
  rw [List.findIdx?_eq_none_iff] at h0
  have hm : ps[j]'(by omega) ∈ ps.take i := by
    rw [List.mem_take_iff_getElem]
    exact ⟨j, by omega, rfl⟩
  have := h0 _ hm
  simpa using this
theorem find_end (h0 : findK k (ps.take i) = none) (hi : ps.length ≤ i) : findK k ps = none := by rwa [List.take_of_length_le hi] at h0
end
/-! The hand Hot. -/
section
variable {c : ClkN} {p : PagN} {out : List KeyN}
theorem hotF_end (h : cntK 1 c.ps = 0) : hotF (c, false) = none := by simp [hotF, h]
theorem hotF_done : hotF (c, true) = none := by simp [hotF]
theorem hotF_ref (h : cntK 1 c.ps ≠ 0) (hp : c.ps[c.hot]? = some p) (h1 : p.kind = 1) (h2 : p.ref = true) : hotF (c, false) = some ({ c with ps := c.ps.set c.hot { p with ref := false }, hot := onK c.ps.length c.hot }, false) := by simp [hotF, h, hp, h1, h2]
theorem hotF_cool (h : cntK 1 c.ps ≠ 0) (hp : c.ps[c.hot]? = some p) (h1 : p.kind = 1) (h2 : p.ref = false) : hotF (c, false) = some ({ c with ps := c.ps.set c.hot { p with kind := 2, ref := false, trial := false }, hot := onK c.ps.length c.hot }, true) := by simp [hotF, h, hp, h1, h2]
theorem hotF_cold (h : cntK 1 c.ps ≠ 0) (hp : c.ps[c.hot]? = some p) (h1 : p.kind = 2) : hotF (c, false) = some ({ c with ps := c.ps.set c.hot { p with trial := false }, hot := onK c.ps.length c.hot }, false) := by simp [hotF, h, hp, h1]
theorem hotF_goes (h : cntK 1 c.ps ≠ 0) (hp : c.ps[c.hot]? = some p) (h1 : p.kind ≠ 1) (h2 : p.kind ≠ 2) : hotF (c, false) = some (aimK (goesK c c.hot) (-1), false) := by simp [hotF, h, hp, h1, h2]
/-! The hand Test. -/
theorem testF_end (h : cntK 3 c.ps = 0) : testF (c, false) = none := by simp [testF, h]
theorem testF_done : testF (c, true) = none := by simp [testF]
theorem testF_goes (h : cntK 3 c.ps ≠ 0) (hp : c.ps[c.test]? = some p) (h1 : p.kind = 3) : testF (c, false) = some (aimK (goesK c c.test) (-1), true) := by simp [testF, h, hp, h1]
theorem testF_trial (h : cntK 3 c.ps ≠ 0) (hp : c.ps[c.test]? = some p) (h1 : p.kind = 2) (h2 : p.trial = true) : testF (c, false) = some (aimK { c with ps := c.ps.set c.test { p with trial := false }, test := onK c.ps.length c.test } (-1), false) := by simp [testF, h, hp, h1, h2]
theorem testF_on (h : cntK 3 c.ps ≠ 0) (hp : c.ps[c.test]? = some p) (h1 : p.kind ≠ 3) (h2 : ¬(p.kind = 2 ∧ p.trial = true)) : testF (c, false) = some ({ c with test := onK c.ps.length c.test }, false) := by
  unfold testF
  rw [if_neg Bool.false_ne_true, if_neg h]
  simp only [hp]
  rw [if_neg h1, if_neg h2]
/-! The hand Cold. -/
theorem coldF_done : coldF (c, out, true) = none := by simp [coldF]
theorem coldF_on (h : c.ps.any isFree = true) (hp : (warmK c).ps[(warmK c).cold]? = some p) (h1 : p.kind ≠ 2 ∨ 0 < p.pins) : coldF (c, out, false) = some ({ warmK c with cold := onK (warmK c).ps.length (warmK c).cold }, out, false) := by
  unfold coldF
  rw [if_neg Bool.false_ne_true, if_neg (by rw [h]; decide)]
  simp only [hp]
  rw [if_pos h1]
theorem coldF_hot (h : c.ps.any isFree = true) (hp : (warmK c).ps[(warmK c).cold]? = some p) (h1 : p.kind = 2) (h0 : p.pins = 0) (hr : p.ref = true) (ht : p.trial = true) :
    coldF (c, out, false) = some (coolK { warmK c with ps := (warmK c).ps.set (warmK c).cold { p with kind := 1, trial := false, ref := false }, cold := onK (warmK c).ps.length (warmK c).cold }, out, false) := by
  unfold coldF
  rw [if_neg Bool.false_ne_true, if_neg (by rw [h]; decide)]
  simp only [hp]
  rw [if_neg (by omega), if_pos hr, if_pos ht]
theorem coldF_trial (h : c.ps.any isFree = true) (hp : (warmK c).ps[(warmK c).cold]? = some p) (h1 : p.kind = 2) (h0 : p.pins = 0) (hr : p.ref = true) (ht : p.trial = false) :
    coldF (c, out, false) = some ({ warmK c with ps := (warmK c).ps.set (warmK c).cold { p with trial := true, ref := false }, cold := onK (warmK c).ps.length (warmK c).cold }, out, false) := by
  unfold coldF
  rw [if_neg Bool.false_ne_true, if_neg (by rw [h]; decide)]
  simp only [hp]
  rw [if_neg (by omega), if_pos hr, if_neg (by rw [ht]; decide)]
theorem coldF_test (h : c.ps.any isFree = true) (hp : (warmK c).ps[(warmK c).cold]? = some p) (h1 : p.kind = 2) (h0 : p.pins = 0) (hr : p.ref = false) (ht : p.trial = true) :
    coldF (c, out, false) = some (trimK { warmK c with ps := (warmK c).ps.set (warmK c).cold { p with kind := 3 }, cold := onK (warmK c).ps.length (warmK c).cold }, out ++ [p.key], true) := by
  unfold coldF
  rw [if_neg Bool.false_ne_true, if_neg (by rw [h]; decide)]
  simp only [hp]
  rw [if_neg (by omega), if_neg (by rw [hr]; decide), if_pos ht]
theorem coldF_goes (h : c.ps.any isFree = true) (hp : (warmK c).ps[(warmK c).cold]? = some p) (h1 : p.kind = 2) (h0 : p.pins = 0) (hr : p.ref = false) (ht : p.trial = false) :
    coldF (c, out, false) = some (trimK (goesK (warmK c) (warmK c).cold), out ++ [p.key], true) := by
  unfold coldF
  rw [if_neg Bool.false_ne_true, if_neg (by rw [h]; decide)]
  simp only [hp]
  rw [if_neg (by omega), if_neg (by rw [hr]; decide), if_neg (by rw [ht]; decide)]
/-! The other loops. -/
theorem coolF_some (h : c.most - c.target < (cntK 1 c.ps : Int)) : coolF c = some (turnHotK c) := if_pos h
theorem coolF_none (h : ¬ c.most - c.target < (cntK 1 c.ps : Int)) : coolF c = none := if_neg h
theorem trimF_some (h : c.most < (cntK 3 c.ps : Int)) : trimF c = some (turnTestK c) := if_pos h
theorem trimF_none (h : ¬ c.most < (cntK 3 c.ps : Int)) : trimF c = none := if_neg h
theorem warmF_some (h : c.ps.any isLoose = false) : warmF c = some (turnHotK c) := by unfold warmF; rw [h]; rfl
theorem warmF_none (h : c.ps.any isLoose = true) : warmF c = none := by unfold warmF; rw [h]; rfl
theorem roomF_some (h : c.most ≤ ((cntK 1 c.ps + cntK 2 c.ps : Nat) : Int)) : roomF (c, out) = some (turnColdK c out) := if_pos h
theorem roomF_none (h : ¬ c.most ≤ ((cntK 1 c.ps + cntK 2 c.ps : Nat) : Int)) : roomF (c, out) = none := if_neg h
end
/-! What stays good at each round, for the walks: a base, a place for the hand, and how long the row is at most. -/
theorem hot_keep {c : ClkN} (h : BaseK c) {b : Bool} {c' : ClkN} (e : hotF (c, false) = some (c', b)) : BaseK c' ∧ c'.ps.length ≤ c.ps.length ∧ c'.most = c.most := by
  have := hotF_step (K := c.ps.length + 1) h (by omega) e
  exact ⟨this.1.base, this.1.len, this.1.most⟩
theorem test_keep {c : ClkN} (h : BaseK c) {b : Bool} {c' : ClkN} (e : testF (c, false) = some (c', b)) : BaseK c' ∧ c'.ps.length ≤ c.ps.length ∧ c'.most = c.most := by
  have := testF_step h e
  exact ⟨this.1.base, this.1.len, this.1.most⟩
/-- Where the hand points: there is one, where a kind of page is. -/
theorem BaseK.hot_at {c : ClkN} (h : BaseK c) {kd : Int} (hc : cntK kd c.ps ≠ 0) : ∃ p, c.ps[c.hot]? = some p ∧ OkP p ∧ c.hot < c.ps.length := by
  obtain ⟨x, hx, _⟩ := cnt_pos hc
  obtain ⟨p, hp⟩ := hand_at h.hot (fun e => by rw [e] at hx; cases hx)
  exact ⟨p, hp, h.ok_at hp, (List.getElem?_eq_some_iff.1 hp).1⟩
theorem BaseK.test_at {c : ClkN} (h : BaseK c) {kd : Int} (hc : cntK kd c.ps ≠ 0) : ∃ p, c.ps[c.test]? = some p ∧ OkP p ∧ c.test < c.ps.length := by
  obtain ⟨x, hx, _⟩ := cnt_pos hc
  obtain ⟨p, hp⟩ := hand_at h.test (fun e => by rw [e] at hx; cases hx)
  exact ⟨p, hp, h.ok_at hp, (List.getElem?_eq_some_iff.1 hp).1⟩
theorem BaseK.cold_at {c : ClkN} (h : BaseK c) {f : PagN → Bool} (hc : c.ps.any f = true) : ∃ p, c.ps[c.cold]? = some p ∧ OkP p ∧ c.cold < c.ps.length := by
  obtain ⟨x, hx, _⟩ := List.any_eq_true.1 hc
  obtain ⟨p, hp⟩ := hand_at h.cold (fun e => by rw [e] at hx; cases hx)
  exact ⟨p, hp, h.ok_at hp, (List.getElem?_eq_some_iff.1 hp).1⟩
end Go.Proofs.Ythogflfjdfcpeaa

/- min and max as rules for whatever world; a bool that is answered; numbers shifted away. -/
namespace Go.Proofs.Ythogflfjdfcpeaa
open Go.RowKit

theorem minI_is {P : Program} {t ty : TypeId} {n1 n2 m : Int} (h : min n1 n2 = m) : ∀ w, (Builtin.min_ #[t, t] ty #[.int .i64 n1, .int .i64 n2]).run P w = .ok (.int .i64 m) w := by
  intro w
  have hx : (if n2 < n1 then n2 else n1) = m := by
    split <;> omega
  simp only [Builtin.min_, List.foldlM, Builtin.min2, Sem.run_bind, Sem.run_pure, Result.andThen_ok, hx]
theorem maxI_is {P : Program} {t ty : TypeId} {n1 n2 m : Int} (h : max n1 n2 = m) : ∀ w, (Builtin.max_ #[t, t] ty #[.int .i64 n1, .int .i64 n2]).run P w = .ok (.int .i64 m) w := by
  intro w
  have hx : (if n1 < n2 then n2 else n1) = m := by
    split <;> omega
  simp only [Builtin.max_, List.foldlM, Builtin.max2, Sem.run_bind, Sem.run_pure, Result.andThen_ok, hx]
end Go.Proofs.Ythogflfjdfcpeaa

/- Plain mathematics of sums of bytes: eight steps, the sum by a table, and that it is linear. -/
namespace Go.Proofs.Ythogflfjdfcpeaa

end Go.Proofs.Ythogflfjdfcpeaa

/- Plain mathematics of bytes of which some were turned. -/
namespace Go.Proofs.Ythogflfjdfcpeaa

end Go.Proofs.Ythogflfjdfcpeaa

/- The entry of a byte, of the code and of the document's own answer. -/
namespace Go.Proofs.Ythogflfjdfcpeaa
open Go.RowKit

end Go.Proofs.Ythogflfjdfcpeaa

/- The table, of the code. -/
namespace Go.Proofs.Ythogflfjdfcpeaa
open Go.RowKit

/-- An array of 256 numbers. -/
def tabOf (T : Nat → Nat) : Array Value := ((List.range 256).map fun j => Value.int .u32 (T j : Int)).toArray
theorem tabOf_get (T : Nat → Nat) (i : Nat) (h : i < 256) : (tabOf T)[i]? = some (.int .u32 (T i : Int)) := by simp [tabOf, h]
theorem Blk.range {w : World} {g : Nat} {t : TypeId} {T : Nat → Nat} (h : Blk w g t (tabOf T)) : w.rangeAt g 0 (tabOf T).toList := by
  intro j v hv
  rw [Nat.zero_add, h.cell j]
  simpa using hv
theorem Blk.room {w : World} {g : Nat} {t : TypeId} {T : Nat → Nat} (h : Blk w g t (tabOf T)) : w.there g 0 256 := by
  intro j hj
  rw [Nat.zero_add, h.cell j, h.frozen j, tabOf_get _ _ hj]
  exact ⟨rfl, rfl⟩
end Go.Proofs.Ythogflfjdfcpeaa

/- The sum of bytes, of the code and of the document's own answer. -/
namespace Go.Proofs.Ythogflfjdfcpeaa
open Go.RowKit

end Go.Proofs.Ythogflfjdfcpeaa

/- vint: ends. -/
namespace Go.Proofs.Ythogflfjdfcpeaa
open Go.RowKit

end Go.Proofs.Ythogflfjdfcpeaa

/- Put, of the code and of the document's own answer. -/
namespace Go.Proofs.Ythogflfjdfcpeaa
open Go.RowKit

end Go.Proofs.Ythogflfjdfcpeaa

/- Zig and Zag, of the code and of the document's own answer. -/
namespace Go.Proofs.Ythogflfjdfcpeaa
open Go.RowKit

end Go.Proofs.Ythogflfjdfcpeaa

/- Rows of bytes: what their slices look like. -/
namespace Go.Proofs.Ythogflfjdfcpeaa
open Go.RowKit

theorem own_form8 {B : Nat} {w : World} {v : Value} {xs : List Nat} (h : Own B w 5 v (cells8 xs)) : ∃ A c, v = .slice A xs.length c ∧ xs.length ≤ c ∧ c ≤ maxLen ∧ Rds w w.heap.size A xs.length (cells8 xs) := by
  obtain ⟨A, c, e, _, hc, hm, hr⟩ := h.form
  rw [cells8_length] at e hr hc
  exact ⟨A, c, e, hc, hm, hr⟩
end Go.Proofs.Ythogflfjdfcpeaa

/- Get, of the code and of the document's own answer. -/
namespace Go.Proofs.Ythogflfjdfcpeaa
open Go.RowKit

end Go.Proofs.Ythogflfjdfcpeaa

/- Rows of values of 64 bits: as cells, of the call's own, one cell of such, one cell written; numbers of 64 bits that operations give. -/
namespace Go.Proofs.Ythogflfjdfcpeaa
open Go.RowKit

end Go.Proofs.Ythogflfjdfcpeaa

/- Four numbers in a literal. -/
namespace Go.Proofs.Ythogflfjdfcpeaa
open Go.RowKit

/-- Four numbers in a literal. -/
def Nums4 (w : World) (lit : Nat) : Prop := lit < w.heap.size ∧ ∀ j, j < 4 → ∃ m : Int, FitI m ∧ w.cell? ⟨lit, j, none⟩ = some (.int .i64 m)
theorem Nums4.mod {w w' : World} {lit : Nat} (h : Nums4 w lit) (hm : Mod (fun _ => False) w w') : Nums4 w' lit := by
  refine ⟨Nat.lt_of_lt_of_le h.1 hm.size, fun j hj => ?_⟩
  obtain ⟨m, h1, h2⟩ := h.2 j hj
  exact ⟨m, h1, (hm.cell (a := ⟨lit, j, none⟩) h.1 (fun h => h)).trans h2⟩
end Go.Proofs.Ythogflfjdfcpeaa

/- The run that a row begins with: first. -/
namespace Go.Proofs.Ythogflfjdfcpeaa
open Go.RowKit

end Go.Proofs.Ythogflfjdfcpeaa

/- How many bits a number has, as math/bits tells it. -/
namespace Go.Proofs.Ythogflfjdfcpeaa
open Go.RowKit

end Go.Proofs.Ythogflfjdfcpeaa
