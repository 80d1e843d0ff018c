/- Rows in memory: what a slice reads as; a row of the call's own; append, make and copy, and string(b) on such. -/
import Derived.Test.YtnfpbjioiiedeaaHd
import Derived.Test.YtnfpbjioiiedeaaMem
import Derived.Test.YtnfpbjioiiedeaaBitm
namespace Go.Proofs.Ytnfpbjioiiedeaa
open Go.RowKit

theorem add_add (a : Addr) (i j : Nat) : (a.add i).add j = a.add (i + j) := by
  unfold Addr.add
  by_cases hi : i = 0 <;> by_cases hj : j = 0 <;> simp [hi, hj, Nat.add_assoc]

/-- The slice at A, n long, reads as xs, below block B. -/
def Rds (w : World) (B : Nat) (A : Option Addr) (n : Nat) (xs : List Value) : Prop :=
  xs.length = n ∧ (0 < n → ∃ ad, A = some ad ∧ ad.block < B ∧ ∀ j u, xs[j]? = some u → w.cell? (ad.add j) = some u)
section
variable {w w' : World} {B B' n : Nat} {A : Option Addr} {xs : List Value}
theorem Rds.nil (w : World) (B : Nat) (A : Option Addr) : Rds w B A 0 [] := ⟨rfl, fun h => absurd h (by omega)⟩
theorem Rds.at_ {k : Nat} (h : Rds w B A n xs) (hk : k < n) : ∃ ad u, A = some ad ∧ ad.block < B ∧ xs[k]? = some u ∧ w.cell? (ad.add k) = some u := by
  obtain ⟨ad, e, hb, hc⟩ := h.2 (by omega)
  have hl : k < xs.length := by have := h.1; omega
  exact ⟨ad, xs[k], e, hb, List.getElem?_eq_getElem hl, hc k _ (List.getElem?_eq_getElem hl)⟩
theorem Rds.keep (h : Rds w B A n xs) (hk : ∀ p : Addr, p.block < B → w'.cell? p = w.cell? p) : Rds w' B A n xs :=
  ⟨h.1, fun hn => by
    obtain ⟨ad, e, hb, hc⟩ := h.2 hn
    exact ⟨ad, e, hb, fun j u hu => (hk _ (by rw [add_block]; exact hb)).trans (hc j u hu)⟩⟩
theorem Rds.more (h : Rds w B A n xs) (hB : B ≤ B') : Rds w B' A n xs :=
  ⟨h.1, fun hn => by
    obtain ⟨ad, e, hb, hc⟩ := h.2 hn
    exact ⟨ad, e, by omega, hc⟩⟩
theorem Rds.below (h : Rds w B A n xs) (hb : Below B w w') : Rds w' B A n xs := h.keep fun _ hp => hb.cell hp
theorem Rds.drew (h : Rds w B A n xs) : Rds w.drew B A n xs := h
theorem Rds.alloc (h : Rds w B A n xs) (hB : B ≤ w.heap.size) (o : Obj) : Rds (w.alloc o) B A n xs := h.keep fun p hp => World.cell?_alloc_lt w o p (by omega)
theorem Rds.setCell (h : Rds w B A n xs) {p : Addr} (hB : B ≤ p.block) (u : Value) : Rds (w.setCell p u) B A n xs :=
  h.keep fun q hq => World.cell?_setCell_other w p q u (fun e => by subst e; omega)
theorem Rds.fit (h : Rds w B A n xs) : Rds w w.heap.size A n xs :=
  ⟨h.1, fun hn => by
    obtain ⟨ad, e, _, hc⟩ := h.2 hn
    refine ⟨ad, e, ?_, hc⟩
    have hl : 0 < xs.length := by have := h.1; omega
    have := World.block_lt_of_cell? w _ (hc 0 _ (List.getElem?_eq_getElem hl))
    rwa [add_block] at this⟩
/-- s[:k] -/
theorem Rds.take (h : Rds w B A n xs) {k : Nat} (hk : k ≤ n) : Rds w B A k (xs.take k) :=
  ⟨by rw [List.length_take, h.1]; omega, fun hn => by
    obtain ⟨ad, e, hb, hc⟩ := h.2 (by omega)
    refine ⟨ad, e, hb, fun j u hu => hc j u ?_⟩
    rw [List.getElem?_take] at hu
    split at hu
    · exact hu
    · cases hu⟩
/-- s[k:] -/
theorem Rds.drop (h : Rds w B A n xs) {k cap : Nat} (hk : k ≤ n) (hc : n ≤ cap) : Rds w B (if cap = k then A else A.map (·.add k)) (n - k) (xs.drop k) := by
  refine ⟨by rw [List.length_drop, h.1], fun hn => ?_⟩
  obtain ⟨ad, rfl, hb, hcell⟩ := h.2 (by omega)
  rw [if_neg (by omega)]
  refine ⟨ad.add k, rfl, by rw [add_block]; exact hb, fun j u hu => ?_⟩
  rw [add_add]
  exact hcell _ u (by rw [← hu, List.getElem?_drop])
theorem Rds.of_own {base : Nat} {e : TypeId} {c : Nat} (h : w.ownsRow base e 1 (.slice A n c) n xs) : Rds w w.heap.size A n xs := by
  refine ⟨by simpa using h.1, fun hn => ?_⟩
  obtain ⟨g, cap, hv, _, hlt⟩ := h.form hn
  have hA : A = some ⟨g, 0, none⟩ := by injection hv
  subst hA
  exact ⟨_, rfl, hlt, h.cells (g := g) rfl⟩
/-- A slice literal's block. -/
theorem Rds.lit (w : World) (t : TypeId) (cs : Array Value) : Rds (w.alloc (.cells cs t)) (w.heap.size + 1) (some ⟨w.heap.size, 0, none⟩) cs.size cs.toList := by
  refine ⟨by simp, fun hn => ⟨_, rfl, by simp, fun j u hu => ?_⟩⟩
  rw [add_addr, Nat.zero_add, (Blk.new w t cs).cell j]
  simpa using hu
end

/-- A row of the call's own: all that it has lies from block B on. -/
def Own (B : Nat) (w : World) (e : TypeId) (v : Value) (xs : List Value) : Prop := w.ownsRow B e 1 v xs.length xs
section
variable {w w' : World} {B B' : Nat} {e : TypeId} {v : Value} {xs : List Value}
theorem Own.nil (B : Nat) (w : World) (e : TypeId) : Own B w e (.slice none 0 0) [] := World.ownsRow_nil _ _ _ _
theorem Own.below (h : Own B w e v xs) (hb : Below w.heap.size w w') : Own B w' e v xs := by
  refine ⟨h.1, ?_⟩
  rcases h.2 with hn | ⟨g, cap, cur, rfl, hB, hgg, rest⟩
  · exact .inl hn
  · refine .inr ⟨g, cap, cur, rfl, hB, ?_, rest⟩
    rw [hb.block g (Array.getElem?_eq_some_iff.1 hgg).1]
    exact hgg
theorem Own.drew (h : Own B w e v xs) : Own B w.drew e v xs := h
theorem Own.alloc (h : Own B w e v xs) (o : Obj) : Own B (w.alloc o) e v xs := World.ownsRow.alloc h o
theorem Own.mono (h : Own B w e v xs) (hB : B' ≤ B) : Own B' w e v xs := by
  refine ⟨h.1, ?_⟩
  rcases h.2 with hn | ⟨g, cap, cur, rfl, hb, rest⟩
  · exact .inl hn
  · exact .inr ⟨g, cap, cur, rfl, by omega, rest⟩
/-- What its value looks like. -/
theorem Own.form (h : Own B w e v xs) : ∃ A c, v = .slice A xs.length c ∧ (A = none → c = 0) ∧ xs.length ≤ c ∧ c ≤ maxLen ∧ Rds w w.heap.size A xs.length xs := by
  have h' := h
  rcases h.2 with ⟨rfl, h0⟩ | ⟨g, cap, cur, rfl, hB, hgg, hnc, hcm, _⟩
  · exact ⟨none, 0, by rw [h0], fun _ => rfl, by omega, Nat.zero_le _, by rw [h0, List.eq_nil_of_length_eq_zero h0]; exact Rds.nil _ _ _⟩
  · exact ⟨_, cap, rfl, (fun h => by cases h), hnc, hcm, Rds.of_own h'⟩
theorem Own.block (h : Own B w e v xs) : ∀ k, v.ownBlock = some k → B ≤ k ∧ k < w.heap.size := World.ownsRow.lt h
/-- A slice literal. -/
theorem Own.lit (w : World) (e : TypeId) (cs : Array Value) (hm : cs.size ≤ maxLen) : Own w.heap.size (w.alloc (.cells cs e)) e (.slice (some ⟨w.heap.size, 0, none⟩) cs.size cs.size) cs.toList := by
  refine ⟨by simp, .inr ⟨w.heap.size, cs.size, cs, by simp, Nat.le_refl _, Blk.new w e cs, by simp, hm, by simp, ?_⟩⟩
  rw [List.take_of_length_le (by simp)]
end

/-- A slice type's element: its row of the table. -/
def Elt (P : Program) (t e : TypeId) (z : Value) (bytes : Nat) : Prop := P.underlying t = some (.slice e) ∧ (∃ i, P.info? e = some i ∧ i.zero = some z ∧ i.size = 1 ∧ i.bytes = bytes) ∧ z.cells.size = 1
theorem Elt.mk {P : Program} {t e : TypeId} {z : Value} {bytes : Nat} (h1 : P.underlying t = some (.slice e)) (h2 : (P.info? e).map (fun i => (i.zero, i.size, i.bytes)) = some (some z, 1, bytes)) (h3 : z.cells.size = 1) : Elt P t e z bytes :=
  ⟨h1, info_parts h2, h3⟩

section
variable {P : Program} {w : World}
theorem run_append_nil (t ty e : TypeId) (i : TypeInfo) (ht : P.underlying t = some (.slice e)) (hi : P.info? e = some i) {B : Nat} {v : Value} {xs : List Value} (hown : Own B w e v xs) (c : Nat) :
    (Builtin.append_ #[t, t] ty #[v, .slice none 0 c]).run P w = .ok v w := by
  rcases hown.2 with ⟨rfl, h0⟩ | ⟨g, cap, cur, rfl, _, _, hnc, _⟩
  · simp [Builtin.append_, run_underlying ht, sizeOf, typeInfo, hi, Builtin.lenOf, Builtin.firstCells]
  · simp [Builtin.append_, run_underlying ht, sizeOf, typeInfo, hi, Builtin.lenOf, Builtin.firstCells, hnc, storeCells]

theorem run_app {t ty e : TypeId} {z : Value} {bytes B B2 m c : Nat} {v : Value} {xs news : List Value} {A : Option Addr} (hE : Elt P t e z bytes) (hown : Own B w e v xs) (hr : Rds w B2 A m news) (h1 : ∀ u ∈ news, u.oneCell' = true)
    (hm : xs.length + m ≤ maxLen) (hb : (xs.length + m) * bytes ≤ 140737488355328) (hB : B ≤ w.heap.size) :
    ∃ v' w', (Builtin.append_ #[t, t] ty #[v, .slice A m c]).run P w = .ok v' w' ∧ Own B w' e v' (xs ++ news) ∧ w.grownBy w' v.ownBlock ∧ (v'.ownBlock = v.ownBlock ∨ v'.ownBlock = some w.heap.size) := by
  obtain ⟨ht, ⟨i, hi, hz, hsize, hby⟩, hzs⟩ := hE
  have hrl := hr.1
  rcases A with _ | ad
  · have hm0 : m = 0 := by
      rcases Nat.eq_zero_or_pos m with h0 | h0
      · exact h0
      · obtain ⟨ad, h, _⟩ := hr.2 h0
        cases h
    subst hm0
    obtain rfl : news = [] := List.eq_nil_of_length_eq_zero hrl
    exact ⟨v, w, run_append_nil t ty e i ht hi hown c, by simpa using hown, World.grownBy.refl w _, .inl rfl⟩
  · have hcells : ∀ j u, news[j]? = some u → w.cell? (ad.add j) = some u := by
      intro j u hu
      rcases Nat.eq_zero_or_pos m with h0 | h0
      · subst h0
        obtain rfl : news = [] := List.eq_nil_of_length_eq_zero hrl
        simp at hu
      · obtain ⟨ad', h, _, hc⟩ := hr.2 h0
        injection h with h
        subst h
        exact hc j u hu
    obtain ⟨v', w', hrun, h2, h3, _, h5⟩ := run_append_own_at (P := P) w B t ty e i z 1 bytes ht hi hz hsize hby hzs (by omega) v xs.length xs hown ad m c news (by omega) hcells h1 hm hb hB
    refine ⟨v', w', hrun, ?_, h3, h5⟩
    unfold Own
    rw [List.length_append, hrl]
    exact h2

theorem own_grown {B : Nat} {w w' : World} {e : TypeId} {v : Value} {xs : List Value} (hown : Own B w e v xs) (hg : w.grownBy w' v.ownBlock) (hB : B ≤ w.heap.size) : Below B w w' :=
  (Below.refl B w).grown hg hB fun k hk => (hown.block k hk).1

/-- append(s, x..), s a row of the call's own. -/
theorem wp_app {o : Oper} {a : Act} {K : Act → World → Prop} {Q : Exit → Act → World → Prop} (s x : Operand) (t : TypeId)
    (ho : o.op = .call { callee := .builtin .append, args := #[s, x], argTypes := #[t, t] }) {e : TypeId} {z : Value} {bytes : Nat} (hE : Elt P t e z bytes)
    {B : Nat} {v : Value} {xs : List Value} (hs : a.eval s = v) (hown : Own B w e v xs) {B2 m c : Nat} {A : Option Addr} {news : List Value} (hx : a.eval x = .slice A m c) (hr : Rds w B2 A m news) (h1 : ∀ u ∈ news, u.oneCell' = true)
    (hm : xs.length + m ≤ maxLen) (hb : (xs.length + m) * bytes ≤ 140737488355328) (hB : B ≤ w.heap.size)
    (h : ∀ v' w', Hid (Own B w' e v' (xs ++ news)) → Hid (Below B w w') → Hid (w.grownBy w' v.ownBlock ∧ (v'.ownBlock = v.ownBlock ∨ v'.ownBlock = some w.heap.size)) → K (a.put o.dst v') w') : Oper.wp P o a w K Q := by
  obtain ⟨v', w', hrun, h2, h3, h4⟩ := run_app (ty := o.type) (c := c) hE hown hr h1 hm hb hB
  unfold Oper.wp execOp
  simp only [ho, resolve, invoke, builtin, Sem.run_bind, Sem.run_pure, Result.andThen_ok, List.map_toArray, List.map_cons, List.map_nil, hs, hx, hrun]
  exact h v' w' h2 (own_grown hown h3 hB) ⟨h3, h4⟩
theorem wpList_app {ops : Array Oper} {rest : List Oper} {o : Oper} {a : Act} {Q : Exit → Act → World → Prop} (hgd : o.guard = none) (s x : Operand) (t : TypeId)
    (ho : o.op = .call { callee := .builtin .append, args := #[s, x], argTypes := #[t, t] }) {e : TypeId} {z : Value} {bytes : Nat} (hE : Elt P t e z bytes)
    {B : Nat} {v : Value} {xs : List Value} (hs : a.eval s = v) (hown : Own B w e v xs) {B2 m c : Nat} {A : Option Addr} {news : List Value} (hx : a.eval x = .slice A m c) (hr : Rds w B2 A m news) (h1 : ∀ u ∈ news, u.oneCell' = true)
    (hm : xs.length + m ≤ maxLen) (hb : (xs.length + m) * bytes ≤ 140737488355328) (hB : B ≤ w.heap.size)
    (h : ∀ v' w', Hid (Own B w' e v' (xs ++ news)) → Hid (Below B w w') → Hid (w.grownBy w' v.ownBlock ∧ (v'.ownBlock = v.ownBlock ∨ v'.ownBlock = some w.heap.size)) → wpList P ops Q rest (a.put o.dst v') w') : wpList P ops Q (o :: rest) a w :=
  wpList_plain hgd fun _ hK => wp_app s x t ho hE hs hown hx hr h1 hm hb hB fun v' w' h2 h3 h4 => hK _ _ (h v' w' h2 h3 h4)
/-- The same as a step of a region that draws its order. -/
theorem step_app {ops : Array Oper} {o : Oper} {a : Act} {K : Act → World → Prop} {Q : Exit → Act → World → Prop} {E : Prop} (hgd : o.guard = none) (s x : Operand) (t : TypeId)
    (ho : o.op = .call { callee := .builtin .append, args := #[s, x], argTypes := #[t, t] }) {e : TypeId} {z : Value} {bytes : Nat} (hE : Elt P t e z bytes)
    {B : Nat} {v : Value} {xs : List Value} (hs : a.eval s = v) (hown : Own B w e v xs) {B2 m c : Nat} {A : Option Addr} {news : List Value} (hx : a.eval x = .slice A m c) (hr : Rds w B2 A m news) (h1 : ∀ u ∈ news, u.oneCell' = true)
    (hm : xs.length + m ≤ maxLen) (hb : (xs.length + m) * bytes ≤ 140737488355328) (hB : B ≤ w.heap.size)
    (h : ∀ v' w', Hid (Own B w' e v' (xs ++ news)) → Hid (Below B w w') → Hid (w.grownBy w' v.ownBlock ∧ (v'.ownBlock = v.ownBlock ∨ v'.ownBlock = some w.heap.size)) → K (a.put o.dst v') w') : if Region.wanted o (yielded ops a.tmps) = true then Oper.wp P o a w K Q else E := by
  have hw : Region.wanted o (yielded ops a.tmps) = true := by simp [Region.wanted, hgd]
  rw [if_pos hw]
  exact wp_app s x t ho hE hs hown hx hr h1 hm hb hB h

/-- append(s, u), of one element: the model lays it in a block of its own first. -/
theorem wpList_app1 {ops : Array Oper} {rest : List Oper} {o : Oper} {a : Act} {Q : Exit → Act → World → Prop} (hgd : o.guard = none) (s x : Operand) (t : TypeId)
    (ho : o.op = .call { callee := .builtin .append, args := #[s, x], argTypes := #[t, t] }) {e : TypeId} {z : Value} {bytes : Nat} (hE : Elt P t e z bytes)
    {B H : Nat} {v u : Value} {xs : List Value} {te : TypeId} (hs : a.eval s = v) (hown : Own B w e v xs) (hx : a.eval x = .slice (some ⟨H, 0, none⟩) 1 1) (hH : w.heap.size = H) (h1 : u.oneCell' = true)
    (hm : xs.length + 1 ≤ maxLen) (hb : (xs.length + 1) * bytes ≤ 140737488355328) (hB : B ≤ w.heap.size)
    (h : ∀ v' w', Hid (Own B w' e v' (xs ++ [u])) → Hid (Below B w w') → wpList P ops Q rest (a.put o.dst v') w') : wpList P ops Q (o :: rest) a (w.alloc (.cells #[u] te)) := by
  subst hH
  refine wpList_app hgd s x t ho hE hs (hown.alloc _) hx (Rds.lit w te #[u]) (by simpa using h1) hm hb (by simp; omega) ?_
  intro v' w' h2 h3 _
  exact h v' w' h2 (((Below.refl B w).alloc hB _).trans h3)
end

theorem madeCells_one (z : Value) (hz : z.cells = #[z]) (n : Nat) : madeCells z.cells n = (List.replicate n z).toArray := by
  rw [hz]
  apply Array.ext
  · simp [madeCells]
  · intro i h1 h2
    simp [madeCells, Nat.mod_one]
section
variable {P : Program} {w : World}
/-- make([]T, n, cap) -/
theorem wpList_mk {ops : Array Oper} {rest : List Oper} {o : Oper} {a : Act} {Q : Exit → Act → World → Prop} (hgd : o.guard = none) (l c : Operand) (t : TypeId) (hop : o.op = Op.makeSlice t l c)
    {e : TypeId} {z : Value} {bytes : Nat} (hE : Elt P t e z bytes) (hz1 : z.cells = #[z]) {kl kc : IntKind} {L C : Int} {n cap : Nat} (hl : a.eval l = .int kl L) (hc : a.eval c = .int kc C) (hL : L = (n : Int)) (hC : C = (cap : Int))
    (hle : n ≤ cap) (hb : bytes * cap ≤ 281474976710656) (hm : cap ≤ maxLen)
    (h : ∀ w', Hid (Own w.heap.size w' e (.slice (some ⟨w.heap.size, 0, none⟩) n cap) (List.replicate n z)) → Hid (Below w.heap.size w w') → wpList P ops Q rest (a.put o.dst (.slice (some ⟨w.heap.size, 0, none⟩) n cap)) w') :
    wpList P ops Q (o :: rest) a w := by
  obtain ⟨ht, ⟨i, hi, hz, hsize, hby⟩, hzs⟩ := hE
  subst hL hC
  have h63 : (cap : Int) ≤ 9223372036854775807 := by unfold maxLen at hm; omega
  have hbb : (i.bytes : Int) * (cap : Int) ≤ 281474976710656 := by
    rw [hby]
    have : ((bytes * cap : Nat) : Int) ≤ 281474976710656 := by omega
    rwa [Int.natCast_mul] at this
  have hrun := run_make (P := P) w t e i z ht hi hz kl kc n cap (by omega) (by omega) hbb h63
  rw [Int.toNat_natCast, Int.toNat_natCast, hsize, Nat.mul_one, madeCells_one z hz1] at hrun
  refine wpList_plain hgd fun K hK => ?_
  unfold Oper.wp
  simp only [execOp, hop, hl, hc, Sem.run_bind, Sem.run_pure, hrun, Result.andThen_ok]
  refine hK _ _ (h _ ?_ ((Below.refl _ _).alloc (Nat.le_refl _) _))
  refine ⟨by simp, .inr ⟨w.heap.size, cap, (List.replicate cap z).toArray, by simp, Nat.le_refl _, Blk.new w e _, by simpa using hle, hm, by simp, ?_⟩⟩
  simp [List.take_replicate]
  omega
/-- copy(d, s), d a row of the call's own, s no longer. -/
theorem wpList_cpy {ops : Array Oper} {rest : List Oper} {o : Oper} {a : Act} {Q : Exit → Act → World → Prop} (hgd : o.guard = none) (d s : Operand) (t : TypeId)
    (ho : o.op = .call { callee := .builtin .copy, args := #[d, s], argTypes := #[t, t] }) {e : TypeId} {z : Value} {bytes : Nat} (hE : Elt P t e z bytes)
    {B : Nat} {v : Value} {xs : List Value} (hd : a.eval d = v) (hown : Own B w e v xs) {B2 m c : Nat} {A : Option Addr} {news : List Value} (hx : a.eval s = .slice A m c) (hr : Rds w B2 A m news) (h1 : ∀ u ∈ news, u.oneCell' = true)
    (hm : m ≤ xs.length)
    (h : ∀ w', Hid (Own B w' e v (news ++ xs.drop m)) → Hid (Below B w w') → wpList P ops Q rest (a.put o.dst (goInt m)) w') : wpList P ops Q (o :: rest) a w := by
  obtain ⟨ht, ⟨i, hi, hz, hsize, hby⟩, hzs⟩ := hE
  have hrl := hr.1
  rcases hown.2 with ⟨rfl, h0⟩ | ⟨g, cap, cur, rfl, hB, hgg, hnc, hcm, hcs, htk⟩
  · have hm0 : m = 0 := by omega
    subst hm0
    obtain rfl : news = [] := List.eq_nil_of_length_eq_zero hrl
    refine wpList_copy_nothing hgd d s t t ho e ht (by rw [hi]; simp [hsize]) none A 0 0 0 c hd hx (by simp) ?_
    exact h w (by show Own _ _ _ _ _; simpa using hown) (Below.refl _ _)
  · refine wpList_copy_splice hgd d s t t ho e ht (by rw [hi]; simp [hsize]) (some ⟨g, 0, none⟩) A xs.length cap m c hd hx g 0 cur.toList e (by simpa using hgg) news (by rw [hrl]; exact (Nat.min_eq_left hm).symm)
      (fun hp => ⟨rfl, by
        obtain ⟨ad, e1, _, hc⟩ := hr.2 (by omega)
        exact ⟨ad, e1, hc⟩⟩) (by simp at hcs ⊢; omega) h1 B w (Below.refl _ _) hB ?_
    intro w' hg' hb'
    rw [hrl]
    refine h w' ?_ hb'
    have hle : news.length + (xs.drop m).length = xs.length := by simp; omega
    have hl : (news ++ xs.drop m).length = xs.length := by rw [List.length_append, hle]
    unfold Own
    rw [hl]
    refine ⟨by simp [hl], .inr ⟨g, cap, _, rfl, hB, hg'.out, hnc, hcm, ?_, ?_⟩⟩
    · simp [splice] at hcs ⊢; omega
    · have htk' : cur.toList.take xs.length = xs := by simpa using htk
      simp only [splice, List.take_zero, List.nil_append, Nat.zero_add, Nat.mul_one]
      rw [List.take_append, List.take_of_length_le (by omega), hrl]
      congr 1
      conv => rhs; rw [← htk']
      rw [List.drop_take]
end
theorem mod_below {w w' : World} (h : Below w.heap.size w w') : Mod (fun _ => False) w w' := ⟨h.os, h.tape, h.output, h.size, fun i hi _ => h.block i hi⟩
/-- An operation behind '&&' or '||' that is not carried out. -/
theorem still_skip {P : Program} {ops : Array Oper} {w : World} {Q : Act → Prop} {a : Act} {o : Oper} {rest : List Oper} (hw : Region.wanted o (yielded ops a.tmps) = false) (h : wpStill P ops w Q rest (a.put o.dst undef)) : wpStill P ops w Q (o :: rest) a := by
  unfold wpStill
  rw [if_neg (by simp [hw])]
  exact h
theorem le_alloc (w : World) (o : Obj) : w.heap.size ≤ (w.alloc o).heap.size := by simp

theorem strOf_inj {as' bs : List Nat} (ha : lt256 as') (hb : lt256 bs) (h : strOf as' = strOf bs) : as' = bs := by
  unfold strOf at h
  injection h with h
  injection h with h
  have e : ∀ l : List Nat, lt256 l → (l.map UInt8.ofNat).map UInt8.toNat = l := by
    intro l hl
    rw [List.map_map]
    conv => rhs; rw [← List.map_id l]
    apply List.map_congr_left
    intro x hx
    have := hl x hx
    simp
    omega
  rw [← e as' ha, ← e bs hb, h]
theorem strOf_size (bs : List Nat) : (strOf bs).size = bs.length := by simp [strOf, ByteArray.size]
theorem conv_rds {P : Program} {n c B : Nat} {A : Option Addr} {bs : List Nat} {tb ts e : TypeId} (hu : P.underlying tb = some (.slice e)) (he : P.underlying e = some (.int .u8)) (ht : P.underlying ts = some .string)
    (w : World) (hs : Rds w B A n (cells8 bs)) (hlt : lt256 bs) : (convert tb ts (.slice A n c)).run P w = .ok (.string (strOf bs)) w := by
  have hlen := hs.1
  rw [cells8_length] at hlen
  rcases Nat.eq_zero_or_pos n with h0 | h0
  · subst h0
    obtain rfl := List.eq_nil_of_length_eq_zero hlen
    rw [run_convert_bytes_string w tb ts e A 0 c hu he ht]
    cases A <;> rfl
  · obtain ⟨ad, rfl, hl, hc⟩ := hs.2 h0
    have := run_convert_bytes_back (P := P) w tb ts e ad c (bs.map UInt8.ofNat) hu he ht (by
      intro j hj
      simp at hj
      refine hc j _ ?_
      rw [cells8_get, List.getElem?_eq_getElem hj]
      have := hlt _ (List.getElem_mem hj)
      simp
      omega)
    rw [List.length_map, hlen] at this
    exact this
/-- []byte(s) -/
theorem bytes_of_str {P : Program} {tb ts e : TypeId} (hu : P.underlying tb = some (.slice e)) (he : P.underlying e = some (.int .u8)) (ht : P.underlying ts = some .string) (w : World) (bs : List Nat) (hlt : lt256 bs) (hm : bs.length ≤ maxLen) :
    ∃ c W, bs.length ≤ c ∧ c ≤ maxLen ∧ (convert ts tb (.string (strOf bs))).run P w = .ok (.slice (some ⟨w.heap.size, 0, none⟩) bs.length c) W ∧ Below w.heap.size w W ∧ Rds W W.heap.size (some ⟨w.heap.size, 0, none⟩) bs.length (cells8 bs) := by
  have hrun := run_bytes_of_string (P := P) w ts tb e (strOf bs) ht hu he
  rw [strOf_size] at hrun
  refine ⟨_, _, grownCap_ge _ _ _ _, grownCap_le_maxLen _ _ _ _ hm, hrun, (Below.refl _ _).drew.alloc (by simp) _, ⟨cells8_length bs, fun _ => ⟨_, rfl, by simp, fun j u hu => ?_⟩⟩⟩
  rw [add_addr, Nat.zero_add]
  have hj : j < bs.length := by have := (List.getElem?_eq_some_iff.1 hu).1; rwa [cells8_length] at this
  refine (World.cell?_alloc_mark w.drew _ e _ j).trans ?_
  rw [bytesRow_at _ _ j (by simp [strOf]; exact hj)]
  rw [cells8_get, List.getElem?_eq_getElem hj] at hu
  have := hlt _ (List.getElem_mem hj)
  simp at hu
  rw [← hu]
  simp [strOf]
  omega
/-- s[:k] -/
theorem strOf_take (bs : List Nat) (k : Nat) : (strOf bs).extract 0 k = strOf (bs.take k) := by
  apply ByteArray.ext
  simp [strOf, List.map_take]
end Go.Proofs.Ytnfpbjioiiedeaa
