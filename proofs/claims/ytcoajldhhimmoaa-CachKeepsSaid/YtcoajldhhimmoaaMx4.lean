/- The texts Ka, Yw, Sli, Post, Vm, Rm, Pk, Pm, Dm, Cm, Tm, Ce, Ct, Cs, Ve, Vp, Vz, Oz, Vg, Uw, Nu, Lf, Mn, Lg, Us, Sk, Sf, Sp, Ea, Se, Dk, Lm, Du, Le, Mu, Su, Sq, Sd, Dg, Lp, Ld, Kap, Rkw, Yp, Yra, Qsx, Gr, one behind the other. -/
import Derived.Test.YtcoajldhhimmoaaMx1
import Derived.Test.YtcoajldhhimmoaaMx3
/- Rows of samples in memory, two cells a sample: what a slice reads as; a row of the call's own; append of one, make, and one sample written. -/
namespace Go.Proofs.Ytcoajldhhimmoaa
open Go.RowKit

def cellsS (l : List (Int × Nat)) : List Value := l.flatMap fun p => [Value.int .i64 p.1, Value.int .u64 (p.2 : Int)]
theorem cellsS_cons (p : Int × Nat) (l : List (Int × Nat)) : cellsS (p :: l) = .int .i64 p.1 :: .int .u64 (p.2 : Int) :: cellsS l := rfl
theorem cellsS_len (l : List (Int × Nat)) : (cellsS l).length = l.length * 2 := by
  induction l with
  | nil => rfl
  | cons p l ih => rw [cellsS_cons, List.length_cons, List.length_cons, ih, List.length_cons]; omega
theorem cellsS_app (a b : List (Int × Nat)) : cellsS (a ++ b) = cellsS a ++ cellsS b := by simp [cellsS]
theorem cellsS_one (l : List (Int × Nat)) : ∀ u ∈ cellsS l, u.oneCell' = true := by
  induction l with
  | nil => intro u hu; cases hu
  | cons p l ih =>
    intro u hu
    rw [cellsS_cons] at hu
    rcases List.mem_cons.1 hu with rfl | hu
    · rfl
    rcases List.mem_cons.1 hu with rfl | hu
    · rfl
    exact ih u hu
theorem cellsS_get {l : List (Int × Nat)} : ∀ {i : Nat} {p : Int × Nat}, l[i]? = some p → (cellsS l)[i * 2]? = some (.int .i64 p.1) ∧ (cellsS l)[i * 2 + 1]? = some (.int .u64 (p.2 : Int)) := by
  induction l with
  | nil => intro i p h; simp at h
  | cons q l ih =>
    intro i p h
    cases i with
    | zero =>
      rw [List.getElem?_cons_zero] at h
      injection h with h
      subst h
      exact ⟨rfl, rfl⟩
    | succ i =>
      rw [List.getElem?_cons_succ] at h
      obtain ⟨h1, h2⟩ := ih h
      rw [cellsS_cons, show (i + 1) * 2 = i * 2 + 1 + 1 by omega]
      exact ⟨by rw [List.getElem?_cons_succ, List.getElem?_cons_succ]; exact h1, by rw [List.getElem?_cons_succ, List.getElem?_cons_succ]; exact h2⟩
theorem cellsS_set (l : List (Int × Nat)) : ∀ (i : Nat) (p : Int × Nat), ((cellsS l).set (i * 2) (.int .i64 p.1)).set (i * 2 + 1) (.int .u64 (p.2 : Int)) = cellsS (l.set i p) := by
  induction l with
  | nil => intro i p; simp [cellsS]
  | cons q l ih =>
    intro i p
    cases i with
    | zero => rfl
    | succ i =>
      rw [show (q :: l).set (i + 1) p = q :: l.set i p from rfl, cellsS_cons, cellsS_cons, ← ih i p, show (i + 1) * 2 = i * 2 + 2 by omega]
      rfl
theorem add_one_cell (a : Addr) (i : Nat) : (⟨(a.add (i * 2)).block, (a.add (i * 2)).off + 1, none⟩ : Addr) = a.add (i * 2 + 1) := by
  rw [← add_add]
  simp [Addr.add]
/-- The slice at A, n samples long, reads as l, below block B. -/
def RdsS (w : World) (B : Nat) (A : Option Addr) (n : Nat) (l : List (Int × Nat)) : Prop := l.length = n ∧ Rds w B A (n * 2) (cellsS l)
section
variable {w w' : World} {B B' n : Nat} {A : Option Addr} {l : List (Int × Nat)}
theorem RdsS.nil (w : World) (B : Nat) (A : Option Addr) : RdsS w B A 0 [] := ⟨rfl, Rds.nil _ _ _⟩
theorem RdsS.more (h : RdsS w B A n l) (hB : B ≤ B') : RdsS w B' A n l := ⟨h.1, h.2.more hB⟩
theorem RdsS.below (h : RdsS w B A n l) (hb : Below B w w') : RdsS w' B A n l := ⟨h.1, h.2.below hb⟩
theorem RdsS.drew (h : RdsS w B A n l) : RdsS w.drew B A n l := h
theorem RdsS.alloc (h : RdsS w B A n l) (hB : B ≤ w.heap.size) (o : Obj) : RdsS (w.alloc o) B A n l := ⟨h.1, h.2.alloc hB o⟩
theorem RdsS.fit (h : RdsS w B A n l) : RdsS w w.heap.size A n l := ⟨h.1, h.2.fit⟩
theorem RdsS.mod {S : Nat → Prop} (h : RdsS w B A n l) (hm : Mod S w w') (hB : B ≤ w.heap.size) (hS : ∀ j, j < B → ¬ S j) : RdsS w' B A n l := ⟨h.1, h.2.mod hm hB hS⟩
theorem RdsS.new (h : RdsS w B A n l) (hm : Mod (fun _ => False) w w') : RdsS w' w.heap.size A n l := ⟨h.1, h.2.new hm⟩
theorem RdsS.at_ {k : Nat} (h : RdsS w B A n l) (hk : k < n) : ∃ ad p, A = some ad ∧ ad.block < B ∧ l[k]? = some p ∧ w.cell? (ad.add (k * 2)) = some (.int .i64 p.1) ∧ w.cell? (ad.add (k * 2 + 1)) = some (.int .u64 (p.2 : Int)) := by
  obtain ⟨ad, e, hb, hc⟩ := h.2.2 (by omega)
  have hl : k < l.length := by have := h.1; omega
  obtain ⟨h1, h2⟩ := cellsS_get (List.getElem?_eq_getElem hl)
  exact ⟨ad, l[k], e, hb, List.getElem?_eq_getElem hl, hc _ _ h1, hc _ _ h2⟩
theorem RdsS.at2 {i : Nat} (h : RdsS w B A n l) (hi : i < n) (hB : B ≤ w.heap.size) {S : Nat → Prop} (hm : Mod S w w') (hS : ∀ ad, A = some ad → ¬ S ad.block) :
    ∃ ad p, A = some ad ∧ ad.block < B ∧ l[i]? = some p ∧ w'.cell? (ad.add (i * 2)) = some (.int .i64 p.1) ∧ w'.cell? (ad.add (i * 2 + 1)) = some (.int .u64 (p.2 : Int)) := by
  obtain ⟨ad, p, e, hb, hp, h1, h2⟩ := h.at_ hi
  refine ⟨ad, p, e, hb, hp, ?_, ?_⟩
  · rw [hm.cell (a := ad.add (i * 2)) (by rw [add_block]; omega) (by rw [add_block]; exact hS _ e)]
    exact h1
  · rw [hm.cell (a := ad.add (i * 2 + 1)) (by rw [add_block]; omega) (by rw [add_block]; exact hS _ e)]
    exact h2
theorem RdsS.some_ (h : RdsS w B A n l) (hn : 0 < n) : ∃ ad, A = some ad ∧ ad.block < B := by
  obtain ⟨ad, e, hb, _⟩ := h.2.2 (by omega)
  exact ⟨ad, e, hb⟩
end

/-- .. the second cell as the model's load of a whole sample has it. -/
theorem cell_whole {w : World} {ad : Addr} {i : Nat} {u : Value} (h : w.cell? (ad.add (i * 2 + 1)) = some u) : w.cell? ⟨(ad.add (i * 2)).block, (ad.add (i * 2)).off + 1, none⟩ = some u := by rw [add_one_cell]; exact h

/-- A row of samples of the call's own: all that it has lies from block B on. -/
def OwnS (B : Nat) (w : World) (v : Value) (l : List (Int × Nat)) : Prop := w.ownsRow B 31 2 v l.length (cellsS l)
section
variable {w w' : World} {B B' : Nat} {v : Value} {l : List (Int × Nat)}
theorem OwnS.nil (B : Nat) (w : World) : OwnS B w (.slice none 0 0) [] := World.ownsRow_nil _ _ _ _
theorem OwnS.below (h : OwnS B w v l) (hb : Below w.heap.size w w') : OwnS B w' v l := by
  refine ⟨h.1, ?_⟩
  rcases h.2 with hn | ⟨g, cap, cur, rfl, hB, hgg, rest⟩
  · exact .inl hn
  · refine .inr ⟨g, cap, cur, rfl, hB, ?_, rest⟩
    rw [hb.block g (Array.getElem?_eq_some_iff.1 hgg).1]
    exact hgg
theorem OwnS.drew (h : OwnS B w v l) : OwnS B w.drew v l := h
theorem OwnS.alloc (h : OwnS B w v l) (o : Obj) : OwnS B (w.alloc o) v l := World.ownsRow.alloc h o
theorem OwnS.mono (h : OwnS B w v l) (hB : B' ≤ B) : OwnS B' w v l := by
  refine ⟨h.1, ?_⟩
  rcases h.2 with hn | ⟨g, cap, cur, rfl, hb, rest⟩
  · exact .inl hn
  · exact .inr ⟨g, cap, cur, rfl, by omega, rest⟩
theorem OwnS.mod (h : OwnS B w v l) (hm : Mod (fun _ => False) w w') : OwnS B w' v l := hm.owns h (fun _ _ h => h)
theorem OwnS.block (h : OwnS B w v l) : ∀ k, v.ownBlock = some k → B ≤ k ∧ k < w.heap.size := World.ownsRow.lt h
/-- What its value looks like. -/
theorem OwnS.form (h : OwnS B w v l) : ∃ A c, v = .slice A l.length c ∧ l.length ≤ c ∧ c ≤ maxLen ∧ RdsS w w.heap.size A l.length l := by
  rcases h.2 with ⟨rfl, h0⟩ | ⟨g, cap, cur, rfl, hB, hgg, hnc, hcm, hcs, htk⟩
  · obtain rfl : l = [] := List.eq_nil_of_length_eq_zero h0
    exact ⟨none, 0, rfl, Nat.le_refl _, Nat.zero_le _, RdsS.nil _ _ _⟩
  · refine ⟨_, cap, rfl, hnc, hcm, rfl, cellsS_len l, fun _ => ⟨_, rfl, (Array.getElem?_eq_some_iff.1 hgg).1, World.ownsRow.cells h (g := g) rfl⟩⟩
theorem OwnS.formN (h : OwnS B w v l) : ∃ A L c, v = .slice A L c ∧ Hid (l.length = L) ∧ L ≤ c ∧ c ≤ maxLen ∧ RdsS w w.heap.size A L l := by
  obtain ⟨A, c, e, h1, h2, h3⟩ := h.form
  exact ⟨A, l.length, c, e, Lib.hid rfl, h1, h2, h3⟩
theorem OwnS.rds {A : Option Addr} {n c : Nat} (h : OwnS B w (.slice A n c) l) (hn : l.length = n) : RdsS w w.heap.size A n l := by
  obtain ⟨A', c', e, _, _, hr⟩ := h.form
  injection e with e1 e2 e3
  subst e1 e2
  exact hr
/-- Where it lies, if it is not empty. -/
theorem OwnS.form' (h : OwnS B w v l) (hn : 0 < l.length) : ∃ g cap, v = .slice (some ⟨g, 0, none⟩) l.length cap ∧ l.length ≤ cap ∧ cap ≤ maxLen ∧ B ≤ g ∧ g < w.heap.size := by
  rcases h.2 with ⟨rfl, h0⟩ | ⟨g, cap, cur, rfl, hB, hgg, hnc, hcm, _⟩
  · omega
  · exact ⟨g, cap, rfl, hnc, hcm, hB, (Array.getElem?_eq_some_iff.1 hgg).1⟩
/-- l[k] = p -/
theorem OwnS.set_ {g n cap k : Nat} (h : OwnS B w (.slice (some ⟨g, 0, none⟩) n cap) l) (hn : n = l.length) (hk : k < n) (p : Int × Nat) :
    (∃ u, w.cell? ⟨g, k * 2, none⟩ = some u) ∧ (∃ u, w.cell? ⟨g, k * 2 + 1, none⟩ = some u) ∧ w.frozen? ⟨g, k * 2, none⟩ = false ∧ w.frozen? ⟨g, k * 2 + 1, none⟩ = false ∧
      OwnS B ((w.setCell ⟨g, k * 2, none⟩ (.int .i64 p.1)).setCell ⟨g, k * 2 + 1, none⟩ (.int .u64 (p.2 : Int))) (.slice (some ⟨g, 0, none⟩) n cap) (l.set k p) := by
  have h' : w.ownsRow B 31 2 (.slice (some ⟨g, 0, none⟩) n cap) n (cellsS l) := by
    have := h; unfold OwnS at this; rwa [← hn] at this
  have hl := cellsS_len l
  refine ⟨⟨(cellsS l)[k * 2]'(by omega), ?_⟩, ⟨(cellsS l)[k * 2 + 1]'(by omega), ?_⟩, h'.frozenAt _, h'.frozenAt _, ?_⟩
  · rw [h'.cellAt _ (by omega), List.getElem?_eq_getElem (by omega)]
  · rw [h'.cellAt _ (by omega), List.getElem?_eq_getElem (by omega)]
  · have h2 := ((h'.stored (k * 2) (.int .i64 p.1)).1.stored (k * 2 + 1) (.int .u64 (p.2 : Int))).1
    rw [cellsS_set] at h2
    unfold OwnS
    rw [List.length_set, ← hn]
    exact h2
end
/-- The element's row of the table. -/
theorem infoS : (Try.prog.info? 31).map (fun i => (i.zero, i.size, i.bytes)) = some (some (.agg #[.int .i64 0, .int .u64 0]), 2, 16) := by kernel_rfl
theorem cell_two_new (w : World) (a b : Value) (t : TypeId) : ∀ j u, [a, b][j]? = some u → (w.alloc (.cells #[a, b] t)).cell? ((⟨w.heap.size, 0, none⟩ : Addr).add j) = some u := by
  intro j u hj
  match j, hj with
  | 0, hj => simp at hj; subst hj; simp [Addr.add]
  | 1, hj => simp at hj; subst hj; simp [Addr.add]
  | j + 2, hj => simp at hj
section
variable {w : World}
/-- append(l, p): the model lays p in a block of its own first. -/
theorem wpList_appS {ops : Array Oper} {rest : List Oper} {o : Oper} {a : Act} {Q : Exit → Act → World → Prop} (hgd : o.guard = none) (s x : Operand)
    (ho : o.op = .call { callee := .builtin .append, args := #[s, x], argTypes := #[22, 22] })
    {B H : Nat} {v : Value} {l : List (Int × Nat)} {p : Int × Nat} {te : TypeId} (hs : a.eval s = v) (hown : OwnS B w v l) (hx : a.eval x = .slice (some ⟨H, 0, none⟩) 1 1) (hH : w.heap.size = H)
    (hm : l.length + 1 ≤ maxLen) (hb : (l.length + 1) * 16 ≤ 140737488355328) (hB : B ≤ w.heap.size)
    (h : ∀ v' w', Hid (OwnS B w' v' (l ++ [p])) → Hid (Below B w w') → wpList Try.prog ops Q rest (a.put o.dst v') w') : wpList Try.prog ops Q (o :: rest) a (w.alloc (.cells #[.int .i64 p.1, .int .u64 (p.2 : Int)] te)) := by
  subst hH
  obtain ⟨i, hi, hz0, hz1, hz2⟩ := info_parts infoS
  refine wpList_append_own_at _ hgd s x 22 ho B 31 i (.agg #[.int .i64 0, .int .u64 0]) 2 16 Try.underlying22 hi hz0 hz1 hz2 rfl (by decide) v l.length (cellsS l) hs (hown.alloc _) ⟨w.heap.size, 0, none⟩ 1 1
    [.int .i64 p.1, .int .u64 (p.2 : Int)] hx rfl (cell_two_new _ _ _ _) (fun u hu => by simp at hu; rcases hu with rfl | rfl <;> rfl) hm hb (by simp; omega) ?_
  intro v' w' h1 h2 _ _
  refine h v' w' ?_ ?_
  · show OwnS B w' v' (l ++ [p])
    unfold OwnS
    rw [List.length_append, cellsS_app]
    exact h1
  · exact ((Below.refl B w).alloc hB _).trans ((Below.refl B _).grown h2 (by simp; omega) (fun k hk => (hown.block k hk).1))
end
end Go.Proofs.Ytcoajldhhimmoaa

/- Models in memory: rows of series (five cells each) and of iterators (two cells each), each with a row of samples of its own. -/
namespace Go.Proofs.Ytcoajldhhimmoaa
open Go.RowKit

/-- A series with its row's slice; an iterator with it. -/
def serC (p : SerN × Value) : List Value := [.int .i64 p.1.id, .bool p.1.sea, .bool p.1.any, .int .i64 p.1.last, p.2]
def iteC (p : IteN × Value) : List Value := [.int .i64 p.1.id, p.2]
/-- The slice v reads as l, below block B. -/
def SliS (w : World) (B : Nat) (v : Value) (l : List (Int × Nat)) : Prop := ∃ A n c, v = .slice A n c ∧ RdsS w B A n l ∧ n ≤ c ∧ c ≤ maxLen
/-- A row of series, of iterators, reads so: each element's row lies below block B, too. -/
def RdsSer (w : World) (B : Nat) (A : Option Addr) (n : Nat) (ps : List (SerN × Value)) : Prop := RdsK 5 w B A n (ps.map serC) ∧ ∀ p ∈ ps, SliS w B p.2 p.1.l
def RdsIte (w : World) (B : Nat) (A : Option Addr) (n : Nat) (ps : List (IteN × Value)) : Prop := RdsK 2 w B A n (ps.map iteC) ∧ ∀ p ∈ ps, SliS w B p.2 p.1.rest
section
variable {w w' : World} {B B' n : Nat} {A : Option Addr} {v : Value} {l : List (Int × Nat)}
theorem SliS.more (h : SliS w B v l) (hB : B ≤ B') : SliS w B' v l := by
  obtain ⟨A, n, c, e, h1, h2⟩ := h
  exact ⟨A, n, c, e, h1.more hB, h2⟩
theorem SliS.mod {S : Nat → Prop} (h : SliS w B v l) (hm : Mod S w w') (hB : B ≤ w.heap.size) (hS : ∀ j, j < B → ¬ S j) : SliS w' B v l := by
  obtain ⟨A, n, c, e, h1, h2⟩ := h
  exact ⟨A, n, c, e, h1.mod hm hB hS, h2⟩
theorem SliS.fit (h : SliS w B v l) : SliS w w.heap.size v l := by
  obtain ⟨A, n, c, e, h1, h2⟩ := h
  exact ⟨A, n, c, e, h1.fit, h2⟩
theorem SliS.new (h : SliS w B v l) (hm : Mod (fun _ => False) w w') : SliS w' w.heap.size v l := by
  obtain ⟨A, n, c, e, h1, h2⟩ := h
  exact ⟨A, n, c, e, h1.new hm, h2⟩
theorem SliS.nil (w : World) (B : Nat) : SliS w B (.slice none 0 0) [] := ⟨none, 0, 0, rfl, RdsS.nil _ _ _, Nat.le_refl _, Nat.zero_le _⟩
theorem SliS.of_own (h : OwnS B w v l) : SliS w w.heap.size v l := by
  obtain ⟨A, c, e, h1, h2, h3⟩ := h.form
  exact ⟨A, l.length, c, e, h3, h1, h2⟩
variable {ps : List (SerN × Value)} {qs : List (IteN × Value)}
theorem RdsSer.nil (w : World) (B : Nat) (A : Option Addr) : RdsSer w B A 0 [] := ⟨RdsK.nil _ _ _ _, fun _ h => by cases h⟩
theorem RdsIte.nil (w : World) (B : Nat) (A : Option Addr) : RdsIte w B A 0 [] := ⟨RdsK.nil _ _ _ _, fun _ h => by cases h⟩
theorem RdsSer.mod {S : Nat → Prop} (h : RdsSer w B A n ps) (hm : Mod S w w') (hB : B ≤ w.heap.size) (hS : ∀ j, j < B → ¬ S j) : RdsSer w' B A n ps := ⟨h.1.mod hm hB hS, fun p hp => (h.2 p hp).mod hm hB hS⟩
theorem RdsIte.mod {S : Nat → Prop} (h : RdsIte w B A n qs) (hm : Mod S w w') (hB : B ≤ w.heap.size) (hS : ∀ j, j < B → ¬ S j) : RdsIte w' B A n qs := ⟨h.1.mod hm hB hS, fun p hp => (h.2 p hp).mod hm hB hS⟩
theorem RdsSer.new (h : RdsSer w B A n ps) (hm : Mod (fun _ => False) w w') : RdsSer w' w.heap.size A n ps := ⟨h.1.new hm, fun p hp => (h.2 p hp).new hm⟩
theorem RdsIte.new (h : RdsIte w B A n qs) (hm : Mod (fun _ => False) w w') : RdsIte w' w.heap.size A n qs := ⟨h.1.new hm, fun p hp => (h.2 p hp).new hm⟩
theorem RdsSer.more (h : RdsSer w B A n ps) (hB : B ≤ B') : RdsSer w B' A n ps := ⟨h.1.more hB, fun p hp => (h.2 p hp).more hB⟩
theorem RdsIte.more (h : RdsIte w B A n qs) (hB : B ≤ B') : RdsIte w B' A n qs := ⟨h.1.more hB, fun p hp => (h.2 p hp).more hB⟩
theorem RdsSer.fit (h : RdsSer w B A n ps) : RdsSer w w.heap.size A n ps := ⟨h.1.fit, fun p hp => (h.2 p hp).fit⟩
theorem RdsIte.fit (h : RdsIte w B A n qs) : RdsIte w w.heap.size A n qs := ⟨h.1.fit, fun p hp => (h.2 p hp).fit⟩
theorem RdsSer.len (h : RdsSer w B A n ps) : ps.length = n := by have := h.1.1; rwa [List.length_map] at this
theorem RdsIte.len (h : RdsIte w B A n qs) : qs.length = n := by have := h.1.1; rwa [List.length_map] at this
theorem RdsSer.take {k : Nat} (h : RdsSer w B A n ps) (hk : k ≤ n) : RdsSer w B A k (ps.take k) := ⟨by rw [List.map_take]; exact h.1.take hk, fun p hp => h.2 p (List.mem_of_mem_take hp)⟩
theorem RdsIte.take {k : Nat} (h : RdsIte w B A n qs) (hk : k ≤ n) : RdsIte w B A k (qs.take k) := ⟨by rw [List.map_take]; exact h.1.take hk, fun p hp => h.2 p (List.mem_of_mem_take hp)⟩
theorem RdsSer.drop {k c : Nat} (h : RdsSer w B A n ps) (hk : k ≤ n) (hc : n ≤ c) : RdsSer w B (if c = k then A else A.map (·.add (k * 5))) (n - k) (ps.drop k) := ⟨by rw [List.map_drop]; exact h.1.drop hk hc (by decide), fun p hp => h.2 p (List.mem_of_mem_drop hp)⟩
theorem RdsIte.drop {k c : Nat} (h : RdsIte w B A n qs) (hk : k ≤ n) (hc : n ≤ c) : RdsIte w B (if c = k then A else A.map (·.add (k * 2))) (n - k) (qs.drop k) := ⟨by rw [List.map_drop]; exact h.1.drop hk hc (by decide), fun p hp => h.2 p (List.mem_of_mem_drop hp)⟩
theorem add_cell5 (a : Addr) (i j : Nat) (hj : 0 < j) : (⟨(a.add (i * 5)).block, (a.add (i * 5)).off + j, none⟩ : Addr) = a.add (i * 5 + j) := by
  rw [← add_add]
  have : ¬ j = 0 := by omega
  simp [Addr.add, this]
/-- The i-th series: its five cells, as the model's loads spell them. -/
theorem RdsSer.at_ {i : Nat} (h : RdsSer w B A n ps) (hi : i < n) : ∃ ad s A' n' c', A = some ad ∧ ad.block < B ∧ ps[i]? = some (s, .slice A' n' c') ∧ RdsS w B A' n' s.l ∧ n' ≤ c' ∧ c' ≤ maxLen ∧
    w.cell? (ad.add (i * 5)) = some (.int .i64 s.id) ∧ w.cell? ⟨(ad.add (i * 5)).block, (ad.add (i * 5)).off + 1, none⟩ = some (.bool s.sea) ∧ w.cell? ⟨(ad.add (i * 5)).block, (ad.add (i * 5)).off + 2, none⟩ = some (.bool s.any) ∧
    w.cell? ⟨(ad.add (i * 5)).block, (ad.add (i * 5)).off + 3, none⟩ = some (.int .i64 s.last) ∧ w.cell? ⟨(ad.add (i * 5)).block, (ad.add (i * 5)).off + 4, none⟩ = some (.slice A' n' c') := by
  obtain ⟨ad, r, e, hb, hr, hl, hc⟩ := h.1.at_ hi (by decide)
  rw [List.getElem?_map] at hr
  obtain ⟨⟨s, u⟩, hp, rfl⟩ := Option.map_eq_some_iff.1 hr
  obtain ⟨A', n', c', rfl, h1, h2, h3⟩ := h.2 _ (List.mem_of_getElem? hp)
  refine ⟨ad, s, A', n', c', e, hb, hp, h1, h2, h3, ?_, ?_, ?_, ?_, ?_⟩
  · exact hc 0 _ rfl
  · rw [add_cell5 _ _ _ (by decide)]; exact hc 1 _ rfl
  · rw [add_cell5 _ _ _ (by decide)]; exact hc 2 _ rfl
  · rw [add_cell5 _ _ _ (by decide)]; exact hc 3 _ rfl
  · rw [add_cell5 _ _ _ (by decide)]; exact hc 4 _ rfl
theorem RdsIte.at_ {i : Nat} (h : RdsIte w B A n qs) (hi : i < n) : ∃ ad s A' n' c', A = some ad ∧ ad.block < B ∧ qs[i]? = some (s, .slice A' n' c') ∧ RdsS w B A' n' s.rest ∧ n' ≤ c' ∧ c' ≤ maxLen ∧
    w.cell? (ad.add (i * 2)) = some (.int .i64 s.id) ∧ w.cell? ⟨(ad.add (i * 2)).block, (ad.add (i * 2)).off + 1, none⟩ = some (.slice A' n' c') := by
  obtain ⟨ad, r, e, hb, hr, hl, hc⟩ := h.1.at_ hi (by decide)
  rw [List.getElem?_map] at hr
  obtain ⟨⟨s, u⟩, hp, rfl⟩ := Option.map_eq_some_iff.1 hr
  obtain ⟨A', n', c', rfl, h1, h2, h3⟩ := h.2 _ (List.mem_of_getElem? hp)
  refine ⟨ad, s, A', n', c', e, hb, hp, h1, h2, h3, ?_, ?_⟩
  · exact hc 0 _ rfl
  · rw [add_one_cell]; exact hc 1 _ rfl
end

/-- A model that reads so: its three cells are those of 'm'. -/
def RdsM (w : World) (B : Nat) (A : Option Addr) (n c : Nat) (A2 : Option Addr) (n2 c2 : Nat) (m : ModN) : Prop :=
  ∃ (ps : List (SerN × Value)) (qs : List (IteN × Value)), ps.map (·.1) = m.ser ∧ qs.map (·.1) = m.ite ∧ RdsSer w B A n ps ∧ RdsIte w B A2 n2 qs ∧ n ≤ c ∧ c ≤ maxLen ∧ n2 ≤ c2 ∧ c2 ≤ maxLen
section
variable {w w' : World} {B B' n c n2 c2 : Nat} {A A2 : Option Addr} {m : ModN}
theorem RdsM.nil (w : World) (B : Nat) : RdsM w B none 0 0 none 0 0 .nil := ⟨[], [], rfl, rfl, RdsSer.nil _ _ _, RdsIte.nil _ _ _, Nat.le_refl _, Nat.zero_le _, Nat.le_refl _, Nat.zero_le _⟩
theorem RdsM.mod {S : Nat → Prop} (h : RdsM w B A n c A2 n2 c2 m) (hm : Mod S w w') (hB : B ≤ w.heap.size) (hS : ∀ j, j < B → ¬ S j) : RdsM w' B A n c A2 n2 c2 m := by
  obtain ⟨ps, qs, h1, h2, h3, h4, h5⟩ := h
  exact ⟨ps, qs, h1, h2, h3.mod hm hB hS, h4.mod hm hB hS, h5⟩
theorem RdsM.new (h : RdsM w B A n c A2 n2 c2 m) (hm : Mod (fun _ => False) w w') : RdsM w' w.heap.size A n c A2 n2 c2 m := by
  obtain ⟨ps, qs, h1, h2, h3, h4, h5⟩ := h
  exact ⟨ps, qs, h1, h2, h3.new hm, h4.new hm, h5⟩
theorem RdsM.fit (h : RdsM w B A n c A2 n2 c2 m) : RdsM w w.heap.size A n c A2 n2 c2 m := by
  obtain ⟨ps, qs, h1, h2, h3, h4, h5⟩ := h
  exact ⟨ps, qs, h1, h2, h3.fit, h4.fit, h5⟩
theorem RdsM.more (h : RdsM w B A n c A2 n2 c2 m) (hB : B ≤ B') : RdsM w B' A n c A2 n2 c2 m := by
  obtain ⟨ps, qs, h1, h2, h3, h4, h5⟩ := h
  exact ⟨ps, qs, h1, h2, h3.more hB, h4.more hB, h5⟩
end

/-- Two rows of the call's own whose elements have two types share no block. -/
theorem owns_apart {w : World} {B B' e e' K K' n n' : Nat} {v v' : Value} {xs xs' : List Value} (h : w.ownsRow B e K v n xs) (h' : w.ownsRow B' e' K' v' n' xs') (hne : e ≠ e') : ∀ k, v.ownBlock = some k → v'.ownBlock ≠ some k := by
  intro k hk hk'
  rcases h.2 with ⟨rfl, _⟩ | ⟨g, cap, cur, rfl, _, hg, _⟩
  · simp [Value.ownBlock] at hk
  rcases h'.2 with ⟨rfl, _⟩ | ⟨g', cap', cur', rfl, _, hg', _⟩
  · simp [Value.ownBlock] at hk'
  have e1 : g = k := by simpa [Value.ownBlock] using hk
  have e2 : g' = k := by simpa [Value.ownBlock] using hk'
  subst e1
  subst e2
  rw [hg] at hg'
  injection hg' with hg'
  injection hg' with _ ht
  exact hne ht
/-- Rows of the call's own, and each element's row, too. -/
def OwnSer (B : Nat) (w : World) (e : TypeId) (v : Value) (ps : List (SerN × Value)) : Prop := OwnK 5 B w e v (ps.map serC) ∧ ∀ p ∈ ps, OwnS B w p.2 p.1.l
def OwnIte (B : Nat) (w : World) (e : TypeId) (v : Value) (ps : List (IteN × Value)) : Prop := OwnK 2 B w e v (ps.map iteC) ∧ ∀ p ∈ ps, OwnS B w p.2 p.1.rest
section
variable {w w' : World} {B B' : Nat} {e : TypeId} {v : Value} {ps : List (SerN × Value)} {qs : List (IteN × Value)}
theorem OwnSer.nil (B : Nat) (w : World) (e : TypeId) : OwnSer B w e (.slice none 0 0) [] := ⟨OwnK.nil _ _ _ _, fun _ h => by cases h⟩
theorem OwnIte.nil (B : Nat) (w : World) (e : TypeId) : OwnIte B w e (.slice none 0 0) [] := ⟨OwnK.nil _ _ _ _, fun _ h => by cases h⟩
theorem OwnSer.mod (h : OwnSer B w e v ps) (hm : Mod (fun _ => False) w w') : OwnSer B w' e v ps := ⟨h.1.mod hm, fun p hp => (h.2 p hp).mod hm⟩
theorem OwnIte.mod (h : OwnIte B w e v qs) (hm : Mod (fun _ => False) w w') : OwnIte B w' e v qs := ⟨h.1.mod hm, fun p hp => (h.2 p hp).mod hm⟩
theorem OwnSer.modS {S : Nat → Prop} (h : OwnSer B w e v ps) (hm : Mod S w w') (hS : ∀ k, B ≤ k → ¬ S k) : OwnSer B w' e v ps := ⟨h.1.modS hm (fun k hk => hS k (h.1.block k hk).1), fun p hp => hm.owns (h.2 p hp) (fun k hk => hS k ((h.2 p hp).block k hk).1)⟩
theorem OwnIte.modS {S : Nat → Prop} (h : OwnIte B w e v qs) (hm : Mod S w w') (hS : ∀ k, B ≤ k → ¬ S k) : OwnIte B w' e v qs := ⟨h.1.modS hm (fun k hk => hS k (h.1.block k hk).1), fun p hp => hm.owns (h.2 p hp) (fun k hk => hS k ((h.2 p hp).block k hk).1)⟩
theorem OwnSer.mono (h : OwnSer B w e v ps) (hB : B' ≤ B) : OwnSer B' w e v ps := ⟨h.1.mono hB, fun p hp => (h.2 p hp).mono hB⟩
theorem OwnIte.mono (h : OwnIte B w e v qs) (hB : B' ≤ B) : OwnIte B' w e v qs := ⟨h.1.mono hB, fun p hp => (h.2 p hp).mono hB⟩
theorem OwnSer.form (h : OwnSer B w e v ps) : ∃ A c, v = .slice A ps.length c ∧ ps.length ≤ c ∧ c ≤ maxLen ∧ RdsSer w w.heap.size A ps.length ps := by
  obtain ⟨A, c, h1, _, h2, h3, h4⟩ := h.1.form
  rw [List.length_map] at h1 h2 h4
  exact ⟨A, c, h1, h2, h3, h4, fun p hp => SliS.of_own (h.2 p hp)⟩
theorem OwnIte.form (h : OwnIte B w e v qs) : ∃ A c, v = .slice A qs.length c ∧ qs.length ≤ c ∧ c ≤ maxLen ∧ RdsIte w w.heap.size A qs.length qs := by
  obtain ⟨A, c, h1, _, h2, h3, h4⟩ := h.1.form
  rw [List.length_map] at h1 h2 h4
  exact ⟨A, c, h1, h2, h3, h4, fun p hp => SliS.of_own (h.2 p hp)⟩
/-- A cell of the row's own is written: what the elements have stays, where their type is another. -/
theorem OwnSer.keep {g n c o : Nat} {u : Value} (h : OwnSer B w e (.slice (some ⟨g, 0, none⟩) n c) ps) (hne : e ≠ 31) : ∀ p ∈ ps, OwnS B (w.setCell ⟨g, o, none⟩ u) p.2 p.1.l := fun p hp =>
  ((Mod.refl (fun k => k = g) w).setCell (p := ⟨g, o, none⟩) (fun _ => rfl) u).owns (h.2 p hp) (fun k hk e' => owns_apart h.1.2 (h.2 p hp) hne k (by simp [Value.ownBlock, e']) hk)
theorem OwnIte.keep {g n c o : Nat} {u : Value} (h : OwnIte B w e (.slice (some ⟨g, 0, none⟩) n c) qs) (hne : e ≠ 31) : ∀ p ∈ qs, OwnS B (w.setCell ⟨g, o, none⟩ u) p.2 p.1.rest := fun p hp =>
  ((Mod.refl (fun k => k = g) w).setCell (p := ⟨g, o, none⟩) (fun _ => rfl) u).owns (h.2 p hp) (fun k hk e' => owns_apart h.1.2 (h.2 p hp) hne k (by simp [Value.ownBlock, e']) hk)
end
/-- A model of the call's own. -/
def OwnM (B : Nat) (w : World) (eS eI : TypeId) (v v2 : Value) (m : ModN) : Prop := ∃ (ps : List (SerN × Value)) (qs : List (IteN × Value)), ps.map (·.1) = m.ser ∧ qs.map (·.1) = m.ite ∧ OwnSer B w eS v ps ∧ OwnIte B w eI v2 qs
theorem OwnM.rds {B : Nat} {w : World} {eS eI : TypeId} {v v2 : Value} {m : ModN} (h : OwnM B w eS eI v v2 m) : ∃ A c A2 c2, v = .slice A m.ser.length c ∧ v2 = .slice A2 m.ite.length c2 ∧ RdsM w w.heap.size A m.ser.length c A2 m.ite.length c2 m := by
  obtain ⟨ps, qs, h1, h2, h3, h4⟩ := h
  obtain ⟨A, c, e1, k1, k2, k3⟩ := h3.form
  obtain ⟨A2, c2, e2, j1, j2, j3⟩ := h4.form
  have l1 : ps.length = m.ser.length := by rw [← h1, List.length_map]
  have l2 : qs.length = m.ite.length := by rw [← h2, List.length_map]
  rw [l1] at e1 k1 k3
  rw [l2] at e2 j1 j3
  exact ⟨A, c, A2, c2, e1, e2, ps, qs, h1, h2, k3, j3, k1, k2, j1, j2⟩
theorem OwnM.mod {B : Nat} {w w' : World} {eS eI : TypeId} {v v2 : Value} {m : ModN} (h : OwnM B w eS eI v v2 m) (hm : Mod (fun _ => False) w w') : OwnM B w' eS eI v v2 m := by
  obtain ⟨ps, qs, h1, h2, h3, h4⟩ := h
  exact ⟨ps, qs, h1, h2, h3.mod hm, h4.mod hm⟩
theorem OwnM.mono {B B' : Nat} {w : World} {eS eI : TypeId} {v v2 : Value} {m : ModN} (h : OwnM B w eS eI v v2 m) (hB : B' ≤ B) : OwnM B' w eS eI v v2 m := by
  obtain ⟨ps, qs, h1, h2, h3, h4⟩ := h
  exact ⟨ps, qs, h1, h2, h3.mono hB, h4.mono hB⟩
end Go.Proofs.Ytcoajldhhimmoaa

/- Slices of integers that came in. -/
namespace Go.Proofs.Ytcoajldhhimmoaa
open Go.RowKit

/-- The slice at A, n long, reads as zs in every world that is as w was below B. -/
def SeesI (k : IntKind) (w : World) (B : Nat) (A : Option Addr) (n : Nat) (zs : List Int) : Prop :=
  zs.length = n ∧ (0 < n → ∃ ad, A = some ad ∧ ad.block < B ∧ ∀ j u, zs[j]? = some u → w.cell? (ad.add j) = some (.int k u))
theorem addr_block (a : Addr) (j : Nat) : (a.add j).block = a.block := by unfold Addr.add; split <;> rfl
theorem SeesI.at_ {k : IntKind} {w w' : World} {B n i : Nat} {A : Option Addr} {zs : List Int} (h : SeesI k w B A n zs) (hi : i < n) (hB : B ≤ w.heap.size) {S : Nat → Prop} (hm : Mod S w w') (hS : ∀ j, j < B → ¬ S j) :
    ∃ ad x, A = some ad ∧ zs[i]? = some x ∧ w'.cell? (ad.add i) = some (.int k x) := by
  obtain ⟨ad, e, hb, hc⟩ := h.2 (by omega)
  have hl : i < zs.length := by have := h.1; omega
  refine ⟨ad, zs[i], e, List.getElem?_eq_getElem hl, ?_⟩
  rw [hm.cell (a := ad.add i) (by rw [addr_block]; omega) (by rw [addr_block]; exact hS _ hb)]
  exact hc i _ (List.getElem?_eq_getElem hl)

/-- What the row's step tells of a slice of integers that came in. -/
theorem seesI_of {k : IntKind} {w : World} {a : Option Addr} {len cap : Nat} {zs : List Int}
    (h : (a = none ∧ len = 0 ∧ cap = 0 ∧ zs = []) ∨
      ∃ x, a = some x ∧ len ≤ cap ∧ cap ≤ maxLen ∧ zs.length = cap ∧ (∀ i, i < zs.length → w.cell? (x.add i) = some (.int k (zs.getD i 0))) ∧ ∀ n ∈ zs, (Lit.int k n).wf = true) :
    SeesI k w w.heap.size a len (zs.take len) ∧ ∀ x ∈ zs.take len, (Lit.int k x).wf = true := by
  rcases h with ⟨rfl, rfl, rfl, rfl⟩ | ⟨x, rfl, hl, hm, hz, hc, hw⟩
  · exact ⟨⟨rfl, fun h => by omega⟩, fun x h => by simp at h⟩
  · refine ⟨⟨by rw [List.length_take]; omega, fun h0 => ⟨x, rfl, ?_, fun j u hu => ?_⟩⟩, fun y hy => hw y (List.mem_of_mem_take hy)⟩
    · have := World.block_lt_of_cell? w _ (hc 0 (by omega))
      rwa [addr_block] at this
    · rw [List.getElem?_take] at hu
      split at hu
      · have hj : j < zs.length := (List.getElem?_eq_some_iff.1 hu).1
        rw [hc j hj, List.getD_eq_getElem?_getD, hu]
        rfl
      · cases hu
end Go.Proofs.Ytcoajldhhimmoaa

/- The row's last step where of the world behind the call it is known that what was there is as it was. -/
namespace Go.Proofs.Ytcoajldhhimmoaa
open Go.RowKit Go.WideShapes Go.ChangeShapes
section
variable {H : Type} {enc : TypeId × Value → H} {P : Program}
theorem post_below {f : Func} {s : ChangeSpec} {apart fresh handsOn again : Bool} {W W' : World} {args : Array Value} {v : Value} {ds gs : List (DataW H)} {before pa pv : List MemPlace}
    (hW : DataW.Whole enc P f.params.toList s.vars apart W args.toList ds gs before)
    (hres : ∀ (b : Nat) (sp : Nat → Bool) (hd : Bool), DataW.TrodAll enc P W' b sp hd f.resultTypes.toList (v.resultList f.resultTypes.size) (s.fn H (ds ++ gs)).results [])
    (hargs : ∀ sp : Nat → Bool, (∀ p ∈ before, sp p.block = true) → DataW.TrodAll enc P W' 0 sp true f.params.toList args.toList (s.fn H (ds ++ gs)).args pa)
    (hvars : ∀ sp : Nat → Bool, (∀ p ∈ before, sp p.block = true) → DataW.TrodVars enc P W' sp s.vars (s.fn H (ds ++ gs)).vars pv)
    (hps : before = pa ++ pv) (hb : Below W.heap.size W W')
    (hok : ∀ (j : Nat) (t : TypeId) (r : Value), f.resultTypes[j]? = some t → (v.resultList f.resultTypes.size)[j]? = some r → Value.okWide P W' .any 0 t r) :
    s.post enc P f apart fresh handsOn again W args v W' := by
  have hlt : ∀ p ∈ before, p.block < W.heap.size := fun p hp => hW.lt p hp
  have hold : ∀ p ∈ before, (fun b => decide (b < W.heap.size)) p.block = true := fun p hp => by simpa using hlt p hp
  refine ⟨ds, gs, before, [], pa, pv, hW, hres _ _ _, hargs _ hold, hvars _ hold, World.keptBut_mono (fun p hp => ⟨hp, ?_⟩) (hb.frame (· ∈ before)), fun _ => ?_⟩
  · rw [hps, List.mem_append] at hp
    exact Or.inr hp
  · obtain ⟨_, _, _, _, _, hz, hn⟩ := hW
    refine ⟨hok, _, _, ([] ++ pa) ++ pv, ⟨[] ++ pa, pv, trodAll_append (hargs _ (fun _ _ => rfl)) (hres _ _ _), hvars _ (fun _ _ => rfl), rfl, ?_, ?_⟩, ?_⟩
    · intro b off hp
      have hin : MemPlace.cell b off ∈ before := by rw [hps]; simpa using hp
      rw [hb.frozen (hlt _ hin)]
      exact hz b off hin
    · intro ha
      have := hn ha
      rw [hps] at this
      simpa using this
    · intro p hp _
      rw [hps]
      simpa using hp
end
theorem below_of_mod {w w' : World} (h : Mod (fun _ => False) w w') : Below w.heap.size w w' := h.below (Nat.le_refl _) (fun _ h => h.elim)
end Go.Proofs.Ytcoajldhhimmoaa

/- Numbers of any length: the mathematics. -/
namespace Go.Proofs.Ytcoajldhhimmoaa

/-- The bytes of a number; the first argument bounds how many steps are taken. -/
def encF : Nat → Nat → List Nat
  | 0, u => [u]
  | f + 1, u => if u < 128 then [u] else (u % 128 + 128) :: encF f (u / 128)
def enc (u : Nat) : List Nat := encF u u
/-- What is read from the i-th byte on, acc behind. -/
def decF : Nat → Nat → List Nat → Nat × Nat
  | _, _, [] => (0, 0)
  | i, acc, x :: xs =>
    if 10 ≤ i then (0, 0)
    else if 128 ≤ x then decF (i + 1) (acc + (x - 128) * 2 ^ (7 * i)) xs
    else if (i = 9 ∧ 2 ≤ x) ∨ (x = 0 ∧ 0 < i) then (0, 0)
    else (acc + x * 2 ^ (7 * i), i + 1)
def dec (bs : List Nat) : Nat × Nat := decF 0 0 bs

/-- A number with a sign, without one; and back. -/
def zig (n : Int) : Int := if n < 0 then -2 * n - 1 else 2 * n
def zag (u : Int) : Int := if u % 2 = 1 then -(u / 2) - 1 else u / 2
theorem zig_fit {n : Int} (h1 : -9223372036854775808 ≤ n) (h2 : n ≤ 9223372036854775807) : 0 ≤ zig n ∧ zig n < 18446744073709551616 := by unfold zig; split <;> omega
end Go.Proofs.Ytcoajldhhimmoaa

/- Plain mathematics of runs: what bytes are told of a row of values; what bytes are read as; that one is the other's way back, and the only one. -/
namespace Go.Proofs.Ytcoajldhhimmoaa

/-- How many of the first are x. -/
def lead (x : Nat) : List Nat → Nat
  | [] => 0
  | y :: ys => if y = x then lead x ys + 1 else 0
/-- Encode; f is a bound. -/
def encRF : Nat → List Nat → List Nat
  | 0, _ => []
  | _ + 1, [] => []
  | f + 1, x :: xs => enc (lead x (x :: xs)) ++ (enc x ++ encRF f ((x :: xs).drop (lead x (x :: xs))))
def encR (u : List Nat) : List Nat := encRF u.length u
end Go.Proofs.Ytcoajldhhimmoaa

/- Plain mathematics of numbers of so many bits each in bytes: what is packed, and that it is read back; how many bits a number has. -/
namespace Go.Proofs.Ytcoajldhhimmoaa

/-- k bytes of a number, the greatest first. -/
def byts : Nat → Nat → List Nat
  | 0, _ => []
  | k + 1, N => byts k (N / 256) ++ [N % 256]
theorem byts_len (k : Nat) : ∀ N, (byts k N).length = k := by
  induction k with
  | zero => intro N; rfl
  | succ k ih => intro N; show (byts k (N / 256) ++ [N % 256]).length = _; rw [List.length_append, ih]; rfl
theorem byts_256 (k : Nat) : ∀ N, lt256 (byts k N) := by
  induction k with
  | zero => intro N; exact lt256_nil
  | succ k ih => intro N; exact lt256_snoc.2 ⟨ih _, Nat.mod_lt _ (by decide)⟩
theorem byts_val (k : Nat) : ∀ N, N < 2 ^ (8 * k) → val (byts k N) = N := by
  induction k with
  | zero =>
    intro N h
    have : N = 0 := by simpa using h
    subst this; rfl
  | succ k ih =>
    intro N h
    show val (byts k (N / 256) ++ [N % 256]) = N
    rw [val_snoc, ih (N / 256) (by
      rw [show 8 * (k + 1) = 8 * k + 8 by omega, Nat.pow_add] at h
      exact Nat.div_lt_of_lt_mul (by omega))]
    omega
/-- The bytes of L bits, the last one filled with 0s. -/
def packB (N L : Nat) : List Nat := byts ((L + 7) / 8) (N * 2 ^ (8 * ((L + 7) / 8) - L))
theorem packB_len (N L : Nat) : (packB N L).length = (L + 7) / 8 := byts_len _ _
theorem packB_256 (N L : Nat) : lt256 (packB N L) := byts_256 _ _
theorem packB_val {N L : Nat} (h : N < 2 ^ L) : val (packB N L) = N * 2 ^ (8 * ((L + 7) / 8) - L) := by
  unfold packB
  refine byts_val _ _ ?_
  have e : 8 * ((L + 7) / 8) = L + (8 * ((L + 7) / 8) - L) := by omega
  conv => rhs; rw [e, Nat.pow_add]
  exact Nat.mul_lt_mul_of_pos_right h (Nat.two_pow_pos _)
/-- What is packed has one form. -/
theorem packB_one {bs : List Nat} {N L free : Nat} (h : N < 2 ^ L) (hlt : lt256 bs) (hf : free < 8) (hl : L + free = 8 * bs.length) (hv : val bs = N * 2 ^ free) : bs = packB N L := by
  have e1 : bs.length = (L + 7) / 8 := by omega
  refine val_inj bs.length bs _ rfl (by rw [packB_len, e1]) hlt (packB_256 _ _) ?_
  rw [packB_val h, hv]
  congr 2
  omega

/-- Fields of one width. -/
def flds (w : Nat) (l : List Nat) : List (Nat × Nat) := l.map fun x => (x, w)
/-- The bytes of numbers of w bits each. -/
def packW (w : Nat) (l : List Nat) : List Nat := packB (fnum (flds w l)) (flen (flds w l))
theorem packW_one {bs : List Nat} {w free : Nat} {l : List Nat} (hlt : lt256 bs) (hf : free < 8) (hl : flen (flds w l) + free = 8 * bs.length) (hv : val bs = fnum (flds w l) * 2 ^ free) : bs = packW w l :=
  packB_one (fnum_lt _) hlt hf hl hv

/-- How many bits a number has. -/
def widF : Nat → Nat → Nat → Nat
  | 0, n, _ => n
  | f + 1, n, u => if u < 2 ^ n then n else widF f (n + 1) u
def wid (u : Nat) : Nat := widF 64 0 u
theorem take_succ_of {us : List Nat} {i x : Nat} (h : us[i]? = some x) : us.take (i + 1) = us.take i ++ [x] := by
  rw [List.take_add_one, h]; rfl
end Go.Proofs.Ytcoajldhhimmoaa

/- Plain mathematics of a frame of reference: values by their least; what is told, and that it is read back, and nothing else is. -/
namespace Go.Proofs.Ytcoajldhhimmoaa

/-- The least and the greatest. -/
def loV (v : List Nat) : Nat := v.foldl min (v.getD 0 0)
def hiV (v : List Nat) : Nat := v.foldl max (v.getD 0 0)
/-- Encode. -/
def widV (v : List Nat) : Nat := wid (hiV v - loV v)
def difV (v : List Nat) : List Nat := v.map fun x => x - loV v
def encP (v : List Nat) : List Nat := if v = [] then [] else enc (loV v) ++ (widV v :: packW (widV v) (difV v))
end Go.Proofs.Ytcoajldhhimmoaa

/- Plain mathematics of a dictionary: the values that are unlike, each value's place among them; what is told, and that it is read back, and nothing else is. -/
namespace Go.Proofs.Ytcoajldhhimmoaa

/-- The values that are unlike, in the order in which each comes first, behind those that are there. -/
def uniqF : List Nat → List Nat → List Nat
  | acc, [] => acc
  | acc, x :: xs => if x ∈ acc then uniqF acc xs else uniqF (acc ++ [x]) xs
def uniq (v : List Nat) : List Nat := uniqF [] v
/-- Where a value stands; as long as the row, where nowhere. -/
def plc (x : Nat) : List Nat → Nat
  | [] => 0
  | y :: ys => if y = x then 0 else plc x ys + 1
theorem plc_get {x : Nat} {l : List Nat} (h : x ∈ l) : l[plc x l]? = some x := by
  induction l with
  | nil => cases h
  | cons y ys ih =>
    unfold plc
    split
    · rename_i hy; subst hy; rfl
    · rename_i hy
      rcases List.mem_cons.1 h with rfl | h
      · exact absurd rfl hy
      · rw [List.getElem?_cons_succ]; exact ih h
theorem plc_first {x j : Nat} {l : List Nat} (h : j < plc x l) : l[j]? ≠ some x := by
  induction l generalizing j with
  | nil => exact absurd h (Nat.not_lt_zero _)
  | cons y ys ih =>
    unfold plc at h
    split at h
    · omega
    · rename_i hy
      cases j with
      | zero => rw [List.getElem?_cons_zero]; intro e; injection e with e; exact hy e
      | succ j => rw [List.getElem?_cons_succ]; exact ih (by omega)
/-- Where the j-th is the value and none ahead of it, it stands at j. -/
theorem plc_is {x j : Nat} {l : List Nat} (hj : l[j]? = some x) (hl : ∀ i, i < j → l[i]? ≠ some x) : plc x l = j := by
  rcases Nat.lt_trichotomy (plc x l) j with h | h | h
  · exact absurd (plc_get (List.mem_iff_getElem?.2 ⟨j, hj⟩)) (hl _ h)
  · exact h
  · exact absurd hj (plc_first h)
theorem plc_app {x : Nat} {l : List Nat} (h : x ∈ l) (t : List Nat) : plc x (l ++ t) = plc x l := by
  induction l with
  | nil => cases h
  | cons y ys ih =>
    show (if y = x then 0 else plc x (ys ++ t) + 1) = if y = x then 0 else plc x ys + 1
    by_cases hy : y = x
    · rw [if_pos hy, if_pos hy]
    · rw [if_neg hy, if_neg hy]
      rcases List.mem_cons.1 h with rfl | h
      · exact absurd rfl hy
      · rw [ih h]
/-- Numbers one behind the other. -/
def encV : List Nat → List Nat
  | [] => []
  | x :: xs => enc x ++ encV xs
/-- Encode. -/
def atD (v : List Nat) : List Nat := v.map fun x => plc x (uniq v)
def encD (v : List Nat) : Option (List Nat) :=
  if 256 < (uniq v).length then none
  else if v = [] then some []
  else some (enc (uniq v).length ++ (encV (uniq v) ++ packW (wid ((uniq v).length - 1)) (atD v)))
end Go.Proofs.Ytcoajldhhimmoaa

/- Plain mathematics of sums of bytes: eight steps, the sum by a table, and that it is linear. -/
namespace Go.Proofs.Ytcoajldhhimmoaa

def poly : Nat := 2197175160
def stp (x : Nat) : Nat := if x % 2 = 1 then x / 2 ^^^ poly else x / 2
def stps : Nat → Nat → Nat
  | 0, x => x
  | k + 1, x => stp (stps k x)
def ent (x : Nat) : Nat := stps 8 x
def sumF (T : Nat → Nat) : Nat → List Nat → Nat
  | s, [] => s
  | s, b :: bs => sumF T (T (s % 256 ^^^ b) ^^^ s / 256) bs
def sumN (T : Nat → Nat) (bs : List Nat) : Nat := sumF T 4294967295 bs ^^^ 4294967295

def word : List Nat → Nat
  | [] => 0
  | b :: bs => b + 256 * word bs
end Go.Proofs.Ytcoajldhhimmoaa

/- Plain mathematics of bytes of which some were turned. -/
namespace Go.Proofs.Ytcoajldhhimmoaa

end Go.Proofs.Ytcoajldhhimmoaa

/- The entry of a byte, of the code and of the document's own answer. -/
namespace Go.Proofs.Ytcoajldhhimmoaa
open Go.RowKit

end Go.Proofs.Ytcoajldhhimmoaa

/- The table, of the code. -/
namespace Go.Proofs.Ytcoajldhhimmoaa
open Go.RowKit

/-- An array of 256 numbers. -/
def tabOf (T : Nat → Nat) : Array Value := ((List.range 256).map fun j => Value.int .u32 (T j : Int)).toArray
theorem tabOf_get (T : Nat → Nat) (i : Nat) (h : i < 256) : (tabOf T)[i]? = some (.int .u32 (T i : Int)) := by simp [tabOf, h]
theorem Blk.range {w : World} {g : Nat} {t : TypeId} {T : Nat → Nat} (h : Blk w g t (tabOf T)) : w.rangeAt g 0 (tabOf T).toList := by
  intro j v hv
  rw [Nat.zero_add, h.cell j]
  simpa using hv
theorem Blk.room {w : World} {g : Nat} {t : TypeId} {T : Nat → Nat} (h : Blk w g t (tabOf T)) : w.there g 0 256 := by
  intro j hj
  rw [Nat.zero_add, h.cell j, h.frozen j, tabOf_get _ _ hj]
  exact ⟨rfl, rfl⟩
end Go.Proofs.Ytcoajldhhimmoaa

/- The sum of bytes, of the code and of the document's own answer. -/
namespace Go.Proofs.Ytcoajldhhimmoaa
open Go.RowKit

end Go.Proofs.Ytcoajldhhimmoaa

/- vint: ends. -/
namespace Go.Proofs.Ytcoajldhhimmoaa
open Go.RowKit

end Go.Proofs.Ytcoajldhhimmoaa

/- Put, of the code and of the document's own answer. -/
namespace Go.Proofs.Ytcoajldhhimmoaa
open Go.RowKit

end Go.Proofs.Ytcoajldhhimmoaa

/- Zig and Zag, of the code and of the document's own answer. -/
namespace Go.Proofs.Ytcoajldhhimmoaa
open Go.RowKit

end Go.Proofs.Ytcoajldhhimmoaa

/- Rows of bytes: what their slices look like. -/
namespace Go.Proofs.Ytcoajldhhimmoaa
open Go.RowKit

theorem own_form8 {B : Nat} {w : World} {v : Value} {xs : List Nat} (h : Own B w 5 v (cells8 xs)) : ∃ A c, v = .slice A xs.length c ∧ xs.length ≤ c ∧ c ≤ maxLen ∧ Rds w w.heap.size A xs.length (cells8 xs) := by
  obtain ⟨A, c, e, _, hc, hm, hr⟩ := h.form
  rw [cells8_length] at e hr hc
  exact ⟨A, c, e, hc, hm, hr⟩
end Go.Proofs.Ytcoajldhhimmoaa

/- Get, of the code and of the document's own answer. -/
namespace Go.Proofs.Ytcoajldhhimmoaa
open Go.RowKit

end Go.Proofs.Ytcoajldhhimmoaa

/- Rows of values of 64 bits: as cells, of the call's own, one cell of such, one cell written; numbers of 64 bits that operations give. -/
namespace Go.Proofs.Ytcoajldhhimmoaa
open Go.RowKit

def cellsU (xs : List Nat) : List Value := xs.map fun (x : Nat) => Value.int .u64 (x : Int)
theorem cellsU_length (xs : List Nat) : (cellsU xs).length = xs.length := by simp [cellsU]
theorem cellsU_snoc (xs : List Nat) (x : Nat) : cellsU (xs ++ [x]) = cellsU xs ++ [.int .u64 (x : Int)] := by simp [cellsU]
theorem cellsU_get (xs : List Nat) (i : Nat) : (cellsU xs)[i]? = xs[i]?.map fun (x : Nat) => Value.int .u64 (x : Int) := by simp [cellsU]
theorem Rds.at2 {w w' : World} {B n i : Nat} {A : Option Addr} {zs : List Nat} (h : Rds w B A n (cellsU zs)) (hi : i < n) (hB : B ≤ w.heap.size) {S : Nat → Prop} (hm : Mod S w w') (hS : ∀ ad, A = some ad → ¬ S ad.block) :
    ∃ ad x, A = some ad ∧ zs[i]? = some x ∧ w'.cell? (ad.add i) = some (.int .u64 (x : Int)) := by
  obtain ⟨ad, u, e, hb, hu, hc⟩ := h.at_ hi
  rw [cellsU_get] at hu
  obtain ⟨x, hx, rfl⟩ := Option.map_eq_some_iff.1 hu
  refine ⟨ad, x, e, hx, ?_⟩
  rw [hm.cell (a := ad.add i) (by rw [add_block]; omega) (by rw [add_block]; exact hS _ e)]
  exact hc
theorem drop_at' {zs : List Nat} {i : Nat} {x : Nat} (h : zs[i]? = some x) : zs.drop i = x :: zs.drop (i + 1) := by
  rw [List.getElem?_eq_some_iff] at h
  obtain ⟨hi, rfl⟩ := h
  exact List.drop_eq_getElem_cons hi
theorem own_formU {B : Nat} {w : World} {v : Value} {xs : List Nat} (h : Own B w 29 v (cellsU xs)) : ∃ A c, v = .slice A xs.length c ∧ xs.length ≤ c ∧ Rds w w.heap.size A xs.length (cellsU xs) := by
  obtain ⟨A, c, e, _, hc, _, hr⟩ := h.form
  rw [cellsU_length] at e hr hc
  exact ⟨A, c, e, hc, hr⟩
/-- x[k] = b -/
theorem own_setU {B g nb cap k b : Nat} {w : World} {bs : List Nat} (h : Own B w 29 (.slice (some ⟨g, 0, none⟩) nb cap) (cellsU bs)) (hn : nb = bs.length) (hk : k < nb) :
    (∃ u, w.cell? ⟨g, k, none⟩ = some u) ∧ w.frozen? ⟨g, k, none⟩ = false ∧ Own B (w.setCell ⟨g, k, none⟩ (.int .u64 (b : Int))) 29 (.slice (some ⟨g, 0, none⟩) nb cap) (cellsU (bs.set k b)) := by
  have h' : w.ownsRow B 29 1 (.slice (some ⟨g, 0, none⟩) nb cap) nb (cellsU bs) := by
    have := h; unfold Own at this; rwa [cellsU_length, ← hn] at this
  refine ⟨⟨.int .u64 (bs[k]'(by omega)), ?_⟩, h'.frozenAt k, ?_⟩
  · rw [h'.cellAt k (by omega), cellsU_get, List.getElem?_eq_getElem (by omega)]
    rfl
  · have h2 := (h'.stored k (.int .u64 (b : Int))).1
    have e : (cellsU bs).set k (.int .u64 (b : Int)) = cellsU (bs.set k b) := by simp [cellsU, List.map_set]
    rw [e] at h2
    unfold Own
    rw [cellsU_length, List.length_set, ← hn]
    exact h2
theorem Own.rds {B : Nat} {w : World} {A : Option Addr} {n c : Nat} {xs : List Nat} (h : Own B w 29 (.slice A n c) (cellsU xs)) (hn : xs.length = n) : Rds w w.heap.size A n (cellsU xs) := by
  obtain ⟨A', c', e, _, hr⟩ := own_formU h
  injection e with e1 e2 e3
  subst e1 e2
  exact hr

end Go.Proofs.Ytcoajldhhimmoaa

/- Four numbers in a literal. -/
namespace Go.Proofs.Ytcoajldhhimmoaa
open Go.RowKit

/-- Four numbers in a literal. -/
def Nums4 (w : World) (lit : Nat) : Prop := lit < w.heap.size ∧ ∀ j, j < 4 → ∃ m : Int, FitI m ∧ w.cell? ⟨lit, j, none⟩ = some (.int .i64 m)
theorem Nums4.mod {w w' : World} {lit : Nat} (h : Nums4 w lit) (hm : Mod (fun _ => False) w w') : Nums4 w' lit := by
  refine ⟨Nat.lt_of_lt_of_le h.1 hm.size, fun j hj => ?_⟩
  obtain ⟨m, h1, h2⟩ := h.2 j hj
  exact ⟨m, h1, (hm.cell (a := ⟨lit, j, none⟩) h.1 (fun h => h)).trans h2⟩
end Go.Proofs.Ytcoajldhhimmoaa

/- The run that a row begins with: first. -/
namespace Go.Proofs.Ytcoajldhhimmoaa
open Go.RowKit

end Go.Proofs.Ytcoajldhhimmoaa

/- min and max as rules for whatever world; a bool that is answered; numbers shifted away. -/
namespace Go.Proofs.Ytcoajldhhimmoaa
open Go.RowKit

theorem minI_is {P : Program} {t ty : TypeId} {n1 n2 m : Int} (h : min n1 n2 = m) : ∀ w, (Builtin.min_ #[t, t] ty #[.int .i64 n1, .int .i64 n2]).run P w = .ok (.int .i64 m) w := by
  intro w
  have hx : (if n2 < n1 then n2 else n1) = m := by
    split <;> omega
  simp only [Builtin.min_, List.foldlM, Builtin.min2, Sem.run_bind, Sem.run_pure, Result.andThen_ok, hx]
theorem maxI_is {P : Program} {t ty : TypeId} {n1 n2 m : Int} (h : max n1 n2 = m) : ∀ w, (Builtin.max_ #[t, t] ty #[.int .i64 n1, .int .i64 n2]).run P w = .ok (.int .i64 m) w := by
  intro w
  have hx : (if n1 < n2 then n2 else n1) = m := by
    split <;> omega
  simp only [Builtin.max_, List.foldlM, Builtin.max2, Sem.run_bind, Sem.run_pure, Result.andThen_ok, hx]
end Go.Proofs.Ytcoajldhhimmoaa

/- A run is read: get; it is held against what was read: fits. -/
namespace Go.Proofs.Ytcoajldhhimmoaa
open Go.RowKit

end Go.Proofs.Ytcoajldhhimmoaa

/- Rows of words held beside each other; the statements' own rows of values. -/
namespace Go.Proofs.Ytcoajldhhimmoaa
open Go.RowKit

end Go.Proofs.Ytcoajldhhimmoaa

/- The kinds of words where their variable lies; may: whether the next numbers may stand in a word of a kind. -/
namespace Go.Proofs.Ytcoajldhhimmoaa
open Go.RowKit

/-- What the loop has seen. -/
def Seen (us : List Nat) (s j : Nat) : Prop := ∀ x ∈ us.take j, x < 2 ^ s
theorem Seen.more {us : List Nat} {s j x : Nat} (h : Seen us s j) (hx : us[j]? = some x) (hb : x < 2 ^ s) : Seen us s (j + 1) := by
  intro y hy
  rw [List.getElem?_eq_some_iff] at hx
  obtain ⟨hj, rfl⟩ := hx
  rw [List.take_succ_eq_append_getElem hj, List.mem_append, List.mem_singleton] at hy
  rcases hy with hy | rfl
  · exact h y hy
  · exact hb
end Go.Proofs.Ytcoajldhhimmoaa

/- The first kind that may be: first. -/
namespace Go.Proofs.Ytcoajldhhimmoaa
open Go.RowKit

end Go.Proofs.Ytcoajldhhimmoaa

/- A word is laid of numbers: pack. -/
namespace Go.Proofs.Ytcoajldhhimmoaa
open Go.RowKit

end Go.Proofs.Ytcoajldhhimmoaa

/- What a function answers that tells a row of values of 64 bits, or nil and false. -/
namespace Go.Proofs.Ytcoajldhhimmoaa
open Go.RowKit

/-- A row and true, or nil and false. -/
def EncE (w w' : World) (o : Option (List Nat)) (e : Ending) : Prop :=
  match o with
  | some ws => ∃ v, e = .returned (.tuple #[v, .bool true]) ∧ Own w.heap.size w' 29 v (cellsU ws) ∧ Mod (fun _ => False) w w'
  | none => e = .returned (.tuple #[.slice none 0 0, .bool false]) ∧ Mod (fun _ => False) w w'
theorem EncE.some_ {w w' : World} {o : Option (List Nat)} {ws : List Nat} {e : Ending} (h : EncE w w' o e) (ho : o = some ws) : ∃ v, e = .returned (.tuple #[v, .bool true]) ∧ Own w.heap.size w' 29 v (cellsU ws) ∧ Mod (fun _ => False) w w' := by
  rw [ho] at h
  exact h
theorem EncE.none_ {w w' : World} {o : Option (List Nat)} {e : Ending} (h : EncE w w' o e) (ho : o = none) : e = .returned (.tuple #[.slice none 0 0, .bool false]) ∧ Mod (fun _ => False) w w' := by
  rw [ho] at h
  exact h
/-- An answer as a row: none is nil. -/
theorem EncE.any {w w' : World} {o : Option (List Nat)} {e : Ending} (h : EncE w w' o e) : ∃ (A : Option Addr) (c : Nat), e = .returned (.tuple #[.slice A (o.getD []).length c, .bool o.isSome]) ∧ (o.getD []).length ≤ c ∧ Rds w' w'.heap.size A (o.getD []).length (cellsU (o.getD [])) ∧ Mod (fun _ => False) w w' := by
  cases o with
  | none =>
    obtain ⟨rfl, hm⟩ := h.none_ rfl
    exact ⟨none, 0, rfl, Nat.le_refl _, Rds.nil _ _ _, hm⟩
  | some ws =>
    obtain ⟨v, rfl, ho, hm⟩ := h.some_ rfl
    obtain ⟨A, c, rfl, hc, hr⟩ := own_formU ho
    exact ⟨A, c, rfl, hc, hr, hm⟩
end Go.Proofs.Ytcoajldhhimmoaa

/- Rows of small numbers are told: Encode. -/
namespace Go.Proofs.Ytcoajldhhimmoaa
open Go.RowKit

end Go.Proofs.Ytcoajldhhimmoaa

/- What a dictionary's map says of a list of values; a list of numbers read step by step; what the code and the document ask of bytes, in these words. -/
namespace Go.Proofs.Ytcoajldhhimmoaa
open Go.RowKit Go.Maps

/-- Block b is a map of at most n entries that says what D says. -/
def OMap (w : World) (b n : Nat) (D : DataW Unit) : Prop := w.ownsMap Try.prog 29 (plainElem Try.prog 29) b n D
theorem OMap.out {w : World} {b n : Nat} {D : DataW Unit} (h : OMap w b n D) : w.ownsMap Try.prog 29 (plainElem Try.prog 29) b n D := h
theorem OMap.lt {w : World} {b n : Nat} {D : DataW Unit} (h : OMap w b n D) : b < w.heap.size := World.ownsMap.lt h
theorem OMap.mod {S : Nat → Prop} {w w' : World} {b n : Nat} {D : DataW Unit} (h : OMap w b n D) (hm : Mod S w w') (hb : ¬ S b) : OMap w' b n D := by
  have hlt := h.lt
  obtain ⟨es, clock, h1, h2⟩ := h
  exact ⟨es, clock, (hm.block b hlt hb).trans h1, h2⟩
theorem OMap.mono {w : World} {b n n' : Nat} {D : DataW Unit} (h : OMap w b n D) (hn : n ≤ n') : OMap w b n' D := World.ownsMap.mono h hn
theorem OMap.made (w : World) : OMap (w.alloc (.map #[] 0)) w.heap.size 0 (.map []) := World.ownsMap_made _ _ _ _
/-- The map says of each value on the list where it stands, and of no other. -/
def Plcs (D : DataW Unit) (l : List Nat) : Prop := IsMap D ∧ (∀ x : Nat, Maps.has D (.int .u64 (x : Int)) = decide (x ∈ l)) ∧ ∀ x : Nat, x ∈ l → D.atKey (.int .u64 (x : Int)) (.lit (.int .u64 0)) = .lit (.int .u64 (plc x l : Int))
theorem Plcs.nil : Plcs (.map []) [] := ⟨isMap_empty, (fun _ => rfl), fun _ h => by cases h⟩
theorem Plcs.put {D : DataW Unit} {l : List Nat} {x : Nat} (h : Plcs D l) (hx : x ∉ l) : Plcs (D.put (.int .u64 (x : Int)) (.lit (.int .u64 (l.length : Int)))) (l ++ [x]) := by
  obtain ⟨h1, h2, h3⟩ := h
  have hk : WideAt.IsKeyLit (.int .u64 (x : Int)) := trivial
  have hne : ∀ y : Nat, y ≠ x → Lit.int .u64 (y : Int) ≠ Lit.int .u64 (x : Int) := fun y hy e => by
    injection e with _ e
    exact hy (by omega)
  refine ⟨h1.put _ _, fun y => ?_, fun y hy => ?_⟩
  · by_cases e : y = x
    · subst e
      rw [has_put_same h1 hk, decide_eq_true (by simp)]
    · rw [has_put_other (hne y e), h2 y]
      simp [e]
  · by_cases e : y = x
    · subst e
      rw [atKey_put_same h1 hk]
      have e2 : plc y (l ++ [y]) = l.length := by
        refine plc_is (by simp) fun i hi => ?_
        rw [List.getElem?_append_left hi]
        intro e3
        exact hx (List.mem_of_getElem? e3)
      rw [e2]
    · have hy' : y ∈ l := by
        rcases List.mem_append.1 hy with hy | hy
        · exact hy
        · exact absurd (List.mem_singleton.1 hy) e
      rw [atKey_put_other (hne y e), h3 y hy', plc_app hy']
/-- What a look-up tells. -/
theorem Plcs.look {D : DataW Unit} {l : List Nat} {x : Nat} {c : Int} (h : Plcs D l) (hx : x ∈ l) (hc : D.atKey (.int .u64 (x : Int)) (.lit (.int .u64 0)) = .lit (.int .u64 c)) : c = (plc x l : Int) := by
  rw [h.2.2 x hx] at hc
  injection hc with hc
  injection hc with _ hc
  exact hc.symm
/-- A row of bytes and true, or nil and false. -/
def EncB (w w' : World) (o : Option (List Nat)) (e : Ending) : Prop :=
  match o with
  | some bs => ∃ v, e = .returned (.tuple #[v, .bool true]) ∧ Own w.heap.size w' 5 v (cells8 bs) ∧ Mod (fun _ => False) w w'
  | none => e = .returned (.tuple #[.slice none 0 0, .bool false]) ∧ Mod (fun _ => False) w w'
theorem EncB.some_ {w w' : World} {o : Option (List Nat)} {bs : List Nat} {e : Ending} (h : EncB w w' o e) (ho : o = some bs) : ∃ v, e = .returned (.tuple #[v, .bool true]) ∧ Own w.heap.size w' 5 v (cells8 bs) ∧ Mod (fun _ => False) w w' := by
  rw [ho] at h
  exact h
theorem EncB.none_ {w w' : World} {o : Option (List Nat)} {e : Ending} (h : EncB w w' o e) (ho : o = none) : e = .returned (.tuple #[.slice none 0 0, .bool false]) ∧ Mod (fun _ => False) w w' := by
  rw [ho] at h
  exact h
/-- An answer as a row: none is nil. -/
theorem EncB.any {w w' : World} {o : Option (List Nat)} {e : Ending} (h : EncB w w' o e) : ∃ (A : Option Addr) (c : Nat), e = .returned (.tuple #[.slice A (o.getD []).length c, .bool o.isSome]) ∧ (o.getD []).length ≤ c ∧ c ≤ maxLen ∧ Rds w' w'.heap.size A (o.getD []).length (cells8 (o.getD [])) ∧ Mod (fun _ => False) w w' := by
  cases o with
  | none =>
    obtain ⟨rfl, hm⟩ := h.none_ rfl
    exact ⟨none, 0, rfl, Nat.le_refl _, Nat.zero_le _, Rds.nil _ _ _, hm⟩
  | some ws =>
    obtain ⟨v, rfl, ho, hm⟩ := h.some_ rfl
    obtain ⟨A, c, rfl, hc, hcm, hr⟩ := own_form8 ho
    exact ⟨A, c, rfl, hc, hcm, hr, hm⟩
end Go.Proofs.Ytcoajldhhimmoaa

/- How many bits a number has: math/bits.Len64 and the document's width tell wid. -/
namespace Go.Proofs.Ytcoajldhhimmoaa
open Go.RowKit

end Go.Proofs.Ytcoajldhhimmoaa

/- A dictionary's list: how many bits a place has; the values that are unlike, and where each stands. -/
namespace Go.Proofs.Ytcoajldhhimmoaa
open Go.RowKit Go.Maps

end Go.Proofs.Ytcoajldhhimmoaa

/- A row of values is told by its runs: Encode. -/
namespace Go.Proofs.Ytcoajldhhimmoaa
open Go.RowKit

end Go.Proofs.Ytcoajldhhimmoaa

/- The least and the greatest of a row of values of 64 bits: slices.Min, slices.Max; min and max as rules for whatever world. -/
namespace Go.Proofs.Ytcoajldhhimmoaa
open Go.RowKit

end Go.Proofs.Ytcoajldhhimmoaa

/- The numbers of a word: unpack. -/
namespace Go.Proofs.Ytcoajldhhimmoaa
open Go.RowKit

end Go.Proofs.Ytcoajldhhimmoaa

/- Two rows of words compared, whatever they are: SameWords, slices.Equal. -/
namespace Go.Proofs.Ytcoajldhhimmoaa
open Go.RowKit

/-- The first i are alike. -/
def AlikeTo (xs ys : List Nat) (i : Nat) : Prop := ∀ j, j < i → xs[j]? = ys[j]?
theorem AlikeTo.more {xs ys : List Nat} {i x : Nat} (h : AlikeTo xs ys i) (hx : xs[i]? = some x) (hy : ys[i]? = some x) : AlikeTo xs ys (i + 1) := by
  intro j hj
  rcases Nat.lt_or_ge j i with h1 | h1
  · exact h j h1
  · obtain rfl : j = i := by omega
    rw [hx, hy]
theorem AlikeTo.all {xs ys : List Nat} {n : Nat} (h : AlikeTo xs ys n) (hx : xs.length = n) (hy : ys.length = n) : xs = ys := by
  apply List.ext_getElem?
  intro j
  rcases Nat.lt_or_ge j n with h1 | h1
  · exact h j h1
  · rw [List.getElem?_eq_none (by omega), List.getElem?_eq_none (by omega)]
end Go.Proofs.Ytcoajldhhimmoaa

/- Words are read: Decode. -/
namespace Go.Proofs.Ytcoajldhhimmoaa
open Go.RowKit

end Go.Proofs.Ytcoajldhhimmoaa

/- The list that bytes begin with: getList. -/
namespace Go.Proofs.Ytcoajldhhimmoaa
open Go.RowKit Go.Maps

end Go.Proofs.Ytcoajldhhimmoaa

/- slices.Repeat of a row of one value; bits.Mul where nothing goes over. -/
namespace Go.Proofs.Ytcoajldhhimmoaa
open Go.RowKit

end Go.Proofs.Ytcoajldhhimmoaa

/- Bytes are read as runs: Decode. -/
namespace Go.Proofs.Ytcoajldhhimmoaa
open Go.RowKit

end Go.Proofs.Ytcoajldhhimmoaa

/- append of one sample as a step of a region that draws its order. -/
namespace Go.Proofs.Ytcoajldhhimmoaa
open Go.RowKit

end Go.Proofs.Ytcoajldhhimmoaa

/- A whole element of a row of the call's own is written, cell by cell. -/
namespace Go.Proofs.Ytcoajldhhimmoaa
open Go.RowKit

section
variable {w : World} {B K g n cap i : Nat} {e : TypeId} {rows : List (List Value)} {r : List Value}
/-- A whole element is written, cell by cell: so far j of them. -/
def cellsTo (w : World) (g o : Nat) : Nat → List Value → World
  | _, [] => w
  | j, u :: us => cellsTo (w.setCell ⟨g, o + j, none⟩ u) g o (j + 1) us
theorem OwnK.cellsTo_ : ∀ (us : List Value) {w : World} {j : Nat} {rows : List (List Value)} {r : List Value}, OwnK K B w e (.slice (some ⟨g, 0, none⟩) n cap) rows → rows.length = n → rows[i]? = some r → j + us.length ≤ K → OwnK K B (cellsTo w g (i * K) j us) e (.slice (some ⟨g, 0, none⟩) n cap) (rows.set i (r.take j ++ us ++ r.drop (j + us.length)))
  | [], w, j, rows, r, h, hn, hr, _ => by
    obtain ⟨hi, er⟩ := List.getElem?_eq_some_iff.1 hr
    rw [List.append_nil, List.length_nil, Nat.add_zero, List.take_append_drop, ← er, List.set_getElem_self hi]
    exact h
  | u :: us, w, j, rows, r, h, hn, hr, hj => by
    rw [List.length_cons] at hj
    obtain ⟨_, _, h3⟩ := h.set_ hn hr (show j < K by omega) u
    have hrl : r.length = K := h.1 r (List.mem_of_getElem? hr)
    have hi := (List.getElem?_eq_some_iff.1 hr).1
    have h4 := OwnK.cellsTo_ us (j := j + 1) h3 (by rw [List.length_set]; exact hn) (r := r.set j u) (by rw [List.getElem?_set_self hi]) (by omega)
    rw [List.set_set] at h4
    have e1 : (r.set j u).take (j + 1) = r.take j ++ [u] := by
      rw [List.take_add_one, List.getElem?_set_self (by omega), List.take_set_of_le (Nat.le_refl _)]
      rfl
    have e2 : (r.set j u).drop (j + 1 + us.length) = r.drop (j + (us.length + 1)) := by
      rw [List.drop_set_of_lt (by omega)]
      congr 1
      omega
    rw [e1, e2] at h4
    rw [List.length_cons]
    have e3 : r.take j ++ u :: us ++ r.drop (j + (us.length + 1)) = r.take j ++ [u] ++ us ++ r.drop (j + (us.length + 1)) := by simp
    rw [e3]
    exact h4
/-- .. all of them. -/
theorem OwnK.whole {us : List Value} (h : OwnK K B w e (.slice (some ⟨g, 0, none⟩) n cap) rows) (hn : rows.length = n) (hr : rows[i]? = some r) (hu : us.length = K) : OwnK K B (cellsTo w g (i * K) 0 us) e (.slice (some ⟨g, 0, none⟩) n cap) (rows.set i us) := by
  have h1 := OwnK.cellsTo_ us (j := 0) h hn hr (by omega)
  have hrl : r.length = K := h.1 r (List.mem_of_getElem? hr)
  rw [List.take_zero, List.nil_append, Nat.zero_add, hu, List.drop_of_length_le (by omega), List.append_nil] at h1
  exact h1
theorem mod_cellsTo : ∀ (us : List Value) (w : World) (g o j : Nat), Mod (fun k => k = g) w (cellsTo w g o j us)
  | [], w, _, _, _ => Mod.refl _ w
  | u :: us, w, g, o, j => ((Mod.refl (fun k => k = g) w).setCell (p := ⟨g, o + j, none⟩) (fun _ => rfl) u).trans (mod_cellsTo us _ g o (j + 1)) (fun _ _ h => h)
end
end Go.Proofs.Ytcoajldhhimmoaa

/- Clocks in memory: rows of pages, seven cells each. -/
namespace Go.Proofs.Ytcoajldhhimmoaa
open Go.RowKit

def pagC (p : PagN) : List Value := [.int .i64 p.key.s, .int .i64 p.key.l, .int .i64 p.key.b, .int .i64 p.kind, .bool p.ref, .bool p.trial, .int .i64 p.pins]
/-- A row of pages reads so; a row of pages of the call's own. -/
def RdsP (w : World) (B : Nat) (A : Option Addr) (n : Nat) (ps : List PagN) : Prop := RdsK 7 w B A n (ps.map pagC)
def OwnP (B : Nat) (w : World) (e : TypeId) (v : Value) (ps : List PagN) : Prop := OwnK 7 B w e v (ps.map pagC)
theorem add_cellK (K : Nat) (a : Addr) (i j : Nat) (hj : 0 < j) : (⟨(a.add (i * K)).block, (a.add (i * K)).off + j, none⟩ : Addr) = a.add (i * K + j) := by
  rw [← add_add]
  have : ¬ j = 0 := by omega
  simp [Addr.add, this]
section
variable {w w' : World} {B B' n : Nat} {A : Option Addr} {e : TypeId} {v : Value} {ps : List PagN}
theorem RdsP.nil (w : World) (B : Nat) (A : Option Addr) : RdsP w B A 0 [] := RdsK.nil _ _ _ _
theorem RdsP.mod {S : Nat → Prop} (h : RdsP w B A n ps) (hm : Mod S w w') (hB : B ≤ w.heap.size) (hS : ∀ j, j < B → ¬ S j) : RdsP w' B A n ps := RdsK.mod h hm hB hS
theorem RdsP.new (h : RdsP w B A n ps) (hm : Mod (fun _ => False) w w') : RdsP w' w.heap.size A n ps := RdsK.new h hm
theorem RdsP.fit (h : RdsP w B A n ps) : RdsP w w.heap.size A n ps := RdsK.fit h
theorem RdsP.more (h : RdsP w B A n ps) (hB : B ≤ B') : RdsP w B' A n ps := RdsK.more h hB
theorem RdsP.len (h : RdsP w B A n ps) : ps.length = n := by have := h.1; rwa [List.length_map] at this
theorem RdsP.take {k : Nat} (h : RdsP w B A n ps) (hk : k ≤ n) : RdsP w B A k (ps.take k) := by unfold RdsP; rw [List.map_take]; exact RdsK.take h hk
theorem RdsP.drop {k c : Nat} (h : RdsP w B A n ps) (hk : k ≤ n) (hc : n ≤ c) : RdsP w B (if c = k then A else A.map (·.add (k * 7))) (n - k) (ps.drop k) := by unfold RdsP; rw [List.map_drop]; exact RdsK.drop h hk hc (by decide)
/-- The i-th page: its seven cells, as the model's loads spell them. -/
theorem RdsP.at_ {i : Nat} (h : RdsP w B A n ps) (hi : i < n) : ∃ ad p, A = some ad ∧ ad.block < B ∧ ps[i]? = some p ∧
    w.cell? (ad.add (i * 7)) = some (.int .i64 p.key.s) ∧ w.cell? ⟨(ad.add (i * 7)).block, (ad.add (i * 7)).off + 1, none⟩ = some (.int .i64 p.key.l) ∧ w.cell? ⟨(ad.add (i * 7)).block, (ad.add (i * 7)).off + 2, none⟩ = some (.int .i64 p.key.b) ∧
    w.cell? ⟨(ad.add (i * 7)).block, (ad.add (i * 7)).off + 3, none⟩ = some (.int .i64 p.kind) ∧ w.cell? ⟨(ad.add (i * 7)).block, (ad.add (i * 7)).off + 4, none⟩ = some (.bool p.ref) ∧
    w.cell? ⟨(ad.add (i * 7)).block, (ad.add (i * 7)).off + 5, none⟩ = some (.bool p.trial) ∧ w.cell? ⟨(ad.add (i * 7)).block, (ad.add (i * 7)).off + 6, none⟩ = some (.int .i64 p.pins) := by
  obtain ⟨ad, r, e, hb, hr, hl, hc⟩ := RdsK.at_ h hi (by decide)
  rw [List.getElem?_map] at hr
  obtain ⟨p, hp, rfl⟩ := Option.map_eq_some_iff.1 hr
  refine ⟨ad, p, e, hb, hp, hc 0 _ rfl, ?_, ?_, ?_, ?_, ?_, ?_⟩
  · rw [add_cellK 7 _ _ _ (by decide)]; exact hc 1 _ rfl
  · rw [add_cellK 7 _ _ _ (by decide)]; exact hc 2 _ rfl
  · rw [add_cellK 7 _ _ _ (by decide)]; exact hc 3 _ rfl
  · rw [add_cellK 7 _ _ _ (by decide)]; exact hc 4 _ rfl
  · rw [add_cellK 7 _ _ _ (by decide)]; exact hc 5 _ rfl
  · rw [add_cellK 7 _ _ _ (by decide)]; exact hc 6 _ rfl
theorem OwnP.nil (B : Nat) (w : World) (e : TypeId) : OwnP B w e (.slice none 0 0) [] := OwnK.nil _ _ _ _
theorem OwnP.mod (h : OwnP B w e v ps) (hm : Mod (fun _ => False) w w') : OwnP B w' e v ps := OwnK.mod h hm
theorem OwnP.modS {S : Nat → Prop} (h : OwnP B w e v ps) (hm : Mod S w w') (hS : ∀ k, B ≤ k → ¬ S k) : OwnP B w' e v ps := OwnK.modS h hm (fun k hk => hS k (OwnK.block h k hk).1)
theorem OwnP.mono (h : OwnP B w e v ps) (hB : B' ≤ B) : OwnP B' w e v ps := OwnK.mono h hB
theorem OwnP.form (h : OwnP B w e v ps) : ∃ A c, v = .slice A ps.length c ∧ ps.length ≤ c ∧ c ≤ maxLen ∧ RdsP w w.heap.size A ps.length ps := by
  obtain ⟨A, c, h1, _, h2, h3, h4⟩ := OwnK.form h
  rw [List.length_map] at h1 h2 h4
  exact ⟨A, c, h1, h2, h3, h4⟩
theorem OwnP.form' (h : OwnP B w e v ps) (hn : 0 < ps.length) : ∃ g cap, v = .slice (some ⟨g, 0, none⟩) ps.length cap ∧ ps.length ≤ cap ∧ cap ≤ maxLen ∧ B ≤ g ∧ g < w.heap.size := by
  have := OwnK.form' h (by rw [List.length_map]; exact hn)
  rwa [List.length_map] at this
/-- One cell of one page is written. -/
theorem OwnP.put_ {g n cap i j : Nat} {p q : PagN} {u : Value} (h : OwnP B w e (.slice (some ⟨g, 0, none⟩) n cap) ps) (hn : ps.length = n) (hp : ps[i]? = some p) (hj : j < 7) (hu : (pagC p).set j u = pagC q) :
    (∃ x, (pagC p)[j]? = some x ∧ w.cell? ⟨g, i * 7 + j, none⟩ = some x) ∧ w.frozen? ⟨g, i * 7 + j, none⟩ = false ∧ OwnP B (w.setCell ⟨g, i * 7 + j, none⟩ u) e (.slice (some ⟨g, 0, none⟩) n cap) (ps.set i q) := by
  have hr : (ps.map pagC)[i]? = some (pagC p) := by rw [List.getElem?_map, hp]; rfl
  obtain ⟨h1, h2, h3⟩ := OwnK.set_ h (by rw [List.length_map]; exact hn) hr hj u
  refine ⟨h1, h2, ?_⟩
  unfold OwnP
  rw [List.map_set, ← hu]
  exact h3
end
end Go.Proofs.Ytcoajldhhimmoaa

/- The clock that the document turns, in memory: a ring of seven cells, its pages, and who was put out. -/
namespace Go.Proofs.Ytcoajldhhimmoaa
open Go.RowKit

def keyC (k : KeyN) : List Value := [.int .i64 k.s, .int .i64 k.l, .int .i64 k.b]
def ringC (c : ClkN) (vp vo : Value) : Array Value := #[.int .i64 c.most, .int .i64 c.target, vp, .int .i64 c.hot, .int .i64 c.cold, .int .i64 c.test, vo]
/-- The ring's type, a page's and a name's are three. -/
structure RingT (t eP eK : TypeId) : Prop where
  p : eP ≠ t
  k : eK ≠ t
  pk : eP ≠ eK
/-- The ring lies at g; its pages and who was put out are rows of the call's own. -/
structure RingV (B g : Nat) (w : World) (t eP eK : TypeId) (c : ClkN) (out : List KeyN) (vp vo : Value) : Prop where
  blk : Blk w g t (ringC c vp vo)
  low : B ≤ g
  ps : OwnP B w eP vp c.ps
  out : OwnK 3 B w eK vo (out.map keyC)
  ty : RingT t eP eK
section
variable {B g : Nat} {w w' : World} {t eP eK : TypeId} {c c' : ClkN} {out : List KeyN} {vp vo : Value}
theorem mod_oneCell (w : World) (g i : Nat) (u : Value) : Mod (fun k => k = g) w (w.setCell ⟨g, i, none⟩ u) := (Mod.refl (fun k => k = g) w).setCell (p := ⟨g, i, none⟩) (fun _ => rfl) u
theorem RingV.ps_ne (h : RingV B g w t eP eK c out vp vo) : vp.ownBlock ≠ some g := own_blk_ne h.ps.2 h.blk h.ty.p
theorem RingV.out_ne (h : RingV B g w t eP eK c out vp vo) : vo.ownBlock ≠ some g := own_blk_ne h.out.2 h.blk h.ty.k
theorem RingV.apart (h : RingV B g w t eP eK c out vp vo) : ∀ k, vp.ownBlock = some k → vo.ownBlock ≠ some k := owns_apart h.ps.2 h.out.2 h.ty.pk
theorem RingV.new (h : RingV B g w t eP eK c out vp vo) (hm : Mod (fun _ => False) w w') : RingV B g w' t eP eK c out vp vo :=
  ⟨hm.blk h.blk id, h.low, h.ps.mod hm, h.out.mod hm, h.ty⟩
theorem RingV.modS {S : Nat → Prop} (h : RingV B g w t eP eK c out vp vo) (hm : Mod S w w') (hS : ∀ k, B ≤ k → ¬ S k) : RingV B g w' t eP eK c out vp vo :=
  ⟨hm.blk h.blk (hS g h.low), h.low, h.ps.modS hm hS, h.out.modS hm (fun k hk => hS k (h.out.block k hk).1), h.ty⟩
theorem RingV.mono {B' : Nat} (h : RingV B g w t eP eK c out vp vo) (hB : B' ≤ B) : RingV B' g w t eP eK c out vp vo :=
  ⟨h.blk, by have := h.low; omega, h.ps.mono hB, h.out.mono hB, h.ty⟩
/-- One number of it is written. -/
theorem RingV.num (h : RingV B g w t eP eK c out vp vo) (i : Nat) (u : Value) (hc : (ringC c vp vo).setIfInBounds i u = ringC c' vp vo) (hp : c'.ps = c.ps) :
    w.frozen? ⟨g, i, none⟩ = false ∧ RingV B g (w.setCell ⟨g, i, none⟩ u) t eP eK c' out vp vo := by
  have hm : Mod (fun k => k = g) w (w.setCell ⟨g, i, none⟩ u) := mod_oneCell _ _ _ _
  refine ⟨h.blk.frozen i, ?_, h.low, ?_, ?_, h.ty⟩
  · rw [← hc]; exact h.blk.set_ i u
  · rw [hp]; exact OwnK.modS h.ps hm (fun k hk e => h.ps_ne (by rw [hk, e]))
  · exact OwnK.modS h.out hm (fun k hk e => h.out_ne (by rw [hk, e]))
/-- A page is written. -/
theorem RingV.page {pg n cap i : Nat} {p q : PagN} (h : RingV B g w t eP eK c out (.slice (some ⟨pg, 0, none⟩) n cap) vo) (hn : c.ps.length = n) (hp : c.ps[i]? = some p) :
    RingV B g (cellsTo w pg (i * 7) 0 (pagC q)) t eP eK { c with ps := c.ps.set i q } out (.slice (some ⟨pg, 0, none⟩) n cap) vo := by
  have hne : pg ≠ g := fun e => h.ps_ne (by simp [Value.ownBlock, e])
  have hm := mod_cellsTo (pagC q) w pg (i * 7) 0
  refine ⟨hm.blk h.blk (fun e => hne e.symm), h.low, ?_, OwnK.modS h.out hm (fun k hk e => h.apart pg (by simp [Value.ownBlock]) (by rw [hk, e])), h.ty⟩
  have := OwnK.whole (us := pagC q) (i := i) h.ps (by rw [List.length_map]; exact hn) (r := pagC p) (by rw [List.getElem?_map, hp]; rfl) rfl
  unfold OwnP
  rw [List.map_set]
  exact this
/-- One cell of a page is written. -/
theorem RingV.field {pg n cap i j : Nat} {p q : PagN} {u : Value} (h : RingV B g w t eP eK c out (.slice (some ⟨pg, 0, none⟩) n cap) vo) (hn : c.ps.length = n) (hp : c.ps[i]? = some p) (hj : j < 7) (hu : (pagC p).set j u = pagC q) :
    w.frozen? ⟨pg, i * 7 + j, none⟩ = false ∧ RingV B g (w.setCell ⟨pg, i * 7 + j, none⟩ u) t eP eK { c with ps := c.ps.set i q } out (.slice (some ⟨pg, 0, none⟩) n cap) vo := by
  have hne : pg ≠ g := fun e => h.ps_ne (by simp [Value.ownBlock, e])
  have hm : Mod (fun k => k = pg) w (w.setCell ⟨pg, i * 7 + j, none⟩ u) := mod_oneCell _ _ _ _
  obtain ⟨_, h2, h3⟩ := OwnP.put_ h.ps hn hp hj hu
  exact ⟨h2, hm.blk h.blk (fun e => hne e.symm), h.low, h3, OwnK.modS h.out hm (fun k hk e => h.apart pg (by simp [Value.ownBlock]) (by rw [hk, e])), h.ty⟩
/-- Another row of pages is its own from now on. -/
theorem RingV.rows {vp' : Value} {ps' : List PagN} (h : RingV B g w t eP eK c out vp vo) (hp : OwnP B w eP vp' ps') :
    w.frozen? ⟨g, 2, none⟩ = false ∧ RingV B g (w.setCell ⟨g, 2, none⟩ vp') t eP eK { c with ps := ps' } out vp' vo := by
  have hm : Mod (fun k => k = g) w (w.setCell ⟨g, 2, none⟩ vp') := mod_oneCell _ _ _ _
  refine ⟨h.blk.frozen 2, h.blk.set_ 2 vp', h.low, ?_, ?_, h.ty⟩
  · exact OwnK.modS hp hm (fun k hk e => own_blk_ne hp.2 h.blk h.ty.p (by rw [hk, e]))
  · exact OwnK.modS h.out hm (fun k hk e => h.out_ne (by rw [hk, e]))
end
end Go.Proofs.Ytcoajldhhimmoaa

/- A struct of six, of seven cells of the call's own, written whole. -/
namespace Go.Proofs.Ytcoajldhhimmoaa
open Go.RowKit

theorem Blk.six {w : World} {g : Nat} {t : TypeId} {c0 c1 c2 c3 c4 c5 : Value} (h : Blk w g t #[c0, c1, c2, c3, c4, c5]) (a b c d e f : Value) :
    ((((((w.setCell ⟨g, 0, none⟩ a).setCell ⟨g, 1, none⟩ b).setCell ⟨g, 2, none⟩ c).setCell ⟨g, 3, none⟩ d).setCell ⟨g, 4, none⟩ e).setCell ⟨g, 5, none⟩ f).cell? ⟨g, 0, none⟩ = some a ∧ ((((((w.setCell ⟨g, 0, none⟩ a).setCell ⟨g, 1, none⟩ b).setCell ⟨g, 2, none⟩ c).setCell ⟨g, 3, none⟩ d).setCell ⟨g, 4, none⟩ e).setCell ⟨g, 5, none⟩ f).cell? ⟨g, 1, none⟩ = some b ∧ ((((((w.setCell ⟨g, 0, none⟩ a).setCell ⟨g, 1, none⟩ b).setCell ⟨g, 2, none⟩ c).setCell ⟨g, 3, none⟩ d).setCell ⟨g, 4, none⟩ e).setCell ⟨g, 5, none⟩ f).cell? ⟨g, 2, none⟩ = some c ∧ ((((((w.setCell ⟨g, 0, none⟩ a).setCell ⟨g, 1, none⟩ b).setCell ⟨g, 2, none⟩ c).setCell ⟨g, 3, none⟩ d).setCell ⟨g, 4, none⟩ e).setCell ⟨g, 5, none⟩ f).cell? ⟨g, 3, none⟩ = some d ∧ ((((((w.setCell ⟨g, 0, none⟩ a).setCell ⟨g, 1, none⟩ b).setCell ⟨g, 2, none⟩ c).setCell ⟨g, 3, none⟩ d).setCell ⟨g, 4, none⟩ e).setCell ⟨g, 5, none⟩ f).cell? ⟨g, 4, none⟩ = some e ∧ ((((((w.setCell ⟨g, 0, none⟩ a).setCell ⟨g, 1, none⟩ b).setCell ⟨g, 2, none⟩ c).setCell ⟨g, 3, none⟩ d).setCell ⟨g, 4, none⟩ e).setCell ⟨g, 5, none⟩ f).cell? ⟨g, 5, none⟩ = some f ∧ Blk ((((((w.setCell ⟨g, 0, none⟩ a).setCell ⟨g, 1, none⟩ b).setCell ⟨g, 2, none⟩ c).setCell ⟨g, 3, none⟩ d).setCell ⟨g, 4, none⟩ e).setCell ⟨g, 5, none⟩ f) g t #[a, b, c, d, e, f] := by
  have h3 : Blk ((((((w.setCell ⟨g, 0, none⟩ a).setCell ⟨g, 1, none⟩ b).setCell ⟨g, 2, none⟩ c).setCell ⟨g, 3, none⟩ d).setCell ⟨g, 4, none⟩ e).setCell ⟨g, 5, none⟩ f) g t #[a, b, c, d, e, f] := by
    have := ((((((h.set_ 0 a).set_ 1 b).set_ 2 c).set_ 3 d).set_ 4 e).set_ 5 f)
    simpa using this
  refine ⟨?_, ?_, ?_, ?_, ?_, ?_, h3⟩
  · have := h3.cell 0; simpa using this
  · have := h3.cell 1; simpa using this
  · have := h3.cell 2; simpa using this
  · have := h3.cell 3; simpa using this
  · have := h3.cell 4; simpa using this
  · have := h3.cell 5; simpa using this
theorem Mod.six_one (w : World) (g : Nat) (a b c d e f : Value) : Mod (fun k => k = g) w ((((((w.setCell ⟨g, 0, none⟩ a).setCell ⟨g, 1, none⟩ b).setCell ⟨g, 2, none⟩ c).setCell ⟨g, 3, none⟩ d).setCell ⟨g, 4, none⟩ e).setCell ⟨g, 5, none⟩ f) :=
  (((((((Mod.refl (fun k => k = g) w).setCell (p := ⟨g, 0, none⟩) (fun _ => rfl) a).setCell (p := ⟨g, 1, none⟩) (fun _ => rfl) b).setCell (p := ⟨g, 2, none⟩) (fun _ => rfl) c).setCell (p := ⟨g, 3, none⟩) (fun _ => rfl) d).setCell (p := ⟨g, 4, none⟩) (fun _ => rfl) e).setCell (p := ⟨g, 5, none⟩) (fun _ => rfl) f)
theorem Mod.six_new {w w' : World} {g : Nat} (h : Mod (fun _ => False) w w') (hg : w.heap.size ≤ g) (a b c d e f : Value) : Mod (fun _ => False) w ((((((w'.setCell ⟨g, 0, none⟩ a).setCell ⟨g, 1, none⟩ b).setCell ⟨g, 2, none⟩ c).setCell ⟨g, 3, none⟩ d).setCell ⟨g, 4, none⟩ e).setCell ⟨g, 5, none⟩ f) :=
  h.trans (Mod.six_one w' g a b c d e f) (fun i hi e => by omega)
theorem Blk.seven {w : World} {g : Nat} {t : TypeId} {c0 c1 c2 c3 c4 c5 c6 : Value} (h : Blk w g t #[c0, c1, c2, c3, c4, c5, c6]) (a b c d e f q : Value) :
    (((((((w.setCell ⟨g, 0, none⟩ a).setCell ⟨g, 1, none⟩ b).setCell ⟨g, 2, none⟩ c).setCell ⟨g, 3, none⟩ d).setCell ⟨g, 4, none⟩ e).setCell ⟨g, 5, none⟩ f).setCell ⟨g, 6, none⟩ q).cell? ⟨g, 0, none⟩ = some a ∧ (((((((w.setCell ⟨g, 0, none⟩ a).setCell ⟨g, 1, none⟩ b).setCell ⟨g, 2, none⟩ c).setCell ⟨g, 3, none⟩ d).setCell ⟨g, 4, none⟩ e).setCell ⟨g, 5, none⟩ f).setCell ⟨g, 6, none⟩ q).cell? ⟨g, 1, none⟩ = some b ∧ (((((((w.setCell ⟨g, 0, none⟩ a).setCell ⟨g, 1, none⟩ b).setCell ⟨g, 2, none⟩ c).setCell ⟨g, 3, none⟩ d).setCell ⟨g, 4, none⟩ e).setCell ⟨g, 5, none⟩ f).setCell ⟨g, 6, none⟩ q).cell? ⟨g, 2, none⟩ = some c ∧ (((((((w.setCell ⟨g, 0, none⟩ a).setCell ⟨g, 1, none⟩ b).setCell ⟨g, 2, none⟩ c).setCell ⟨g, 3, none⟩ d).setCell ⟨g, 4, none⟩ e).setCell ⟨g, 5, none⟩ f).setCell ⟨g, 6, none⟩ q).cell? ⟨g, 3, none⟩ = some d ∧ (((((((w.setCell ⟨g, 0, none⟩ a).setCell ⟨g, 1, none⟩ b).setCell ⟨g, 2, none⟩ c).setCell ⟨g, 3, none⟩ d).setCell ⟨g, 4, none⟩ e).setCell ⟨g, 5, none⟩ f).setCell ⟨g, 6, none⟩ q).cell? ⟨g, 4, none⟩ = some e ∧ (((((((w.setCell ⟨g, 0, none⟩ a).setCell ⟨g, 1, none⟩ b).setCell ⟨g, 2, none⟩ c).setCell ⟨g, 3, none⟩ d).setCell ⟨g, 4, none⟩ e).setCell ⟨g, 5, none⟩ f).setCell ⟨g, 6, none⟩ q).cell? ⟨g, 5, none⟩ = some f ∧ (((((((w.setCell ⟨g, 0, none⟩ a).setCell ⟨g, 1, none⟩ b).setCell ⟨g, 2, none⟩ c).setCell ⟨g, 3, none⟩ d).setCell ⟨g, 4, none⟩ e).setCell ⟨g, 5, none⟩ f).setCell ⟨g, 6, none⟩ q).cell? ⟨g, 6, none⟩ = some q ∧ Blk (((((((w.setCell ⟨g, 0, none⟩ a).setCell ⟨g, 1, none⟩ b).setCell ⟨g, 2, none⟩ c).setCell ⟨g, 3, none⟩ d).setCell ⟨g, 4, none⟩ e).setCell ⟨g, 5, none⟩ f).setCell ⟨g, 6, none⟩ q) g t #[a, b, c, d, e, f, q] := by
  have h3 : Blk (((((((w.setCell ⟨g, 0, none⟩ a).setCell ⟨g, 1, none⟩ b).setCell ⟨g, 2, none⟩ c).setCell ⟨g, 3, none⟩ d).setCell ⟨g, 4, none⟩ e).setCell ⟨g, 5, none⟩ f).setCell ⟨g, 6, none⟩ q) g t #[a, b, c, d, e, f, q] := by
    have := (((((((h.set_ 0 a).set_ 1 b).set_ 2 c).set_ 3 d).set_ 4 e).set_ 5 f).set_ 6 q)
    simpa using this
  refine ⟨?_, ?_, ?_, ?_, ?_, ?_, ?_, h3⟩
  · have := h3.cell 0; simpa using this
  · have := h3.cell 1; simpa using this
  · have := h3.cell 2; simpa using this
  · have := h3.cell 3; simpa using this
  · have := h3.cell 4; simpa using this
  · have := h3.cell 5; simpa using this
  · have := h3.cell 6; simpa using this
theorem Mod.seven_one (w : World) (g : Nat) (a b c d e f q : Value) : Mod (fun k => k = g) w (((((((w.setCell ⟨g, 0, none⟩ a).setCell ⟨g, 1, none⟩ b).setCell ⟨g, 2, none⟩ c).setCell ⟨g, 3, none⟩ d).setCell ⟨g, 4, none⟩ e).setCell ⟨g, 5, none⟩ f).setCell ⟨g, 6, none⟩ q) :=
  ((((((((Mod.refl (fun k => k = g) w).setCell (p := ⟨g, 0, none⟩) (fun _ => rfl) a).setCell (p := ⟨g, 1, none⟩) (fun _ => rfl) b).setCell (p := ⟨g, 2, none⟩) (fun _ => rfl) c).setCell (p := ⟨g, 3, none⟩) (fun _ => rfl) d).setCell (p := ⟨g, 4, none⟩) (fun _ => rfl) e).setCell (p := ⟨g, 5, none⟩) (fun _ => rfl) f).setCell (p := ⟨g, 6, none⟩) (fun _ => rfl) q)
theorem Mod.seven_new {w w' : World} {g : Nat} (h : Mod (fun _ => False) w w') (hg : w.heap.size ≤ g) (a b c d e f q : Value) : Mod (fun _ => False) w (((((((w'.setCell ⟨g, 0, none⟩ a).setCell ⟨g, 1, none⟩ b).setCell ⟨g, 2, none⟩ c).setCell ⟨g, 3, none⟩ d).setCell ⟨g, 4, none⟩ e).setCell ⟨g, 5, none⟩ f).setCell ⟨g, 6, none⟩ q) :=
  h.trans (Mod.seven_one w' g a b c d e f q) (fun i hi e => by omega)
theorem Mod.three_at (w : World) (g : Nat) (a b c : Value) : Mod (fun k => k = g) w (((w.setCell ⟨g, 0, none⟩ a).setCell ⟨g, 1, none⟩ b).setCell ⟨g, 2, none⟩ c) :=
  (((Mod.refl (fun k => k = g) w).setCell (p := ⟨g, 0, none⟩) (fun _ => rfl) a).setCell (p := ⟨g, 1, none⟩) (fun _ => rfl) b).setCell (p := ⟨g, 2, none⟩) (fun _ => rfl) c
end Go.Proofs.Ytcoajldhhimmoaa

/- append of one element, with what else turns: only the row's own block. -/
namespace Go.Proofs.Ytcoajldhhimmoaa
open Go.RowKit
section
variable {P : Program} {w : World}
end
/-- Two rows of the call's own that share nothing. -/
def Twain (v u : Value) : Prop := ∀ k, v.ownBlock = some k → u.ownBlock ≠ some k
theorem Twain.symm {v u : Value} (h : Twain v u) : Twain u v := fun k hk e => h k e hk
theorem Twain.step {B : Nat} {w : World} {e : TypeId} {v v' u : Value} {xs : List Value} (h : Twain v u) (ho : Own B w e u xs) (hv : v'.ownBlock = v.ownBlock ∨ ∃ k, v'.ownBlock = some k ∧ w.heap.size ≤ k) : Twain v' u := by
  intro k hk e'
  rcases hv with h1 | ⟨j, h1, h2⟩
  · exact h k (by rw [← h1]; exact hk) e'
  · rw [h1] at hk
    injection hk with hk
    have := (ho.block k e').2
    omega
end Go.Proofs.Ytcoajldhhimmoaa
