/- Rows in memory, for regions that draw their order: facts that are carried over whatever was done between. -/
import Derived.Test.YtldjobaafambbaaRow
namespace Go.Proofs.Ytldjobaafambbaa
open Go.RowKit

theorem below_alloc {B : Nat} {w0 W : World} (h : Below B w0 W) (hB : B ≤ w0.heap.size) (o : Obj) : Below B w0 (W.alloc o) := h.alloc (Nat.le_trans hB h.size) o
/-- Block H begins with these cells. -/
def Has (w : World) (H : Nat) (xs : List Value) : Prop := ∀ j u, xs[j]? = some u → w.cell? ⟨H, j, none⟩ = some u
theorem has_nil (w : World) (H : Nat) : Has w H [] := fun j u h => by simp at h
section
variable {w w' : World} {H B : Nat} {xs : List Value} {e : TypeId} {v v' : Value}
theorem has_lit {X : World} {cs : Array Value} (h : X.heap.size = H) : Has (X.alloc (.cells cs e)) H cs.toList := by
  subst h
  intro j u hu
  rw [(Blk.new X e cs).cell j]
  simpa using hu
theorem Has.drew (h : Has w H xs) : Has w.drew H xs := h
theorem Has.alloc (h : Has w H xs) (o : Obj) : Has (w.alloc o) H xs := fun j u hu => by
  have hc := h j u hu
  rw [World.cell?_alloc_lt w o _ (World.block_lt_of_cell? w _ hc)]
  exact hc
theorem Has.below (h : Has w H xs) (hb : Below w.heap.size w w') : Has w' H xs := fun j u hu => by
  have hc := h j u hu
  rw [hb.cell (p := ⟨H, j, none⟩) (World.block_lt_of_cell? w _ hc)]
  exact hc
/-- Behind an append onto another row. -/
theorem Has.far {row : Option Nat} (h : Has w H xs) (hg : w.grownBy w' row) (hne : row ≠ some H) : Has w' H xs := fun j u hu => hg.cell (h j u hu) (fun e => hne e.symm)
theorem Has.rds (h : Has w H xs) : Rds w w.heap.size (some ⟨H, 0, none⟩) xs.length xs := by
  refine Rds.fit (B := H + 1) ⟨rfl, fun _ => ⟨_, rfl, Nat.lt_succ_self _, fun j u hu => ?_⟩⟩
  rw [add_addr, Nat.zero_add]
  exact h j u hu
theorem Own.far {row : Option Nat} (h : Own B w e v xs) (hg : w.grownBy w' row) (hne : row ≠ v.ownBlock) : Own B w' e v xs :=
  World.ownsRow.kept h hg (Or.inr (fun e => hne e.symm))
/-- What is made now is another block than what is there. -/
theorem fresh_ne (h : Own B w e v xs) (hv : v'.ownBlock = some w.heap.size) : v'.ownBlock ≠ v.ownBlock := by
  rw [hv]
  intro e'
  have := (h.block _ e'.symm).2
  omega
end

theorem own_ne {H H' n cap : Nat} (h : H ≠ H') : (Value.slice (some ⟨H, 0, none⟩) n cap).ownBlock ≠ some H' := by
  simp [Value.ownBlock]
  exact h
theorem own_lit0 {B H : Nat} {X : World} {e : TypeId} (h : X.heap.size = H) (hB : B ≤ H) : Own B (X.alloc (.cells #[] e)) e (.slice (some ⟨H, 0, none⟩) 0 0) [] := by
  subst h
  exact (Own.lit X e #[] (Nat.zero_le _)).mono hB
section
variable {P : Program} {w : World}
/-- append(s, x..) where s has no room: a new row, and nothing else turns. -/
theorem run_grow {t ty e : TypeId} {z : Value} {bytes B2 n cap m c : Nat} {d : Addr} {xs news : List Value} {A : Option Addr} (hE : Elt P t e z bytes) (hd : ∀ j u, xs[j]? = some u → w.cell? (d.add j) = some u) (hn : xs.length = n) (hr : Rds w B2 A m news)
    (hg : cap < n + m) (hm0 : 0 < m) (hm : n + m ≤ maxLen) (hb : (n + m) * bytes ≤ 140737488355328) :
    ∃ c' w', (Builtin.append_ #[t, t] ty #[.slice (some d) n cap, .slice A m c]).run P w = .ok (.slice (some ⟨w.heap.size, 0, none⟩) (n + m) c') w' ∧ Own w.heap.size w' e (.slice (some ⟨w.heap.size, 0, none⟩) (n + m) c') (xs ++ news) ∧ Below w.heap.size w w' := by
  obtain ⟨ht, ⟨i, hi, hz, hsize, hby⟩, hzs⟩ := hE
  obtain ⟨ad, rfl, _, hc⟩ := hr.2 hm0
  have hrl := hr.1
  have hm' : n + m ≤ 9223372036854775807 := by unfold maxLen at hm; omega
  have hrun := run_append_grow (P := P) w t ty e i z ht hi hz d n cap xs (by rw [hsize]; omega) hd ad m c news (by rw [hsize]; omega) hc hg (by omega) (by rw [hby]; exact growslice_fits hg hb)
  have hge := grownCap_ge w (n + m) cap e
  have hcm := grownCap_le_maxLen w (n + m) cap e hm
  refine ⟨_, _, hrun, ?_, (Below.refl _ _).drew.alloc (by simp) _⟩
  unfold Own
  have hl : (xs ++ news).length = n + m := by rw [List.length_append, hn, hrl]
  rw [hl]
  refine ⟨by simp [hl], .inr ⟨w.heap.size, _, _, rfl, Nat.le_refl _, heap_alloc_new w.drew _, hge, hcm, ?_, ?_⟩⟩
  · simp only [Array.size_append, List.size_toArray, size_zeroCells, hzs, hn, hrl]
    omega
  · simp only [Array.toList_append]
    rw [Nat.mul_one, ← hl]
    exact List.take_left
theorem step_grow {ops : Array Oper} {o : Oper} {a : Act} {K : Act → World → Prop} {Q : Exit → Act → World → Prop} {E : Prop} (hgd : o.guard = none) (s x : Operand) (t : TypeId)
    (ho : o.op = .call { callee := .builtin .append, args := #[s, x], argTypes := #[t, t] }) {e : TypeId} {z : Value} {bytes : Nat} (hE : Elt P t e z bytes)
    {H n cap : Nat} {xs : List Value} (hs : a.eval s = .slice (some ⟨H, 0, none⟩) n cap) (hd : Has w H xs) (hn : xs.length = n) {B2 m c : Nat} {A : Option Addr} {news : List Value} (hx : a.eval x = .slice A m c) (hr : Rds w B2 A m news)
    (hg : cap < n + m) (hm0 : 0 < m) (hm : n + m ≤ maxLen) (hb : (n + m) * bytes ≤ 140737488355328)
    (h : ∀ v' w', Hid (Own w.heap.size w' e v' (xs ++ news)) → Hid (Below w.heap.size w w') → Hid (v'.ownBlock = some w.heap.size) → K (a.put o.dst v') w') : if Region.wanted o (yielded ops a.tmps) = true then Oper.wp P o a w K Q else E := by
  have hw : Region.wanted o (yielded ops a.tmps) = true := by simp [Region.wanted, hgd]
  rw [if_pos hw]
  obtain ⟨c', w', hrun, h2, h3⟩ := run_grow (ty := o.type) (c := c) hE (d := ⟨H, 0, none⟩) (fun j u hu => by rw [add_addr, Nat.zero_add]; exact hd j u hu) hn hr hg hm0 hm hb
  unfold Oper.wp execOp
  simp only [ho, resolve, invoke, builtin, Sem.run_bind, Sem.run_pure, Result.andThen_ok, List.map_toArray, List.map_cons, List.map_nil, hs, hx, hrun]
  exact h _ w' h2 h3 rfl
end
end Go.Proofs.Ytldjobaafambbaa
