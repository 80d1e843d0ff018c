/- append of one element, with what else turns: only the row's own block. -/
import Derived.Test.YtliaehfknppnaaaUw
namespace Go.Proofs.Ytliaehfknppnaaa
open Go.RowKit
section
variable {P : Program} {w : World}
theorem wpList_app1g {ops : Array Oper} {rest : List Oper} {o : Oper} {a : Act} {Q : Exit → Act → World → Prop} (hgd : o.guard = none) (s x : Operand) (t : TypeId)
    (ho : o.op = .call { callee := .builtin .append, args := #[s, x], argTypes := #[t, t] }) {e : TypeId} {z : Value} {bytes : Nat} (hE : Elt P t e z bytes)
    {B H : Nat} {v u : Value} {xs : List Value} {te : TypeId} (hs : a.eval s = v) (hown : Own B w e v xs) (hx : a.eval x = .slice (some ⟨H, 0, none⟩) 1 1) (hH : w.heap.size = H) (h1 : u.oneCell' = true)
    (hm : xs.length + 1 ≤ maxLen) (hb : (xs.length + 1) * bytes ≤ 140737488355328) (hB : B ≤ w.heap.size)
    (h : ∀ v' w', Hid (Own B w' e v' (xs ++ [u])) → Hid (Below B w w') → Hid (Mod (fun k => v.ownBlock = some k) w w' ∧ (v'.ownBlock = v.ownBlock ∨ ∃ k, v'.ownBlock = some k ∧ w.heap.size ≤ k)) → wpList P ops Q rest (a.put o.dst v') w') : wpList P ops Q (o :: rest) a (w.alloc (.cells #[u] te)) := by
  subst hH
  refine wpList_app hgd s x t ho hE hs (hown.alloc _) hx (Rds.lit w te #[u]) (by simpa using h1) hm hb (by simp; omega) ?_
  intro v' w' h2 h3 h4
  refine h v' w' h2 (((Below.refl B w).alloc hB _).trans h3) ⟨(((Mod.refl _ w).alloc _).grown h4.out.1 (fun k hk _ => hk)), ?_⟩
  rcases h4.out.2 with h5 | h5
  · exact .inl h5
  · exact .inr ⟨_, h5, by simp⟩
end
/-- Two rows of the call's own that share nothing. -/
def Twain (v u : Value) : Prop := ∀ k, v.ownBlock = some k → u.ownBlock ≠ some k
theorem Twain.symm {v u : Value} (h : Twain v u) : Twain u v := fun k hk e => h k e hk
theorem Twain.step {B : Nat} {w : World} {e : TypeId} {v v' u : Value} {xs : List Value} (h : Twain v u) (ho : Own B w e u xs) (hv : v'.ownBlock = v.ownBlock ∨ ∃ k, v'.ownBlock = some k ∧ w.heap.size ≤ k) : Twain v' u := by
  intro k hk e'
  rcases hv with h1 | ⟨j, h1, h2⟩
  · exact h k (by rw [← h1]; exact hk) e'
  · rw [h1] at hk
    injection hk with hk
    have := (ho.block k e').2
    omega
end Go.Proofs.Ytliaehfknppnaaa
