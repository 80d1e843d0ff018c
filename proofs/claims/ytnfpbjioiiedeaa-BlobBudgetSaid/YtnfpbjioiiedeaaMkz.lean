/- A map whose keys are whole numbers: which value stands at which number. -/
import Derived.Test.YtnfpbjioiiedeaaHd
import Derived.Test.YtnfpbjioiiedeaaMv
import Derived.Test.YtnfpbjioiiedeaaFit
namespace Go.Proofs.Ytnfpbjioiiedeaa
open Go.RowKit Go.Maps

theorem lawZ : Keyed Try.prog 3 := int_keyed Try.underlying3
theorem wfZ {a : Int} (h : FitI a) : (Lit.int .i64 a).wf = true := by
  have := h.out
  have e1 : IntKind.i64.min = -9223372036854775808 := by decide
  have e2 : IntKind.i64.max = 9223372036854775807 := by decide
  simp [Lit.wf, e1, e2]
  omega
theorem keyZ {a : Int} (h : FitI a) : keyOf Try.prog 3 (.int .i64 a) = some (.int .i64 a) := keyOf_int_mk Try.underlying3 (wfZ h)
def MapZ (w : World) (b n : Nat) (g : Int → Option Value) (s : Nat) : Prop := ∃ f, MapV w Try.prog 3 b n f s ∧ ∀ k, FitI k → f (.int .i64 k) = g k
def setZ (g : Int → Option Value) (k : Int) (v : Option Value) : Int → Option Value := fun x => if x = k then v else g x
section
variable {w w' : World} {e t : TypeId} {b n s : Nat} {g : Int → Option Value} {k : Int}
theorem MapZ.lt (h : MapZ w b n g s) : b < w.heap.size := by obtain ⟨f, h1, _⟩ := h; exact h1.lt
theorem MapZ.size_le (h : MapZ w b n g s) : s ≤ n := by obtain ⟨f, h1, _⟩ := h; exact h1.size_le
theorem MapZ.mod {S : Nat → Prop} (h : MapZ w b n g s) (hm : Mod S w w') (hb : ¬ S b) : MapZ w' b n g s := by obtain ⟨f, h1, h2⟩ := h; exact ⟨f, h1.mod hm hb, h2⟩
theorem MapZ.more {n' : Nat} (h : MapZ w b n g s) (hn : n ≤ n') : MapZ w b n' g s := by obtain ⟨f, h1, h2⟩ := h; exact ⟨f, h1.more hn, h2⟩
theorem MapZ.made (w : World) : MapZ (w.alloc (.map #[] 0)) w.heap.size 0 (fun _ => none) 0 := ⟨_, MapV.made _ _ _, fun _ _ => rfl⟩
/-- A map's block is no block of cells. -/
theorem MapZ.not_cells (h : MapZ w b n g s) {t : TypeId} {cs : Array Value} : ¬ Blk w b t cs := by
  obtain ⟨f, ⟨D, ⟨es, clock, h1, _⟩, _⟩, _⟩ := h
  intro hb
  unfold Blk at hb
  rw [h1] at hb
  injection hb with hb
  cases hb
theorem MapZ.len_ (h : MapZ w b n g s) (ht : Try.prog.underlying t = some (.map 3 e)) (ty : TypeId) : (Builtin.len_ #[t] ty #[.map (some b)]).run Try.prog w = .ok (.int .i64 s) w := by obtain ⟨f, h1, _⟩ := h; exact h1.len_ ht ty
theorem MapZ.look (h : MapZ w b n g s) (ht : Try.prog.underlying t = some (.map 3 e)) {z : Value} (hz : (zeroValue e).run Try.prog w = .ok z w) (hk : FitI k) :
    (Instr.lookup t (.map (some b)) (.int .i64 k) false).run Try.prog w = .ok ((g k).getD z) w := by
  obtain ⟨f, h1, h2⟩ := h
  rw [h1.look lawZ ht hz (keyZ hk), h2 k hk]
theorem MapZ.look_ok (h : MapZ w b n g s) (ht : Try.prog.underlying t = some (.map 3 e)) {z : Value} (hz : (zeroValue e).run Try.prog w = .ok z w) (hk : FitI k) :
    (Instr.lookup t (.map (some b)) (.int .i64 k) true).run Try.prog w = .ok (.tuple #[(g k).getD z, .bool (g k).isSome]) w := by
  obtain ⟨f, h1, h2⟩ := h
  rw [h1.look_ok lawZ ht hz (keyZ hk), h2 k hk]
theorem MapZ.store (h : MapZ w b n g s) (ht : Try.prog.underlying t = some (.map 3 e)) (hn : n < maxLen) (hk : FitI k) (v : Value) :
    ∃ w', (Instr.mapUpdate t (.map (some b)) (.int .i64 k) v).run Try.prog w = .ok () w' ∧ MapZ w' b (n + 1) (setZ g k (some v)) (if (g k).isSome then s else s + 1) ∧ Mod (fun j => j = b) w w' := by
  obtain ⟨f, h1, h2⟩ := h
  obtain ⟨w', hrun, h3, h4⟩ := h1.store lawZ ht hn v (keyZ hk)
  rw [h2 k hk] at h3
  refine ⟨w', hrun, ⟨_, h3, fun x hx => ?_⟩, h4⟩
  unfold setZ
  by_cases hxk : x = k
  · rw [if_pos hxk, hxk, putL_same]
  · rw [if_neg hxk, putL_other _ _ (fun e => hxk (by injection e)), h2 x hx]
theorem MapZ.drop (h : MapZ w b n g s) (ht : Try.prog.underlying t = some (.map 3 e)) (hk : FitI k) (ty : TypeId) :
    ∃ w', (Builtin.delete_ #[t, 3] ty #[.map (some b), .int .i64 k]).run Try.prog w = .ok (.tuple #[]) w' ∧ MapZ w' b n (setZ g k none) (if (g k).isSome then s - 1 else s) ∧ Mod (fun j => j = b) w w' := by
  obtain ⟨f, h1, h2⟩ := h
  obtain ⟨w', hrun, h3, h4⟩ := h1.drop lawZ ht (keyZ hk) ty
  rw [h2 k hk] at h3
  refine ⟨w', hrun, ⟨_, h3, fun x hx => ?_⟩, h4⟩
  unfold setZ
  by_cases hxk : x = k
  · rw [if_pos hxk, hxk, putL_same]
  · rw [if_neg hxk, putL_other _ _ (fun e => hxk (by injection e)), h2 x hx]
end
end Go.Proofs.Ytnfpbjioiiedeaa
