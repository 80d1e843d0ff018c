/- The texts Mkk, Mkv, one behind the other. -/
import Derived.Test.YtcoajldhhimmoaaMx1
import Derived.DeepKeys5
/- api.Key as a map's key: what it reads as. -/
namespace Go.Proofs.Ytcoajldhhimmoaa
open Go.RowKit

theorem key_keyed : Maps.Keyed Try.prog 28 := Maps.Keyed.of_law (deep_law_gate (by kernel_rfl) (by decide +kernel) (by decide +kernel) (by kernel_rfl) (by kernel_rfl))
def KeyFit (k : KeyN) : Prop := FitI k.s ∧ FitI k.l ∧ FitI k.b
def keyLit (k : KeyN) : Lit := .string (keyBytes [.int .i64 k.s, .int .i64 k.l, .int .i64 k.b])
theorem wf_i64 {a : Int} (h : FitI a) : (Lit.int .i64 a).wf = true := by
  have := h.out
  have e1 : IntKind.i64.min = -9223372036854775808 := by decide
  have e2 : IntKind.i64.max = 9223372036854775807 := by decide
  simp [Lit.wf, e1, e2]
  omega
theorem key_lit {k : KeyN} (h : KeyFit k) : keyOf Try.prog 28 (.agg #[.int .i64 k.s, .int .i64 k.l, .int .i64 k.b]) = some (keyLit k) := by
  obtain ⟨h1, h2, h3⟩ := h
  have w1 := wf_i64 h1
  have w2 := wf_i64 h2
  have w3 := wf_i64 h3
  have hu := Try.underlying28
  have hi := Try.underlying3
  have hk : Try.prog.keyType 28 = true := by kernel_rfl
  have hc : Try.prog.cellsOf 28 = 3 := by kernel_rfl
  have hc3 : Try.prog.cellsOf 3 = 1 := by kernel_rfl
  obtain ⟨n, hn⟩ : ∃ n, Try.prog.types.size = n + 1 := ⟨Try.prog.types.size - 1, by decide +kernel⟩
  unfold keyOf
  rw [hu]
  simp only [hk, Value.formed, hu, hc, hn]
  simp [Program.keyLits, Value.cells, hu, hi, hc, hc3, w1, w2, w3, keyLit]
end Go.Proofs.Ytcoajldhhimmoaa

/- A map whose keys are names of pages: which value stands at which name. -/
namespace Go.Proofs.Ytcoajldhhimmoaa
open Go.RowKit Go.Maps

theorem keyLit_inj {k j : KeyN} (hk : KeyFit k) (hj : KeyFit j) (e : keyLit k = keyLit j) : k = j := by
  have h := key_keyed.inj (key_lit hk) (by rw [e]; exact key_lit hj)
  obtain ⟨s, l, b⟩ := k
  obtain ⟨s2, l2, b2⟩ := j
  simpa using h
def MapK (w : World) (b n : Nat) (g : KeyN → Option Value) (s : Nat) : Prop := ∃ f, MapV w Try.prog 28 b n f s ∧ ∀ k, KeyFit k → f (keyLit k) = g k
def setK (g : KeyN → Option Value) (k : KeyN) (v : Option Value) : KeyN → Option Value := fun x => if x = k then v else g x
section
variable {w w' : World} {e t : TypeId} {b n s : Nat} {g : KeyN → Option Value} {k : KeyN}
theorem MapK.lt (h : MapK w b n g s) : b < w.heap.size := by obtain ⟨f, h1, _⟩ := h; exact h1.lt
theorem MapK.mod {S : Nat → Prop} (h : MapK w b n g s) (hm : Mod S w w') (hb : ¬ S b) : MapK w' b n g s := by obtain ⟨f, h1, h2⟩ := h; exact ⟨f, h1.mod hm hb, h2⟩
theorem MapK.more {n' : Nat} (h : MapK w b n g s) (hn : n ≤ n') : MapK w b n' g s := by obtain ⟨f, h1, h2⟩ := h; exact ⟨f, h1.more hn, h2⟩
theorem MapK.made (w : World) : MapK (w.alloc (.map #[] 0)) w.heap.size 0 (fun _ => none) 0 := ⟨_, MapV.made _ _ _, fun _ _ => rfl⟩
theorem MapK.len_ (h : MapK w b n g s) (ht : Try.prog.underlying t = some (.map 28 e)) (ty : TypeId) : (Builtin.len_ #[t] ty #[.map (some b)]).run Try.prog w = .ok (.int .i64 s) w := by obtain ⟨f, h1, _⟩ := h; exact h1.len_ ht ty
theorem MapK.look (h : MapK w b n g s) (ht : Try.prog.underlying t = some (.map 28 e)) {z : Value} (hz : (zeroValue e).run Try.prog w = .ok z w) (hk : KeyFit k) :
    (Instr.lookup t (.map (some b)) (.agg #[.int .i64 k.s, .int .i64 k.l, .int .i64 k.b]) false).run Try.prog w = .ok ((g k).getD z) w := by
  obtain ⟨f, h1, h2⟩ := h
  rw [h1.look key_keyed ht hz (key_lit hk), h2 k hk]
theorem MapK.store (h : MapK w b n g s) (ht : Try.prog.underlying t = some (.map 28 e)) (hn : n < maxLen) (hk : KeyFit k) (v : Value) :
    ∃ w', (Instr.mapUpdate t (.map (some b)) (.agg #[.int .i64 k.s, .int .i64 k.l, .int .i64 k.b]) v).run Try.prog w = .ok () w' ∧ MapK w' b (n + 1) (setK g k (some v)) (if (g k).isSome then s else s + 1) ∧ Mod (fun j => j = b) w w' := by
  obtain ⟨f, h1, h2⟩ := h
  obtain ⟨w', hrun, h3, h4⟩ := h1.store key_keyed ht hn v (key_lit hk)
  rw [h2 k hk] at h3
  refine ⟨w', hrun, ⟨_, h3, fun x hx => ?_⟩, h4⟩
  unfold setK
  by_cases hxk : x = k
  · rw [if_pos hxk, hxk, putL_same]
  · rw [if_neg hxk, putL_other _ _ (fun e => hxk (keyLit_inj hx hk e)), h2 x hx]
theorem MapK.drop (h : MapK w b n g s) (ht : Try.prog.underlying t = some (.map 28 e)) (hk : KeyFit k) (ty : TypeId) :
    ∃ w', (Builtin.delete_ #[t, 28] ty #[.map (some b), .agg #[.int .i64 k.s, .int .i64 k.l, .int .i64 k.b]]).run Try.prog w = .ok (.tuple #[]) w' ∧ MapK w' b n (setK g k none) (if (g k).isSome then s - 1 else s) ∧ Mod (fun j => j = b) w w' := by
  obtain ⟨f, h1, h2⟩ := h
  obtain ⟨w', hrun, h3, h4⟩ := h1.drop key_keyed ht (key_lit hk) ty
  rw [h2 k hk] at h3
  refine ⟨w', hrun, ⟨_, h3, fun x hx => ?_⟩, h4⟩
  unfold setK
  by_cases hxk : x = k
  · rw [if_pos hxk, hxk, putL_same]
  · rw [if_neg hxk, putL_other _ _ (fun e => hxk (keyLit_inj hx hk e)), h2 x hx]
end
end Go.Proofs.Ytcoajldhhimmoaa
