/- Regions that draw their order, whose calls make memory and turn nothing that is read: one walk in the text's order, over a class of worlds. -/
import Derived.Deep.QuietTactic
import Derived.Deep.RegionHeld
import Derived.Deep.WholeRow
import Derived.BigQuiet
namespace Go.Proofs.Ytldjobaafambbaa
open Go.RowKit
section
variable {P : Program} {ops : Array Oper} {C S : World → Prop} {md : Region.Mode}

/-- A class of worlds serves where each of them meets S. -/
theorem wpAnyH_of_quiet {Q : Act → Prop} {Q' : Exit → Act → World → Prop} (hS : ∀ w, C w → S w) (hQ : ∀ a w, C w → Q a → Q' .normal a w) : ∀ (fuel : Nat) (listed : Array Bool) (a : Act) (w : World), C w →
    wpAnyQ P md ops C Q fuel listed a → wpAnyH P md ops Q' S fuel listed a w
  | 0, _, _, _, hw, h => ⟨h.1, hQ _ _ hw h.2⟩
  | fuel + 1, _, _, _, hw, h => ⟨fun h0 => hQ _ _ hw (h.1 h0), fun i hi => wpOp_of_qOp hw (fun a' w' hw' hk => ⟨hS _ hw', wpAnyH_of_quiet hS hQ fuel _ a' w' hw' hk⟩) (h.2 i hi)⟩
/-- From number k on in the text's order. -/
theorem wpAnyH_lex {Q' : Exit → Act → World → Prop} {fuel k : Nat} {listed : Array Bool} {a : Act} {w : World} {l : List Oper} (C : World → Prop) (hC : C w) (hS : ∀ w, C w → S w) (hs : Region.noSelect ops = true)
    (hl : ops.toList.drop k = l) (hf : l.length = fuel) (hB : Region.lexFrom md ops l.length k listed = true)
    (h : wpQuiet P ops C (fun a' => ∀ w', C w' → Q' .normal a' w') l a) : wpAnyH P md ops Q' S fuel listed a w := by
  subst hf hl
  refine wpAnyH_of_quiet hS (fun _ w' hw' h => h w' hw') _ _ _ _ hC (wpAnyQ_lex hs _ k listed a (fun j => ?_) hB h)
  rw [List.getElem?_drop, Array.getElem?_toList]

/-- A region whose operations are written out, at a class of worlds. -/
theorem wp_region_class {id : Nat} {Q : Exit → Act → World → Prop} {a : Act} {w : World} {l : List Oper} (C : World → Prop) (hm : P.follows .mixedOrders = true) (hB : Region.lexB .any l.toArray = true) (hC : C w.drew)
    (h : wpQuiet P l.toArray C (fun a' => ∀ w', C w' → Q .normal a' w') l a) : (Code.region id l.toArray true).wp P Q a w :=
  wp_region_quiet (C := C) hm hB hC (by simpa using h)

variable {Q : Act → Prop} {a : Act} {o : Oper} {rest : List Oper}
theorem quiet_call {f : FuncId} {args : Array Value} {v : Value} (hw : Region.wanted o (yielded ops a.tmps) = true) (he : ∀ w, (execOp a.eval o).run P w = .ok (.enter f args) w)
    (hc : ∀ w, C w → Calls P f args w fun e w' => e = .returned v ∧ C w') (h : wpQuiet P ops C Q rest (a.put o.dst v)) : wpQuiet P ops C Q (o :: rest) a := by
  unfold wpQuiet
  rw [if_pos hw]
  refine ⟨v, fun w hw' => ?_, h⟩
  unfold Oper.quietAt
  rw [he w]
  exact ⟨rfl, hc w hw'⟩
theorem quiet_value {v : Value} (hw : Region.wanted o (yielded ops a.tmps) = true) (he : ∀ w, C w → (execOp a.eval o).run P w = .ok (.value v) w) (h : wpQuiet P ops C Q rest (a.put o.dst v)) : wpQuiet P ops C Q (o :: rest) a := by
  unfold wpQuiet
  rw [if_pos hw]
  refine ⟨v, fun w hw' => ?_, h⟩
  unfold Oper.quietAt
  rw [he w hw']
  exact ⟨rfl, rfl⟩
theorem quiet_skip (hw : Region.wanted o (yielded ops a.tmps) = false) (h : wpQuiet P ops C Q rest (a.put o.dst undef)) : wpQuiet P ops C Q (o :: rest) a := by
  unfold wpQuiet
  rw [if_neg (by simp [hw])]
  exact h
theorem quiet_load_mid (hw : Region.wanted o (yielded ops a.tmps) = true) (ty : TypeId) (x : Operand) (ho : o.op = .load ty x)
    (b off : Nat) (hx : a.eval x = .pointer (some ⟨b, off, none⟩)) {cs : List Value} {d : TypeDesc} (hC : ∀ w, C w → w.rangeAt b off cs)
    (hu : P.underlying ty = some d) (hd : d.isRow = true) (hi : (P.info? ty).map (·.size) = some cs.length) (h : wpQuiet P ops C Q rest (a.put o.dst (.agg cs.toArray))) : wpQuiet P ops C Q (o :: rest) a :=
  quiet_value hw (fun w hw' => by
    unfold execOp
    simp only [ho, hx, Instr.loadAt, Instr.sureAddr, Sem.run_bind, Sem.run_pure, Result.andThen_ok, run_loadVar_mid w b off ty cs d (hC w hw') hu hd hi]) h
end
end Go.Proofs.Ytldjobaafambbaa
