/- The cache's calls by equations: what each comes to is named. -/
import Derived.Test.YtcoajldhhimmoaaMx1
import Derived.Test.YtcoajldhhimmoaaIcMx
import Derived.Test.YtcoajldhhimmoaaMx11
import Derived.Test.YtcoajldhhimmoaaIeMx
import Derived.Test.YtcoajldhhimmoaaIfMx
import Derived.Test.YtcoajldhhimmoaaIgMx
namespace Go.Proofs.Ytcoajldhhimmoaa
open Go.RowKit

/-- A call of the cache: it is c' now, and answers so. -/
def CacE (B g b N : Nat) (w : World) (c' : CacN) (ok : Bool) (e : Ending) (w' : World) : Prop := e = .returned (.bool ok) ∧ CacV B g b (N + 1) w' c' ∧ Mod (fun j => j = g ∨ j = b) w w'
section
variable {B g b N : Nat} {w : World} {c c' : CacN} {k : KeyN} {ok : Bool}
theorem call_put {l : List (Int × Nat)} {As : Option Addr} {ns cs : Nat} (e : putC c k l = (c', ok)) (h : CacV B g b N w c) (hk : KeyFit k) (hs : SliH 0 w (.slice As ns cs) l) (hns : ns ≤ 100000) (hN : N < 1000000) :
    Calls Try.prog 9 #[.pointer (some ⟨g, 0, none⟩), .agg #[.int .i64 k.s, .int .i64 k.l, .int .i64 k.b], .slice As ns cs] w (CacE B g b N w c' ok) := by
  refine (ccPut_any k As ns cs l w h hk hs hns hN).mono ?_
  rw [e]
  exact fun _ _ h => h
theorem call_pin (e : pinC c k = (c', ok)) (h : CacV B g b N w c) (hN : N < 1000000) :
    Calls Try.prog 15 #[.pointer (some ⟨g, 0, none⟩), .agg #[.int .i64 k.s, .int .i64 k.l, .int .i64 k.b]] w (CacE B g b N w c' ok) := by
  refine (ccPin_any k w h hN).mono ?_
  rw [e]
  exact fun _ _ h => ⟨h.1, h.2.1, h.2.2.mono (fun _ _ h => .inl h)⟩
theorem call_unpin (e : unpinC c k = (c', ok)) (h : CacV B g b N w c) (hN : N < 1000000) :
    Calls Try.prog 13 #[.pointer (some ⟨g, 0, none⟩), .agg #[.int .i64 k.s, .int .i64 k.l, .int .i64 k.b]] w (CacE B g b N w c' ok) := by
  refine (ccUnpin_any k w h hN).mono ?_
  rw [e]
  exact fun _ _ h => ⟨h.1, h.2.1, h.2.2.mono (fun _ _ h => .inl h)⟩
theorem call_drop (e : dropC c k = (c', ok)) (h : CacV B g b N w c) (hk : KeyFit k) :
    Calls Try.prog 18 #[.pointer (some ⟨g, 0, none⟩), .agg #[.int .i64 k.s, .int .i64 k.l, .int .i64 k.b]] w (CacE B g b N w c' ok) := by
  refine (ccDrop_any k w h hk).mono ?_
  rw [e]
  exact fun _ _ h => ⟨h.1, h.2.1.more (Nat.le_succ _), h.2.2⟩
theorem call_get {o : Option (List (Int × Nat))} (e : getC c k = (c', o)) (h : CacV B g b N w c) (hk : KeyFit k) :
    Calls Try.prog 10 #[.pointer (some ⟨g, 0, none⟩), .agg #[.int .i64 k.s, .int .i64 k.l, .int .i64 k.b]] w fun e w' => ∃ A n cp, e = .returned (.tuple #[.slice A n cp, .bool o.isSome]) ∧ Hid ((o.getD []).length = n) ∧ n ≤ cp ∧ cp ≤ maxLen ∧ OwnS w.heap.size w' (.slice A n cp) (o.getD []) ∧ Hid (∀ w2, Mod (fun j => (Value.slice A n cp).ownBlock = some j) w' w2 → CacV B g b N w2 c') ∧ Mod (fun j => j = g) w w' := by
  refine (ccGet_any k w h hk).mono ?_
  rw [e]
  rintro e w' ⟨v, rfl, h1, h2, h3⟩
  obtain ⟨A, n, cp, rfl, hn, hc1, hc2, _⟩ := h1.formN
  exact ⟨A, n, cp, rfl, hn, hc1, hc2, h1, Lib.hid h2, h3⟩
/-- The clock's pages, told. -/
theorem call_clock {n : Nat} (h : CacV B g b N w c) (hn : c.clk.ps.length = n) :
    Calls Try.prog 11 #[.pointer (some ⟨g, 0, none⟩)] w fun e w' => ∃ v0 v1 v3 v4 v5 A cp, e = .returned (.agg #[v0, v1, .slice A n cp, v3, v4, v5]) ∧ n ≤ cp ∧ cp ≤ maxLen ∧ Hid (OwnP w.heap.size w' 39 (.slice A n cp) c.clk.ps) ∧ Mod (fun _ => False) w w' := by
  subst hn
  refine (ccClock_any w h).mono ?_
  rintro e w' ⟨A, n, cp, rfl, h1, h2⟩
  obtain ⟨A', cp', e1, h3, h4, _⟩ := OwnP.form h1
  injection e1 with e1 e2 e3
  subst e1 e2 e3
  exact ⟨_, _, _, _, _, A, cp, rfl, h3, h4, Lib.hid h1, h2⟩
end
theorem field_pages (a b v x y z : Value) (w : World) : (Instr.field 36 (.agg #[a, b, v, x, y, z]) 2).run Try.prog w = .ok v w := by kernel_rfl
theorem put_eq_yes {c : CacN} {k : KeyN} {c2 : ClkN} {os : List KeyN} (l : List (Int × Nat)) (h : admitK c.clk k = (c2, os, true)) : putC c k l = (⟨c2, setC c.sam k l os⟩, true) := by unfold putC; rw [h]; rfl
theorem put_eq_no {c : CacN} {k : KeyN} {c2 : ClkN} {os : List KeyN} (l : List (Int × Nat)) (h : admitK c.clk k = (c2, os, false)) : putC c k l = (c, false) := by unfold putC; rw [h]; rfl
theorem pin_eq {c : CacN} {k : KeyN} {c2 : ClkN} {ok : Bool} (h : pinK c.clk k 1 = (c2, ok)) : pinC c k = (⟨c2, c.sam⟩, ok) := by unfold pinC; rw [h]
theorem unpin_eq_yes {c : CacN} {k : KeyN} {c2 : ClkN} {ok : Bool} (h : pinK c.clk k (-1) = (c2, ok)) (h1 : resAt c.clk k = true ∧ 0 < pinsC c.clk k) : unpinC c k = (⟨c2, c.sam⟩, true) := by unfold unpinC; rw [if_pos h1, h]
theorem unpin_eq_no {c : CacN} {k : KeyN} (h1 : ¬ (resAt c.clk k = true ∧ 0 < pinsC c.clk k)) : unpinC c k = (c, false) := by unfold unpinC; rw [if_neg h1]
theorem get_eq_yes {c : CacN} {k : KeyN} {c2 : ClkN} (h : touchK c.clk k = (c2, true)) : getC c k = (⟨c2, c.sam⟩, c.sam k) := by unfold getC; rw [h]; rfl
theorem get_eq_no {c : CacN} {k : KeyN} {c2 : ClkN} (h : touchK c.clk k = (c2, false)) : getC c k = (c, none) := by unfold getC; rw [h]; rfl
theorem drop_eq_no {c : CacN} {k : KeyN} (h1 : ¬ ((findK k c.clk.ps).isSome = true ∧ pinsC c.clk k = 0)) : dropC c k = (c, false) := by unfold dropC; rw [if_neg h1]
theorem drop_eq_yes {c : CacN} {k : KeyN} {c2 : ClkN} {ok : Bool} (h : dropK c.clk k = (c2, ok)) (h1 : (findK k c.clk.ps).isSome = true ∧ pinsC c.clk k = 0) : dropC c k = (⟨c2, fun x => if x = k then none else c.sam x⟩, true) := by unfold dropC; rw [if_pos h1, h]
/-- A row of one sample, just made. -/
theorem sli_one (w : World) (T : Int) (V : Nat) : SliH 0 (w.alloc (.cells #[.int .i64 T, .int .u64 (V : Int)] 31)) (.slice (some ⟨w.heap.size, 0, none⟩) 1 1) [(T, V)] :=
  ⟨_, 1, 1, rfl, rfl, Nat.le_refl _, by unfold maxLen; omega, fun _ => ⟨w.heap.size, 0, _, rfl, Nat.zero_le _, Blk.new _ _ _, fun j u hu => by
    match j, hu with
    | 0, hu => simpa [cellsS] using hu
    | 1, hu => simpa [cellsS] using hu
    | j + 2, hu => simp [cellsS] at hu⟩⟩
theorem sli_none (w : World) : SliH 0 w (.slice none 0 0) [] := SliH.nil _ _
theorem keyFit_lit (n : Int) (h0 : 0 ≤ n) (h1 : n ≤ 1000) : KeyFit ⟨0, 0, n⟩ := by
  have f0 : FitI 0 := ⟨by omega, by omega⟩
  have f1 : FitI n := ⟨by omega, by omega⟩
  exact ⟨f0, f0, f1⟩
end Go.Proofs.Ytcoajldhhimmoaa
