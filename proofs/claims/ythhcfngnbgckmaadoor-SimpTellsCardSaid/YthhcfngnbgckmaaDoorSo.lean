/- From the row's list to the kinds of words. -/
import Derived.Test.YthhcfngnbgckmaaDoorSk
import Derived.Lib.LaidTab
import Derived.ChangeSame
namespace Go.Proofs.YthhcfngnbgckmaaDoor
open Go.RowKit

/-- An array of structs of two integers, as a row lists it. -/
def pairData {H : Type} (ps : List (Int × Int)) : DataW H := .agg (ps.map fun p => .agg [.lit (.int .i64 p.1), .lit (.int .i64 p.2)])
theorem cells_of_pairs {H : Type} {enc : TypeId × Value → H} {P : Program} {w : World} {base : Nat} {sp : Nat → Bool} {held : Bool} {fuel : Nat} {t e : TypeId} {n : Nat} {cs : List Value} {ps : List (Int × Int)} {p : List MemPlace} {f0 f1 : Field}
    (ht : P.underlying t = some (.array n e)) (he : P.underlying e = some (.struct #[f0, f1])) (h0 : P.underlying f0.type = some (.int .i64)) (h1 : P.underlying f1.type = some (.int .i64)) (o0 : f0.offset = 0) (o1 : f1.offset = 1) (c0 : P.cellsOf f0.type = 1) (c1 : P.cellsOf f1.type = 1)
    (hce : P.cellsOf e = 2) (hct : P.cellsOf t = n * 2)
    (h : DataW.trod enc P w base sp held fuel t cs = some (pairData ps, p)) : ∀ i a b, ps[i]? = some (a, b) → cs[i * 2]? = some (.int .i64 a) ∧ cs[i * 2 + 1]? = some (.int .i64 b) := by
  cases fuel with
  | zero => simp [DataW.trod] at h
  | succ fuel =>
    simp only [DataW.trod, ht, hce, hct] at h
    split at h
    · rename_i hl
      obtain ⟨xs, hm, hx⟩ := Option.map_eq_some_iff.1 h
      have hxs : xs.map (·.1) = ps.map fun p => (DataW.agg [.lit (.int .i64 p.1), .lit (.int .i64 p.2)] : DataW H) := by
        have := congrArg Prod.fst hx
        simpa [pairData] using this
      have hxl : xs.length = n := by simpa using Lib.mapM_length hm
      intro i a b hi
      have hin : i < n := by
        have h2 := (List.getElem?_eq_some_iff.1 hi).1
        have h3 := congrArg List.length hxs
        simp at h3
        omega
      obtain ⟨y, hy, hf⟩ := Lib.mapM_at hm i i (by simp [hin])
      have hy1 : y.1 = .agg [.lit (.int .i64 a), .lit (.int .i64 b)] := by
        have h2 : (xs.map (·.1))[i]? = some y.1 := by simp [hy]
        rw [hxs, List.getElem?_map, hi] at h2
        simpa using h2.symm
      obtain ⟨y0, y1, m, hye, _, t0, t1⟩ := Go.ChangeShapes.trod_struct2 he hf
      obtain ⟨a', e0, hy0, _⟩ := DataW.trod_int h0 t0
      obtain ⟨b', e1, hy1', _⟩ := DataW.trod_int h1 t1
      have hagg : y.1 = .agg [y0.1, y1.1] := by rw [hye]
      rw [hy1, hy0, hy1'] at hagg
      simp only [DataW.agg.injEq, List.cons.injEq, DataW.lit.injEq, Lit.int.injEq, true_and, and_true] at hagg
      obtain ⟨rfl, rfl⟩ := hagg
      rw [o0, c0] at e0
      rw [o1, c1] at e1
      have g0 := congrArg (·[0]?) e0
      have g1 := congrArg (·[0]?) e1
      simp [List.getElem?_drop] at g0 g1
      exact ⟨g0, g1⟩
    · cases h
def kindP : List (Int × Int) := [(240, 0), (120, 0), (60, 1), (30, 2), (20, 3), (15, 4), (12, 5), (10, 6), (8, 7), (7, 8), (6, 10), (5, 12), (4, 15), (3, 20), (2, 30), (1, 60)]
theorem kindP_at : ∀ k : Fin 16, kindP[k.val]? = some ((numN k.val : Int), (bitN k.val : Int)) := by decide
theorem kin_of_laid {W : World} {rest : List (String × DataW Unit)} (h : laidMet Tryd.prog (("ephemeris/simp.kinds", pairData kindP) :: rest) W) : Kin W := by
  obtain ⟨ps, ⟨g', t', cs, fuel, p, q, hg', ht', hvar, hd, _, _⟩, _⟩ := h
  obtain rfl := Option.some.inj ((show Tryd.prog.globalNamed "ephemeris/simp.kinds" = some 0 by kernel_rfl).symm.trans hg')
  obtain rfl := Option.some.inj ((show (Tryd.prog.globals[0]?).map (·.type) = some 39 by kernel_rfl).symm.trans ht')
  have hc := cells_of_pairs Tryd.underlying39 Tryd.underlying38 Tryd.underlying3 Tryd.underlying3 rfl rfl (by kernel_rfl) (by kernel_rfl) (by kernel_rfl) (by kernel_rfl) hd
  have hk : ∀ k, k < 16 → W.cell? ⟨0, k * 2, none⟩ = some (.int .i64 (numN k : Int)) ∧ W.cell? ⟨0, k * 2 + 1, none⟩ = some (.int .i64 (bitN k : Int)) := by
    intro k hk
    obtain ⟨h0, h1⟩ := hc k _ _ (kindP_at ⟨k, hk⟩)
    have v0 := World.var?_cell hg' hvar (k * 2)
    have v1 := World.var?_cell hg' hvar (k * 2 + 1)
    rw [Array.getElem?_toList] at h0 h1
    exact ⟨v0.trans h0, v1.trans h1⟩
  exact ⟨World.block_lt_of_cell? W _ (hk 0 (by decide)).1, hk⟩
end Go.Proofs.YthhcfngnbgckmaaDoor
