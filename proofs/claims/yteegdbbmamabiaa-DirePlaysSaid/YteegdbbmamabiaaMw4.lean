/- The texts Pai, Paw, one behind the other. -/
import Derived.Test.YteegdbbmamabiaaMw1
import Derived.Test.YteegdbbmamabiaaMw2
import Derived.Deep.SlicePairs
import Derived.ChangeArms
import Derived.ProofKit
import Derived.OpenShut
import Derived.WalkKit
import Derived.SizedLaws
/- A row of samples that came in, as the walks read it. -/
namespace Go.Proofs.Yteegdbbmamabiaa
open Go.RowKit Go.ChangeShapes Go.WideShapes Go.ChangeAt Go.Deep

def IsPairs (w : World) (a : Option Addr) (n : Nat) : Prop := ∃ l, RdsS w w.heap.size a n l ∧ GoodS l
end Go.Proofs.Yteegdbbmamabiaa

/- Rows of rows of samples that came in: each is read as a row of samples. -/
namespace Go.Proofs.Yteegdbbmamabiaa
open Go.RowKit Go.ChangeShapes Go.WideShapes Go.ChangeAt Go.Deep

/-- ts is a slice of te, te a sample: an int64 and a uint64. -/
structure SmpT (P : Program) (ts te : TypeId) (f0 f1 : Field) : Prop where
  slice : P.underlying ts = some (.slice te)
  elem : P.underlying te = some (.struct #[f0, f1])
  two : P.cellsOf te = 2
  offs : f0.offset = 0 ∧ f1.offset = 1
  ones : P.cellsOf f0.type = 1 ∧ P.cellsOf f1.type = 1
  kinds : P.underlying f0.type = some (.int .i64) ∧ P.underlying f1.type = some (.int .u64)
theorem samples_in {P : Program} {H : Type} {enc : TypeId × Value → H} {w : World} {base fuel : Nat} {spare : Nat → Bool} {held : Bool} {ts te : TypeId} {f0 f1 : Field} {vs : List Value} {x : DataW H × List MemPlace} (T : SmpT P ts te f0 f1)
    (h : DataW.trod enc P w base spare held fuel ts vs = some x) : ∃ A n c, vs = [.slice A n c] ∧ n ≤ c ∧ c ≤ maxLen ∧ IsPairs w A n := by
  obtain ⟨u0, u1⟩ := T.kinds
  rcases open_slice_pairs T.slice T.elem T.two T.offs.1 T.offs.2 T.ones.1 T.ones.2 h with ⟨h0, _⟩ | ⟨a, n, cap, m, k, V0, V1, D0, D1, P0, P1, h0, hb, hlc, hcm, hm, hx, hc⟩
  · exact ⟨none, 0, 0, h0, Nat.le_refl _, Nat.zero_le _, [], RdsS.nil _ _ _, fun p hp => by simp at hp⟩
  · have hnm : n ≤ m := by rw [hm]; split <;> omega
    have hI : ∀ i, i < n → ∃ p : Int × Nat, V0 i = .int .i64 p.1 ∧ V1 i = .int .u64 (p.2 : Int) ∧ Fits p.1 ∧ p.2 < 2 ^ 64 := by
      intro i hi
      obtain ⟨_, _, g0, g1⟩ := hc i (by omega)
      obtain ⟨z, e0, _, f0⟩ := DataW.trod_int (k := .i64) u0 g0
      obtain ⟨y, e1, _, f1⟩ := DataW.trod_int (k := .u64) u1 g1
      have b0 := bounds_i64 f0
      have b1 := bounds_u64 f1
      have hH : (H63 : Int) = 9223372036854775808 := by decide
      refine ⟨(z, y.toNat), List.head_eq_of_cons_eq e0, ?_, ⟨by show -(H63 : Int) ≤ z; omega, by show z < (H63 : Int); omega⟩, by show y.toNat < 2 ^ 64; omega⟩
      rw [List.head_eq_of_cons_eq e1]
      show Value.int .u64 y = Value.int .u64 (y.toNat : Int)
      rw [Int.toNat_of_nonneg (by omega)]
    have hp : ∃ f : Nat → Int × Nat, ∀ i, i < n → V0 i = .int .i64 (f i).1 ∧ V1 i = .int .u64 ((f i).2 : Int) ∧ Fits (f i).1 ∧ (f i).2 < 2 ^ 64 := by
      refine ⟨fun i => if h : i < n then (hI i h).choose else (0, 0), fun i hi => ?_⟩
      simp only [hi, dif_pos]
      exact (hI i hi).choose_spec
    obtain ⟨f, hf⟩ := hp
    have hgood : GoodS ((List.range n).map f) := by
      intro p hp
      obtain ⟨i, hi, rfl⟩ := List.mem_map.1 hp
      exact ⟨(hf i (List.mem_range.1 hi)).2.2.1, (hf i (List.mem_range.1 hi)).2.2.2⟩
    have hll : ((List.range n).map f).length = n := by simp
    refine ⟨some a, n, cap, h0, hlc, hcm, (List.range n).map f, ⟨hll, by rw [cellsS_len, hll], fun h0 => ⟨a, rfl, ?_, fun j u hu => ?_⟩⟩, hgood⟩
    · have := World.block_lt_of_cell? w _ (hc 0 (by omega)).1
      rwa [addr_block] at this
    · have hj : j < n * 2 := by
        have := (List.getElem?_eq_some_iff.1 hu).1
        rwa [cellsS_len, hll] at this
      have hi : j / 2 < n := by omega
      have hg : ((List.range n).map f)[j / 2]? = some (f (j / 2)) := by simp [hi]
      obtain ⟨g0, g1⟩ := cellsS_get hg
      rcases Nat.mod_two_eq_zero_or_one j with hm2 | hm2
      · obtain ⟨i, rfl⟩ : ∃ i, j = i * 2 := ⟨j / 2, by omega⟩
        have e2 : i * 2 / 2 = i := by omega
        rw [e2] at g0 g1 hi
        have hcc := (hc i (by omega)).1
        rw [(hf i hi).1] at hcc
        rw [g0] at hu
        rw [hcc, ← hu]
      · obtain ⟨i, rfl⟩ : ∃ i, j = i * 2 + 1 := ⟨j / 2, by omega⟩
        have e2 : (i * 2 + 1) / 2 = i := by omega
        rw [e2] at g0 g1 hi
        have hcc := (hc i (by omega)).2.1
        rw [(hf i hi).2.1] at hcc
        rw [g1] at hu
        rw [hcc, ← hu]
/-- .. none of which takes more than the form's reach. -/
def IsRowsZ (w : World) (a : Option Addr) (n : Nat) : Prop := ∀ i, i < n → ∃ ad A m c, a = some ad ∧ ad.block < w.heap.size ∧ w.cell? (ad.add i) = some (.slice A m c) ∧ m ≤ c ∧ c ≤ maxLen ∧ m ≤ 8796093022208 ∧ IsPairs w A m
theorem samples_len {P : Program} {H : Type} {enc : TypeId × Value → H} {w : World} {base fuel n c : Nat} {A : Option Addr} {spare : Nat → Bool} {held : Bool} {ts te : TypeId} {f0 f1 : Field} {x : DataW H × List MemPlace} (T : SmpT P ts te f0 f1) (hb : P.bytesOf te = 16)
    (h : DataW.trod enc P w base spare held fuel ts [.slice A n c] = some x) (hw : ∀ k ∈ x.1.weights P ts, k ≤ reachBytes) : n ≤ 8796093022208 := by
  rcases open_slice_pairs T.slice T.elem T.two T.offs.1 T.offs.2 T.ones.1 T.ones.2 h with ⟨h0, _⟩ | ⟨a, len, cap, m, k, V0, V1, D0, D1, P0, P1, h0, hb2, hlc, hcm, hm, hx, hc⟩
  · simp only [List.cons.injEq, Value.slice.injEq, and_true] at h0
    omega
  · simp only [List.cons.injEq, Value.slice.injEq, and_true] at h0
    obtain ⟨rfl, rfl, rfl⟩ := h0
    rw [hx] at hw
    have h1 := hw ((n + (m - n)) * P.bytesOf te) (by simp [DataW.weights, T.slice])
    have h2 := reachBytes_lt
    rw [hb] at h1
    omega
theorem weights_in {P : Program} {H : Type} {e : TypeId} {d : DataW H} : ∀ {l : List (DataW H)}, d ∈ l → ∀ k ∈ d.weights P e, k ∈ DataW.weightsAll P e l
  | d0 :: l, hd, k, hk => by
    simp only [DataW.weightsAll, List.mem_append]
    rcases List.mem_cons.1 hd with rfl | hd
    · exact Or.inl hk
    · exact Or.inr (weights_in hd k hk)
theorem rows_in_sized {P : Program} {H : Type} {enc : TypeId × Value → H} {w : World} {base fuel n c : Nat} {spare : Nat → Bool} {held : Bool} {A : Option Addr} {tt ts te : TypeId} {f0 f1 : Field} {x : DataW H × List MemPlace} (ht : P.underlying tt = some (.slice ts)) (hc1 : P.cellsOf ts = 1) (T : SmpT P ts te f0 f1) (hb16 : P.bytesOf te = 16)
    (h : DataW.trod enc P w base spare held fuel tt [.slice A n c] = some x) (hw : ∀ k ∈ x.1.weights P tt, k ≤ reachBytes) : IsRowsZ w A n := by
  rcases open_slice1 ht hc1 h with ⟨h0, _⟩ | ⟨a, len, cap, m, k, V, D, Pl, h0, hb, hlc, hcm, hm, hx, hc⟩
  · simp only [List.cons.injEq, Value.slice.injEq, and_true] at h0
    obtain ⟨rfl, rfl, rfl⟩ := h0
    exact fun i hi => absurd hi (by omega)
  · simp only [List.cons.injEq, Value.slice.injEq, and_true] at h0
    obtain ⟨rfl, rfl, rfl⟩ := h0
    have hnm : n ≤ m := by rw [hm]; split <;> omega
    intro i hi
    obtain ⟨h1, h2⟩ := hc i (by omega)
    obtain ⟨A', m', c', e, h3, h4, h5⟩ := samples_in T h2
    have e2 : V i = .slice A' m' c' := by simpa using e
    rw [e2] at h1 h2
    refine ⟨a, A', m', c', rfl, ?_, h1, h3, h4, samples_len T hb16 h2 (fun z hz => hw z ?_), h5⟩
    · have := World.block_lt_of_cell? w _ h1
      rwa [addr_block] at this
    · rw [hx]
      simp only [DataW.weights, ht, List.mem_cons, List.mem_append]
      exact Or.inr (Or.inl (weights_in (List.mem_map.2 ⟨i, List.mem_range.2 hi, rfl⟩) z hz))
end Go.Proofs.Yteegdbbmamabiaa
