/- The texts Pai, one behind the other. -/
import Derived.Test.YteegdbbmamabiaaMx1
import Derived.Test.YteegdbbmamabiaaMx2
import Derived.Deep.SlicePairs
import Derived.ChangeArms
import Derived.ProofKit
import Derived.OpenShut
import Derived.WalkKit
/- A row of samples that came in, as the walks read it. -/
namespace Go.Proofs.Yteegdbbmamabiaa
open Go.RowKit Go.ChangeShapes Go.WideShapes Go.ChangeAt Go.Deep

def IsPairs (w : World) (a : Option Addr) (n : Nat) : Prop := ∃ l, RdsS w w.heap.size a n l ∧ GoodS l
theorem samples_of {H : Type} {enc : TypeId × Value → H} {w : World} {base fuel n c : Nat} {spare : Nat → Bool} {held : Bool} {A : Option Addr} {x : DataW H × List MemPlace}
    (h : DataW.trod enc Try.prog w base spare held fuel 27 [.slice A n c] = some x) : IsPairs w A n := by
  rcases open_slice_pairs Try.underlying27 Try.underlying43 (by kernel_rfl) rfl rfl (by kernel_rfl) (by kernel_rfl) h with ⟨h0, _⟩ | ⟨a, len, cap, m, k, V0, V1, D0, D1, P0, P1, h0, hb, hlc, hcm, hm, hx, hc⟩
  · simp only [List.cons.injEq, Value.slice.injEq, and_true] at h0
    obtain ⟨rfl, rfl, rfl⟩ := h0
    exact ⟨[], RdsS.nil _ _ _, fun p hp => by simp at hp⟩
  · simp only [List.cons.injEq, Value.slice.injEq, and_true] at h0
    obtain ⟨rfl, rfl, rfl⟩ := h0
    have hnm : n ≤ m := by rw [hm]; split <;> omega
    have hI : ∀ i, i < n → ∃ p : Int × Nat, V0 i = .int .i64 p.1 ∧ V1 i = .int .u64 (p.2 : Int) ∧ Fits p.1 ∧ p.2 < 2 ^ 64 := by
      intro i hi
      obtain ⟨_, _, g0, g1⟩ := hc i (by omega)
      obtain ⟨z, e0, _, f0⟩ := DataW.trod_int (k := .i64) (by kernel_rfl) g0
      obtain ⟨y, e1, _, f1⟩ := DataW.trod_int (k := .u64) (by kernel_rfl) g1
      have b0 := bounds_i64 f0
      have b1 := bounds_u64 f1
      have hH : (H63 : Int) = 9223372036854775808 := by decide
      refine ⟨(z, y.toNat), List.head_eq_of_cons_eq e0, ?_, ⟨by show -(H63 : Int) ≤ z; omega, by show z < (H63 : Int); omega⟩, by show y.toNat < 2 ^ 64; omega⟩
      rw [List.head_eq_of_cons_eq e1]
      show Value.int .u64 y = Value.int .u64 (y.toNat : Int)
      rw [Int.toNat_of_nonneg (by omega)]
    have hp : ∃ f : Nat → Int × Nat, ∀ i, i < n → V0 i = .int .i64 (f i).1 ∧ V1 i = .int .u64 ((f i).2 : Int) ∧ Fits (f i).1 ∧ (f i).2 < 2 ^ 64 := by
      refine ⟨fun i => if h : i < n then (hI i h).choose else (0, 0), fun i hi => ?_⟩
      simp only [hi, dif_pos]
      exact (hI i hi).choose_spec
    obtain ⟨f, hf⟩ := hp
    have hgood : GoodS ((List.range n).map f) := by
      intro p hp
      obtain ⟨i, hi, rfl⟩ := List.mem_map.1 hp
      exact ⟨(hf i (List.mem_range.1 hi)).2.2.1, (hf i (List.mem_range.1 hi)).2.2.2⟩
    have hll : ((List.range n).map f).length = n := by simp
    refine ⟨(List.range n).map f, ⟨hll, by rw [cellsS_len, hll], fun h0 => ⟨a, rfl, ?_, fun j u hu => ?_⟩⟩, hgood⟩
    · have := World.block_lt_of_cell? w _ (hc 0 (by omega)).1
      rwa [addr_block] at this
    · have hj : j < n * 2 := by
        have := (List.getElem?_eq_some_iff.1 hu).1
        rwa [cellsS_len, hll] at this
      have hi : j / 2 < n := by omega
      have hg : ((List.range n).map f)[j / 2]? = some (f (j / 2)) := by simp [hi]
      obtain ⟨g0, g1⟩ := cellsS_get hg
      rcases Nat.mod_two_eq_zero_or_one j with hm2 | hm2
      · obtain ⟨i, rfl⟩ : ∃ i, j = i * 2 := ⟨j / 2, by omega⟩
        have e2 : i * 2 / 2 = i := by omega
        rw [e2] at g0 g1 hi
        have hcc := (hc i (by omega)).1
        rw [(hf i hi).1] at hcc
        rw [g0] at hu
        rw [hcc, ← hu]
      · obtain ⟨i, rfl⟩ : ∃ i, j = i * 2 + 1 := ⟨j / 2, by omega⟩
        have e2 : (i * 2 + 1) / 2 = i := by omega
        rw [e2] at g0 g1 hi
        have hcc := (hc i (by omega)).2.1
        rw [(hf i hi).2.1] at hcc
        rw [g1] at hu
        rw [hcc, ← hu]
end Go.Proofs.Yteegdbbmamabiaa
