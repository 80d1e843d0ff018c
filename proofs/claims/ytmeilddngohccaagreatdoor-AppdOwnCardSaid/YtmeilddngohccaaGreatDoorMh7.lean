/- The texts Pas, one behind the other. -/
import Derived.Test.YtmeilddngohccaaGreatDoorMh1
import Derived.Test.YtmeilddngohccaaGreatDoorMh2
import Derived.Lib.SmallJoins
import Derived.ChangeArms
import Derived.ProofKit
import Derived.OpenShut
import Derived.WalkKit
/- A sample that came in by value. -/
namespace Go.Proofs.YtmeilddngohccaaGreatDoor
open Go.RowKit Go.ChangeShapes Go.WideShapes Go.ChangeAt Go.Deep

set_option maxRecDepth 100000 in
theorem sample_val {H : Type} {enc : TypeId × Value → H} {w : World} {base b0 : Nat} {spare : Nat → Bool} {held : Bool} {r : Reach} {v : Value} {d : DataW H} {p : List MemPlace}
  (hv : Value.okWide Tryz.prog w r b0 28 v) (h : DataW.Trod enc Tryz.prog w base spare held 28 v d p) :
  ∃ (T : Int) (V : Nat), v = .agg #[.int .i64 T, .int .u64 (V : Int)] ∧ p = [] ∧ Fits T ∧ V < 2 ^ 64 := by
 obtain ⟨v0, v1, y0, y1, n, rfl, rfl, rfl, g0, g1⟩ := Joins.open_agg2 Tryz.underlying28 (by kernel_rfl) (by kernel_rfl) hv h
 obtain ⟨z, e0, e0', f0⟩ := DataW.trod_int (k := .i64) (by kernel_rfl) g0
 obtain ⟨y, e1, e1', f1⟩ := DataW.trod_int (k := .u64) (by kernel_rfl) g1
 have b0 := bounds_i64 f0
 have b1 := bounds_u64 f1
 have hH : (H63 : Int) = 9223372036854775808 := by decide
 refine ⟨z, y.toNat, ?_, ?_, ⟨by show -(H63 : Int) ≤ z; omega, by show z < (H63 : Int); omega⟩, by show y.toNat < 2 ^ 64; omega⟩
 ·rw [List.head_eq_of_cons_eq e0, List.head_eq_of_cons_eq e1, Int.toNat_of_nonneg (by omega)]
 ·rw [e0', e1']
  rfl
end Go.Proofs.YtmeilddngohccaaGreatDoor
