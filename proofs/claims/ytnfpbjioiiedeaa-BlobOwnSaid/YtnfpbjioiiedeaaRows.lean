/-
  No cell of these rows narrows 'for every input' (looked for: loops, veiled, ifaces, maps, wideKeys, modest, calm, conditions, laid).
  DERIVED. THE GIVEN ROWS OF THIS SEAT. 3 by the template 'for every input the law returns true; each argument reads behind the call as it read before'; 0 by the template 'total and deterministic' (their statements: YtnfpbjioiiedeaaTotals.lean).
  GIVEN WITH THE SEED: the statements are not yours to turn. If you find one false, say at which input.
  Laid BY PROGRAM, IN A SANDBOX (cutbox-rows.mjs): the forced cells as the released guide's own fill.sh prints them over the translation f743f084ed2332ce… (all of the seat's roots in one cut). By AI agents, Wed Nov 11 2026. No macro, syntax, notation, axiom, sorry.
-/
import Derived.Test.YtnfpbjioiiedeaaChecked
import GoSem.Claim
import GoSem.ClaimJoined
import GoSem.ClaimMapViews
import Derived.JoinedTies
import Derived.KernelRfl
namespace Go.Proofs.Ytnfpbjioiiedeaa
/- THE CELL 'sum', in the pinned program and in every row, IS THE sha256 OF THE DUMP (.gsa) THAT YtnfpbjioiiedeaaProg.lean LOADS. Nothing in Lean hashes anything: it is a label: what it is worth is what the hold of that sum in a sandbox is worth. -/
noncomputable def Try.pinned : Pinned := { name := "ytnfpbjioiiedeaa", sum := "f743f084ed2332cede076ace5b31056ba3e938fbecefd856d17a51c9609af49e", checked := Try.checked }
namespace Rows
def none {H : Type} : Left H := { results := [], args := [] }

/-- 'ephemerislaw17.BlobHolds': WHATEVER THE INPUT: true; the input reads as it did. -/
def blobHoldsSpec : ChangeSpec := { name := "blobHolds", fn := fun _ => fun
  | [d1, d2] => { results := [.lit (.bool true)], args := [d1, d2] }
  | _ => none }
def blobHoldsRow : OpenClaim := { program := "ytnfpbjioiiedeaa", sum := "f743f084ed2332cede076ace5b31056ba3e938fbecefd856d17a51c9609af49e", func := "ephemeris/ephemerislaw17.BlobHolds", spec := "blobHolds", apart := false }
def BlobHoldsSaid : Prop := blobHoldsRow.holds Try.pinned (OpenSpec.ofChange blobHoldsSpec)

/-- ITS FALSE NEIGHBOUR: 'it returns false'. Refute it at one input. -/
def blobHoldsWrong : ChangeSpec := { name := "blobHolds", fn := fun _ => fun
  | [d1, d2] => { results := [.lit (.bool false)], args := [d1, d2] }
  | _ => none }
def BlobHoldsWrongFalsely : Prop := blobHoldsRow.holds Try.pinned (OpenSpec.ofChange blobHoldsWrong)

/-- 'ephemerislaw17.BlobBudget': WHATEVER THE INPUT: true; the input reads as it did. -/
def blobBudgetSpec : ChangeSpec := { name := "blobBudget", fn := fun _ => fun
  | [d1, d2, d3] => { results := [.lit (.bool true)], args := [d1, d2, d3] }
  | _ => none }
def blobBudgetRow : OpenClaim := { program := "ytnfpbjioiiedeaa", sum := "f743f084ed2332cede076ace5b31056ba3e938fbecefd856d17a51c9609af49e", func := "ephemeris/ephemerislaw17.BlobBudget", spec := "blobBudget", apart := false }
def BlobBudgetSaid : Prop := blobBudgetRow.holds Try.pinned (OpenSpec.ofChange blobBudgetSpec)

/-- ITS FALSE NEIGHBOUR: 'it returns false'. Refute it at one input. -/
def blobBudgetWrong : ChangeSpec := { name := "blobBudget", fn := fun _ => fun
  | [d1, d2, d3] => { results := [.lit (.bool false)], args := [d1, d2, d3] }
  | _ => none }
def BlobBudgetWrongFalsely : Prop := blobBudgetRow.holds Try.pinned (OpenSpec.ofChange blobBudgetWrong)

/-- 'ephemerislaw17.BlobOwn': WHATEVER THE INPUT: true; the input reads as it did. -/
def blobOwnSpec : ChangeSpec := { name := "blobOwn", fn := fun _ => fun
  | [d] => { results := [.lit (.bool true)], args := [d] }
  | _ => none }
def blobOwnRow : OpenClaim := { program := "ytnfpbjioiiedeaa", sum := "f743f084ed2332cede076ace5b31056ba3e938fbecefd856d17a51c9609af49e", func := "ephemeris/ephemerislaw17.BlobOwn", spec := "blobOwn", apart := false }
def BlobOwnSaid : Prop := blobOwnRow.holds Try.pinned (OpenSpec.ofChange blobOwnSpec)

/-- ITS FALSE NEIGHBOUR: 'it returns false'. Refute it at one input. -/
def blobOwnWrong : ChangeSpec := { name := "blobOwn", fn := fun _ => fun
  | [d] => { results := [.lit (.bool false)], args := [d] }
  | _ => none }
def BlobOwnWrongFalsely : Prop := blobOwnRow.holds Try.pinned (OpenSpec.ofChange blobOwnWrong)

/- THE SECOND FORM. 'bulk': how many values and letters a reading holds, each counted each time it is reached (what is shared counts as often as it is met; a slice's spare places count too). A statement '..UptoSaid' is the law's where the arguments, and the package variables that the reading takes, are together of bulk at most 1048576: NARROWER than '..Said'. Prove '..Said' where nothing that the law and all that it calls make is longer than what came in: it says more and counts as full. Else prove '..UptoSaid'. A law counts once. -/
mutual
def uptoBulk {H : Type} : DataW H → Nat
  | .lit (.string bytes) => bytes.length + 1
  | .lit _ => 1
  | .nil => 1
  | .ptr d => uptoBulk d + 1
  | .slice elems spare => uptoBulkAll elems + uptoBulkAll spare + 1
  | .agg parts => uptoBulkAll parts + 1
  | .iface _ d => uptoBulk d + 1
  | .map entries => uptoBulkEntries entries + 1
  | .held _ => 1
def uptoBulkAll {H : Type} : List (DataW H) → Nat
  | [] => 0
  | d :: r => uptoBulk d + uptoBulkAll r
def uptoBulkEntries {H : Type} : List (Lit × DataW H) → Nat
  | [] => 0
  | x :: r => uptoBulkEntry x + uptoBulkEntries r
def uptoBulkEntry {H : Type} : Lit × DataW H → Nat
  | (.string bytes, d) => bytes.length + uptoBulk d + 1
  | (_, d) => uptoBulk d + 1
 end
def uptoSmall : (H : Type) → List (DataW H) → Bool := fun _ ds => decide (uptoBulkAll ds ≤ 1048576)
def OpenSpec.upto (s : _root_.Go.ChangeSpec) : _root_.Go.OpenSpec := { _root_.Go.OpenSpec.ofChange s with cond := some uptoSmall }

/-- 'ephemerislaw17.BlobHolds', WHERE WHAT IT READS IS OF BULK AT MOST 1048576: true; the input reads as it did. -/
def blobHoldsUptoRow : OpenClaim := { program := "ytnfpbjioiiedeaa", sum := "f743f084ed2332cede076ace5b31056ba3e938fbecefd856d17a51c9609af49e", func := "ephemeris/ephemerislaw17.BlobHolds", spec := "blobHolds", apart := false, narrowed := true }
def BlobHoldsUptoSaid : Prop := blobHoldsUptoRow.holds Try.pinned (OpenSpec.upto blobHoldsSpec)

/-- 'ephemerislaw17.BlobBudget', WHERE WHAT IT READS IS OF BULK AT MOST 1048576: true; the input reads as it did. -/
def blobBudgetUptoRow : OpenClaim := { program := "ytnfpbjioiiedeaa", sum := "f743f084ed2332cede076ace5b31056ba3e938fbecefd856d17a51c9609af49e", func := "ephemeris/ephemerislaw17.BlobBudget", spec := "blobBudget", apart := false, narrowed := true }
def BlobBudgetUptoSaid : Prop := blobBudgetUptoRow.holds Try.pinned (OpenSpec.upto blobBudgetSpec)

/-- 'ephemerislaw17.BlobOwn', WHERE WHAT IT READS IS OF BULK AT MOST 1048576: true; the input reads as it did. -/
def blobOwnUptoRow : OpenClaim := { program := "ytnfpbjioiiedeaa", sum := "f743f084ed2332cede076ace5b31056ba3e938fbecefd856d17a51c9609af49e", func := "ephemeris/ephemerislaw17.BlobOwn", spec := "blobOwn", apart := false, narrowed := true }
def BlobOwnUptoSaid : Prop := blobOwnUptoRow.holds Try.pinned (OpenSpec.upto blobOwnSpec)

end Rows
end Go.Proofs.Ytnfpbjioiiedeaa
