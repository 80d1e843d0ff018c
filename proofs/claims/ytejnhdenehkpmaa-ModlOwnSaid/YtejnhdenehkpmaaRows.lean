/-
  No cell of these rows narrows 'for every input' (looked for: loops, veiled, ifaces, maps, wideKeys, modest, calm, conditions, laid).
  DERIVED. THE GIVEN ROWS OF THIS SEAT. 5 by the template 'for every input the law returns true; each argument reads behind the call as it read before'; 0 by the template 'total and deterministic' (their statements: YtejnhdenehkpmaaTotals.lean).
  GIVEN WITH THE SEED: the statements are not yours to turn. If you find one false, say at which input.
  Laid BY PROGRAM, IN A SANDBOX (cutbox-rows.mjs): the forced cells as the released guide's own fill.sh prints them over the translation 69c991fdb5e8d69f… (all of the seat's roots in one cut). By AI agents, Wed Nov 11 2026. No macro, syntax, notation, axiom, sorry.
-/
import Derived.Test.YtejnhdenehkpmaaChecked
import GoSem.Claim
import GoSem.ClaimJoined
import GoSem.ClaimMapViews
import Derived.JoinedTies
import Derived.KernelRfl
namespace Go.Proofs.Ytejnhdenehkpmaa
/- THE CELL 'sum', in the pinned program and in every row, IS THE sha256 OF THE DUMP (.gsa) THAT YtejnhdenehkpmaaProg.lean LOADS. Nothing in Lean hashes anything: it is a label: what it is worth is what the hold of that sum in a sandbox is worth. -/
noncomputable def Try.pinned : Pinned := { name := "ytejnhdenehkpmaa", sum := "69c991fdb5e8d69f005ebb4328dae886ddf55008cb5047ebf58695439221b195", checked := Try.checked }
namespace Rows
def none {H : Type} : Left H := { results := [], args := [] }

/-- 'ephemerislaw14.ModlForms': WHATEVER THE INPUT: true; the input reads as it did. -/
def modlFormsSpec : ChangeSpec := { name := "modlForms", fn := fun _ => fun
  | [d] => { results := [.lit (.bool true)], args := [d] }
  | _ => none }
def modlFormsRow : OpenClaim := { program := "ytejnhdenehkpmaa", sum := "69c991fdb5e8d69f005ebb4328dae886ddf55008cb5047ebf58695439221b195", func := "ephemeris/ephemerislaw14.ModlForms", spec := "modlForms", inPlace := ["slices.overlaps[ephemeris/api.Series]", "slices.overlaps[ephemeris/api.Iter]"], unfollowed := true, recurses := true, apart := false }
def ModlFormsSaid : Prop := modlFormsRow.holds Try.pinned (OpenSpec.ofChange modlFormsSpec)

/-- ITS FALSE NEIGHBOUR: 'it returns false'. Refute it at one input. -/
def modlFormsWrong : ChangeSpec := { name := "modlForms", fn := fun _ => fun
  | [d] => { results := [.lit (.bool false)], args := [d] }
  | _ => none }
def ModlFormsWrongFalsely : Prop := modlFormsRow.holds Try.pinned (OpenSpec.ofChange modlFormsWrong)

/-- 'ephemerislaw14.ModlEdges': WHATEVER THE INPUT: true; the input reads as it did. -/
def modlEdgesSpec : ChangeSpec := { name := "modlEdges", fn := fun _ => fun
  | [d1, d2, d3] => { results := [.lit (.bool true)], args := [d1, d2, d3] }
  | _ => none }
def modlEdgesRow : OpenClaim := { program := "ytejnhdenehkpmaa", sum := "69c991fdb5e8d69f005ebb4328dae886ddf55008cb5047ebf58695439221b195", func := "ephemeris/ephemerislaw14.ModlEdges", spec := "modlEdges", inPlace := ["slices.overlaps[ephemeris/api.Series]", "slices.overlaps[ephemeris/api.Iter]"], unfollowed := true, recurses := true, apart := false }
def ModlEdgesSaid : Prop := modlEdgesRow.holds Try.pinned (OpenSpec.ofChange modlEdgesSpec)

/-- ITS FALSE NEIGHBOUR: 'it returns false'. Refute it at one input. -/
def modlEdgesWrong : ChangeSpec := { name := "modlEdges", fn := fun _ => fun
  | [d1, d2, d3] => { results := [.lit (.bool false)], args := [d1, d2, d3] }
  | _ => none }
def ModlEdgesWrongFalsely : Prop := modlEdgesRow.holds Try.pinned (OpenSpec.ofChange modlEdgesWrong)

/-- 'ephemerislaw14.ModlOwn': WHATEVER THE INPUT: true; the input reads as it did. -/
def modlOwnSpec : ChangeSpec := { name := "modlOwn", fn := fun _ => fun
  | [d1, d2] => { results := [.lit (.bool true)], args := [d1, d2] }
  | _ => none }
def modlOwnRow : OpenClaim := { program := "ytejnhdenehkpmaa", sum := "69c991fdb5e8d69f005ebb4328dae886ddf55008cb5047ebf58695439221b195", func := "ephemeris/ephemerislaw14.ModlOwn", spec := "modlOwn", inPlace := ["slices.overlaps[ephemeris/api.Series]", "slices.overlaps[ephemeris/api.Iter]"], unfollowed := true, recurses := true, apart := false }
def ModlOwnSaid : Prop := modlOwnRow.holds Try.pinned (OpenSpec.ofChange modlOwnSpec)

/-- ITS FALSE NEIGHBOUR: 'it returns false'. Refute it at one input. -/
def modlOwnWrong : ChangeSpec := { name := "modlOwn", fn := fun _ => fun
  | [d1, d2] => { results := [.lit (.bool false)], args := [d1, d2] }
  | _ => none }
def ModlOwnWrongFalsely : Prop := modlOwnRow.holds Try.pinned (OpenSpec.ofChange modlOwnWrong)

/-- 'ephemerislaw14.ModlPlays': WHATEVER THE INPUT: true; the input reads as it did. -/
def modlPlaysSpec : ChangeSpec := { name := "modlPlays", fn := fun _ => fun
  | [d1, d2] => { results := [.lit (.bool true)], args := [d1, d2] }
  | _ => none }
def modlPlaysRow : OpenClaim := { program := "ytejnhdenehkpmaa", sum := "69c991fdb5e8d69f005ebb4328dae886ddf55008cb5047ebf58695439221b195", func := "ephemeris/ephemerislaw14.ModlPlays", spec := "modlPlays", inPlace := ["slices.overlaps[ephemeris/api.Series]", "slices.overlaps[ephemeris/api.Iter]"], unfollowed := true, recurses := true, apart := false }
def ModlPlaysSaid : Prop := modlPlaysRow.holds Try.pinned (OpenSpec.ofChange modlPlaysSpec)

/-- ITS FALSE NEIGHBOUR: 'it returns false'. Refute it at one input. -/
def modlPlaysWrong : ChangeSpec := { name := "modlPlays", fn := fun _ => fun
  | [d1, d2] => { results := [.lit (.bool false)], args := [d1, d2] }
  | _ => none }
def ModlPlaysWrongFalsely : Prop := modlPlaysRow.holds Try.pinned (OpenSpec.ofChange modlPlaysWrong)

/-- 'ephemerislaw14.ModlIters': WHATEVER THE INPUT: true; the input reads as it did. -/
def modlItersSpec : ChangeSpec := { name := "modlIters", fn := fun _ => fun
  | [d1, d2, d3, d4, d5] => { results := [.lit (.bool true)], args := [d1, d2, d3, d4, d5] }
  | _ => none }
def modlItersRow : OpenClaim := { program := "ytejnhdenehkpmaa", sum := "69c991fdb5e8d69f005ebb4328dae886ddf55008cb5047ebf58695439221b195", func := "ephemeris/ephemerislaw14.ModlIters", spec := "modlIters", inPlace := ["slices.overlaps[ephemeris/api.Series]", "slices.overlaps[ephemeris/api.Iter]"], unfollowed := true, recurses := true, apart := false }
def ModlItersSaid : Prop := modlItersRow.holds Try.pinned (OpenSpec.ofChange modlItersSpec)

/-- ITS FALSE NEIGHBOUR: 'it returns false'. Refute it at one input. -/
def modlItersWrong : ChangeSpec := { name := "modlIters", fn := fun _ => fun
  | [d1, d2, d3, d4, d5] => { results := [.lit (.bool false)], args := [d1, d2, d3, d4, d5] }
  | _ => none }
def ModlItersWrongFalsely : Prop := modlItersRow.holds Try.pinned (OpenSpec.ofChange modlItersWrong)

/- THE SECOND FORM. 'bulk': how many values and letters a reading holds, each counted each time it is reached (what is shared counts as often as it is met; a slice's spare places count too). A statement '..UptoSaid' is the law's where the arguments, and the package variables that the reading takes, are together of bulk at most 1048576: NARROWER than '..Said'. Prove '..Said' where nothing that the law and all that it calls make is longer than what came in: it says more and counts as full. Else prove '..UptoSaid'. A law counts once. -/
mutual
def uptoBulk {H : Type} : DataW H → Nat
  | .lit (.string bytes) => bytes.length + 1
  | .lit _ => 1
  | .nil => 1
  | .ptr d => uptoBulk d + 1
  | .slice elems spare => uptoBulkAll elems + uptoBulkAll spare + 1
  | .agg parts => uptoBulkAll parts + 1
  | .iface _ d => uptoBulk d + 1
  | .map entries => uptoBulkEntries entries + 1
  | .held _ => 1
def uptoBulkAll {H : Type} : List (DataW H) → Nat
  | [] => 0
  | d :: r => uptoBulk d + uptoBulkAll r
def uptoBulkEntries {H : Type} : List (Lit × DataW H) → Nat
  | [] => 0
  | x :: r => uptoBulkEntry x + uptoBulkEntries r
def uptoBulkEntry {H : Type} : Lit × DataW H → Nat
  | (.string bytes, d) => bytes.length + uptoBulk d + 1
  | (_, d) => uptoBulk d + 1
 end
def uptoSmall : (H : Type) → List (DataW H) → Bool := fun _ ds => decide (uptoBulkAll ds ≤ 1048576)
def OpenSpec.upto (s : _root_.Go.ChangeSpec) : _root_.Go.OpenSpec := { _root_.Go.OpenSpec.ofChange s with cond := some uptoSmall }

/-- 'ephemerislaw14.ModlForms', WHERE WHAT IT READS IS OF BULK AT MOST 1048576: true; the input reads as it did. -/
def modlFormsUptoRow : OpenClaim := { program := "ytejnhdenehkpmaa", sum := "69c991fdb5e8d69f005ebb4328dae886ddf55008cb5047ebf58695439221b195", func := "ephemeris/ephemerislaw14.ModlForms", spec := "modlForms", inPlace := ["slices.overlaps[ephemeris/api.Series]", "slices.overlaps[ephemeris/api.Iter]"], unfollowed := true, recurses := true, apart := false, narrowed := true }
def ModlFormsUptoSaid : Prop := modlFormsUptoRow.holds Try.pinned (OpenSpec.upto modlFormsSpec)

/-- 'ephemerislaw14.ModlEdges', WHERE WHAT IT READS IS OF BULK AT MOST 1048576: true; the input reads as it did. -/
def modlEdgesUptoRow : OpenClaim := { program := "ytejnhdenehkpmaa", sum := "69c991fdb5e8d69f005ebb4328dae886ddf55008cb5047ebf58695439221b195", func := "ephemeris/ephemerislaw14.ModlEdges", spec := "modlEdges", inPlace := ["slices.overlaps[ephemeris/api.Series]", "slices.overlaps[ephemeris/api.Iter]"], unfollowed := true, recurses := true, apart := false, narrowed := true }
def ModlEdgesUptoSaid : Prop := modlEdgesUptoRow.holds Try.pinned (OpenSpec.upto modlEdgesSpec)

/-- 'ephemerislaw14.ModlOwn', WHERE WHAT IT READS IS OF BULK AT MOST 1048576: true; the input reads as it did. -/
def modlOwnUptoRow : OpenClaim := { program := "ytejnhdenehkpmaa", sum := "69c991fdb5e8d69f005ebb4328dae886ddf55008cb5047ebf58695439221b195", func := "ephemeris/ephemerislaw14.ModlOwn", spec := "modlOwn", inPlace := ["slices.overlaps[ephemeris/api.Series]", "slices.overlaps[ephemeris/api.Iter]"], unfollowed := true, recurses := true, apart := false, narrowed := true }
def ModlOwnUptoSaid : Prop := modlOwnUptoRow.holds Try.pinned (OpenSpec.upto modlOwnSpec)

/-- 'ephemerislaw14.ModlPlays', WHERE WHAT IT READS IS OF BULK AT MOST 1048576: true; the input reads as it did. -/
def modlPlaysUptoRow : OpenClaim := { program := "ytejnhdenehkpmaa", sum := "69c991fdb5e8d69f005ebb4328dae886ddf55008cb5047ebf58695439221b195", func := "ephemeris/ephemerislaw14.ModlPlays", spec := "modlPlays", inPlace := ["slices.overlaps[ephemeris/api.Series]", "slices.overlaps[ephemeris/api.Iter]"], unfollowed := true, recurses := true, apart := false, narrowed := true }
def ModlPlaysUptoSaid : Prop := modlPlaysUptoRow.holds Try.pinned (OpenSpec.upto modlPlaysSpec)

/-- 'ephemerislaw14.ModlIters', WHERE WHAT IT READS IS OF BULK AT MOST 1048576: true; the input reads as it did. -/
def modlItersUptoRow : OpenClaim := { program := "ytejnhdenehkpmaa", sum := "69c991fdb5e8d69f005ebb4328dae886ddf55008cb5047ebf58695439221b195", func := "ephemeris/ephemerislaw14.ModlIters", spec := "modlIters", inPlace := ["slices.overlaps[ephemeris/api.Series]", "slices.overlaps[ephemeris/api.Iter]"], unfollowed := true, recurses := true, apart := false, narrowed := true }
def ModlItersUptoSaid : Prop := modlItersUptoRow.holds Try.pinned (OpenSpec.upto modlItersSpec)

end Rows
end Go.Proofs.Ytejnhdenehkpmaa
