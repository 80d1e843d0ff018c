/-
  No cell of these rows narrows 'for every input' (looked for: loops, veiled, ifaces, maps, wideKeys, modest, calm, conditions, laid).
  DERIVED. THE GIVEN ROWS OF THIS SEAT. 4 by the template 'for every input the law returns true; each argument reads behind the call as it read before'; 0 by the template 'total and deterministic' (their statements: YthogflfjdfcpeaaTotals.lean).
  GIVEN WITH THE SEED: the statements are not yours to turn. If you find one false, say at which input.
  Laid BY PROGRAM, IN A SANDBOX (cutbox-rows.mjs): the forced cells as the released guide's own fill.sh prints them over the translation c0d1b5e2e5c35a7d… (all of the seat's roots in one cut). By AI agents, Wed Nov 11 2026. No macro, syntax, notation, axiom, sorry.
-/
import Derived.Test.YthogflfjdfcpeaaChecked
import GoSem.Claim
import GoSem.ClaimJoined
import GoSem.ClaimMapViews
import Derived.JoinedTies
import Derived.KernelRfl
namespace Go.Proofs.Ythogflfjdfcpeaa
/- THE CELL 'sum', in the pinned program and in every row, IS THE sha256 OF THE DUMP (.gsa) THAT YthogflfjdfcpeaaProg.lean LOADS. Nothing in Lean hashes anything: it is a label: what it is worth is what the hold of that sum in a sandbox is worth. -/
noncomputable def Try.pinned : Pinned := { name := "ythogflfjdfcpeaa", sum := "c0d1b5e2e5c35a7d9129a58afb515a6903eb8b4d3983f5c700b59a1df9d0ae30", checked := Try.checked }
namespace Rows
def none {H : Type} : Left H := { results := [], args := [] }

/-- 'ephemerislaw15.ClokPinned': WHATEVER THE INPUT: true; the input reads as it did. -/
def clokPinnedSpec : ChangeSpec := { name := "clokPinned", fn := fun _ => fun
  | [d1, d2, d3] => { results := [.lit (.bool true)], args := [d1, d2, d3] }
  | _ => none }
def clokPinnedRow : OpenClaim := { program := "ythogflfjdfcpeaa", sum := "c0d1b5e2e5c35a7d9129a58afb515a6903eb8b4d3983f5c700b59a1df9d0ae30", func := "ephemeris/ephemerislaw15.ClokPinned", spec := "clokPinned", inPlace := ["slices.overlaps[ephemeris/api.Page]"], unfollowed := true, recurses := true, apart := false }
def ClokPinnedSaid : Prop := clokPinnedRow.holds Try.pinned (OpenSpec.ofChange clokPinnedSpec)

/-- ITS FALSE NEIGHBOUR: 'it returns false'. Refute it at one input. -/
def clokPinnedWrong : ChangeSpec := { name := "clokPinned", fn := fun _ => fun
  | [d1, d2, d3] => { results := [.lit (.bool false)], args := [d1, d2, d3] }
  | _ => none }
def ClokPinnedWrongFalsely : Prop := clokPinnedRow.holds Try.pinned (OpenSpec.ofChange clokPinnedWrong)

/-- 'ephemerislaw15.ClokOwn': WHATEVER THE INPUT: true; the input reads as it did. -/
def clokOwnSpec : ChangeSpec := { name := "clokOwn", fn := fun _ => fun
  | [d1, d2, d3] => { results := [.lit (.bool true)], args := [d1, d2, d3] }
  | _ => none }
def clokOwnRow : OpenClaim := { program := "ythogflfjdfcpeaa", sum := "c0d1b5e2e5c35a7d9129a58afb515a6903eb8b4d3983f5c700b59a1df9d0ae30", func := "ephemeris/ephemerislaw15.ClokOwn", spec := "clokOwn", inPlace := ["slices.overlaps[ephemeris/api.Page]"], unfollowed := true, recurses := true, apart := false }
def ClokOwnSaid : Prop := clokOwnRow.holds Try.pinned (OpenSpec.ofChange clokOwnSpec)

/-- ITS FALSE NEIGHBOUR: 'it returns false'. Refute it at one input. -/
def clokOwnWrong : ChangeSpec := { name := "clokOwn", fn := fun _ => fun
  | [d1, d2, d3] => { results := [.lit (.bool false)], args := [d1, d2, d3] }
  | _ => none }
def ClokOwnWrongFalsely : Prop := clokOwnRow.holds Try.pinned (OpenSpec.ofChange clokOwnWrong)

/-- 'ephemerislaw15.ClokPlays': WHATEVER THE INPUT: true; the input reads as it did. -/
def clokPlaysSpec : ChangeSpec := { name := "clokPlays", fn := fun _ => fun
  | [d1, d2] => { results := [.lit (.bool true)], args := [d1, d2] }
  | _ => none }
def clokPlaysRow : OpenClaim := { program := "ythogflfjdfcpeaa", sum := "c0d1b5e2e5c35a7d9129a58afb515a6903eb8b4d3983f5c700b59a1df9d0ae30", func := "ephemeris/ephemerislaw15.ClokPlays", spec := "clokPlays", inPlace := ["slices.overlaps[ephemeris/api.Page]"], unfollowed := true, recurses := true, apart := false }
def ClokPlaysSaid : Prop := clokPlaysRow.holds Try.pinned (OpenSpec.ofChange clokPlaysSpec)

/-- ITS FALSE NEIGHBOUR: 'it returns false'. Refute it at one input. -/
def clokPlaysWrong : ChangeSpec := { name := "clokPlays", fn := fun _ => fun
  | [d1, d2] => { results := [.lit (.bool false)], args := [d1, d2] }
  | _ => none }
def ClokPlaysWrongFalsely : Prop := clokPlaysRow.holds Try.pinned (OpenSpec.ofChange clokPlaysWrong)

/-- 'ephemerislaw15.ClokBounds': WHATEVER THE INPUT: true; the input reads as it did. -/
def clokBoundsSpec : ChangeSpec := { name := "clokBounds", fn := fun _ => fun
  | [d1, d2] => { results := [.lit (.bool true)], args := [d1, d2] }
  | _ => none }
def clokBoundsRow : OpenClaim := { program := "ythogflfjdfcpeaa", sum := "c0d1b5e2e5c35a7d9129a58afb515a6903eb8b4d3983f5c700b59a1df9d0ae30", func := "ephemeris/ephemerislaw15.ClokBounds", spec := "clokBounds", inPlace := ["slices.overlaps[ephemeris/api.Page]"], unfollowed := true, recurses := true, apart := false }
def ClokBoundsSaid : Prop := clokBoundsRow.holds Try.pinned (OpenSpec.ofChange clokBoundsSpec)

/-- ITS FALSE NEIGHBOUR: 'it returns false'. Refute it at one input. -/
def clokBoundsWrong : ChangeSpec := { name := "clokBounds", fn := fun _ => fun
  | [d1, d2] => { results := [.lit (.bool false)], args := [d1, d2] }
  | _ => none }
def ClokBoundsWrongFalsely : Prop := clokBoundsRow.holds Try.pinned (OpenSpec.ofChange clokBoundsWrong)

/- THE SECOND FORM. 'bulk': how many values and letters a reading holds, each counted each time it is reached (what is shared counts as often as it is met; a slice's spare places count too). A statement '..UptoSaid' is the law's where the arguments, and the package variables that the reading takes, are together of bulk at most 1048576: NARROWER than '..Said'. Prove '..Said' where nothing that the law and all that it calls make is longer than what came in: it says more and counts as full. Else prove '..UptoSaid'. A law counts once. -/
mutual
def uptoBulk {H : Type} : DataW H → Nat
  | .lit (.string bytes) => bytes.length + 1
  | .lit _ => 1
  | .nil => 1
  | .ptr d => uptoBulk d + 1
  | .slice elems spare => uptoBulkAll elems + uptoBulkAll spare + 1
  | .agg parts => uptoBulkAll parts + 1
  | .iface _ d => uptoBulk d + 1
  | .map entries => uptoBulkEntries entries + 1
  | .held _ => 1
def uptoBulkAll {H : Type} : List (DataW H) → Nat
  | [] => 0
  | d :: r => uptoBulk d + uptoBulkAll r
def uptoBulkEntries {H : Type} : List (Lit × DataW H) → Nat
  | [] => 0
  | x :: r => uptoBulkEntry x + uptoBulkEntries r
def uptoBulkEntry {H : Type} : Lit × DataW H → Nat
  | (.string bytes, d) => bytes.length + uptoBulk d + 1
  | (_, d) => uptoBulk d + 1
 end
def uptoSmall : (H : Type) → List (DataW H) → Bool := fun _ ds => decide (uptoBulkAll ds ≤ 1048576)
def OpenSpec.upto (s : _root_.Go.ChangeSpec) : _root_.Go.OpenSpec := { _root_.Go.OpenSpec.ofChange s with cond := some uptoSmall }

/-- 'ephemerislaw15.ClokPinned', WHERE WHAT IT READS IS OF BULK AT MOST 1048576: true; the input reads as it did. -/
def clokPinnedUptoRow : OpenClaim := { program := "ythogflfjdfcpeaa", sum := "c0d1b5e2e5c35a7d9129a58afb515a6903eb8b4d3983f5c700b59a1df9d0ae30", func := "ephemeris/ephemerislaw15.ClokPinned", spec := "clokPinned", inPlace := ["slices.overlaps[ephemeris/api.Page]"], unfollowed := true, recurses := true, apart := false, narrowed := true }
def ClokPinnedUptoSaid : Prop := clokPinnedUptoRow.holds Try.pinned (OpenSpec.upto clokPinnedSpec)

/-- 'ephemerislaw15.ClokOwn', WHERE WHAT IT READS IS OF BULK AT MOST 1048576: true; the input reads as it did. -/
def clokOwnUptoRow : OpenClaim := { program := "ythogflfjdfcpeaa", sum := "c0d1b5e2e5c35a7d9129a58afb515a6903eb8b4d3983f5c700b59a1df9d0ae30", func := "ephemeris/ephemerislaw15.ClokOwn", spec := "clokOwn", inPlace := ["slices.overlaps[ephemeris/api.Page]"], unfollowed := true, recurses := true, apart := false, narrowed := true }
def ClokOwnUptoSaid : Prop := clokOwnUptoRow.holds Try.pinned (OpenSpec.upto clokOwnSpec)

/-- 'ephemerislaw15.ClokPlays', WHERE WHAT IT READS IS OF BULK AT MOST 1048576: true; the input reads as it did. -/
def clokPlaysUptoRow : OpenClaim := { program := "ythogflfjdfcpeaa", sum := "c0d1b5e2e5c35a7d9129a58afb515a6903eb8b4d3983f5c700b59a1df9d0ae30", func := "ephemeris/ephemerislaw15.ClokPlays", spec := "clokPlays", inPlace := ["slices.overlaps[ephemeris/api.Page]"], unfollowed := true, recurses := true, apart := false, narrowed := true }
def ClokPlaysUptoSaid : Prop := clokPlaysUptoRow.holds Try.pinned (OpenSpec.upto clokPlaysSpec)

/-- 'ephemerislaw15.ClokBounds', WHERE WHAT IT READS IS OF BULK AT MOST 1048576: true; the input reads as it did. -/
def clokBoundsUptoRow : OpenClaim := { program := "ythogflfjdfcpeaa", sum := "c0d1b5e2e5c35a7d9129a58afb515a6903eb8b4d3983f5c700b59a1df9d0ae30", func := "ephemeris/ephemerislaw15.ClokBounds", spec := "clokBounds", inPlace := ["slices.overlaps[ephemeris/api.Page]"], unfollowed := true, recurses := true, apart := false, narrowed := true }
def ClokBoundsUptoSaid : Prop := clokBoundsUptoRow.holds Try.pinned (OpenSpec.upto clokBoundsSpec)

end Rows
end Go.Proofs.Ythogflfjdfcpeaa
