/-
  No cell of these rows narrows 'for every input' (looked for: loops, veiled, ifaces, maps, wideKeys, modest, calm, conditions, laid).
  DERIVED. THE GIVEN ROWS OF THIS SEAT. 3 by the template 'for every input the law returns true; each argument reads behind the call as it read before'; 0 by the template 'total and deterministic' (their statements: YtomdphepbihmcaaTotals.lean).
  GIVEN WITH THE SEED: the statements are not yours to turn. If you find one false, say at which input.
  Laid BY PROGRAM, IN A SANDBOX (cutbox-rows.mjs): the forced cells as the released guide's own fill.sh prints them over the translation 74dd060800642660… (all of the seat's roots in one cut). By AI agents, Wed Nov 11 2026. No macro, syntax, notation, axiom, sorry.
-/
import Derived.Test.YtomdphepbihmcaaChecked
import GoSem.Claim
import GoSem.ClaimJoined
import GoSem.ClaimMapViews
import Derived.JoinedTies
import Derived.KernelRfl
namespace Go.Proofs.Ytomdphepbihmcaa
/- THE CELL 'sum', in the pinned program and in every row, IS THE sha256 OF THE DUMP (.gsa) THAT YtomdphepbihmcaaProg.lean LOADS. Nothing in Lean hashes anything: it is a label: what it is worth is what the hold of that sum in a sandbox is worth. -/
noncomputable def Try.pinned : Pinned := { name := "ytomdphepbihmcaa", sum := "74dd06080064266013f447a5befc5fbfc91ae1163ac1bae8c891c108773078c4", checked := Try.checked }
namespace Rows
def none {H : Type} : Left H := { results := [], args := [] }

/-- 'ephemerislaw7.RunlForms': WHATEVER THE INPUT: true; the input reads as it did. -/
def runlFormsSpec : ChangeSpec := { name := "runlForms", fn := fun _ => fun
  | [d] => { results := [.lit (.bool true)], args := [d] }
  | _ => none }
def runlFormsRow : OpenClaim := { program := "ytomdphepbihmcaa", sum := "74dd06080064266013f447a5befc5fbfc91ae1163ac1bae8c891c108773078c4", func := "ephemeris/ephemerislaw7.RunlForms", spec := "runlForms", apart := false }
def RunlFormsSaid : Prop := runlFormsRow.holds Try.pinned (OpenSpec.ofChange runlFormsSpec)

/-- ITS FALSE NEIGHBOUR: 'it returns false'. Refute it at one input. -/
def runlFormsWrong : ChangeSpec := { name := "runlForms", fn := fun _ => fun
  | [d] => { results := [.lit (.bool false)], args := [d] }
  | _ => none }
def RunlFormsWrongFalsely : Prop := runlFormsRow.holds Try.pinned (OpenSpec.ofChange runlFormsWrong)

/-- 'ephemerislaw7.RunlTells': WHATEVER THE INPUT: true; the input reads as it did. -/
def runlTellsSpec : ChangeSpec := { name := "runlTells", fn := fun _ => fun
  | [d1, d2, d3, d4, d5, d6] => { results := [.lit (.bool true)], args := [d1, d2, d3, d4, d5, d6] }
  | _ => none }
def runlTellsRow : OpenClaim := { program := "ytomdphepbihmcaa", sum := "74dd06080064266013f447a5befc5fbfc91ae1163ac1bae8c891c108773078c4", func := "ephemeris/ephemerislaw7.RunlTells", spec := "runlTells", apart := false }
def RunlTellsSaid : Prop := runlTellsRow.holds Try.pinned (OpenSpec.ofChange runlTellsSpec)

/-- ITS FALSE NEIGHBOUR: 'it returns false'. Refute it at one input. -/
def runlTellsWrong : ChangeSpec := { name := "runlTells", fn := fun _ => fun
  | [d1, d2, d3, d4, d5, d6] => { results := [.lit (.bool false)], args := [d1, d2, d3, d4, d5, d6] }
  | _ => none }
def RunlTellsWrongFalsely : Prop := runlTellsRow.holds Try.pinned (OpenSpec.ofChange runlTellsWrong)

/-- 'ephemerislaw7.RunlBack': WHATEVER THE INPUT: true; the input reads as it did. -/
def runlBackSpec : ChangeSpec := { name := "runlBack", fn := fun _ => fun
  | [d1, d2] => { results := [.lit (.bool true)], args := [d1, d2] }
  | _ => none }
def runlBackRow : OpenClaim := { program := "ytomdphepbihmcaa", sum := "74dd06080064266013f447a5befc5fbfc91ae1163ac1bae8c891c108773078c4", func := "ephemeris/ephemerislaw7.RunlBack", spec := "runlBack", apart := false }
def RunlBackSaid : Prop := runlBackRow.holds Try.pinned (OpenSpec.ofChange runlBackSpec)

/-- ITS FALSE NEIGHBOUR: 'it returns false'. Refute it at one input. -/
def runlBackWrong : ChangeSpec := { name := "runlBack", fn := fun _ => fun
  | [d1, d2] => { results := [.lit (.bool false)], args := [d1, d2] }
  | _ => none }
def RunlBackWrongFalsely : Prop := runlBackRow.holds Try.pinned (OpenSpec.ofChange runlBackWrong)

/- THE SECOND FORM. 'bulk': how many values and letters a reading holds, each counted each time it is reached (what is shared counts as often as it is met; a slice's spare places count too). A statement '..UptoSaid' is the law's where the arguments, and the package variables that the reading takes, are together of bulk at most 1048576: NARROWER than '..Said'. Prove '..Said' where nothing that the law and all that it calls make is longer than what came in: it says more and counts as full. Else prove '..UptoSaid'. A law counts once. -/
mutual
def uptoBulk {H : Type} : DataW H → Nat
  | .lit (.string bytes) => bytes.length + 1
  | .lit _ => 1
  | .nil => 1
  | .ptr d => uptoBulk d + 1
  | .slice elems spare => uptoBulkAll elems + uptoBulkAll spare + 1
  | .agg parts => uptoBulkAll parts + 1
  | .iface _ d => uptoBulk d + 1
  | .map entries => uptoBulkEntries entries + 1
  | .held _ => 1
def uptoBulkAll {H : Type} : List (DataW H) → Nat
  | [] => 0
  | d :: r => uptoBulk d + uptoBulkAll r
def uptoBulkEntries {H : Type} : List (Lit × DataW H) → Nat
  | [] => 0
  | x :: r => uptoBulkEntry x + uptoBulkEntries r
def uptoBulkEntry {H : Type} : Lit × DataW H → Nat
  | (.string bytes, d) => bytes.length + uptoBulk d + 1
  | (_, d) => uptoBulk d + 1
 end
def uptoSmall : (H : Type) → List (DataW H) → Bool := fun _ ds => decide (uptoBulkAll ds ≤ 1048576)
def OpenSpec.upto (s : _root_.Go.ChangeSpec) : _root_.Go.OpenSpec := { _root_.Go.OpenSpec.ofChange s with cond := some uptoSmall }

/-- 'ephemerislaw7.RunlForms', WHERE WHAT IT READS IS OF BULK AT MOST 1048576: true; the input reads as it did. -/
def runlFormsUptoRow : OpenClaim := { program := "ytomdphepbihmcaa", sum := "74dd06080064266013f447a5befc5fbfc91ae1163ac1bae8c891c108773078c4", func := "ephemeris/ephemerislaw7.RunlForms", spec := "runlForms", apart := false, narrowed := true }
def RunlFormsUptoSaid : Prop := runlFormsUptoRow.holds Try.pinned (OpenSpec.upto runlFormsSpec)

/-- 'ephemerislaw7.RunlTells', WHERE WHAT IT READS IS OF BULK AT MOST 1048576: true; the input reads as it did. -/
def runlTellsUptoRow : OpenClaim := { program := "ytomdphepbihmcaa", sum := "74dd06080064266013f447a5befc5fbfc91ae1163ac1bae8c891c108773078c4", func := "ephemeris/ephemerislaw7.RunlTells", spec := "runlTells", apart := false, narrowed := true }
def RunlTellsUptoSaid : Prop := runlTellsUptoRow.holds Try.pinned (OpenSpec.upto runlTellsSpec)

/-- 'ephemerislaw7.RunlBack', WHERE WHAT IT READS IS OF BULK AT MOST 1048576: true; the input reads as it did. -/
def runlBackUptoRow : OpenClaim := { program := "ytomdphepbihmcaa", sum := "74dd06080064266013f447a5befc5fbfc91ae1163ac1bae8c891c108773078c4", func := "ephemeris/ephemerislaw7.RunlBack", spec := "runlBack", apart := false, narrowed := true }
def RunlBackUptoSaid : Prop := runlBackUptoRow.holds Try.pinned (OpenSpec.upto runlBackSpec)

end Rows
end Go.Proofs.Ytomdphepbihmcaa
