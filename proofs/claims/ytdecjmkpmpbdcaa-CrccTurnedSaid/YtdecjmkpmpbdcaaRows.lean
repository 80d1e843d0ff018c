/-
  No cell of these rows narrows 'for every input' (looked for: loops, veiled, ifaces, maps, wideKeys, modest, calm, conditions, laid).
  DERIVED. THE GIVEN ROWS OF THIS SEAT. 4 by the template 'for every input the law returns true; each argument reads behind the call as it read before'; 0 by the template 'total and deterministic' (their statements: YtdecjmkpmpbdcaaTotals.lean).
  GIVEN WITH THE SEED: the statements are not yours to turn. If you find one false, say at which input.
  Laid BY PROGRAM, IN A SANDBOX (cutbox-rows.mjs): the forced cells as the released guide's own fill.sh prints them over the translation 366982fae09a5d2a… (all of the seat's roots in one cut). By AI agents, Wed Nov 11 2026. No macro, syntax, notation, axiom, sorry.
-/
import Derived.Test.YtdecjmkpmpbdcaaChecked
import GoSem.Claim
import GoSem.ClaimJoined
import GoSem.ClaimMapViews
import Derived.JoinedTies
import Derived.KernelRfl
namespace Go.Proofs.Ytdecjmkpmpbdcaa
/- THE CELL 'sum', in the pinned program and in every row, IS THE sha256 OF THE DUMP (.gsa) THAT YtdecjmkpmpbdcaaProg.lean LOADS. Nothing in Lean hashes anything: it is a label: what it is worth is what the hold of that sum in a sandbox is worth. -/
noncomputable def Try.pinned : Pinned := { name := "ytdecjmkpmpbdcaa", sum := "366982fae09a5d2a2c5e5d02f5e564c9815964af0a0767e3438d83e01b77f256", checked := Try.checked }
namespace Rows
def none {H : Type} : Left H := { results := [], args := [] }

/-- 'ephemerislaw3.CrccForms': WHATEVER THE INPUT: true; the input reads as it did. -/
def crccFormsSpec : ChangeSpec := { name := "crccForms", fn := fun _ => fun
  | [d] => { results := [.lit (.bool true)], args := [d] }
  | _ => none }
def crccFormsRow : OpenClaim := { program := "ytdecjmkpmpbdcaa", sum := "366982fae09a5d2a2c5e5d02f5e564c9815964af0a0767e3438d83e01b77f256", func := "ephemeris/ephemerislaw3.CrccForms", spec := "crccForms", apart := false }
def CrccFormsSaid : Prop := crccFormsRow.holds Try.pinned (OpenSpec.ofChange crccFormsSpec)

/-- ITS FALSE NEIGHBOUR: 'it returns false'. Refute it at one input. -/
def crccFormsWrong : ChangeSpec := { name := "crccForms", fn := fun _ => fun
  | [d] => { results := [.lit (.bool false)], args := [d] }
  | _ => none }
def CrccFormsWrongFalsely : Prop := crccFormsRow.holds Try.pinned (OpenSpec.ofChange crccFormsWrong)

/-- 'ephemerislaw3.CrccLinear': WHATEVER THE INPUT: true; the input reads as it did. -/
def crccLinearSpec : ChangeSpec := { name := "crccLinear", fn := fun _ => fun
  | [d1, d2, d3] => { results := [.lit (.bool true)], args := [d1, d2, d3] }
  | _ => none }
def crccLinearRow : OpenClaim := { program := "ytdecjmkpmpbdcaa", sum := "366982fae09a5d2a2c5e5d02f5e564c9815964af0a0767e3438d83e01b77f256", func := "ephemeris/ephemerislaw3.CrccLinear", spec := "crccLinear", apart := false }
def CrccLinearSaid : Prop := crccLinearRow.holds Try.pinned (OpenSpec.ofChange crccLinearSpec)

/-- ITS FALSE NEIGHBOUR: 'it returns false'. Refute it at one input. -/
def crccLinearWrong : ChangeSpec := { name := "crccLinear", fn := fun _ => fun
  | [d1, d2, d3] => { results := [.lit (.bool false)], args := [d1, d2, d3] }
  | _ => none }
def CrccLinearWrongFalsely : Prop := crccLinearRow.holds Try.pinned (OpenSpec.ofChange crccLinearWrong)

/-- 'ephemerislaw3.CrccTells': WHATEVER THE INPUT: true; the input reads as it did. -/
def crccTellsSpec : ChangeSpec := { name := "crccTells", fn := fun _ => fun
  | [d1, d2, d3] => { results := [.lit (.bool true)], args := [d1, d2, d3] }
  | _ => none }
def crccTellsRow : OpenClaim := { program := "ytdecjmkpmpbdcaa", sum := "366982fae09a5d2a2c5e5d02f5e564c9815964af0a0767e3438d83e01b77f256", func := "ephemeris/ephemerislaw3.CrccTells", spec := "crccTells", apart := false }
def CrccTellsSaid : Prop := crccTellsRow.holds Try.pinned (OpenSpec.ofChange crccTellsSpec)

/-- ITS FALSE NEIGHBOUR: 'it returns false'. Refute it at one input. -/
def crccTellsWrong : ChangeSpec := { name := "crccTells", fn := fun _ => fun
  | [d1, d2, d3] => { results := [.lit (.bool false)], args := [d1, d2, d3] }
  | _ => none }
def CrccTellsWrongFalsely : Prop := crccTellsRow.holds Try.pinned (OpenSpec.ofChange crccTellsWrong)

/-- 'ephemerislaw3.CrccTurned': WHATEVER THE INPUT: true; the input reads as it did. -/
def crccTurnedSpec : ChangeSpec := { name := "crccTurned", fn := fun _ => fun
  | [d1, d2, d3] => { results := [.lit (.bool true)], args := [d1, d2, d3] }
  | _ => none }
def crccTurnedRow : OpenClaim := { program := "ytdecjmkpmpbdcaa", sum := "366982fae09a5d2a2c5e5d02f5e564c9815964af0a0767e3438d83e01b77f256", func := "ephemeris/ephemerislaw3.CrccTurned", spec := "crccTurned", apart := false }
def CrccTurnedSaid : Prop := crccTurnedRow.holds Try.pinned (OpenSpec.ofChange crccTurnedSpec)

/-- ITS FALSE NEIGHBOUR: 'it returns false'. Refute it at one input. -/
def crccTurnedWrong : ChangeSpec := { name := "crccTurned", fn := fun _ => fun
  | [d1, d2, d3] => { results := [.lit (.bool false)], args := [d1, d2, d3] }
  | _ => none }
def CrccTurnedWrongFalsely : Prop := crccTurnedRow.holds Try.pinned (OpenSpec.ofChange crccTurnedWrong)

/- THE SECOND FORM. 'bulk': how many values and letters a reading holds, each counted each time it is reached (what is shared counts as often as it is met; a slice's spare places count too). A statement '..UptoSaid' is the law's where the arguments, and the package variables that the reading takes, are together of bulk at most 1048576: NARROWER than '..Said'. Prove '..Said' where nothing that the law and all that it calls make is longer than what came in: it says more and counts as full. Else prove '..UptoSaid'. A law counts once. -/
mutual
def uptoBulk {H : Type} : DataW H → Nat
  | .lit (.string bytes) => bytes.length + 1
  | .lit _ => 1
  | .nil => 1
  | .ptr d => uptoBulk d + 1
  | .slice elems spare => uptoBulkAll elems + uptoBulkAll spare + 1
  | .agg parts => uptoBulkAll parts + 1
  | .iface _ d => uptoBulk d + 1
  | .map entries => uptoBulkEntries entries + 1
  | .held _ => 1
def uptoBulkAll {H : Type} : List (DataW H) → Nat
  | [] => 0
  | d :: r => uptoBulk d + uptoBulkAll r
def uptoBulkEntries {H : Type} : List (Lit × DataW H) → Nat
  | [] => 0
  | x :: r => uptoBulkEntry x + uptoBulkEntries r
def uptoBulkEntry {H : Type} : Lit × DataW H → Nat
  | (.string bytes, d) => bytes.length + uptoBulk d + 1
  | (_, d) => uptoBulk d + 1
 end
def uptoSmall : (H : Type) → List (DataW H) → Bool := fun _ ds => decide (uptoBulkAll ds ≤ 1048576)
def OpenSpec.upto (s : _root_.Go.ChangeSpec) : _root_.Go.OpenSpec := { _root_.Go.OpenSpec.ofChange s with cond := some uptoSmall }

/-- 'ephemerislaw3.CrccForms', WHERE WHAT IT READS IS OF BULK AT MOST 1048576: true; the input reads as it did. -/
def crccFormsUptoRow : OpenClaim := { program := "ytdecjmkpmpbdcaa", sum := "366982fae09a5d2a2c5e5d02f5e564c9815964af0a0767e3438d83e01b77f256", func := "ephemeris/ephemerislaw3.CrccForms", spec := "crccForms", apart := false, narrowed := true }
def CrccFormsUptoSaid : Prop := crccFormsUptoRow.holds Try.pinned (OpenSpec.upto crccFormsSpec)

/-- 'ephemerislaw3.CrccLinear', WHERE WHAT IT READS IS OF BULK AT MOST 1048576: true; the input reads as it did. -/
def crccLinearUptoRow : OpenClaim := { program := "ytdecjmkpmpbdcaa", sum := "366982fae09a5d2a2c5e5d02f5e564c9815964af0a0767e3438d83e01b77f256", func := "ephemeris/ephemerislaw3.CrccLinear", spec := "crccLinear", apart := false, narrowed := true }
def CrccLinearUptoSaid : Prop := crccLinearUptoRow.holds Try.pinned (OpenSpec.upto crccLinearSpec)

/-- 'ephemerislaw3.CrccTells', WHERE WHAT IT READS IS OF BULK AT MOST 1048576: true; the input reads as it did. -/
def crccTellsUptoRow : OpenClaim := { program := "ytdecjmkpmpbdcaa", sum := "366982fae09a5d2a2c5e5d02f5e564c9815964af0a0767e3438d83e01b77f256", func := "ephemeris/ephemerislaw3.CrccTells", spec := "crccTells", apart := false, narrowed := true }
def CrccTellsUptoSaid : Prop := crccTellsUptoRow.holds Try.pinned (OpenSpec.upto crccTellsSpec)

/-- 'ephemerislaw3.CrccTurned', WHERE WHAT IT READS IS OF BULK AT MOST 1048576: true; the input reads as it did. -/
def crccTurnedUptoRow : OpenClaim := { program := "ytdecjmkpmpbdcaa", sum := "366982fae09a5d2a2c5e5d02f5e564c9815964af0a0767e3438d83e01b77f256", func := "ephemeris/ephemerislaw3.CrccTurned", spec := "crccTurned", apart := false, narrowed := true }
def CrccTurnedUptoSaid : Prop := crccTurnedUptoRow.holds Try.pinned (OpenSpec.upto crccTurnedSpec)

end Rows
end Go.Proofs.Ytdecjmkpmpbdcaa
