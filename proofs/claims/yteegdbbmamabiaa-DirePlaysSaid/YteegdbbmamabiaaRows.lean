/-
  No cell of these rows narrows 'for every input' (looked for: loops, veiled, ifaces, maps, wideKeys, modest, calm, conditions, laid).
  DERIVED. THE GIVEN ROWS OF THIS SEAT. 4 by the template 'for every input the law returns true; each argument reads behind the call as it read before'; 0 by the template 'total and deterministic' (their statements: YteegdbbmamabiaaTotals.lean).
  GIVEN WITH THE SEED: the statements are not yours to turn. If you find one false, say at which input.
  Laid BY PROGRAM, IN A SANDBOX (cutbox-rows.mjs): the forced cells as the released guide's own fill.sh prints them over the translation 5a652283b9d5ee9f… (all of the seat's roots in one cut). By AI agents, Wed Nov 11 2026. No macro, syntax, notation, axiom, sorry.
-/
import Derived.Test.YteegdbbmamabiaaChecked
import GoSem.Claim
import GoSem.ClaimJoined
import GoSem.ClaimMapViews
import Derived.JoinedTies
import Derived.KernelRfl
namespace Go.Proofs.Yteegdbbmamabiaa
/- THE CELL 'sum', in the pinned program and in every row, IS THE sha256 OF THE DUMP (.gsa) THAT YteegdbbmamabiaaProg.lean LOADS. Nothing in Lean hashes anything: it is a label: what it is worth is what the hold of that sum in a sandbox is worth. -/
noncomputable def Try.pinned : Pinned := { name := "yteegdbbmamabiaa", sum := "5a652283b9d5ee9f5fce011e1b2c86200a5e16fc09a46647774abfae497923ef", checked := Try.checked }
namespace Rows
def none {H : Type} : Left H := { results := [], args := [] }

/-- 'ephemerislaw18.DireVers': WHATEVER THE INPUT: true; the input reads as it did. -/
def direVersSpec : ChangeSpec := { name := "direVers", fn := fun _ => fun
  | [d] => { results := [.lit (.bool true)], args := [d] }
  | _ => none }
def direVersRow : OpenClaim := { program := "yteegdbbmamabiaa", sum := "5a652283b9d5ee9f5fce011e1b2c86200a5e16fc09a46647774abfae497923ef", func := "ephemeris/ephemerislaw18.DireVers", spec := "direVers", apart := false }
def DireVersSaid : Prop := direVersRow.holds Try.pinned (OpenSpec.ofChange direVersSpec)

/-- ITS FALSE NEIGHBOUR: 'it returns false'. Refute it at one input. -/
def direVersWrong : ChangeSpec := { name := "direVers", fn := fun _ => fun
  | [d] => { results := [.lit (.bool false)], args := [d] }
  | _ => none }
def DireVersWrongFalsely : Prop := direVersRow.holds Try.pinned (OpenSpec.ofChange direVersWrong)

/-- 'ephemerislaw18.DireOwn': WHATEVER THE INPUT: true; the input reads as it did. -/
def direOwnSpec : ChangeSpec := { name := "direOwn", fn := fun _ => fun
  | [d] => { results := [.lit (.bool true)], args := [d] }
  | _ => none }
def direOwnRow : OpenClaim := { program := "yteegdbbmamabiaa", sum := "5a652283b9d5ee9f5fce011e1b2c86200a5e16fc09a46647774abfae497923ef", func := "ephemeris/ephemerislaw18.DireOwn", spec := "direOwn", apart := false }
def DireOwnSaid : Prop := direOwnRow.holds Try.pinned (OpenSpec.ofChange direOwnSpec)

/-- ITS FALSE NEIGHBOUR: 'it returns false'. Refute it at one input. -/
def direOwnWrong : ChangeSpec := { name := "direOwn", fn := fun _ => fun
  | [d] => { results := [.lit (.bool false)], args := [d] }
  | _ => none }
def DireOwnWrongFalsely : Prop := direOwnRow.holds Try.pinned (OpenSpec.ofChange direOwnWrong)

/-- 'ephemerislaw18.DireMany': WHATEVER THE INPUT: true; the input reads as it did. -/
def direManySpec : ChangeSpec := { name := "direMany", fn := fun _ => fun
  | [d1, d2] => { results := [.lit (.bool true)], args := [d1, d2] }
  | _ => none }
def direManyRow : OpenClaim := { program := "yteegdbbmamabiaa", sum := "5a652283b9d5ee9f5fce011e1b2c86200a5e16fc09a46647774abfae497923ef", func := "ephemeris/ephemerislaw18.DireMany", spec := "direMany", unfollowed := true, recurses := true, apart := false }
def DireManySaid : Prop := direManyRow.holds Try.pinned (OpenSpec.ofChange direManySpec)

/-- ITS FALSE NEIGHBOUR: 'it returns false'. Refute it at one input. -/
def direManyWrong : ChangeSpec := { name := "direMany", fn := fun _ => fun
  | [d1, d2] => { results := [.lit (.bool false)], args := [d1, d2] }
  | _ => none }
def DireManyWrongFalsely : Prop := direManyRow.holds Try.pinned (OpenSpec.ofChange direManyWrong)

/-- 'ephemerislaw18.DirePlays': WHATEVER THE INPUT: true; the input reads as it did. -/
def direPlaysSpec : ChangeSpec := { name := "direPlays", fn := fun _ => fun
  | [d1, d2] => { results := [.lit (.bool true)], args := [d1, d2] }
  | _ => none }
def direPlaysRow : OpenClaim := { program := "yteegdbbmamabiaa", sum := "5a652283b9d5ee9f5fce011e1b2c86200a5e16fc09a46647774abfae497923ef", func := "ephemeris/ephemerislaw18.DirePlays", spec := "direPlays", apart := false }
def DirePlaysSaid : Prop := direPlaysRow.holds Try.pinned (OpenSpec.ofChange direPlaysSpec)

/-- ITS FALSE NEIGHBOUR: 'it returns false'. Refute it at one input. -/
def direPlaysWrong : ChangeSpec := { name := "direPlays", fn := fun _ => fun
  | [d1, d2] => { results := [.lit (.bool false)], args := [d1, d2] }
  | _ => none }
def DirePlaysWrongFalsely : Prop := direPlaysRow.holds Try.pinned (OpenSpec.ofChange direPlaysWrong)

/- THE SECOND FORM. 'bulk': how many values and letters a reading holds, each counted each time it is reached (what is shared counts as often as it is met; a slice's spare places count too). A statement '..UptoSaid' is the law's where the arguments, and the package variables that the reading takes, are together of bulk at most 1048576: NARROWER than '..Said'. Prove '..Said' where nothing that the law and all that it calls make is longer than what came in: it says more and counts as full. Else prove '..UptoSaid'. A law counts once. -/
mutual
def uptoBulk {H : Type} : DataW H → Nat
  | .lit (.string bytes) => bytes.length + 1
  | .lit _ => 1
  | .nil => 1
  | .ptr d => uptoBulk d + 1
  | .slice elems spare => uptoBulkAll elems + uptoBulkAll spare + 1
  | .agg parts => uptoBulkAll parts + 1
  | .iface _ d => uptoBulk d + 1
  | .map entries => uptoBulkEntries entries + 1
  | .held _ => 1
def uptoBulkAll {H : Type} : List (DataW H) → Nat
  | [] => 0
  | d :: r => uptoBulk d + uptoBulkAll r
def uptoBulkEntries {H : Type} : List (Lit × DataW H) → Nat
  | [] => 0
  | x :: r => uptoBulkEntry x + uptoBulkEntries r
def uptoBulkEntry {H : Type} : Lit × DataW H → Nat
  | (.string bytes, d) => bytes.length + uptoBulk d + 1
  | (_, d) => uptoBulk d + 1
 end
def uptoSmall : (H : Type) → List (DataW H) → Bool := fun _ ds => decide (uptoBulkAll ds ≤ 1048576)
def OpenSpec.upto (s : _root_.Go.ChangeSpec) : _root_.Go.OpenSpec := { _root_.Go.OpenSpec.ofChange s with cond := some uptoSmall }

/-- 'ephemerislaw18.DireVers', WHERE WHAT IT READS IS OF BULK AT MOST 1048576: true; the input reads as it did. -/
def direVersUptoRow : OpenClaim := { program := "yteegdbbmamabiaa", sum := "5a652283b9d5ee9f5fce011e1b2c86200a5e16fc09a46647774abfae497923ef", func := "ephemeris/ephemerislaw18.DireVers", spec := "direVers", apart := false, narrowed := true }
def DireVersUptoSaid : Prop := direVersUptoRow.holds Try.pinned (OpenSpec.upto direVersSpec)

/-- 'ephemerislaw18.DireOwn', WHERE WHAT IT READS IS OF BULK AT MOST 1048576: true; the input reads as it did. -/
def direOwnUptoRow : OpenClaim := { program := "yteegdbbmamabiaa", sum := "5a652283b9d5ee9f5fce011e1b2c86200a5e16fc09a46647774abfae497923ef", func := "ephemeris/ephemerislaw18.DireOwn", spec := "direOwn", apart := false, narrowed := true }
def DireOwnUptoSaid : Prop := direOwnUptoRow.holds Try.pinned (OpenSpec.upto direOwnSpec)

/-- 'ephemerislaw18.DireMany', WHERE WHAT IT READS IS OF BULK AT MOST 1048576: true; the input reads as it did. -/
def direManyUptoRow : OpenClaim := { program := "yteegdbbmamabiaa", sum := "5a652283b9d5ee9f5fce011e1b2c86200a5e16fc09a46647774abfae497923ef", func := "ephemeris/ephemerislaw18.DireMany", spec := "direMany", unfollowed := true, recurses := true, apart := false, narrowed := true }
def DireManyUptoSaid : Prop := direManyUptoRow.holds Try.pinned (OpenSpec.upto direManySpec)

/-- 'ephemerislaw18.DirePlays', WHERE WHAT IT READS IS OF BULK AT MOST 1048576: true; the input reads as it did. -/
def direPlaysUptoRow : OpenClaim := { program := "yteegdbbmamabiaa", sum := "5a652283b9d5ee9f5fce011e1b2c86200a5e16fc09a46647774abfae497923ef", func := "ephemeris/ephemerislaw18.DirePlays", spec := "direPlays", apart := false, narrowed := true }
def DirePlaysUptoSaid : Prop := direPlaysUptoRow.holds Try.pinned (OpenSpec.upto direPlaysSpec)

end Rows
end Go.Proofs.Yteegdbbmamabiaa
