/-
  NARROWER THAN 'FOR EVERY INPUT', by the rows' own cells (each row's printed sentence says how): SimpTells: laid · SimpBack: laid.
  DERIVED. THE GIVEN ROWS OF THIS SEAT. 2 by the template 'for every input the law returns true; each argument reads behind the call as it read before'; 0 by the template 'total and deterministic' (their statements: YthhcfngnbgckmaaDoorTotals.lean).
  GIVEN WITH THE SEED: the statements are not yours to turn. If you find one false, say at which input.
  Laid BY PROGRAM, IN A SANDBOX (cutbox-rows.mjs): the forced cells as the released guide's own fill.sh prints them over the translation bfcfeb629a9cd397… (all of the seat's roots in one cut). By AI agents, Wed Nov 11 2026. No macro, syntax, notation, axiom, sorry.
-/
import Derived.Test.YthhcfngnbgckmaaDoorChecked
import GoSem.Claim
import GoSem.ClaimJoined
import GoSem.ClaimMapViews
import Derived.JoinedTies
import Derived.KernelRfl
namespace Go.Proofs.YthhcfngnbgckmaaDoor
/- THE CELL 'sum', in the pinned program and in every row, IS THE sha256 OF THE DUMP (.gsa) THAT YthhcfngnbgckmaaDoorProg.lean LOADS. Nothing in Lean hashes anything: it is a label: what it is worth is what the hold of that sum in a sandbox is worth. -/
noncomputable def Tryd.pinned : Pinned := { name := "ythhcfngnbgckmaadoor", sum := "bfcfeb629a9cd397ea9e50dbe407ec1ad467ccb68a3cd9a184bff822d716dadf", checked := Tryd.checked }
namespace Rows
def none {H : Type} : Left H := { results := [], args := [] }

/- WHAT THE LISTED PACKAGE-LEVEL VARIABLES READ AS WHEN THE CALL BEGINS. Each datum BY PROGRAM (the guide's laid-datum.mjs) off the statement by which the dump's own 'gosem.cut.vars' lays the variable. In a bare row this is a premise. The card (YthhcfngnbgckmaaDoorCards.lean) ties it to the program's text. -/
def laid_ephemeris_simp_kinds {H : Type} : DataW H := .agg [.agg [.lit (.int .i64 240), .lit (.int .i64 0)], .agg [.lit (.int .i64 120), .lit (.int .i64 0)], .agg [.lit (.int .i64 60), .lit (.int .i64 1)], .agg [.lit (.int .i64 30), .lit (.int .i64 2)], .agg [.lit (.int .i64 20), .lit (.int .i64 3)], .agg [.lit (.int .i64 15), .lit (.int .i64 4)], .agg [.lit (.int .i64 12), .lit (.int .i64 5)], .agg [.lit (.int .i64 10), .lit (.int .i64 6)], .agg [.lit (.int .i64 8), .lit (.int .i64 7)], .agg [.lit (.int .i64 7), .lit (.int .i64 8)], .agg [.lit (.int .i64 6), .lit (.int .i64 10)], .agg [.lit (.int .i64 5), .lit (.int .i64 12)], .agg [.lit (.int .i64 4), .lit (.int .i64 15)], .agg [.lit (.int .i64 3), .lit (.int .i64 20)], .agg [.lit (.int .i64 2), .lit (.int .i64 30)], .agg [.lit (.int .i64 1), .lit (.int .i64 60)]]

/-- 'ephemerislaw6.SimpTells': WHATEVER THE INPUT: true; the input reads as it did. -/
def simpTellsSpec : ChangeSpec := { name := "simpTells", fn := fun _ => fun
  | [d1, d2, d3, d4, d5, d6] => { results := [.lit (.bool true)], args := [d1, d2, d3, d4, d5, d6] }
  | _ => none }
def simpTellsRow : OpenClaim := { program := "ythhcfngnbgckmaadoor", sum := "bfcfeb629a9cd397ea9e50dbe407ec1ad467ccb68a3cd9a184bff822d716dadf", func := "ephemeris/ephemerislaw6.SimpTells", spec := "simpTells", named := ["ephemeris/simp.kinds"], apart := false, laid := [("ephemeris/simp.kinds", laid_ephemeris_simp_kinds)] }
def SimpTellsSaid : Prop := simpTellsRow.holds Tryd.pinned (OpenSpec.ofChange simpTellsSpec)

/-- ITS FALSE NEIGHBOUR: 'it returns false'. Refute it at one input. -/
def simpTellsWrong : ChangeSpec := { name := "simpTells", fn := fun _ => fun
  | [d1, d2, d3, d4, d5, d6] => { results := [.lit (.bool false)], args := [d1, d2, d3, d4, d5, d6] }
  | _ => none }
def SimpTellsWrongFalsely : Prop := simpTellsRow.holds Tryd.pinned (OpenSpec.ofChange simpTellsWrong)

/-- 'ephemerislaw6.SimpBack': WHATEVER THE INPUT: true; the input reads as it did. -/
def simpBackSpec : ChangeSpec := { name := "simpBack", fn := fun _ => fun
  | [d1, d2, d3] => { results := [.lit (.bool true)], args := [d1, d2, d3] }
  | _ => none }
def simpBackRow : OpenClaim := { program := "ythhcfngnbgckmaadoor", sum := "bfcfeb629a9cd397ea9e50dbe407ec1ad467ccb68a3cd9a184bff822d716dadf", func := "ephemeris/ephemerislaw6.SimpBack", spec := "simpBack", named := ["ephemeris/simp.kinds"], apart := false, laid := [("ephemeris/simp.kinds", laid_ephemeris_simp_kinds)] }
def SimpBackSaid : Prop := simpBackRow.holds Tryd.pinned (OpenSpec.ofChange simpBackSpec)

/-- ITS FALSE NEIGHBOUR: 'it returns false'. Refute it at one input. -/
def simpBackWrong : ChangeSpec := { name := "simpBack", fn := fun _ => fun
  | [d1, d2, d3] => { results := [.lit (.bool false)], args := [d1, d2, d3] }
  | _ => none }
def SimpBackWrongFalsely : Prop := simpBackRow.holds Tryd.pinned (OpenSpec.ofChange simpBackWrong)

/- THE SECOND FORM. 'bulk': how many values and letters a reading holds, each counted each time it is reached (what is shared counts as often as it is met; a slice's spare places count too). A statement '..UptoSaid' is the law's where the arguments, and the package variables that the reading takes, are together of bulk at most 1048576: NARROWER than '..Said'. Prove '..Said' where nothing that the law and all that it calls make is longer than what came in: it says more and counts as full. Else prove '..UptoSaid'. A law counts once. -/
mutual
def uptoBulk {H : Type} : DataW H → Nat
  | .lit (.string bytes) => bytes.length + 1
  | .lit _ => 1
  | .nil => 1
  | .ptr d => uptoBulk d + 1
  | .slice elems spare => uptoBulkAll elems + uptoBulkAll spare + 1
  | .agg parts => uptoBulkAll parts + 1
  | .iface _ d => uptoBulk d + 1
  | .map entries => uptoBulkEntries entries + 1
  | .held _ => 1
def uptoBulkAll {H : Type} : List (DataW H) → Nat
  | [] => 0
  | d :: r => uptoBulk d + uptoBulkAll r
def uptoBulkEntries {H : Type} : List (Lit × DataW H) → Nat
  | [] => 0
  | x :: r => uptoBulkEntry x + uptoBulkEntries r
def uptoBulkEntry {H : Type} : Lit × DataW H → Nat
  | (.string bytes, d) => bytes.length + uptoBulk d + 1
  | (_, d) => uptoBulk d + 1
 end
def uptoSmall : (H : Type) → List (DataW H) → Bool := fun _ ds => decide (uptoBulkAll ds ≤ 1048576)
def OpenSpec.upto (s : _root_.Go.ChangeSpec) : _root_.Go.OpenSpec := { _root_.Go.OpenSpec.ofChange s with cond := some uptoSmall }

/-- 'ephemerislaw6.SimpTells', WHERE WHAT IT READS IS OF BULK AT MOST 1048576: true; the input reads as it did. -/
def simpTellsUptoRow : OpenClaim := { program := "ythhcfngnbgckmaadoor", sum := "bfcfeb629a9cd397ea9e50dbe407ec1ad467ccb68a3cd9a184bff822d716dadf", func := "ephemeris/ephemerislaw6.SimpTells", spec := "simpTells", named := ["ephemeris/simp.kinds"], apart := false, laid := [("ephemeris/simp.kinds", laid_ephemeris_simp_kinds)], narrowed := true }
def SimpTellsUptoSaid : Prop := simpTellsUptoRow.holds Tryd.pinned (OpenSpec.upto simpTellsSpec)

/-- 'ephemerislaw6.SimpBack', WHERE WHAT IT READS IS OF BULK AT MOST 1048576: true; the input reads as it did. -/
def simpBackUptoRow : OpenClaim := { program := "ythhcfngnbgckmaadoor", sum := "bfcfeb629a9cd397ea9e50dbe407ec1ad467ccb68a3cd9a184bff822d716dadf", func := "ephemeris/ephemerislaw6.SimpBack", spec := "simpBack", named := ["ephemeris/simp.kinds"], apart := false, laid := [("ephemeris/simp.kinds", laid_ephemeris_simp_kinds)], narrowed := true }
def SimpBackUptoSaid : Prop := simpBackUptoRow.holds Tryd.pinned (OpenSpec.upto simpBackSpec)

end Rows
end Go.Proofs.YthhcfngnbgckmaaDoor
