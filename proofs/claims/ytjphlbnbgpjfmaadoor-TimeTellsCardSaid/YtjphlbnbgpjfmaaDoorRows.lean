/-
  NARROWER THAN 'FOR EVERY INPUT', by the rows' own cells (each row's printed sentence says how): TimeLong: laid · TimeTells: laid · TimeBack: laid.
  DERIVED. THE GIVEN ROWS OF THIS SEAT. 3 by the template 'for every input the law returns true; each argument reads behind the call as it read before'; 0 by the template 'total and deterministic' (their statements: YtjphlbnbgpjfmaaDoorTotals.lean).
  GIVEN WITH THE SEED: the statements are not yours to turn. If you find one false, say at which input.
  Laid BY PROGRAM, IN A SANDBOX (cutbox-rows.mjs): the forced cells as the released guide's own fill.sh prints them over the translation b04aa54b0672c58e… (all of the seat's roots in one cut). By AI agents, Wed Nov 11 2026. No macro, syntax, notation, axiom, sorry.
-/
import Derived.Test.YtjphlbnbgpjfmaaDoorChecked
import GoSem.Claim
import GoSem.ClaimJoined
import GoSem.ClaimMapViews
import Derived.JoinedTies
import Derived.KernelRfl
namespace Go.Proofs.YtjphlbnbgpjfmaaDoor
/- THE CELL 'sum', in the pinned program and in every row, IS THE sha256 OF THE DUMP (.gsa) THAT YtjphlbnbgpjfmaaDoorProg.lean LOADS. Nothing in Lean hashes anything: it is a label: what it is worth is what the hold of that sum in a sandbox is worth. -/
noncomputable def Tryd.pinned : Pinned := { name := "ytjphlbnbgpjfmaadoor", sum := "b04aa54b0672c58eacf094c53b953a0646a5c36b3c9992587675c4fa46cb8680", checked := Tryd.checked }
namespace Rows
def none {H : Type} : Left H := { results := [], args := [] }

/- WHAT THE LISTED PACKAGE-LEVEL VARIABLES READ AS WHEN THE CALL BEGINS. Each datum BY PROGRAM (the guide's laid-datum.mjs) off the statement by which the dump's own 'gosem.cut.vars' lays the variable. In a bare row this is a premise. The card (YtjphlbnbgpjfmaaDoorCards.lean) ties it to the program's text. -/
def laid_ephemeris_time_widths {H : Type} : DataW H := .agg [.lit (.int .i64 0), .lit (.int .i64 7), .lit (.int .i64 9), .lit (.int .i64 12), .lit (.int .i64 64)]

/-- 'ephemerislaw4.TimeLong': WHATEVER THE INPUT: true; the input reads as it did. -/
def timeLongSpec : ChangeSpec := { name := "timeLong", fn := fun _ => fun
  | [d1, d2] => { results := [.lit (.bool true)], args := [d1, d2] }
  | _ => none }
def timeLongRow : OpenClaim := { program := "ytjphlbnbgpjfmaadoor", sum := "b04aa54b0672c58eacf094c53b953a0646a5c36b3c9992587675c4fa46cb8680", func := "ephemeris/ephemerislaw4.TimeLong", spec := "timeLong", named := ["ephemeris/time.widths"], apart := false, laid := [("ephemeris/time.widths", laid_ephemeris_time_widths)] }
def TimeLongSaid : Prop := timeLongRow.holds Tryd.pinned (OpenSpec.ofChange timeLongSpec)

/-- ITS FALSE NEIGHBOUR: 'it returns false'. Refute it at one input. -/
def timeLongWrong : ChangeSpec := { name := "timeLong", fn := fun _ => fun
  | [d1, d2] => { results := [.lit (.bool false)], args := [d1, d2] }
  | _ => none }
def TimeLongWrongFalsely : Prop := timeLongRow.holds Tryd.pinned (OpenSpec.ofChange timeLongWrong)

/-- 'ephemerislaw4.TimeTells': WHATEVER THE INPUT: true; the input reads as it did. -/
def timeTellsSpec : ChangeSpec := { name := "timeTells", fn := fun _ => fun
  | [d1, d2, d3, d4, d5, d6] => { results := [.lit (.bool true)], args := [d1, d2, d3, d4, d5, d6] }
  | _ => none }
def timeTellsRow : OpenClaim := { program := "ytjphlbnbgpjfmaadoor", sum := "b04aa54b0672c58eacf094c53b953a0646a5c36b3c9992587675c4fa46cb8680", func := "ephemeris/ephemerislaw4.TimeTells", spec := "timeTells", named := ["ephemeris/time.widths"], apart := false, laid := [("ephemeris/time.widths", laid_ephemeris_time_widths)] }
def TimeTellsSaid : Prop := timeTellsRow.holds Tryd.pinned (OpenSpec.ofChange timeTellsSpec)

/-- ITS FALSE NEIGHBOUR: 'it returns false'. Refute it at one input. -/
def timeTellsWrong : ChangeSpec := { name := "timeTells", fn := fun _ => fun
  | [d1, d2, d3, d4, d5, d6] => { results := [.lit (.bool false)], args := [d1, d2, d3, d4, d5, d6] }
  | _ => none }
def TimeTellsWrongFalsely : Prop := timeTellsRow.holds Tryd.pinned (OpenSpec.ofChange timeTellsWrong)

/-- 'ephemerislaw4.TimeBack': WHATEVER THE INPUT: true; the input reads as it did. -/
def timeBackSpec : ChangeSpec := { name := "timeBack", fn := fun _ => fun
  | [d1, d2, d3] => { results := [.lit (.bool true)], args := [d1, d2, d3] }
  | _ => none }
def timeBackRow : OpenClaim := { program := "ytjphlbnbgpjfmaadoor", sum := "b04aa54b0672c58eacf094c53b953a0646a5c36b3c9992587675c4fa46cb8680", func := "ephemeris/ephemerislaw4.TimeBack", spec := "timeBack", named := ["ephemeris/time.widths"], apart := false, laid := [("ephemeris/time.widths", laid_ephemeris_time_widths)] }
def TimeBackSaid : Prop := timeBackRow.holds Tryd.pinned (OpenSpec.ofChange timeBackSpec)

/-- ITS FALSE NEIGHBOUR: 'it returns false'. Refute it at one input. -/
def timeBackWrong : ChangeSpec := { name := "timeBack", fn := fun _ => fun
  | [d1, d2, d3] => { results := [.lit (.bool false)], args := [d1, d2, d3] }
  | _ => none }
def TimeBackWrongFalsely : Prop := timeBackRow.holds Tryd.pinned (OpenSpec.ofChange timeBackWrong)

/- THE SECOND FORM. 'bulk': how many values and letters a reading holds, each counted each time it is reached (what is shared counts as often as it is met; a slice's spare places count too). A statement '..UptoSaid' is the law's where the arguments, and the package variables that the reading takes, are together of bulk at most 1048576: NARROWER than '..Said'. Prove '..Said' where nothing that the law and all that it calls make is longer than what came in: it says more and counts as full. Else prove '..UptoSaid'. A law counts once. -/
mutual
def uptoBulk {H : Type} : DataW H → Nat
  | .lit (.string bytes) => bytes.length + 1
  | .lit _ => 1
  | .nil => 1
  | .ptr d => uptoBulk d + 1
  | .slice elems spare => uptoBulkAll elems + uptoBulkAll spare + 1
  | .agg parts => uptoBulkAll parts + 1
  | .iface _ d => uptoBulk d + 1
  | .map entries => uptoBulkEntries entries + 1
  | .held _ => 1
def uptoBulkAll {H : Type} : List (DataW H) → Nat
  | [] => 0
  | d :: r => uptoBulk d + uptoBulkAll r
def uptoBulkEntries {H : Type} : List (Lit × DataW H) → Nat
  | [] => 0
  | x :: r => uptoBulkEntry x + uptoBulkEntries r
def uptoBulkEntry {H : Type} : Lit × DataW H → Nat
  | (.string bytes, d) => bytes.length + uptoBulk d + 1
  | (_, d) => uptoBulk d + 1
 end
def uptoSmall : (H : Type) → List (DataW H) → Bool := fun _ ds => decide (uptoBulkAll ds ≤ 1048576)
def OpenSpec.upto (s : _root_.Go.ChangeSpec) : _root_.Go.OpenSpec := { _root_.Go.OpenSpec.ofChange s with cond := some uptoSmall }

/-- 'ephemerislaw4.TimeLong', WHERE WHAT IT READS IS OF BULK AT MOST 1048576: true; the input reads as it did. -/
def timeLongUptoRow : OpenClaim := { program := "ytjphlbnbgpjfmaadoor", sum := "b04aa54b0672c58eacf094c53b953a0646a5c36b3c9992587675c4fa46cb8680", func := "ephemeris/ephemerislaw4.TimeLong", spec := "timeLong", named := ["ephemeris/time.widths"], apart := false, laid := [("ephemeris/time.widths", laid_ephemeris_time_widths)], narrowed := true }
def TimeLongUptoSaid : Prop := timeLongUptoRow.holds Tryd.pinned (OpenSpec.upto timeLongSpec)

/-- 'ephemerislaw4.TimeTells', WHERE WHAT IT READS IS OF BULK AT MOST 1048576: true; the input reads as it did. -/
def timeTellsUptoRow : OpenClaim := { program := "ytjphlbnbgpjfmaadoor", sum := "b04aa54b0672c58eacf094c53b953a0646a5c36b3c9992587675c4fa46cb8680", func := "ephemeris/ephemerislaw4.TimeTells", spec := "timeTells", named := ["ephemeris/time.widths"], apart := false, laid := [("ephemeris/time.widths", laid_ephemeris_time_widths)], narrowed := true }
def TimeTellsUptoSaid : Prop := timeTellsUptoRow.holds Tryd.pinned (OpenSpec.upto timeTellsSpec)

/-- 'ephemerislaw4.TimeBack', WHERE WHAT IT READS IS OF BULK AT MOST 1048576: true; the input reads as it did. -/
def timeBackUptoRow : OpenClaim := { program := "ytjphlbnbgpjfmaadoor", sum := "b04aa54b0672c58eacf094c53b953a0646a5c36b3c9992587675c4fa46cb8680", func := "ephemeris/ephemerislaw4.TimeBack", spec := "timeBack", named := ["ephemeris/time.widths"], apart := false, laid := [("ephemeris/time.widths", laid_ephemeris_time_widths)], narrowed := true }
def TimeBackUptoSaid : Prop := timeBackUptoRow.holds Tryd.pinned (OpenSpec.upto timeBackSpec)

end Rows
end Go.Proofs.YtjphlbnbgpjfmaaDoor
