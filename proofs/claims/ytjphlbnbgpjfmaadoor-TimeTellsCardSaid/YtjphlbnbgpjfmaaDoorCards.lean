/-
  DERIVED. GIVEN WITH THE SEED: THE CARDS: each row of YtjphlbnbgpjfmaaDoorRows.lean that lists a variable, with what it lists TIED to the program's text (the seventh form; the later family's looks); each row that meets fmt, with fmt's text TOLD by the authors' own Lean function (tested against real Go, not proved from fmt's source: count such statements apart). THE CARD IS WHAT COUNTS. Prove the row's statement (the work); the ties are given (YtjphlbnbgpjfmaaDoorTie.lean); close each card by the builder's one call (the guide's Derived/Test/ToyasCard.lean, 'card_holds'). Laid BY PROGRAM, IN A SANDBOX (cutbox-door.mjs). By AI agents, Wed Nov 11 2026. No macro, syntax, notation, axiom, sorry.
-/
import Derived.Test.YtjphlbnbgpjfmaaDoorRows
import GoSem.ClaimSeven
namespace Go.Proofs.YtjphlbnbgpjfmaaDoor
namespace Rows

/-- THE TIED CARD OF 'ephemerislaw4.TimeLong'. -/
def timeLongCard : Claim7 := { stood := { row := timeLongRow, standIns := [], harness := (true, "af43863bf1428c5ba551b910afddf3dddf56b95bc0b13a75725487cb19b4449e"), looks := false }, kinds := [], alts := [], laidByText := true, laidKinds := [.data], laidTests := true, laidLooks := .later }
def TimeLongCardSaid : Prop := Claim7.holds Tryd.pinned (.plain (OpenSpec.ofChange timeLongSpec)) timeLongCard

/-- THE TIED CARD OF 'ephemerislaw4.TimeTells'. -/
def timeTellsCard : Claim7 := { stood := { row := timeTellsRow, standIns := [], harness := (true, "af43863bf1428c5ba551b910afddf3dddf56b95bc0b13a75725487cb19b4449e"), looks := false }, kinds := [], alts := [], laidByText := true, laidKinds := [.data], laidTests := true, laidLooks := .later }
def TimeTellsCardSaid : Prop := Claim7.holds Tryd.pinned (.plain (OpenSpec.ofChange timeTellsSpec)) timeTellsCard

/-- THE TIED CARD OF 'ephemerislaw4.TimeBack'. -/
def timeBackCard : Claim7 := { stood := { row := timeBackRow, standIns := [], harness := (true, "af43863bf1428c5ba551b910afddf3dddf56b95bc0b13a75725487cb19b4449e"), looks := false }, kinds := [], alts := [], laidByText := true, laidKinds := [.data], laidTests := true, laidLooks := .later }
def TimeBackCardSaid : Prop := Claim7.holds Tryd.pinned (.plain (OpenSpec.ofChange timeBackSpec)) timeBackCard

/-- THE SECOND FORM's CARD OF 'ephemerislaw4.TimeLong'. -/
def timeLongUptoCard : Claim7 := { stood := { row := timeLongUptoRow, standIns := [], harness := (true, "af43863bf1428c5ba551b910afddf3dddf56b95bc0b13a75725487cb19b4449e"), looks := false }, kinds := [], alts := [], laidByText := true, laidKinds := [.data], laidTests := true, laidLooks := .later }
def TimeLongUptoCardSaid : Prop := Claim7.holds Tryd.pinned (.plain (OpenSpec.upto timeLongSpec)) timeLongUptoCard

/-- THE SECOND FORM's CARD OF 'ephemerislaw4.TimeTells'. -/
def timeTellsUptoCard : Claim7 := { stood := { row := timeTellsUptoRow, standIns := [], harness := (true, "af43863bf1428c5ba551b910afddf3dddf56b95bc0b13a75725487cb19b4449e"), looks := false }, kinds := [], alts := [], laidByText := true, laidKinds := [.data], laidTests := true, laidLooks := .later }
def TimeTellsUptoCardSaid : Prop := Claim7.holds Tryd.pinned (.plain (OpenSpec.upto timeTellsSpec)) timeTellsUptoCard

/-- THE SECOND FORM's CARD OF 'ephemerislaw4.TimeBack'. -/
def timeBackUptoCard : Claim7 := { stood := { row := timeBackUptoRow, standIns := [], harness := (true, "af43863bf1428c5ba551b910afddf3dddf56b95bc0b13a75725487cb19b4449e"), looks := false }, kinds := [], alts := [], laidByText := true, laidKinds := [.data], laidTests := true, laidLooks := .later }
def TimeBackUptoCardSaid : Prop := Claim7.holds Tryd.pinned (.plain (OpenSpec.upto timeBackSpec)) timeBackUptoCard
end Rows
end Go.Proofs.YtjphlbnbgpjfmaaDoor
