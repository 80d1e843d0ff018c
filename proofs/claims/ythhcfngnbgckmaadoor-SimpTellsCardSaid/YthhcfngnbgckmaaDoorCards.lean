/-
  DERIVED. GIVEN WITH THE SEED: THE CARDS: each row of YthhcfngnbgckmaaDoorRows.lean that lists a variable, with what it lists TIED to the program's text (the seventh form; the later family's looks); each row that meets fmt, with fmt's text TOLD by the authors' own Lean function (tested against real Go, not proved from fmt's source: count such statements apart). THE CARD IS WHAT COUNTS. Prove the row's statement (the work); the ties are given (YthhcfngnbgckmaaDoorTie.lean); close each card by the builder's one call (the guide's Derived/Test/ToyasCard.lean, 'card_holds'). Laid BY PROGRAM, IN A SANDBOX (cutbox-door.mjs). By AI agents, Wed Nov 11 2026. No macro, syntax, notation, axiom, sorry.
-/
import Derived.Test.YthhcfngnbgckmaaDoorRows
import GoSem.ClaimSeven
namespace Go.Proofs.YthhcfngnbgckmaaDoor
namespace Rows

/-- THE TIED CARD OF 'ephemerislaw6.SimpTells'. -/
def simpTellsCard : Claim7 := { stood := { row := simpTellsRow, standIns := [], harness := (true, "8c659a7ac606cc28b0d35d20e54d29a537be70c04b9484864b18a5e72c46aebd"), looks := false }, kinds := [], alts := [], laidByText := true, laidKinds := [.data], laidTests := true, laidLooks := .later }
def SimpTellsCardSaid : Prop := Claim7.holds Tryd.pinned (.plain (OpenSpec.ofChange simpTellsSpec)) simpTellsCard

/-- THE TIED CARD OF 'ephemerislaw6.SimpBack'. -/
def simpBackCard : Claim7 := { stood := { row := simpBackRow, standIns := [], harness := (true, "8c659a7ac606cc28b0d35d20e54d29a537be70c04b9484864b18a5e72c46aebd"), looks := false }, kinds := [], alts := [], laidByText := true, laidKinds := [.data], laidTests := true, laidLooks := .later }
def SimpBackCardSaid : Prop := Claim7.holds Tryd.pinned (.plain (OpenSpec.ofChange simpBackSpec)) simpBackCard

/-- THE SECOND FORM's CARD OF 'ephemerislaw6.SimpTells'. -/
def simpTellsUptoCard : Claim7 := { stood := { row := simpTellsUptoRow, standIns := [], harness := (true, "8c659a7ac606cc28b0d35d20e54d29a537be70c04b9484864b18a5e72c46aebd"), looks := false }, kinds := [], alts := [], laidByText := true, laidKinds := [.data], laidTests := true, laidLooks := .later }
def SimpTellsUptoCardSaid : Prop := Claim7.holds Tryd.pinned (.plain (OpenSpec.upto simpTellsSpec)) simpTellsUptoCard

/-- THE SECOND FORM's CARD OF 'ephemerislaw6.SimpBack'. -/
def simpBackUptoCard : Claim7 := { stood := { row := simpBackUptoRow, standIns := [], harness := (true, "8c659a7ac606cc28b0d35d20e54d29a537be70c04b9484864b18a5e72c46aebd"), looks := false }, kinds := [], alts := [], laidByText := true, laidKinds := [.data], laidTests := true, laidLooks := .later }
def SimpBackUptoCardSaid : Prop := Claim7.holds Tryd.pinned (.plain (OpenSpec.upto simpBackSpec)) simpBackUptoCard
end Rows
end Go.Proofs.YthhcfngnbgckmaaDoor
