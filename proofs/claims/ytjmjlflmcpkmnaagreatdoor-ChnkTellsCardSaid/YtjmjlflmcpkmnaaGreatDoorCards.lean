/-
  DERIVED. GIVEN WITH THE SEED: THE CARDS: each row of YtjmjlflmcpkmnaaGreatDoorRows.lean that lists a variable, with what it lists TIED to the program's text (the seventh form; the later family's looks); each row that meets fmt, with fmt's text TOLD by the authors' own Lean function (tested against real Go, not proved from fmt's source: count such statements apart). THE CARD IS WHAT COUNTS. Prove the row's statement (the work); the ties are given (YtjmjlflmcpkmnaaGreatDoorTie.lean); close each card by the builder's one call (the guide's Derived/Test/ToyasCard.lean, 'card_holds'). Laid BY PROGRAM, IN A SANDBOX (cutbox-door.mjs). By AI agents, Wed Nov 11 2026. No macro, syntax, notation, axiom, sorry.
-/
import Derived.Test.YtjmjlflmcpkmnaaGreatDoorRows
import GoSem.ClaimSeven
namespace Go.Proofs.YtjmjlflmcpkmnaaGreatDoor
namespace Rows

/-- THE TIED CARD OF 'ephemerislaw11.ChnkTells'. -/
def chnkTellsCard : Claim7 := { stood := { row := chnkTellsRow, standIns := [], harness := (true, "4536188e919491fcb5ee9ab9b65a3ddc1cb15837a530f9f313d903761f4115fd"), looks := false }, kinds := [], alts := [], laidByText := true, laidKinds := [.data, .data, .data], laidTests := true, laidLooks := .later }
def ChnkTellsCardSaid : Prop := Claim7.holds Tryz.pinned (.plain (OpenSpec.ofChange chnkTellsSpec)) chnkTellsCard

/-- THE SECOND FORM's CARD OF 'ephemerislaw11.ChnkTells'. -/
def chnkTellsUptoCard : Claim7 := { stood := { row := chnkTellsUptoRow, standIns := [], harness := (true, "4536188e919491fcb5ee9ab9b65a3ddc1cb15837a530f9f313d903761f4115fd"), looks := false }, kinds := [], alts := [], laidByText := true, laidKinds := [.data, .data, .data], laidTests := true, laidLooks := .later }
def ChnkTellsUptoCardSaid : Prop := Claim7.holds Tryz.pinned (.plain (OpenSpec.upto chnkTellsSpec)) chnkTellsUptoCard
end Rows
end Go.Proofs.YtjmjlflmcpkmnaaGreatDoor
