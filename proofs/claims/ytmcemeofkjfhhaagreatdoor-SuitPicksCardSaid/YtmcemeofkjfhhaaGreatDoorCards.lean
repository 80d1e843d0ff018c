/-
  DERIVED. GIVEN WITH THE SEED: THE CARDS: each row of YtmcemeofkjfhhaaGreatDoorRows.lean that lists a variable, with what it lists TIED to the program's text (the seventh form; the later family's looks); each row that meets fmt, with fmt's text TOLD by the authors' own Lean function (tested against real Go, not proved from fmt's source: count such statements apart). THE CARD IS WHAT COUNTS. Prove the row's statement (the work); the ties are given (YtmcemeofkjfhhaaGreatDoorTie.lean); close each card by the builder's one call (the guide's Derived/Test/ToyasCard.lean, 'card_holds'). Laid BY PROGRAM, IN A SANDBOX (cutbox-door.mjs). By AI agents, Wed Nov 11 2026. No macro, syntax, notation, axiom, sorry.
-/
import Derived.Test.YtmcemeofkjfhhaaGreatDoorRows
import GoSem.ClaimSeven
namespace Go.Proofs.YtmcemeofkjfhhaaGreatDoor
namespace Rows

/-- THE TIED CARD OF 'ephemerislaw10.SuitPicks'. -/
def suitPicksCard : Claim7 := { stood := { row := suitPicksRow, standIns := [], harness := (true, "170493c81e9ea5b78f92fbe0a02c6cbb3a53b01e39c32681c2dbaa43cdbe7d68"), looks := false }, kinds := [], alts := [], laidByText := true, laidKinds := [.data, .data, .data], laidTests := true, laidLooks := .later }
def SuitPicksCardSaid : Prop := Claim7.holds Tryz.pinned (.plain (OpenSpec.ofChange suitPicksSpec)) suitPicksCard

/-- THE TIED CARD OF 'ephemerislaw10.SuitTells'. -/
def suitTellsCard : Claim7 := { stood := { row := suitTellsRow, standIns := [], harness := (true, "170493c81e9ea5b78f92fbe0a02c6cbb3a53b01e39c32681c2dbaa43cdbe7d68"), looks := false }, kinds := [], alts := [], laidByText := true, laidKinds := [.data, .data, .data], laidTests := true, laidLooks := .later }
def SuitTellsCardSaid : Prop := Claim7.holds Tryz.pinned (.plain (OpenSpec.ofChange suitTellsSpec)) suitTellsCard

/-- THE SECOND FORM's CARD OF 'ephemerislaw10.SuitPicks'. -/
def suitPicksUptoCard : Claim7 := { stood := { row := suitPicksUptoRow, standIns := [], harness := (true, "170493c81e9ea5b78f92fbe0a02c6cbb3a53b01e39c32681c2dbaa43cdbe7d68"), looks := false }, kinds := [], alts := [], laidByText := true, laidKinds := [.data, .data, .data], laidTests := true, laidLooks := .later }
def SuitPicksUptoCardSaid : Prop := Claim7.holds Tryz.pinned (.plain (OpenSpec.upto suitPicksSpec)) suitPicksUptoCard

/-- THE SECOND FORM's CARD OF 'ephemerislaw10.SuitTells'. -/
def suitTellsUptoCard : Claim7 := { stood := { row := suitTellsUptoRow, standIns := [], harness := (true, "170493c81e9ea5b78f92fbe0a02c6cbb3a53b01e39c32681c2dbaa43cdbe7d68"), looks := false }, kinds := [], alts := [], laidByText := true, laidKinds := [.data, .data, .data], laidTests := true, laidLooks := .later }
def SuitTellsUptoCardSaid : Prop := Claim7.holds Tryz.pinned (.plain (OpenSpec.upto suitTellsSpec)) suitTellsUptoCard
end Rows
end Go.Proofs.YtmcemeofkjfhhaaGreatDoor
