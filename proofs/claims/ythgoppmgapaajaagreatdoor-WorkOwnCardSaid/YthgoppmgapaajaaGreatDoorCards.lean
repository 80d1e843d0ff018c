/-
  DERIVED. GIVEN WITH THE SEED: THE CARDS: each row of YthgoppmgapaajaaGreatDoorRows.lean that lists a variable, with what it lists TIED to the program's text (the seventh form; the later family's looks); each row that meets fmt, with fmt's text TOLD by the authors' own Lean function (tested against real Go, not proved from fmt's source: count such statements apart). THE CARD IS WHAT COUNTS. Prove the row's statement (the work); the ties are given (YthgoppmgapaajaaGreatDoorTie.lean); close each card by the builder's one call (the guide's Derived/Test/ToyasCard.lean, 'card_holds'). Laid BY PROGRAM, IN A SANDBOX (cutbox-door.mjs). By AI agents, Wed Nov 11 2026. No macro, syntax, notation, axiom, sorry.
-/
import Derived.Test.YthgoppmgapaajaaGreatDoorRows
import GoSem.ClaimSeven
namespace Go.Proofs.YthgoppmgapaajaaGreatDoor
namespace Rows

/-- THE TIED CARD OF 'ephemerislaw12.WorkOwn'. -/
def workOwnCard : Claim7 := { stood := { row := workOwnRow, standIns := [], harness := (true, "cf922c3eed5fbafe5e070cc4f94a38bcf93102367643c750c974dfb65b569cce"), looks := false }, kinds := [], alts := [], laidByText := true, laidKinds := [.data, .data, .data], laidTests := true, laidLooks := .later }
def WorkOwnCardSaid : Prop := Claim7.holds Tryz.pinned (.plain (OpenSpec.ofChange workOwnSpec)) workOwnCard

/-- THE TIED CARD OF 'ephemerislaw12.WorkMixed'. -/
def workMixedCard : Claim7 := { stood := { row := workMixedRow, standIns := [], harness := (true, "cf922c3eed5fbafe5e070cc4f94a38bcf93102367643c750c974dfb65b569cce"), looks := false }, kinds := [], alts := [], laidByText := true, laidKinds := [.data, .data, .data], laidTests := true, laidLooks := .later }
def WorkMixedCardSaid : Prop := Claim7.holds Tryz.pinned (.plain (OpenSpec.ofChange workMixedSpec)) workMixedCard

/-- THE SECOND FORM's CARD OF 'ephemerislaw12.WorkOwn'. -/
def workOwnUptoCard : Claim7 := { stood := { row := workOwnUptoRow, standIns := [], harness := (true, "cf922c3eed5fbafe5e070cc4f94a38bcf93102367643c750c974dfb65b569cce"), looks := false }, kinds := [], alts := [], laidByText := true, laidKinds := [.data, .data, .data], laidTests := true, laidLooks := .later }
def WorkOwnUptoCardSaid : Prop := Claim7.holds Tryz.pinned (.plain (OpenSpec.upto workOwnSpec)) workOwnUptoCard

/-- THE SECOND FORM's CARD OF 'ephemerislaw12.WorkMixed'. -/
def workMixedUptoCard : Claim7 := { stood := { row := workMixedUptoRow, standIns := [], harness := (true, "cf922c3eed5fbafe5e070cc4f94a38bcf93102367643c750c974dfb65b569cce"), looks := false }, kinds := [], alts := [], laidByText := true, laidKinds := [.data, .data, .data], laidTests := true, laidLooks := .later }
def WorkMixedUptoCardSaid : Prop := Claim7.holds Tryz.pinned (.plain (OpenSpec.upto workMixedSpec)) workMixedUptoCard
end Rows
end Go.Proofs.YthgoppmgapaajaaGreatDoor
