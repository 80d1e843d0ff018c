/-
  DERIVED. GIVEN WITH THE SEED: THE CARDS: each row of YtmcemeofkjfhhaaDoorRows.lean that lists a variable, with what it lists TIED to the program's text (the seventh form; the later family's looks); each row that meets fmt, with fmt's text TOLD by the authors' own Lean function (tested against real Go, not proved from fmt's source: count such statements apart). THE CARD IS WHAT COUNTS. Prove the row's statement (the work); the ties are given (YtmcemeofkjfhhaaDoorTie.lean); close each card by the builder's one call (the guide's Derived/Test/ToyasCard.lean, 'card_holds'). Laid BY PROGRAM, IN A SANDBOX (cutbox-door.mjs). By AI agents, Wed Nov 11 2026. No macro, syntax, notation, axiom, sorry.
-/
import Derived.Test.YtmcemeofkjfhhaaDoorRows
import GoSem.ClaimSeven
namespace Go.Proofs.YtmcemeofkjfhhaaDoor
namespace Rows

/-- THE TIED CARD OF 'ephemerislaw10.SuitRough'. -/
def suitRoughCard : Claim7 := { stood := { row := suitRoughRow, standIns := [], harness := (true, "31e8a8a6421ea8272ed7bdbc87380c79572f429364eb5d023d97c4a2d43fa67b"), looks := false }, kinds := [], alts := [], laidByText := true, laidKinds := [.data, .data, .data], laidTests := true, laidLooks := .later }
def SuitRoughCardSaid : Prop := Claim7.holds Tryd.pinned (.plain (OpenSpec.ofChange suitRoughSpec)) suitRoughCard

/-- THE TIED CARD OF 'ephemerislaw10.SuitTags'. -/
def suitTagsCard : Claim7 := { stood := { row := suitTagsRow, standIns := [], harness := (true, "31e8a8a6421ea8272ed7bdbc87380c79572f429364eb5d023d97c4a2d43fa67b"), looks := false }, kinds := [], alts := [], laidByText := true, laidKinds := [.data, .data, .data], laidTests := true, laidLooks := .later }
def SuitTagsCardSaid : Prop := Claim7.holds Tryd.pinned (.plain (OpenSpec.ofChange suitTagsSpec)) suitTagsCard

/-- THE TIED CARD OF 'ephemerislaw10.SuitBack'. -/
def suitBackCard : Claim7 := { stood := { row := suitBackRow, standIns := [], harness := (true, "31e8a8a6421ea8272ed7bdbc87380c79572f429364eb5d023d97c4a2d43fa67b"), looks := false }, kinds := [], alts := [], laidByText := true, laidKinds := [.data, .data, .data], laidTests := true, laidLooks := .later }
def SuitBackCardSaid : Prop := Claim7.holds Tryd.pinned (.plain (OpenSpec.ofChange suitBackSpec)) suitBackCard

/-- THE SECOND FORM's CARD OF 'ephemerislaw10.SuitRough'. -/
def suitRoughUptoCard : Claim7 := { stood := { row := suitRoughUptoRow, standIns := [], harness := (true, "31e8a8a6421ea8272ed7bdbc87380c79572f429364eb5d023d97c4a2d43fa67b"), looks := false }, kinds := [], alts := [], laidByText := true, laidKinds := [.data, .data, .data], laidTests := true, laidLooks := .later }
def SuitRoughUptoCardSaid : Prop := Claim7.holds Tryd.pinned (.plain (OpenSpec.upto suitRoughSpec)) suitRoughUptoCard

/-- THE SECOND FORM's CARD OF 'ephemerislaw10.SuitTags'. -/
def suitTagsUptoCard : Claim7 := { stood := { row := suitTagsUptoRow, standIns := [], harness := (true, "31e8a8a6421ea8272ed7bdbc87380c79572f429364eb5d023d97c4a2d43fa67b"), looks := false }, kinds := [], alts := [], laidByText := true, laidKinds := [.data, .data, .data], laidTests := true, laidLooks := .later }
def SuitTagsUptoCardSaid : Prop := Claim7.holds Tryd.pinned (.plain (OpenSpec.upto suitTagsSpec)) suitTagsUptoCard

/-- THE SECOND FORM's CARD OF 'ephemerislaw10.SuitBack'. -/
def suitBackUptoCard : Claim7 := { stood := { row := suitBackUptoRow, standIns := [], harness := (true, "31e8a8a6421ea8272ed7bdbc87380c79572f429364eb5d023d97c4a2d43fa67b"), looks := false }, kinds := [], alts := [], laidByText := true, laidKinds := [.data, .data, .data], laidTests := true, laidLooks := .later }
def SuitBackUptoCardSaid : Prop := Claim7.holds Tryd.pinned (.plain (OpenSpec.upto suitBackSpec)) suitBackUptoCard
end Rows
end Go.Proofs.YtmcemeofkjfhhaaDoor
