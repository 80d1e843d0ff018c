/-
  DERIVED. GIVEN WITH THE SEED: THE CARDS: each row of YtmeilddngohccaaGreatDoorRows.lean that lists a variable, with what it lists TIED to the program's text (the seventh form; the later family's looks); each row that meets fmt, with fmt's text TOLD by the authors' own Lean function (tested against real Go, not proved from fmt's source: count such statements apart). THE CARD IS WHAT COUNTS. Prove the row's statement (the work); the ties are given (YtmeilddngohccaaGreatDoorTie.lean); close each card by the builder's one call (the guide's Derived/Test/ToyasCard.lean, 'card_holds'). Laid BY PROGRAM, IN A SANDBOX (cutbox-door.mjs). By AI agents, Wed Nov 11 2026. No macro, syntax, notation, axiom, sorry.
-/
import Derived.Test.YtmeilddngohccaaGreatDoorRows
import GoSem.ClaimSeven
namespace Go.Proofs.YtmeilddngohccaaGreatDoor
namespace Rows

/-- THE TIED CARD OF 'ephemerislaw13.AppdChunk'. -/
def appdChunkCard : Claim7 := { stood := { row := appdChunkRow, standIns := [], harness := (true, "8e2aef9f659220f4a533acc7c2a2211726e3ab4d8720e191acc555c29ea5a48e"), looks := false }, kinds := [], alts := [], laidByText := true, laidKinds := [.data, .data, .data], laidTests := true, laidLooks := .later }
def AppdChunkCardSaid : Prop := Claim7.holds Tryz.pinned (.plain (OpenSpec.ofChange appdChunkSpec)) appdChunkCard

/-- THE TIED CARD OF 'ephemerislaw13.AppdOwn'. -/
def appdOwnCard : Claim7 := { stood := { row := appdOwnRow, standIns := [], harness := (true, "8e2aef9f659220f4a533acc7c2a2211726e3ab4d8720e191acc555c29ea5a48e"), looks := false }, kinds := [], alts := [], laidByText := true, laidKinds := [.data, .data, .data], laidTests := true, laidLooks := .later }
def AppdOwnCardSaid : Prop := Claim7.holds Tryz.pinned (.plain (OpenSpec.ofChange appdOwnSpec)) appdOwnCard

/-- THE TIED CARD OF 'ephemerislaw13.AppdPlays'. -/
def appdPlaysCard : Claim7 := { stood := { row := appdPlaysRow, standIns := [], harness := (true, "8e2aef9f659220f4a533acc7c2a2211726e3ab4d8720e191acc555c29ea5a48e"), looks := false }, kinds := [], alts := [], laidByText := true, laidKinds := [.data, .data, .data], laidTests := true, laidLooks := .later }
def AppdPlaysCardSaid : Prop := Claim7.holds Tryz.pinned (.plain (OpenSpec.ofChange appdPlaysSpec)) appdPlaysCard

/-- THE SECOND FORM's CARD OF 'ephemerislaw13.AppdChunk'. -/
def appdChunkUptoCard : Claim7 := { stood := { row := appdChunkUptoRow, standIns := [], harness := (true, "8e2aef9f659220f4a533acc7c2a2211726e3ab4d8720e191acc555c29ea5a48e"), looks := false }, kinds := [], alts := [], laidByText := true, laidKinds := [.data, .data, .data], laidTests := true, laidLooks := .later }
def AppdChunkUptoCardSaid : Prop := Claim7.holds Tryz.pinned (.plain (OpenSpec.upto appdChunkSpec)) appdChunkUptoCard

/-- THE SECOND FORM's CARD OF 'ephemerislaw13.AppdOwn'. -/
def appdOwnUptoCard : Claim7 := { stood := { row := appdOwnUptoRow, standIns := [], harness := (true, "8e2aef9f659220f4a533acc7c2a2211726e3ab4d8720e191acc555c29ea5a48e"), looks := false }, kinds := [], alts := [], laidByText := true, laidKinds := [.data, .data, .data], laidTests := true, laidLooks := .later }
def AppdOwnUptoCardSaid : Prop := Claim7.holds Tryz.pinned (.plain (OpenSpec.upto appdOwnSpec)) appdOwnUptoCard

/-- THE SECOND FORM's CARD OF 'ephemerislaw13.AppdPlays'. -/
def appdPlaysUptoCard : Claim7 := { stood := { row := appdPlaysUptoRow, standIns := [], harness := (true, "8e2aef9f659220f4a533acc7c2a2211726e3ab4d8720e191acc555c29ea5a48e"), looks := false }, kinds := [], alts := [], laidByText := true, laidKinds := [.data, .data, .data], laidTests := true, laidLooks := .later }
def AppdPlaysUptoCardSaid : Prop := Claim7.holds Tryz.pinned (.plain (OpenSpec.upto appdPlaysSpec)) appdPlaysUptoCard
end Rows
end Go.Proofs.YtmeilddngohccaaGreatDoor
