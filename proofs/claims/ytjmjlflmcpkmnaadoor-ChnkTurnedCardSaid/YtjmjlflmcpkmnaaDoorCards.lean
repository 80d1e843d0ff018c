/-
  DERIVED. GIVEN WITH THE SEED: THE CARDS: each row of YtjmjlflmcpkmnaaDoorRows.lean that lists a variable, with what it lists TIED to the program's text (the seventh form; the later family's looks); each row that meets fmt, with fmt's text TOLD by the authors' own Lean function (tested against real Go, not proved from fmt's source: count such statements apart). THE CARD IS WHAT COUNTS. Prove the row's statement (the work); the ties are given (YtjmjlflmcpkmnaaDoorTie.lean); close each card by the builder's one call (the guide's Derived/Test/ToyasCard.lean, 'card_holds'). Laid BY PROGRAM, IN A SANDBOX (cutbox-door.mjs). By AI agents, Wed Nov 11 2026. No macro, syntax, notation, axiom, sorry.
-/
import Derived.Test.YtjmjlflmcpkmnaaDoorRows
import GoSem.ClaimSeven
namespace Go.Proofs.YtjmjlflmcpkmnaaDoor
namespace Rows

/-- THE TIED CARD OF 'ephemerislaw11.ChnkHeads'. -/
def chnkHeadsCard : Claim7 := { stood := { row := chnkHeadsRow, standIns := [], harness := (true, "f1fc580c761933b13d20ce8b2b0e885140d00a6b7e5c5a71fbed7fa540c8b8e8"), looks := false }, kinds := [], alts := [], laidByText := true, laidKinds := [.data, .data, .data], laidTests := true, laidLooks := .later }
def ChnkHeadsCardSaid : Prop := Claim7.holds Tryd.pinned (.plain (OpenSpec.ofChange chnkHeadsSpec)) chnkHeadsCard

/-- THE TIED CARD OF 'ephemerislaw11.ChnkEach'. -/
def chnkEachCard : Claim7 := { stood := { row := chnkEachRow, standIns := [], harness := (true, "f1fc580c761933b13d20ce8b2b0e885140d00a6b7e5c5a71fbed7fa540c8b8e8"), looks := false }, kinds := [], alts := [], laidByText := true, laidKinds := [.data, .data, .data], laidTests := true, laidLooks := .later }
def ChnkEachCardSaid : Prop := Claim7.holds Tryd.pinned (.plain (OpenSpec.ofChange chnkEachSpec)) chnkEachCard

/-- THE TIED CARD OF 'ephemerislaw11.ChnkTurned'. -/
def chnkTurnedCard : Claim7 := { stood := { row := chnkTurnedRow, standIns := [], harness := (true, "f1fc580c761933b13d20ce8b2b0e885140d00a6b7e5c5a71fbed7fa540c8b8e8"), looks := false }, kinds := [], alts := [], laidByText := true, laidKinds := [.data, .data, .data], laidTests := true, laidLooks := .later }
def ChnkTurnedCardSaid : Prop := Claim7.holds Tryd.pinned (.plain (OpenSpec.ofChange chnkTurnedSpec)) chnkTurnedCard

/-- THE SECOND FORM's CARD OF 'ephemerislaw11.ChnkHeads'. -/
def chnkHeadsUptoCard : Claim7 := { stood := { row := chnkHeadsUptoRow, standIns := [], harness := (true, "f1fc580c761933b13d20ce8b2b0e885140d00a6b7e5c5a71fbed7fa540c8b8e8"), looks := false }, kinds := [], alts := [], laidByText := true, laidKinds := [.data, .data, .data], laidTests := true, laidLooks := .later }
def ChnkHeadsUptoCardSaid : Prop := Claim7.holds Tryd.pinned (.plain (OpenSpec.upto chnkHeadsSpec)) chnkHeadsUptoCard

/-- THE SECOND FORM's CARD OF 'ephemerislaw11.ChnkEach'. -/
def chnkEachUptoCard : Claim7 := { stood := { row := chnkEachUptoRow, standIns := [], harness := (true, "f1fc580c761933b13d20ce8b2b0e885140d00a6b7e5c5a71fbed7fa540c8b8e8"), looks := false }, kinds := [], alts := [], laidByText := true, laidKinds := [.data, .data, .data], laidTests := true, laidLooks := .later }
def ChnkEachUptoCardSaid : Prop := Claim7.holds Tryd.pinned (.plain (OpenSpec.upto chnkEachSpec)) chnkEachUptoCard

/-- THE SECOND FORM's CARD OF 'ephemerislaw11.ChnkTurned'. -/
def chnkTurnedUptoCard : Claim7 := { stood := { row := chnkTurnedUptoRow, standIns := [], harness := (true, "f1fc580c761933b13d20ce8b2b0e885140d00a6b7e5c5a71fbed7fa540c8b8e8"), looks := false }, kinds := [], alts := [], laidByText := true, laidKinds := [.data, .data, .data], laidTests := true, laidLooks := .later }
def ChnkTurnedUptoCardSaid : Prop := Claim7.holds Tryd.pinned (.plain (OpenSpec.upto chnkTurnedSpec)) chnkTurnedUptoCard
end Rows
end Go.Proofs.YtjmjlflmcpkmnaaDoor
