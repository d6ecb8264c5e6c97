/-
  DERIVED. GIVEN WITH THE SEED: THE CARDS: each row of YtcjnejdemfemfaaGreatDoorRows.lean that lists a variable, with what it lists TIED to the program's text (the seventh form; the later family's looks); each row that meets fmt, with fmt's text TOLD by the authors' own Lean function (tested against real Go, not proved from fmt's source: count such statements apart). THE CARD IS WHAT COUNTS. Prove the row's statement (the work); the ties are given (YtcjnejdemfemfaaGreatDoorTie.lean); close each card by the builder's one call (the guide's Derived/Test/ToyasCard.lean, 'card_holds'). Laid BY PROGRAM, IN A SANDBOX (cutbox-door.mjs). By AI agents, Wed Nov 11 2026. No macro, syntax, notation, axiom, sorry.
-/
import Derived.Test.YtcjnejdemfemfaaGreatDoorRows
import GoSem.ClaimSeven
namespace Go.Proofs.YtcjnejdemfemfaaGreatDoor
namespace Rows

/-- THE TIED CARD OF 'retracelaw13.CodeFresh'. -/
def codeFreshCard : Claim7 := { stood := { row := codeFreshRow, standIns := [], harness := (true, "e2e2adf1905ce417d1db556d1c8fc418aedc5ede53ba66251050de84c74a93e7"), looks := true }, kinds := [], alts := [], laidByText := true, laidKinds := [.data, .data, .data, .sentinel, .sentinel, .data, .data, .data, .data], laidTests := true, laidLooks := .later }
def CodeFreshCardSaid : Prop := Claim7.holds Tryz.pinned (.plain (OpenSpec.ofChange codeFreshSpec)) codeFreshCard

/-- THE SECOND FORM's CARD OF 'retracelaw13.CodeFresh'. -/
def codeFreshUptoCard : Claim7 := { stood := { row := codeFreshUptoRow, standIns := [], harness := (true, "e2e2adf1905ce417d1db556d1c8fc418aedc5ede53ba66251050de84c74a93e7"), looks := true }, kinds := [], alts := [], laidByText := true, laidKinds := [.data, .data, .data, .sentinel, .sentinel, .data, .data, .data, .data], laidTests := true, laidLooks := .later }
def CodeFreshUptoCardSaid : Prop := Claim7.holds Tryz.pinned (.plain (OpenSpec.upto codeFreshSpec)) codeFreshUptoCard
end Rows
end Go.Proofs.YtcjnejdemfemfaaGreatDoor
