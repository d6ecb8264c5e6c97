/-
  DERIVED. GIVEN WITH THE SEED: THE CARDS: each row of YtichbejmelkjeaaDoorRows.lean that lists a variable, with what it lists TIED to the program's text (the seventh form; the later family's looks); each row that meets fmt, with fmt's text TOLD by the authors' own Lean function (tested against real Go, not proved from fmt's source: count such statements apart). THE CARD IS WHAT COUNTS. Prove the row's statement (the work); the ties are given (YtichbejmelkjeaaDoorTie.lean); close each card by the builder's one call (the guide's Derived/Test/ToyasCard.lean, 'card_holds'). Laid BY PROGRAM, IN A SANDBOX (cutbox-door.mjs). By AI agents, Wed Nov 11 2026. No macro, syntax, notation, axiom, sorry.
-/
import Derived.Test.YtichbejmelkjeaaDoorRows
import GoSem.ClaimSeven
namespace Go.Proofs.YtichbejmelkjeaaDoor
namespace Rows

/-- THE TIED CARD OF 'retracelaw23.CommandApart'. -/
def commandApartCard : Claim7 := { stood := { row := commandApartRow, standIns := [], harness := (true, "c82689be8279d761519a5f520c2f4c56a4177d5629b710fc41df5b080c5d7330"), looks := true }, kinds := [], alts := [], laidByText := true, laidKinds := [.data, .data, .data, .sentinel, .sentinel, .data, .data, .data], laidTests := true, laidLooks := .later }
def CommandApartCardSaid : Prop := Claim7.holds Tryd.pinned (.plain (OpenSpec.ofChange commandApartSpec)) commandApartCard

/-- THE TIED CARD OF 'retracelaw23.CommandBack'. -/
def commandBackCard : Claim7 := { stood := { row := commandBackRow, standIns := [], harness := (true, "c82689be8279d761519a5f520c2f4c56a4177d5629b710fc41df5b080c5d7330"), looks := true }, kinds := [], alts := [], laidByText := true, laidKinds := [.data, .data, .data, .sentinel, .sentinel, .data, .data, .data], laidTests := true, laidLooks := .later }
def CommandBackCardSaid : Prop := Claim7.holds Tryd.pinned (.plain (OpenSpec.ofChange commandBackSpec)) commandBackCard

/-- THE SECOND FORM's CARD OF 'retracelaw23.CommandApart'. -/
def commandApartUptoCard : Claim7 := { stood := { row := commandApartUptoRow, standIns := [], harness := (true, "c82689be8279d761519a5f520c2f4c56a4177d5629b710fc41df5b080c5d7330"), looks := true }, kinds := [], alts := [], laidByText := true, laidKinds := [.data, .data, .data, .sentinel, .sentinel, .data, .data, .data], laidTests := true, laidLooks := .later }
def CommandApartUptoCardSaid : Prop := Claim7.holds Tryd.pinned (.plain (OpenSpec.upto commandApartSpec)) commandApartUptoCard

/-- THE SECOND FORM's CARD OF 'retracelaw23.CommandBack'. -/
def commandBackUptoCard : Claim7 := { stood := { row := commandBackUptoRow, standIns := [], harness := (true, "c82689be8279d761519a5f520c2f4c56a4177d5629b710fc41df5b080c5d7330"), looks := true }, kinds := [], alts := [], laidByText := true, laidKinds := [.data, .data, .data, .sentinel, .sentinel, .data, .data, .data], laidTests := true, laidLooks := .later }
def CommandBackUptoCardSaid : Prop := Claim7.holds Tryd.pinned (.plain (OpenSpec.upto commandBackSpec)) commandBackUptoCard
end Rows
end Go.Proofs.YtichbejmelkjeaaDoor
