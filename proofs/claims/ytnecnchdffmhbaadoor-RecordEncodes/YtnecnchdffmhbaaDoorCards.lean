/-
  DERIVED. GIVEN WITH THE SEED: THE CARDS: each row of YtnecnchdffmhbaaDoorRows.lean that lists a variable, with what it lists TIED to the program's text (the seventh form; the later family's looks); each row that meets fmt, with fmt's text TOLD by the authors' own Lean function (tested against real Go, not proved from fmt's source: count such statements apart). THE CARD IS WHAT COUNTS. Prove the row's statement (the work); the ties are given (YtnecnchdffmhbaaDoorTie.lean); close each card by the builder's one call (the guide's Derived/Test/ToyasCard.lean, 'card_holds'). Laid BY PROGRAM, IN A SANDBOX (cutbox-door.mjs). By AI agents, Wed Nov 11 2026. No macro, syntax, notation, axiom, sorry.
-/
import Derived.Test.YtnecnchdffmhbaaDoorRows
import GoSem.ClaimSeven
namespace Go.Proofs.YtnecnchdffmhbaaDoor
namespace Rows

/-- THE TIED CARD OF 'retracelaw25.RecordOnly'. -/
def recordOnlyCard : Claim7 := { stood := { row := recordOnlyRow, standIns := [], harness := (true, "f428e004e02b629e1d3d32dbae8d0fe5393d7b4e51b3f476a1ca0765f1a1fb36"), looks := false }, kinds := [], alts := [], laidByText := true, laidKinds := [.data], laidTests := true, laidLooks := .later }
def RecordOnlyCardSaid : Prop := Claim7.holds Tryd.pinned (.plain (OpenSpec.ofChange recordOnlySpec)) recordOnlyCard

/-- THE TIED CARD OF 'retracelaw25.RecordCut'. -/
def recordCutCard : Claim7 := { stood := { row := recordCutRow, standIns := [], harness := (true, "f428e004e02b629e1d3d32dbae8d0fe5393d7b4e51b3f476a1ca0765f1a1fb36"), looks := false }, kinds := [], alts := [], laidByText := true, laidKinds := [.data], laidTests := true, laidLooks := .later }
def RecordCutCardSaid : Prop := Claim7.holds Tryd.pinned (.plain (OpenSpec.ofChange recordCutSpec)) recordCutCard

/-- THE TIED CARD OF 'retracelaw25.RecordSpoilt'. -/
def recordSpoiltCard : Claim7 := { stood := { row := recordSpoiltRow, standIns := [], harness := (true, "f428e004e02b629e1d3d32dbae8d0fe5393d7b4e51b3f476a1ca0765f1a1fb36"), looks := false }, kinds := [], alts := [], laidByText := true, laidKinds := [.data], laidTests := true, laidLooks := .later }
def RecordSpoiltCardSaid : Prop := Claim7.holds Tryd.pinned (.plain (OpenSpec.ofChange recordSpoiltSpec)) recordSpoiltCard

/-- THE TIED CARD OF 'retracelaw25.RecordRound'. -/
def recordRoundCard : Claim7 := { stood := { row := recordRoundRow, standIns := [], harness := (true, "f428e004e02b629e1d3d32dbae8d0fe5393d7b4e51b3f476a1ca0765f1a1fb36"), looks := false }, kinds := [], alts := [], laidByText := true, laidKinds := [.data], laidTests := true, laidLooks := .later }
def RecordRoundCardSaid : Prop := Claim7.holds Tryd.pinned (.plain (OpenSpec.ofChange recordRoundSpec)) recordRoundCard

/-- THE TIED CARD OF 'retracelaw25.RecordFresh'. -/
def recordFreshCard : Claim7 := { stood := { row := recordFreshRow, standIns := [], harness := (true, "f428e004e02b629e1d3d32dbae8d0fe5393d7b4e51b3f476a1ca0765f1a1fb36"), looks := false }, kinds := [], alts := [], laidByText := true, laidKinds := [.data], laidTests := true, laidLooks := .later }
def RecordFreshCardSaid : Prop := Claim7.holds Tryd.pinned (.plain (OpenSpec.ofChange recordFreshSpec)) recordFreshCard

/-- THE TIED CARD OF 'retracelaw25.RecordEncodes'. -/
def recordEncodesCard : Claim7 := { stood := { row := recordEncodesRow, standIns := [], harness := (true, "f428e004e02b629e1d3d32dbae8d0fe5393d7b4e51b3f476a1ca0765f1a1fb36"), looks := false }, kinds := [], alts := [], laidByText := true, laidKinds := [.data], laidTests := true, laidLooks := .later }
def RecordEncodesCardSaid : Prop := Claim7.holds Tryd.pinned (.plain (OpenSpec.ofChange recordEncodesSpec)) recordEncodesCard

/-- THE SECOND FORM's CARD OF 'retracelaw25.RecordOnly'. -/
def recordOnlyUptoCard : Claim7 := { stood := { row := recordOnlyUptoRow, standIns := [], harness := (true, "f428e004e02b629e1d3d32dbae8d0fe5393d7b4e51b3f476a1ca0765f1a1fb36"), looks := false }, kinds := [], alts := [], laidByText := true, laidKinds := [.data], laidTests := true, laidLooks := .later }
def RecordOnlyUptoCardSaid : Prop := Claim7.holds Tryd.pinned (.plain (OpenSpec.upto recordOnlySpec)) recordOnlyUptoCard

/-- THE SECOND FORM's CARD OF 'retracelaw25.RecordCut'. -/
def recordCutUptoCard : Claim7 := { stood := { row := recordCutUptoRow, standIns := [], harness := (true, "f428e004e02b629e1d3d32dbae8d0fe5393d7b4e51b3f476a1ca0765f1a1fb36"), looks := false }, kinds := [], alts := [], laidByText := true, laidKinds := [.data], laidTests := true, laidLooks := .later }
def RecordCutUptoCardSaid : Prop := Claim7.holds Tryd.pinned (.plain (OpenSpec.upto recordCutSpec)) recordCutUptoCard

/-- THE SECOND FORM's CARD OF 'retracelaw25.RecordSpoilt'. -/
def recordSpoiltUptoCard : Claim7 := { stood := { row := recordSpoiltUptoRow, standIns := [], harness := (true, "f428e004e02b629e1d3d32dbae8d0fe5393d7b4e51b3f476a1ca0765f1a1fb36"), looks := false }, kinds := [], alts := [], laidByText := true, laidKinds := [.data], laidTests := true, laidLooks := .later }
def RecordSpoiltUptoCardSaid : Prop := Claim7.holds Tryd.pinned (.plain (OpenSpec.upto recordSpoiltSpec)) recordSpoiltUptoCard

/-- THE SECOND FORM's CARD OF 'retracelaw25.RecordRound'. -/
def recordRoundUptoCard : Claim7 := { stood := { row := recordRoundUptoRow, standIns := [], harness := (true, "f428e004e02b629e1d3d32dbae8d0fe5393d7b4e51b3f476a1ca0765f1a1fb36"), looks := false }, kinds := [], alts := [], laidByText := true, laidKinds := [.data], laidTests := true, laidLooks := .later }
def RecordRoundUptoCardSaid : Prop := Claim7.holds Tryd.pinned (.plain (OpenSpec.upto recordRoundSpec)) recordRoundUptoCard

/-- THE SECOND FORM's CARD OF 'retracelaw25.RecordFresh'. -/
def recordFreshUptoCard : Claim7 := { stood := { row := recordFreshUptoRow, standIns := [], harness := (true, "f428e004e02b629e1d3d32dbae8d0fe5393d7b4e51b3f476a1ca0765f1a1fb36"), looks := false }, kinds := [], alts := [], laidByText := true, laidKinds := [.data], laidTests := true, laidLooks := .later }
def RecordFreshUptoCardSaid : Prop := Claim7.holds Tryd.pinned (.plain (OpenSpec.upto recordFreshSpec)) recordFreshUptoCard

/-- THE SECOND FORM's CARD OF 'retracelaw25.RecordEncodes'. -/
def recordEncodesUptoCard : Claim7 := { stood := { row := recordEncodesUptoRow, standIns := [], harness := (true, "f428e004e02b629e1d3d32dbae8d0fe5393d7b4e51b3f476a1ca0765f1a1fb36"), looks := false }, kinds := [], alts := [], laidByText := true, laidKinds := [.data], laidTests := true, laidLooks := .later }
def RecordEncodesUptoCardSaid : Prop := Claim7.holds Tryd.pinned (.plain (OpenSpec.upto recordEncodesSpec)) recordEncodesUptoCard
end Rows
end Go.Proofs.YtnecnchdffmhbaaDoor
