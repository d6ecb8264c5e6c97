/-
  DERIVED. GIVEN WITH THE SEED: THE CARDS: each row of YtdmiciblfbkndaaDoorRows.lean that lists a variable, with what it lists TIED to the program's text (the seventh form; the later family's looks); each row that meets fmt, with fmt's text TOLD by the authors' own Lean function (tested against real Go, not proved from fmt's source: count such statements apart). THE CARD IS WHAT COUNTS. Prove the row's statement (the work); the ties are given (YtdmiciblfbkndaaDoorTie.lean); close each card by the builder's one call (the guide's Derived/Test/ToyasCard.lean, 'card_holds'). Laid BY PROGRAM, IN A SANDBOX (cutbox-door.mjs). By AI agents, Wed Nov 11 2026. No macro, syntax, notation, axiom, sorry.
-/
import Derived.Test.YtdmiciblfbkndaaDoorRows
import GoSem.ClaimSeven
namespace Go.Proofs.YtdmiciblfbkndaaDoor
namespace Rows

/-- THE TIED CARD OF 'retracelaw25.RecordFresh'. -/
def recordFreshCard : Claim7 := { stood := { row := recordFreshRow, standIns := [], harness := (true, "646a4f12d63a6d3562d1dfd7f8412f191d3f79b389a3b312d0e89c95032f8445"), looks := false }, kinds := [], alts := [], laidByText := true, laidKinds := [.data], laidTests := true, laidLooks := .later }
def RecordFreshCardSaid : Prop := Claim7.holds Tryd.pinned (.plain (OpenSpec.ofChange recordFreshSpec)) recordFreshCard

/-- THE TIED CARD OF 'retracelaw25.RecordReads'. -/
def recordReadsCard : Claim7 := { stood := { row := recordReadsRow, standIns := [], harness := (true, "646a4f12d63a6d3562d1dfd7f8412f191d3f79b389a3b312d0e89c95032f8445"), looks := false }, kinds := [], alts := [], laidByText := true, laidKinds := [.data], laidTests := true, laidLooks := .later }
def RecordReadsCardSaid : Prop := Claim7.holds Tryd.pinned (.plain (OpenSpec.ofChange recordReadsSpec)) recordReadsCard

/-- THE SECOND FORM's CARD OF 'retracelaw25.RecordFresh'. -/
def recordFreshUptoCard : Claim7 := { stood := { row := recordFreshUptoRow, standIns := [], harness := (true, "646a4f12d63a6d3562d1dfd7f8412f191d3f79b389a3b312d0e89c95032f8445"), looks := false }, kinds := [], alts := [], laidByText := true, laidKinds := [.data], laidTests := true, laidLooks := .later }
def RecordFreshUptoCardSaid : Prop := Claim7.holds Tryd.pinned (.plain (OpenSpec.upto recordFreshSpec)) recordFreshUptoCard

/-- THE SECOND FORM's CARD OF 'retracelaw25.RecordReads'. -/
def recordReadsUptoCard : Claim7 := { stood := { row := recordReadsUptoRow, standIns := [], harness := (true, "646a4f12d63a6d3562d1dfd7f8412f191d3f79b389a3b312d0e89c95032f8445"), looks := false }, kinds := [], alts := [], laidByText := true, laidKinds := [.data], laidTests := true, laidLooks := .later }
def RecordReadsUptoCardSaid : Prop := Claim7.holds Tryd.pinned (.plain (OpenSpec.upto recordReadsSpec)) recordReadsUptoCard
end Rows
end Go.Proofs.YtdmiciblfbkndaaDoor
