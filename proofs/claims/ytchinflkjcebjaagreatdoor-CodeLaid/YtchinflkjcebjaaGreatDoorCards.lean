/-
  DERIVED. GIVEN WITH THE SEED: THE CARDS: each row of YtchinflkjcebjaaGreatDoorRows.lean that lists a variable, with what it lists TIED to the program's text (the seventh form; the later family's looks); each row that meets fmt, with fmt's text TOLD by the authors' own Lean function (tested against real Go, not proved from fmt's source: count such statements apart). THE CARD IS WHAT COUNTS. Prove the row's statement (the work); the ties are given (YtchinflkjcebjaaGreatDoorTie.lean); close each card by the builder's one call (the guide's Derived/Test/ToyasCard.lean, 'card_holds'). Laid BY PROGRAM, IN A SANDBOX (cutbox-door.mjs). By AI agents, Wed Nov 11 2026. No macro, syntax, notation, axiom, sorry.
-/
import Derived.Test.YtchinflkjcebjaaGreatDoorRows
import GoSem.ClaimSeven
namespace Go.Proofs.YtchinflkjcebjaaGreatDoor
namespace Rows

/-- THE TIED CARD OF 'retracelaw13.CodeStays'. -/
def codeStaysCard : Claim7 := { stood := { row := codeStaysRow, standIns := [], harness := (true, "783ea7c812a75694485e84ebeef2e26812c856ad0f8c4eab1bf4fabd76987bec"), looks := true }, kinds := [], alts := [], laidByText := true, laidKinds := [.data, .data, .data, .sentinel, .sentinel, .data, .data, .data, .data], laidTests := true, laidLooks := .later }
def CodeStaysCardSaid : Prop := Claim7.holds Tryz.pinned (.plain (OpenSpec.ofChange codeStaysSpec)) codeStaysCard

/-- THE TIED CARD OF 'retracelaw13.CodeLaid'. -/
def codeLaidCard : Claim7 := { stood := { row := codeLaidRow, standIns := [], harness := (true, "783ea7c812a75694485e84ebeef2e26812c856ad0f8c4eab1bf4fabd76987bec"), looks := true }, kinds := [], alts := [], laidByText := true, laidKinds := [.data, .data, .data, .sentinel, .sentinel, .data, .data, .data, .data], laidTests := true, laidLooks := .later }
def CodeLaidCardSaid : Prop := Claim7.holds Tryz.pinned (.plain (OpenSpec.ofChange codeLaidSpec)) codeLaidCard

/-- THE TIED CARD OF 'retracelaw13.CodeValids'. -/
def codeValidsCard : Claim7 := { stood := { row := codeValidsRow, standIns := [], harness := (true, "783ea7c812a75694485e84ebeef2e26812c856ad0f8c4eab1bf4fabd76987bec"), looks := true }, kinds := [], alts := [], laidByText := true, laidKinds := [.data, .data, .data, .sentinel, .sentinel, .data, .data, .data, .data], laidTests := true, laidLooks := .later }
def CodeValidsCardSaid : Prop := Claim7.holds Tryz.pinned (.plain (OpenSpec.ofChange codeValidsSpec)) codeValidsCard

/-- THE TIED CARD OF 'retracelaw13.CodeReads'. -/
def codeReadsCard : Claim7 := { stood := { row := codeReadsRow, standIns := [], harness := (true, "783ea7c812a75694485e84ebeef2e26812c856ad0f8c4eab1bf4fabd76987bec"), looks := true }, kinds := [], alts := [], laidByText := true, laidKinds := [.data, .data, .data, .sentinel, .sentinel, .data, .data, .data, .data], laidTests := true, laidLooks := .later }
def CodeReadsCardSaid : Prop := Claim7.holds Tryz.pinned (.plain (OpenSpec.ofChange codeReadsSpec)) codeReadsCard

/-- THE SECOND FORM's CARD OF 'retracelaw13.CodeStays'. -/
def codeStaysUptoCard : Claim7 := { stood := { row := codeStaysUptoRow, standIns := [], harness := (true, "783ea7c812a75694485e84ebeef2e26812c856ad0f8c4eab1bf4fabd76987bec"), looks := true }, kinds := [], alts := [], laidByText := true, laidKinds := [.data, .data, .data, .sentinel, .sentinel, .data, .data, .data, .data], laidTests := true, laidLooks := .later }
def CodeStaysUptoCardSaid : Prop := Claim7.holds Tryz.pinned (.plain (OpenSpec.upto codeStaysSpec)) codeStaysUptoCard

/-- THE SECOND FORM's CARD OF 'retracelaw13.CodeLaid'. -/
def codeLaidUptoCard : Claim7 := { stood := { row := codeLaidUptoRow, standIns := [], harness := (true, "783ea7c812a75694485e84ebeef2e26812c856ad0f8c4eab1bf4fabd76987bec"), looks := true }, kinds := [], alts := [], laidByText := true, laidKinds := [.data, .data, .data, .sentinel, .sentinel, .data, .data, .data, .data], laidTests := true, laidLooks := .later }
def CodeLaidUptoCardSaid : Prop := Claim7.holds Tryz.pinned (.plain (OpenSpec.upto codeLaidSpec)) codeLaidUptoCard

/-- THE SECOND FORM's CARD OF 'retracelaw13.CodeValids'. -/
def codeValidsUptoCard : Claim7 := { stood := { row := codeValidsUptoRow, standIns := [], harness := (true, "783ea7c812a75694485e84ebeef2e26812c856ad0f8c4eab1bf4fabd76987bec"), looks := true }, kinds := [], alts := [], laidByText := true, laidKinds := [.data, .data, .data, .sentinel, .sentinel, .data, .data, .data, .data], laidTests := true, laidLooks := .later }
def CodeValidsUptoCardSaid : Prop := Claim7.holds Tryz.pinned (.plain (OpenSpec.upto codeValidsSpec)) codeValidsUptoCard

/-- THE SECOND FORM's CARD OF 'retracelaw13.CodeReads'. -/
def codeReadsUptoCard : Claim7 := { stood := { row := codeReadsUptoRow, standIns := [], harness := (true, "783ea7c812a75694485e84ebeef2e26812c856ad0f8c4eab1bf4fabd76987bec"), looks := true }, kinds := [], alts := [], laidByText := true, laidKinds := [.data, .data, .data, .sentinel, .sentinel, .data, .data, .data, .data], laidTests := true, laidLooks := .later }
def CodeReadsUptoCardSaid : Prop := Claim7.holds Tryz.pinned (.plain (OpenSpec.upto codeReadsSpec)) codeReadsUptoCard
end Rows
end Go.Proofs.YtchinflkjcebjaaGreatDoor
