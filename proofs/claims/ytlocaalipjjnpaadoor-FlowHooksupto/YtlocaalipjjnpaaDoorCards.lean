/-
  DERIVED. GIVEN WITH THE SEED: THE CARDS: each row of YtlocaalipjjnpaaDoorRows.lean that lists a variable, with what it lists TIED to the program's text (the seventh form; the later family's looks); each row that meets fmt, with fmt's text TOLD by the authors' own Lean function (tested against real Go, not proved from fmt's source: count such statements apart). THE CARD IS WHAT COUNTS. Prove the row's statement (the work); the ties are given (YtlocaalipjjnpaaDoorTie.lean); close each card by the builder's one call (the guide's Derived/Test/ToyasCard.lean, 'card_holds'). Laid BY PROGRAM, IN A SANDBOX (cutbox-door.mjs). By AI agents, Wed Nov 11 2026. No macro, syntax, notation, axiom, sorry.
-/
import Derived.Test.YtlocaalipjjnpaaDoorRows
import GoSem.ClaimSeven
namespace Go.Proofs.YtlocaalipjjnpaaDoor
namespace Rows

/-- THE TIED CARD OF 'retracelaw08.FlowHooks'. -/
def flowHooksCard : Claim7 := { stood := { row := flowHooksRow, standIns := [], harness := (true, "12aa45a2e9c7fa8e0a845e5a2efa56b903cebef11cd55135f106dd31191d22ce"), looks := false }, kinds := [], alts := [], laidByText := true, laidKinds := [.data, .data], laidTests := true, laidLooks := .later }
def FlowHooksCardSaid : Prop := Claim7.holds Tryd.pinned (.plain (OpenSpec.ofChange flowHooksSpec)) flowHooksCard

/-- THE TIED CARD OF 'retracelaw08.FlowChecks'. -/
def flowChecksCard : Claim7 := { stood := { row := flowChecksRow, standIns := [], harness := (true, "12aa45a2e9c7fa8e0a845e5a2efa56b903cebef11cd55135f106dd31191d22ce"), looks := false }, kinds := [], alts := [], laidByText := true, laidKinds := [.data, .data], laidTests := true, laidLooks := .later }
def FlowChecksCardSaid : Prop := Claim7.holds Tryd.pinned (.plain (OpenSpec.ofChange flowChecksSpec)) flowChecksCard

/-- THE TIED CARD OF 'retracelaw08.FlowEnds'. -/
def flowEndsCard : Claim7 := { stood := { row := flowEndsRow, standIns := [], harness := (true, "12aa45a2e9c7fa8e0a845e5a2efa56b903cebef11cd55135f106dd31191d22ce"), looks := false }, kinds := [], alts := [], laidByText := true, laidKinds := [.data, .data], laidTests := true, laidLooks := .later }
def FlowEndsCardSaid : Prop := Claim7.holds Tryd.pinned (.plain (OpenSpec.ofChange flowEndsSpec)) flowEndsCard

/-- THE SECOND FORM's CARD OF 'retracelaw08.FlowHooks'. -/
def flowHooksUptoCard : Claim7 := { stood := { row := flowHooksUptoRow, standIns := [], harness := (true, "12aa45a2e9c7fa8e0a845e5a2efa56b903cebef11cd55135f106dd31191d22ce"), looks := false }, kinds := [], alts := [], laidByText := true, laidKinds := [.data, .data], laidTests := true, laidLooks := .later }
def FlowHooksUptoCardSaid : Prop := Claim7.holds Tryd.pinned (.plain (OpenSpec.upto flowHooksSpec)) flowHooksUptoCard

/-- THE SECOND FORM's CARD OF 'retracelaw08.FlowChecks'. -/
def flowChecksUptoCard : Claim7 := { stood := { row := flowChecksUptoRow, standIns := [], harness := (true, "12aa45a2e9c7fa8e0a845e5a2efa56b903cebef11cd55135f106dd31191d22ce"), looks := false }, kinds := [], alts := [], laidByText := true, laidKinds := [.data, .data], laidTests := true, laidLooks := .later }
def FlowChecksUptoCardSaid : Prop := Claim7.holds Tryd.pinned (.plain (OpenSpec.upto flowChecksSpec)) flowChecksUptoCard

/-- THE SECOND FORM's CARD OF 'retracelaw08.FlowEnds'. -/
def flowEndsUptoCard : Claim7 := { stood := { row := flowEndsUptoRow, standIns := [], harness := (true, "12aa45a2e9c7fa8e0a845e5a2efa56b903cebef11cd55135f106dd31191d22ce"), looks := false }, kinds := [], alts := [], laidByText := true, laidKinds := [.data, .data], laidTests := true, laidLooks := .later }
def FlowEndsUptoCardSaid : Prop := Claim7.holds Tryd.pinned (.plain (OpenSpec.upto flowEndsSpec)) flowEndsUptoCard
end Rows
end Go.Proofs.YtlocaalipjjnpaaDoor
