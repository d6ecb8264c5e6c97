/-
  DERIVED. GIVEN WITH THE SEED: THE CARDS: each row of YtdcaonfnhdjibaaDoorRows.lean that lists a variable, with what it lists TIED to the program's text (the seventh form; the later family's looks); each row that meets fmt, with fmt's text TOLD by the authors' own Lean function (tested against real Go, not proved from fmt's source: count such statements apart). THE CARD IS WHAT COUNTS. Prove the row's statement (the work); the ties are given (YtdcaonfnhdjibaaDoorTie.lean); close each card by the builder's one call (the guide's Derived/Test/ToyasCard.lean, 'card_holds'). Laid BY PROGRAM, IN A SANDBOX (cutbox-door.mjs). By AI agents, Wed Nov 11 2026. No macro, syntax, notation, axiom, sorry.
-/
import Derived.Test.YtdcaonfnhdjibaaDoorRows
import GoSem.ClaimSeven
namespace Go.Proofs.YtdcaonfnhdjibaaDoor
namespace Rows

/-- THE TIED CARD OF 'retracelaw14.VerifyDead'. -/
def verifyDeadCard : Claim7 := { stood := { row := verifyDeadRow, standIns := [], harness := (true, "4b178ab7b2086134c7c309924b1c1984a92a5cdf30c6603ede55b01cffb3b33f"), looks := true }, kinds := [], alts := [], laidByText := true, laidKinds := [.data, .data, .data], laidTests := true, laidLooks := .later }
def VerifyDeadCardSaid : Prop := Claim7.holds Tryd.pinned (.plain (OpenSpec.ofChange verifyDeadSpec)) verifyDeadCard

/-- THE TIED CARD OF 'retracelaw14.VerifyWays'. -/
def verifyWaysCard : Claim7 := { stood := { row := verifyWaysRow, standIns := [], harness := (true, "4b178ab7b2086134c7c309924b1c1984a92a5cdf30c6603ede55b01cffb3b33f"), looks := true }, kinds := [], alts := [], laidByText := true, laidKinds := [.data, .data, .data], laidTests := true, laidLooks := .later }
def VerifyWaysCardSaid : Prop := Claim7.holds Tryd.pinned (.plain (OpenSpec.ofChange verifyWaysSpec)) verifyWaysCard

/-- THE TIED CARD OF 'retracelaw14.VerifyProves'. -/
def verifyProvesCard : Claim7 := { stood := { row := verifyProvesRow, standIns := [], harness := (true, "4b178ab7b2086134c7c309924b1c1984a92a5cdf30c6603ede55b01cffb3b33f"), looks := true }, kinds := [], alts := [], laidByText := true, laidKinds := [.data, .data, .data], laidTests := true, laidLooks := .later }
def VerifyProvesCardSaid : Prop := Claim7.holds Tryd.pinned (.plain (OpenSpec.ofChange verifyProvesSpec)) verifyProvesCard

/-- THE TIED CARD OF 'retracelaw14.VerifyChecks'. -/
def verifyChecksCard : Claim7 := { stood := { row := verifyChecksRow, standIns := [], harness := (true, "4b178ab7b2086134c7c309924b1c1984a92a5cdf30c6603ede55b01cffb3b33f"), looks := true }, kinds := [], alts := [], laidByText := true, laidKinds := [.data, .data, .data], laidTests := true, laidLooks := .later }
def VerifyChecksCardSaid : Prop := Claim7.holds Tryd.pinned (.plain (OpenSpec.ofChange verifyChecksSpec)) verifyChecksCard

/-- THE SECOND FORM's CARD OF 'retracelaw14.VerifyDead'. -/
def verifyDeadUptoCard : Claim7 := { stood := { row := verifyDeadUptoRow, standIns := [], harness := (true, "4b178ab7b2086134c7c309924b1c1984a92a5cdf30c6603ede55b01cffb3b33f"), looks := true }, kinds := [], alts := [], laidByText := true, laidKinds := [.data, .data, .data], laidTests := true, laidLooks := .later }
def VerifyDeadUptoCardSaid : Prop := Claim7.holds Tryd.pinned (.plain (OpenSpec.upto verifyDeadSpec)) verifyDeadUptoCard

/-- THE SECOND FORM's CARD OF 'retracelaw14.VerifyWays'. -/
def verifyWaysUptoCard : Claim7 := { stood := { row := verifyWaysUptoRow, standIns := [], harness := (true, "4b178ab7b2086134c7c309924b1c1984a92a5cdf30c6603ede55b01cffb3b33f"), looks := true }, kinds := [], alts := [], laidByText := true, laidKinds := [.data, .data, .data], laidTests := true, laidLooks := .later }
def VerifyWaysUptoCardSaid : Prop := Claim7.holds Tryd.pinned (.plain (OpenSpec.upto verifyWaysSpec)) verifyWaysUptoCard

/-- THE SECOND FORM's CARD OF 'retracelaw14.VerifyProves'. -/
def verifyProvesUptoCard : Claim7 := { stood := { row := verifyProvesUptoRow, standIns := [], harness := (true, "4b178ab7b2086134c7c309924b1c1984a92a5cdf30c6603ede55b01cffb3b33f"), looks := true }, kinds := [], alts := [], laidByText := true, laidKinds := [.data, .data, .data], laidTests := true, laidLooks := .later }
def VerifyProvesUptoCardSaid : Prop := Claim7.holds Tryd.pinned (.plain (OpenSpec.upto verifyProvesSpec)) verifyProvesUptoCard

/-- THE SECOND FORM's CARD OF 'retracelaw14.VerifyChecks'. -/
def verifyChecksUptoCard : Claim7 := { stood := { row := verifyChecksUptoRow, standIns := [], harness := (true, "4b178ab7b2086134c7c309924b1c1984a92a5cdf30c6603ede55b01cffb3b33f"), looks := true }, kinds := [], alts := [], laidByText := true, laidKinds := [.data, .data, .data], laidTests := true, laidLooks := .later }
def VerifyChecksUptoCardSaid : Prop := Claim7.holds Tryd.pinned (.plain (OpenSpec.upto verifyChecksSpec)) verifyChecksUptoCard
end Rows
end Go.Proofs.YtdcaonfnhdjibaaDoor
