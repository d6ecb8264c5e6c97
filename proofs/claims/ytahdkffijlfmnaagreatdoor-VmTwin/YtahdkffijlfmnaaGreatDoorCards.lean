/-
  DERIVED. GIVEN WITH THE SEED: THE CARDS: each row of YtahdkffijlfmnaaGreatDoorRows.lean that lists a variable, with what it lists TIED to the program's text (the seventh form; the later family's looks); each row that meets fmt, with fmt's text TOLD by the authors' own Lean function (tested against real Go, not proved from fmt's source: count such statements apart). THE CARD IS WHAT COUNTS. Prove the row's statement (the work); the ties are given (YtahdkffijlfmnaaGreatDoorTie.lean); close each card by the builder's one call (the guide's Derived/Test/ToyasCard.lean, 'card_holds'). Laid BY PROGRAM, IN A SANDBOX (cutbox-door.mjs). By AI agents, Wed Nov 11 2026. No macro, syntax, notation, axiom, sorry.
-/
import Derived.Test.YtahdkffijlfmnaaGreatDoorRows
import GoSem.ClaimSeven
namespace Go.Proofs.YtahdkffijlfmnaaGreatDoor
namespace Rows

/-- THE TIED CARD OF 'retracelaw16.VmGrows'. -/
def vmGrowsCard : Claim7 := { stood := { row := vmGrowsRow, standIns := [], harness := (true, "6d57bdb21fbde62c4d69919ee73630f2bd931daff86ca227f8ef6060a12b2de1"), looks := false }, kinds := [], alts := [], laidByText := true, laidKinds := [.data, .data, .data, .data, .data, .data, .data, .data], laidTests := true, laidLooks := .later }
def VmGrowsCardSaid : Prop := Claim7.holds Tryz.pinned (.plain (OpenSpec.ofChange vmGrowsSpec)) vmGrowsCard

/-- THE TIED CARD OF 'retracelaw16.VmRuns'. -/
def vmRunsCard : Claim7 := { stood := { row := vmRunsRow, standIns := [], harness := (true, "6d57bdb21fbde62c4d69919ee73630f2bd931daff86ca227f8ef6060a12b2de1"), looks := false }, kinds := [], alts := [], laidByText := true, laidKinds := [.data, .data, .data, .data, .data, .data, .data, .data], laidTests := true, laidLooks := .later }
def VmRunsCardSaid : Prop := Claim7.holds Tryz.pinned (.plain (OpenSpec.ofChange vmRunsSpec)) vmRunsCard

/-- THE TIED CARD OF 'retracelaw16.VmFresh'. -/
def vmFreshCard : Claim7 := { stood := { row := vmFreshRow, standIns := [], harness := (true, "6d57bdb21fbde62c4d69919ee73630f2bd931daff86ca227f8ef6060a12b2de1"), looks := false }, kinds := [], alts := [], laidByText := true, laidKinds := [.data, .data, .data, .data, .data, .data, .data, .data], laidTests := true, laidLooks := .later }
def VmFreshCardSaid : Prop := Claim7.holds Tryz.pinned (.plain (OpenSpec.ofChange vmFreshSpec)) vmFreshCard

/-- THE TIED CARD OF 'retracelaw16.VmTwin'. -/
def vmTwinCard : Claim7 := { stood := { row := vmTwinRow, standIns := [], harness := (true, "6d57bdb21fbde62c4d69919ee73630f2bd931daff86ca227f8ef6060a12b2de1"), looks := false }, kinds := [], alts := [], laidByText := true, laidKinds := [.data, .data, .data, .data, .data, .data, .data, .data], laidTests := true, laidLooks := .later }
def VmTwinCardSaid : Prop := Claim7.holds Tryz.pinned (.plain (OpenSpec.ofChange vmTwinSpec)) vmTwinCard

/-- THE SECOND FORM's CARD OF 'retracelaw16.VmGrows'. -/
def vmGrowsUptoCard : Claim7 := { stood := { row := vmGrowsUptoRow, standIns := [], harness := (true, "6d57bdb21fbde62c4d69919ee73630f2bd931daff86ca227f8ef6060a12b2de1"), looks := false }, kinds := [], alts := [], laidByText := true, laidKinds := [.data, .data, .data, .data, .data, .data, .data, .data], laidTests := true, laidLooks := .later }
def VmGrowsUptoCardSaid : Prop := Claim7.holds Tryz.pinned (.plain (OpenSpec.upto vmGrowsSpec)) vmGrowsUptoCard

/-- THE SECOND FORM's CARD OF 'retracelaw16.VmRuns'. -/
def vmRunsUptoCard : Claim7 := { stood := { row := vmRunsUptoRow, standIns := [], harness := (true, "6d57bdb21fbde62c4d69919ee73630f2bd931daff86ca227f8ef6060a12b2de1"), looks := false }, kinds := [], alts := [], laidByText := true, laidKinds := [.data, .data, .data, .data, .data, .data, .data, .data], laidTests := true, laidLooks := .later }
def VmRunsUptoCardSaid : Prop := Claim7.holds Tryz.pinned (.plain (OpenSpec.upto vmRunsSpec)) vmRunsUptoCard

/-- THE SECOND FORM's CARD OF 'retracelaw16.VmFresh'. -/
def vmFreshUptoCard : Claim7 := { stood := { row := vmFreshUptoRow, standIns := [], harness := (true, "6d57bdb21fbde62c4d69919ee73630f2bd931daff86ca227f8ef6060a12b2de1"), looks := false }, kinds := [], alts := [], laidByText := true, laidKinds := [.data, .data, .data, .data, .data, .data, .data, .data], laidTests := true, laidLooks := .later }
def VmFreshUptoCardSaid : Prop := Claim7.holds Tryz.pinned (.plain (OpenSpec.upto vmFreshSpec)) vmFreshUptoCard

/-- THE SECOND FORM's CARD OF 'retracelaw16.VmTwin'. -/
def vmTwinUptoCard : Claim7 := { stood := { row := vmTwinUptoRow, standIns := [], harness := (true, "6d57bdb21fbde62c4d69919ee73630f2bd931daff86ca227f8ef6060a12b2de1"), looks := false }, kinds := [], alts := [], laidByText := true, laidKinds := [.data, .data, .data, .data, .data, .data, .data, .data], laidTests := true, laidLooks := .later }
def VmTwinUptoCardSaid : Prop := Claim7.holds Tryz.pinned (.plain (OpenSpec.upto vmTwinSpec)) vmTwinUptoCard
end Rows
end Go.Proofs.YtahdkffijlfmnaaGreatDoor
