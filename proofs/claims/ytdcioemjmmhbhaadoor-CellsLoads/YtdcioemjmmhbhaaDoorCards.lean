/-
  DERIVED. GIVEN WITH THE SEED: THE CARDS: each row of YtdcioemjmmhbhaaDoorRows.lean that lists a variable, with what it lists TIED to the program's text (the seventh form; the later family's looks); each row that meets fmt, with fmt's text TOLD by the authors' own Lean function (tested against real Go, not proved from fmt's source: count such statements apart). THE CARD IS WHAT COUNTS. Prove the row's statement (the work); the ties are given (YtdcioemjmmhbhaaDoorTie.lean); close each card by the builder's one call (the guide's Derived/Test/ToyasCard.lean, 'card_holds'). Laid BY PROGRAM, IN A SANDBOX (cutbox-door.mjs). By AI agents, Wed Nov 11 2026. No macro, syntax, notation, axiom, sorry.
-/
import Derived.Test.YtdcioemjmmhbhaaDoorRows
import GoSem.ClaimSeven
namespace Go.Proofs.YtdcioemjmmhbhaaDoor
namespace Rows

/-- THE TIED CARD OF 'retracelaw10.CellsMemory'. -/
def cellsMemoryCard : Claim7 := { stood := { row := cellsMemoryRow, standIns := [], harness := (true, "59b8c0707806169163daacef4067bbcc1dd625ab916a2720e9d34689b71ea74d"), looks := false }, kinds := [], alts := [], laidByText := true, laidKinds := [.data], laidTests := true, laidLooks := .later }
def CellsMemoryCardSaid : Prop := Claim7.holds Tryd.pinned (.plain (OpenSpec.ofChange cellsMemorySpec)) cellsMemoryCard

/-- THE TIED CARD OF 'retracelaw10.CellsTwin'. -/
def cellsTwinCard : Claim7 := { stood := { row := cellsTwinRow, standIns := [], harness := (true, "59b8c0707806169163daacef4067bbcc1dd625ab916a2720e9d34689b71ea74d"), looks := false }, kinds := [], alts := [], laidByText := true, laidKinds := [.data], laidTests := true, laidLooks := .later }
def CellsTwinCardSaid : Prop := Claim7.holds Tryd.pinned (.plain (OpenSpec.ofChange cellsTwinSpec)) cellsTwinCard

/-- THE TIED CARD OF 'retracelaw10.CellsFresh'. -/
def cellsFreshCard : Claim7 := { stood := { row := cellsFreshRow, standIns := [], harness := (true, "59b8c0707806169163daacef4067bbcc1dd625ab916a2720e9d34689b71ea74d"), looks := false }, kinds := [], alts := [], laidByText := true, laidKinds := [.data], laidTests := true, laidLooks := .later }
def CellsFreshCardSaid : Prop := Claim7.holds Tryd.pinned (.plain (OpenSpec.ofChange cellsFreshSpec)) cellsFreshCard

/-- THE TIED CARD OF 'retracelaw10.CellsLoads'. -/
def cellsLoadsCard : Claim7 := { stood := { row := cellsLoadsRow, standIns := [], harness := (true, "59b8c0707806169163daacef4067bbcc1dd625ab916a2720e9d34689b71ea74d"), looks := false }, kinds := [], alts := [], laidByText := true, laidKinds := [.data], laidTests := true, laidLooks := .later }
def CellsLoadsCardSaid : Prop := Claim7.holds Tryd.pinned (.plain (OpenSpec.ofChange cellsLoadsSpec)) cellsLoadsCard

/-- THE TIED CARD OF 'retracelaw10.CellsPlays'. -/
def cellsPlaysCard : Claim7 := { stood := { row := cellsPlaysRow, standIns := [], harness := (true, "59b8c0707806169163daacef4067bbcc1dd625ab916a2720e9d34689b71ea74d"), looks := false }, kinds := [], alts := [], laidByText := true, laidKinds := [.data], laidTests := true, laidLooks := .later }
def CellsPlaysCardSaid : Prop := Claim7.holds Tryd.pinned (.plain (OpenSpec.ofChange cellsPlaysSpec)) cellsPlaysCard

/-- THE SECOND FORM's CARD OF 'retracelaw10.CellsMemory'. -/
def cellsMemoryUptoCard : Claim7 := { stood := { row := cellsMemoryUptoRow, standIns := [], harness := (true, "59b8c0707806169163daacef4067bbcc1dd625ab916a2720e9d34689b71ea74d"), looks := false }, kinds := [], alts := [], laidByText := true, laidKinds := [.data], laidTests := true, laidLooks := .later }
def CellsMemoryUptoCardSaid : Prop := Claim7.holds Tryd.pinned (.plain (OpenSpec.upto cellsMemorySpec)) cellsMemoryUptoCard

/-- THE SECOND FORM's CARD OF 'retracelaw10.CellsTwin'. -/
def cellsTwinUptoCard : Claim7 := { stood := { row := cellsTwinUptoRow, standIns := [], harness := (true, "59b8c0707806169163daacef4067bbcc1dd625ab916a2720e9d34689b71ea74d"), looks := false }, kinds := [], alts := [], laidByText := true, laidKinds := [.data], laidTests := true, laidLooks := .later }
def CellsTwinUptoCardSaid : Prop := Claim7.holds Tryd.pinned (.plain (OpenSpec.upto cellsTwinSpec)) cellsTwinUptoCard

/-- THE SECOND FORM's CARD OF 'retracelaw10.CellsFresh'. -/
def cellsFreshUptoCard : Claim7 := { stood := { row := cellsFreshUptoRow, standIns := [], harness := (true, "59b8c0707806169163daacef4067bbcc1dd625ab916a2720e9d34689b71ea74d"), looks := false }, kinds := [], alts := [], laidByText := true, laidKinds := [.data], laidTests := true, laidLooks := .later }
def CellsFreshUptoCardSaid : Prop := Claim7.holds Tryd.pinned (.plain (OpenSpec.upto cellsFreshSpec)) cellsFreshUptoCard

/-- THE SECOND FORM's CARD OF 'retracelaw10.CellsLoads'. -/
def cellsLoadsUptoCard : Claim7 := { stood := { row := cellsLoadsUptoRow, standIns := [], harness := (true, "59b8c0707806169163daacef4067bbcc1dd625ab916a2720e9d34689b71ea74d"), looks := false }, kinds := [], alts := [], laidByText := true, laidKinds := [.data], laidTests := true, laidLooks := .later }
def CellsLoadsUptoCardSaid : Prop := Claim7.holds Tryd.pinned (.plain (OpenSpec.upto cellsLoadsSpec)) cellsLoadsUptoCard

/-- THE SECOND FORM's CARD OF 'retracelaw10.CellsPlays'. -/
def cellsPlaysUptoCard : Claim7 := { stood := { row := cellsPlaysUptoRow, standIns := [], harness := (true, "59b8c0707806169163daacef4067bbcc1dd625ab916a2720e9d34689b71ea74d"), looks := false }, kinds := [], alts := [], laidByText := true, laidKinds := [.data], laidTests := true, laidLooks := .later }
def CellsPlaysUptoCardSaid : Prop := Claim7.holds Tryd.pinned (.plain (OpenSpec.upto cellsPlaysSpec)) cellsPlaysUptoCard
end Rows
end Go.Proofs.YtdcioemjmmhbhaaDoor
