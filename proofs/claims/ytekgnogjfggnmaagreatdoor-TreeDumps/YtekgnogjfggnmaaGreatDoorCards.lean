/-
  DERIVED. GIVEN WITH THE SEED: THE CARDS: each row of YtekgnogjfggnmaaGreatDoorRows.lean that lists a variable, with what it lists TIED to the program's text (the seventh form; the later family's looks); each row that meets fmt, with fmt's text TOLD by the authors' own Lean function (tested against real Go, not proved from fmt's source: count such statements apart). THE CARD IS WHAT COUNTS. Prove the row's statement (the work); the ties are given (YtekgnogjfggnmaaGreatDoorTie.lean); close each card by the builder's one call (the guide's Derived/Test/ToyasCard.lean, 'card_holds'). Laid BY PROGRAM, IN A SANDBOX (cutbox-door.mjs). By AI agents, Wed Nov 11 2026. No macro, syntax, notation, axiom, sorry.
-/
import Derived.Test.YtekgnogjfggnmaaGreatDoorRows
import GoSem.ClaimSeven
namespace Go.Proofs.YtekgnogjfggnmaaGreatDoor
namespace Rows

/-- THE TIED CARD OF 'retracelaw03.TreeRound'. -/
def treeRoundCard : Claim7 := { stood := { row := treeRoundRow, standIns := [], harness := (true, "b7d12c9941f37a2ff22ef7956366dd3772fe7e3ed599caf707c21bcc3ec4e6cd"), looks := true }, kinds := [], alts := [], laidByText := true, laidKinds := [.data, .data, .data, .data, .sentinel, .sentinel, .data, .data, .sentinel, .data, .data, .pinned], laidTests := true, laidLooks := .later }
def TreeRoundCardSaid : Prop := Claim7.holds Tryz.pinned (.plain (OpenSpec.ofChange treeRoundSpec)) treeRoundCard

/-- THE TIED CARD OF 'retracelaw03.TreeDumps'. -/
def treeDumpsCard : Claim7 := { stood := { row := treeDumpsRow, standIns := [], harness := (true, "b7d12c9941f37a2ff22ef7956366dd3772fe7e3ed599caf707c21bcc3ec4e6cd"), looks := true }, kinds := [], alts := [], laidByText := true, laidKinds := [.data, .data, .data, .data, .sentinel, .sentinel, .data, .data, .data, .data, .sentinel, .data, .data, .pinned], laidTests := true, laidLooks := .later }
def TreeDumpsCardSaid : Prop := Claim7.holds Tryz.pinned (.plain (OpenSpec.ofChange treeDumpsSpec)) treeDumpsCard

/-- THE SECOND FORM's CARD OF 'retracelaw03.TreeRound'. -/
def treeRoundUptoCard : Claim7 := { stood := { row := treeRoundUptoRow, standIns := [], harness := (true, "b7d12c9941f37a2ff22ef7956366dd3772fe7e3ed599caf707c21bcc3ec4e6cd"), looks := true }, kinds := [], alts := [], laidByText := true, laidKinds := [.data, .data, .data, .data, .sentinel, .sentinel, .data, .data, .sentinel, .data, .data, .pinned], laidTests := true, laidLooks := .later }
def TreeRoundUptoCardSaid : Prop := Claim7.holds Tryz.pinned (.plain (OpenSpec.upto treeRoundSpec)) treeRoundUptoCard

/-- THE SECOND FORM's CARD OF 'retracelaw03.TreeDumps'. -/
def treeDumpsUptoCard : Claim7 := { stood := { row := treeDumpsUptoRow, standIns := [], harness := (true, "b7d12c9941f37a2ff22ef7956366dd3772fe7e3ed599caf707c21bcc3ec4e6cd"), looks := true }, kinds := [], alts := [], laidByText := true, laidKinds := [.data, .data, .data, .data, .sentinel, .sentinel, .data, .data, .data, .data, .sentinel, .data, .data, .pinned], laidTests := true, laidLooks := .later }
def TreeDumpsUptoCardSaid : Prop := Claim7.holds Tryz.pinned (.plain (OpenSpec.upto treeDumpsSpec)) treeDumpsUptoCard
end Rows
end Go.Proofs.YtekgnogjfggnmaaGreatDoor
