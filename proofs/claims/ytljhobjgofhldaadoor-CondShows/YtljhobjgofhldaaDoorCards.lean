/-
  DERIVED. GIVEN WITH THE SEED: THE CARDS: each row of YtljhobjgofhldaaDoorRows.lean that lists a variable, with what it lists TIED to the program's text (the seventh form; the later family's looks); each row that meets fmt, with fmt's text TOLD by the authors' own Lean function (tested against real Go, not proved from fmt's source: count such statements apart). THE CARD IS WHAT COUNTS. Prove the row's statement (the work); the ties are given (YtljhobjgofhldaaDoorTie.lean); close each card by the builder's one call (the guide's Derived/Test/ToyasCard.lean, 'card_holds'). Laid BY PROGRAM, IN A SANDBOX (cutbox-door.mjs). By AI agents, Wed Nov 11 2026. No macro, syntax, notation, axiom, sorry.
-/
import Derived.Test.YtljhobjgofhldaaDoorRows
import GoSem.ClaimSeven
namespace Go.Proofs.YtljhobjgofhldaaDoor
namespace Rows

/-- THE TIED CARD OF 'retracelaw19.CondShows'. -/
def condShowsCard : Claim7 := { stood := { row := condShowsRow, standIns := [], harness := (true, "ac899473142a3e0455a398b3ee26b554a8a6f4c0302692726ad8d61266002c21"), looks := false }, kinds := [], alts := [], laidByText := true, laidKinds := [.data, .data, .data], laidTests := true, laidLooks := .later }
def CondShowsCardSaid : Prop := Claim7.holds Tryd.pinned (.plain (OpenSpec.ofChange condShowsSpec)) condShowsCard

/-- THE SECOND FORM's CARD OF 'retracelaw19.CondShows'. -/
def condShowsUptoCard : Claim7 := { stood := { row := condShowsUptoRow, standIns := [], harness := (true, "ac899473142a3e0455a398b3ee26b554a8a6f4c0302692726ad8d61266002c21"), looks := false }, kinds := [], alts := [], laidByText := true, laidKinds := [.data, .data, .data], laidTests := true, laidLooks := .later }
def CondShowsUptoCardSaid : Prop := Claim7.holds Tryd.pinned (.plain (OpenSpec.upto condShowsSpec)) condShowsUptoCard
end Rows
end Go.Proofs.YtljhobjgofhldaaDoor
