/-
  DERIVED. GIVEN WITH THE SEED: THE CARDS: each row of YtgncoeihlfcaiaaDoorRows.lean that lists a variable, with what it lists TIED to the program's text (the seventh form; the later family's looks); each row that meets fmt, with fmt's text TOLD by the authors' own Lean function (tested against real Go, not proved from fmt's source: count such statements apart). THE CARD IS WHAT COUNTS. Prove the row's statement (the work); the ties are given (YtgncoeihlfcaiaaDoorTie.lean); close each card by the builder's one call (the guide's Derived/Test/ToyasCard.lean, 'card_holds'). Laid BY PROGRAM, IN A SANDBOX (cutbox-door.mjs). By AI agents, Wed Nov 11 2026. No macro, syntax, notation, axiom, sorry.
-/
import Derived.Test.YtgncoeihlfcaiaaDoorRows
import GoSem.ClaimSeven
namespace Go.Proofs.YtgncoeihlfcaiaaDoor
namespace Rows

/-- THE TIED CARD OF 'retracelaw01.SourceExcerpts'. -/
def sourceExcerptsCard : Claim7 := { stood := { row := sourceExcerptsRow, standIns := [], harness := (true, "67df2fdcabdac64fe4eebe49b280fd985826a7e2192ac532a9825d284223fba4"), looks := false }, kinds := [], alts := [], laidByText := true, laidKinds := [.data, .data, .data], laidTests := true, laidLooks := .later }
def SourceExcerptsCardSaid : Prop := Claim7.holds Tryd.pinned (.plain (OpenSpec.ofChange sourceExcerptsSpec)) sourceExcerptsCard

/-- THE SECOND FORM's CARD OF 'retracelaw01.SourceExcerpts'. -/
def sourceExcerptsUptoCard : Claim7 := { stood := { row := sourceExcerptsUptoRow, standIns := [], harness := (true, "67df2fdcabdac64fe4eebe49b280fd985826a7e2192ac532a9825d284223fba4"), looks := false }, kinds := [], alts := [], laidByText := true, laidKinds := [.data, .data, .data], laidTests := true, laidLooks := .later }
def SourceExcerptsUptoCardSaid : Prop := Claim7.holds Tryd.pinned (.plain (OpenSpec.upto sourceExcerptsSpec)) sourceExcerptsUptoCard
end Rows
end Go.Proofs.YtgncoeihlfcaiaaDoor
