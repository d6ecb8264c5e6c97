/-
  No cell of these rows narrows 'for every input' (looked for: loops, veiled, ifaces, maps, wideKeys, modest, calm, conditions, laid).
  DERIVED. THE GIVEN ROWS OF THIS SEAT. 5 by the template 'for every input the law returns true; each argument reads behind the call as it read before'; 0 by the template 'total and deterministic' (their statements: YtgncoeihlfcaiaaTotals.lean).
  GIVEN WITH THE SEED: the statements are not yours to turn. If you find one false, say at which input.
  Laid BY PROGRAM, IN A SANDBOX (cutbox-rows.mjs): the forced cells as the released guide's own fill.sh prints them over the translation f481294db8fc2813… (all of the seat's roots in one cut). By AI agents, Wed Nov 11 2026. No macro, syntax, notation, axiom, sorry.
-/
import Derived.Test.YtgncoeihlfcaiaaChecked
import GoSem.Claim
import GoSem.ClaimJoined
import GoSem.ClaimMapViews
import Derived.JoinedTies
import Derived.KernelRfl
namespace Go.Proofs.Ytgncoeihlfcaiaa
/- THE CELL 'sum', in the pinned program and in every row, IS THE sha256 OF THE DUMP (.gsa) THAT YtgncoeihlfcaiaaProg.lean LOADS. Nothing in Lean hashes anything: it is a label: what it is worth is what the hold of that sum in a sandbox is worth. -/
noncomputable def Try.pinned : Pinned := { name := "ytgncoeihlfcaiaa", sum := "f481294db8fc2813a11c200df6bc359bcec3e88e5cbf5ed2e2fb7e373ed544e6", checked := Try.checked }
namespace Rows
def none {H : Type} : Left H := { results := [], args := [] }

/-- 'retracelaw01.SourceLines': WHATEVER THE INPUT: true; the input reads as it did. -/
def sourceLinesSpec : ChangeSpec := { name := "sourceLines", fn := fun _ => fun
  | [d] => { results := [.lit (.bool true)], args := [d] }
  | _ => none }
def sourceLinesRow : OpenClaim := { program := "ytgncoeihlfcaiaa", sum := "f481294db8fc2813a11c200df6bc359bcec3e88e5cbf5ed2e2fb7e373ed544e6", func := "retrace/retracelaw01.SourceLines", spec := "sourceLines", inPlace := ["internal/bytealg.IndexByteString", "internal/bytealg.IndexString"], unfollowed := true, recurses := true, named := ["internal/bytealg.MaxLen"], apart := false }
def SourceLinesSaid : Prop := sourceLinesRow.holds Try.pinned (OpenSpec.ofChange sourceLinesSpec)

/-- ITS FALSE NEIGHBOUR: 'it returns false'. Refute it at one input. -/
def sourceLinesWrong : ChangeSpec := { name := "sourceLines", fn := fun _ => fun
  | [d] => { results := [.lit (.bool false)], args := [d] }
  | _ => none }
def SourceLinesWrongFalsely : Prop := sourceLinesRow.holds Try.pinned (OpenSpec.ofChange sourceLinesWrong)

/-- 'retracelaw01.SourceRises': WHATEVER THE INPUT: true; the input reads as it did. -/
def sourceRisesSpec : ChangeSpec := { name := "sourceRises", fn := fun _ => fun
  | [d] => { results := [.lit (.bool true)], args := [d] }
  | _ => none }
def sourceRisesRow : OpenClaim := { program := "ytgncoeihlfcaiaa", sum := "f481294db8fc2813a11c200df6bc359bcec3e88e5cbf5ed2e2fb7e373ed544e6", func := "retrace/retracelaw01.SourceRises", spec := "sourceRises", inPlace := ["internal/bytealg.IndexByteString", "internal/bytealg.IndexString"], unfollowed := true, recurses := true, named := ["internal/bytealg.MaxLen"], apart := false }
def SourceRisesSaid : Prop := sourceRisesRow.holds Try.pinned (OpenSpec.ofChange sourceRisesSpec)

/-- ITS FALSE NEIGHBOUR: 'it returns false'. Refute it at one input. -/
def sourceRisesWrong : ChangeSpec := { name := "sourceRises", fn := fun _ => fun
  | [d] => { results := [.lit (.bool false)], args := [d] }
  | _ => none }
def SourceRisesWrongFalsely : Prop := sourceRisesRow.holds Try.pinned (OpenSpec.ofChange sourceRisesWrong)

/-- 'retracelaw01.SourceJoins': WHATEVER THE INPUT: true; the input reads as it did. -/
def sourceJoinsSpec : ChangeSpec := { name := "sourceJoins", fn := fun _ => fun
  | [d] => { results := [.lit (.bool true)], args := [d] }
  | _ => none }
def sourceJoinsRow : OpenClaim := { program := "ytgncoeihlfcaiaa", sum := "f481294db8fc2813a11c200df6bc359bcec3e88e5cbf5ed2e2fb7e373ed544e6", func := "retrace/retracelaw01.SourceJoins", spec := "sourceJoins", inPlace := ["internal/bytealg.IndexByteString", "internal/bytealg.IndexString"], unfollowed := true, recurses := true, named := ["internal/bytealg.MaxLen"], apart := false }
def SourceJoinsSaid : Prop := sourceJoinsRow.holds Try.pinned (OpenSpec.ofChange sourceJoinsSpec)

/-- ITS FALSE NEIGHBOUR: 'it returns false'. Refute it at one input. -/
def sourceJoinsWrong : ChangeSpec := { name := "sourceJoins", fn := fun _ => fun
  | [d] => { results := [.lit (.bool false)], args := [d] }
  | _ => none }
def SourceJoinsWrongFalsely : Prop := sourceJoinsRow.holds Try.pinned (OpenSpec.ofChange sourceJoinsWrong)

/-- 'retracelaw01.SourceRound': WHATEVER THE INPUT: true; the input reads as it did. -/
def sourceRoundSpec : ChangeSpec := { name := "sourceRound", fn := fun _ => fun
  | [d] => { results := [.lit (.bool true)], args := [d] }
  | _ => none }
def sourceRoundRow : OpenClaim := { program := "ytgncoeihlfcaiaa", sum := "f481294db8fc2813a11c200df6bc359bcec3e88e5cbf5ed2e2fb7e373ed544e6", func := "retrace/retracelaw01.SourceRound", spec := "sourceRound", inPlace := ["internal/bytealg.IndexByteString", "internal/bytealg.IndexString"], unfollowed := true, recurses := true, named := ["internal/bytealg.MaxLen"], apart := false }
def SourceRoundSaid : Prop := sourceRoundRow.holds Try.pinned (OpenSpec.ofChange sourceRoundSpec)

/-- ITS FALSE NEIGHBOUR: 'it returns false'. Refute it at one input. -/
def sourceRoundWrong : ChangeSpec := { name := "sourceRound", fn := fun _ => fun
  | [d] => { results := [.lit (.bool false)], args := [d] }
  | _ => none }
def SourceRoundWrongFalsely : Prop := sourceRoundRow.holds Try.pinned (OpenSpec.ofChange sourceRoundWrong)

/-- 'retracelaw01.SourcePlaces': WHATEVER THE INPUT: true; the input reads as it did. -/
def sourcePlacesSpec : ChangeSpec := { name := "sourcePlaces", fn := fun _ => fun
  | [d] => { results := [.lit (.bool true)], args := [d] }
  | _ => none }
def sourcePlacesRow : OpenClaim := { program := "ytgncoeihlfcaiaa", sum := "f481294db8fc2813a11c200df6bc359bcec3e88e5cbf5ed2e2fb7e373ed544e6", func := "retrace/retracelaw01.SourcePlaces", spec := "sourcePlaces", inPlace := ["internal/bytealg.IndexByteString", "internal/bytealg.IndexString"], unfollowed := true, recurses := true, named := ["internal/bytealg.MaxLen"], apart := false }
def SourcePlacesSaid : Prop := sourcePlacesRow.holds Try.pinned (OpenSpec.ofChange sourcePlacesSpec)

/-- ITS FALSE NEIGHBOUR: 'it returns false'. Refute it at one input. -/
def sourcePlacesWrong : ChangeSpec := { name := "sourcePlaces", fn := fun _ => fun
  | [d] => { results := [.lit (.bool false)], args := [d] }
  | _ => none }
def SourcePlacesWrongFalsely : Prop := sourcePlacesRow.holds Try.pinned (OpenSpec.ofChange sourcePlacesWrong)

/- THE SECOND FORM. 'bulk': how many values and letters a reading holds, each counted each time it is reached (what is shared counts as often as it is met; a slice's spare places count too). A statement '..UptoSaid' is the law's where the arguments, and the package variables that the reading takes, are together of bulk at most 1048576: NARROWER than '..Said'. Prove '..Said' where nothing that the law and all that it calls make is longer than what came in: it says more and counts as full. Else prove '..UptoSaid'. A law counts once. -/
mutual
def uptoBulk {H : Type} : DataW H → Nat
  | .lit (.string bytes) => bytes.length + 1
  | .lit _ => 1
  | .nil => 1
  | .ptr d => uptoBulk d + 1
  | .slice elems spare => uptoBulkAll elems + uptoBulkAll spare + 1
  | .agg parts => uptoBulkAll parts + 1
  | .iface _ d => uptoBulk d + 1
  | .map entries => uptoBulkEntries entries + 1
  | .held _ => 1
def uptoBulkAll {H : Type} : List (DataW H) → Nat
  | [] => 0
  | d :: r => uptoBulk d + uptoBulkAll r
def uptoBulkEntries {H : Type} : List (Lit × DataW H) → Nat
  | [] => 0
  | x :: r => uptoBulkEntry x + uptoBulkEntries r
def uptoBulkEntry {H : Type} : Lit × DataW H → Nat
  | (.string bytes, d) => bytes.length + uptoBulk d + 1
  | (_, d) => uptoBulk d + 1
 end
def uptoSmall : (H : Type) → List (DataW H) → Bool := fun _ ds => decide (uptoBulkAll ds ≤ 1048576)
def OpenSpec.upto (s : _root_.Go.ChangeSpec) : _root_.Go.OpenSpec := { _root_.Go.OpenSpec.ofChange s with cond := some uptoSmall }

/-- 'retracelaw01.SourceLines', WHERE WHAT IT READS IS OF BULK AT MOST 1048576: true; the input reads as it did. -/
def sourceLinesUptoRow : OpenClaim := { program := "ytgncoeihlfcaiaa", sum := "f481294db8fc2813a11c200df6bc359bcec3e88e5cbf5ed2e2fb7e373ed544e6", func := "retrace/retracelaw01.SourceLines", spec := "sourceLines", inPlace := ["internal/bytealg.IndexByteString", "internal/bytealg.IndexString"], unfollowed := true, recurses := true, named := ["internal/bytealg.MaxLen"], apart := false, narrowed := true }
def SourceLinesUptoSaid : Prop := sourceLinesUptoRow.holds Try.pinned (OpenSpec.upto sourceLinesSpec)

/-- 'retracelaw01.SourceRises', WHERE WHAT IT READS IS OF BULK AT MOST 1048576: true; the input reads as it did. -/
def sourceRisesUptoRow : OpenClaim := { program := "ytgncoeihlfcaiaa", sum := "f481294db8fc2813a11c200df6bc359bcec3e88e5cbf5ed2e2fb7e373ed544e6", func := "retrace/retracelaw01.SourceRises", spec := "sourceRises", inPlace := ["internal/bytealg.IndexByteString", "internal/bytealg.IndexString"], unfollowed := true, recurses := true, named := ["internal/bytealg.MaxLen"], apart := false, narrowed := true }
def SourceRisesUptoSaid : Prop := sourceRisesUptoRow.holds Try.pinned (OpenSpec.upto sourceRisesSpec)

/-- 'retracelaw01.SourceJoins', WHERE WHAT IT READS IS OF BULK AT MOST 1048576: true; the input reads as it did. -/
def sourceJoinsUptoRow : OpenClaim := { program := "ytgncoeihlfcaiaa", sum := "f481294db8fc2813a11c200df6bc359bcec3e88e5cbf5ed2e2fb7e373ed544e6", func := "retrace/retracelaw01.SourceJoins", spec := "sourceJoins", inPlace := ["internal/bytealg.IndexByteString", "internal/bytealg.IndexString"], unfollowed := true, recurses := true, named := ["internal/bytealg.MaxLen"], apart := false, narrowed := true }
def SourceJoinsUptoSaid : Prop := sourceJoinsUptoRow.holds Try.pinned (OpenSpec.upto sourceJoinsSpec)

/-- 'retracelaw01.SourceRound', WHERE WHAT IT READS IS OF BULK AT MOST 1048576: true; the input reads as it did. -/
def sourceRoundUptoRow : OpenClaim := { program := "ytgncoeihlfcaiaa", sum := "f481294db8fc2813a11c200df6bc359bcec3e88e5cbf5ed2e2fb7e373ed544e6", func := "retrace/retracelaw01.SourceRound", spec := "sourceRound", inPlace := ["internal/bytealg.IndexByteString", "internal/bytealg.IndexString"], unfollowed := true, recurses := true, named := ["internal/bytealg.MaxLen"], apart := false, narrowed := true }
def SourceRoundUptoSaid : Prop := sourceRoundUptoRow.holds Try.pinned (OpenSpec.upto sourceRoundSpec)

/-- 'retracelaw01.SourcePlaces', WHERE WHAT IT READS IS OF BULK AT MOST 1048576: true; the input reads as it did. -/
def sourcePlacesUptoRow : OpenClaim := { program := "ytgncoeihlfcaiaa", sum := "f481294db8fc2813a11c200df6bc359bcec3e88e5cbf5ed2e2fb7e373ed544e6", func := "retrace/retracelaw01.SourcePlaces", spec := "sourcePlaces", inPlace := ["internal/bytealg.IndexByteString", "internal/bytealg.IndexString"], unfollowed := true, recurses := true, named := ["internal/bytealg.MaxLen"], apart := false, narrowed := true }
def SourcePlacesUptoSaid : Prop := sourcePlacesUptoRow.holds Try.pinned (OpenSpec.upto sourcePlacesSpec)

end Rows
end Go.Proofs.Ytgncoeihlfcaiaa
