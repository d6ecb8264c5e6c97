/-
  NARROWER THAN 'FOR EVERY INPUT', by the rows' own cells (each row's printed sentence says how): VerifyDead: laid · VerifyWays: laid · VerifyProves: laid · VerifyChecks: laid.
  DERIVED. THE GIVEN ROWS OF THIS SEAT. 4 by the template 'for every input the law returns true; each argument reads behind the call as it read before'; 0 by the template 'total and deterministic' (their statements: YtdcaonfnhdjibaaDoorTotals.lean).
  GIVEN WITH THE SEED: the statements are not yours to turn. If you find one false, say at which input.
  Laid BY PROGRAM, IN A SANDBOX (cutbox-rows.mjs): the forced cells as the released guide's own fill.sh prints them over the translation b6b19b7979166acc… (all of the seat's roots in one cut). By AI agents, Wed Nov 11 2026. No macro, syntax, notation, axiom, sorry.
-/
import Derived.Test.YtdcaonfnhdjibaaDoorChecked
import GoSem.Claim
import GoSem.ClaimJoined
import GoSem.ClaimMapViews
import Derived.JoinedTies
import Derived.KernelRfl
namespace Go.Proofs.YtdcaonfnhdjibaaDoor
/- THE CELL 'sum', in the pinned program and in every row, IS THE sha256 OF THE DUMP (.gsa) THAT YtdcaonfnhdjibaaDoorProg.lean LOADS. Nothing in Lean hashes anything: it is a label: what it is worth is what the hold of that sum in a sandbox is worth. -/
noncomputable def Tryd.pinned : Pinned := { name := "ytdcaonfnhdjibaadoor", sum := "b6b19b7979166acc361981073a702edca476b63f8e88f7b62cfe3e730e852b50", checked := Tryd.checked }
namespace Rows
def none {H : Type} : Left H := { results := [], args := [] }

/- WHAT THE LISTED PACKAGE-LEVEL VARIABLES READ AS WHEN THE CALL BEGINS. Each datum BY PROGRAM (the guide's laid-datum.mjs) off the statement by which the dump's own 'gosem.cut.vars' lays the variable. In a bare row this is a premise. The card (YtdcaonfnhdjibaaDoorCards.lean) ties it to the program's text. -/
def laid_retrace_code_instructions {H : Type} : DataW H := .agg [.agg [.lit (.string [110, 111, 112]), .lit (.int .i64 0), .lit (.int .i64 0)], .agg [.lit (.string [105, 110, 116]), .lit (.int .i64 1), .lit (.int .i64 0)], .agg [.lit (.string [98, 111, 111, 108]), .lit (.int .i64 2), .lit (.int .i64 0)], .agg [.lit (.string [116, 101, 120, 116]), .lit (.int .i64 3), .lit (.int .i64 0)], .agg [.lit (.string [108, 111, 97, 100]), .lit (.int .i64 4), .lit (.int .i64 0)], .agg [.lit (.string [115, 116, 111, 114, 101]), .lit (.int .i64 4), .lit (.int .i64 0)], .agg [.lit (.string [112, 111, 112]), .lit (.int .i64 0), .lit (.int .i64 0)], .agg [.lit (.string [117, 110]), .lit (.int .i64 5), .lit (.int .i64 0)], .agg [.lit (.string [98, 105, 110]), .lit (.int .i64 6), .lit (.int .i64 0)], .agg [.lit (.string [106, 117, 109, 112]), .lit (.int .i64 7), .lit (.int .i64 0)], .agg [.lit (.string [102, 97, 108, 115, 101]), .lit (.int .i64 7), .lit (.int .i64 0)], .agg [.lit (.string [99, 97, 108, 108]), .lit (.int .i64 8), .lit (.int .i64 0)], .agg [.lit (.string [114, 101, 116]), .lit (.int .i64 0), .lit (.int .i64 0)], .agg [.lit (.string [100, 111, 110, 101]), .lit (.int .i64 0), .lit (.int .i64 0)], .agg [.lit (.string [110, 101, 119]), .lit (.int .i64 9), .lit (.int .i64 0)], .agg [.lit (.string [103, 101, 116]), .lit (.int .i64 0), .lit (.int .i64 0)], .agg [.lit (.string [112, 117, 116]), .lit (.int .i64 0), .lit (.int .i64 0)], .agg [.lit (.string [108, 101, 110]), .lit (.int .i64 0), .lit (.int .i64 0)], .agg [.lit (.string [115, 116, 114]), .lit (.int .i64 0), .lit (.int .i64 0)], .agg [.lit (.string [112, 114, 105, 110, 116]), .lit (.int .i64 10), .lit (.int .i64 0)], .agg [.lit (.string [114, 101, 97, 100]), .lit (.int .i64 0), .lit (.int .i64 0)], .agg [.lit (.string [101, 109, 105, 116]), .lit (.int .i64 11), .lit (.int .i64 0)], .agg [.lit (.string [115, 104, 111, 119]), .lit (.int .i64 11), .lit (.int .i64 4)], .agg [.lit (.string [116, 101, 108, 108]), .lit (.int .i64 11), .lit (.int .i64 0)]]
def laid_retrace_code_shapes {H : Type} : DataW H := .agg [.agg [.lit (.int .i64 0), .lit (.int .i64 0), .lit (.int .i64 0)], .agg [.lit (.int .i64 (-9223372036854775808)), .lit (.int .i64 9223372036854775807), .lit (.int .i64 8)], .agg [.lit (.int .i64 0), .lit (.int .i64 1), .lit (.int .i64 1)], .agg [.lit (.int .i64 0), .lit (.int .i64 3999), .lit (.int .i64 2)], .agg [.lit (.int .i64 0), .lit (.int .i64 249), .lit (.int .i64 1)], .agg [.lit (.int .i64 1), .lit (.int .i64 2), .lit (.int .i64 1)], .agg [.lit (.int .i64 3), .lit (.int .i64 13), .lit (.int .i64 1)], .agg [.lit (.int .i64 0), .lit (.int .i64 59999), .lit (.int .i64 4)], .agg [.lit (.int .i64 0), .lit (.int .i64 59), .lit (.int .i64 1)], .agg [.lit (.int .i64 1), .lit (.int .i64 15), .lit (.int .i64 1)], .agg [.lit (.int .i64 1), .lit (.int .i64 16), .lit (.int .i64 1)], .agg [.lit (.int .i64 1), .lit (.int .i64 40000), .lit (.int .i64 2)], .agg [.lit (.int .i64 0), .lit (.int .i64 8), .lit (.int .i64 1)]]
def laid_retrace_code_typeNames {H : Type} : DataW H := .agg [.lit (.string []), .lit (.string [105, 110, 116]), .lit (.string [98, 111, 111, 108]), .lit (.string [116, 101, 120, 116]), .lit (.string []), .lit (.string [91, 105, 110, 116, 93]), .lit (.string [91, 98, 111, 111, 108, 93]), .lit (.string [91, 116, 101, 120, 116, 93]), .lit (.string []), .lit (.string [91, 91, 105, 110, 116, 93, 93]), .lit (.string [91, 91, 98, 111, 111, 108, 93, 93]), .lit (.string [91, 91, 116, 101, 120, 116, 93, 93]), .lit (.string []), .lit (.string [91, 91, 91, 105, 110, 116, 93, 93, 93]), .lit (.string [91, 91, 91, 98, 111, 111, 108, 93, 93, 93]), .lit (.string [91, 91, 91, 116, 101, 120, 116, 93, 93, 93]), .lit (.string []), .lit (.string [91, 91, 91, 91, 105, 110, 116, 93, 93, 93, 93]), .lit (.string [91, 91, 91, 91, 98, 111, 111, 108, 93, 93, 93, 93]), .lit (.string [91, 91, 91, 91, 116, 101, 120, 116, 93, 93, 93, 93])]

/-- 'retracelaw14.VerifyDead': WHATEVER THE INPUT: true; the input reads as it did. -/
def verifyDeadSpec : ChangeSpec := { name := "verifyDead", fn := fun _ => fun
  | [d] => { results := [.lit (.bool true)], args := [d] }
  | _ => none }
def verifyDeadRow : OpenClaim := { program := "ytdcaonfnhdjibaadoor", sum := "b6b19b7979166acc361981073a702edca476b63f8e88f7b62cfe3e730e852b50", func := "retrace/retracelaw14.VerifyDead", spec := "verifyDead", unfollowed := true, recurses := true, named := ["retrace/code.typeNames", "retrace/code.instructions", "retrace/code.shapes"], apart := false, laid := [("retrace/code.instructions", laid_retrace_code_instructions), ("retrace/code.shapes", laid_retrace_code_shapes), ("retrace/code.typeNames", laid_retrace_code_typeNames)] }
def VerifyDeadSaid : Prop := verifyDeadRow.holds Tryd.pinned (OpenSpec.ofChange verifyDeadSpec)

/-- ITS FALSE NEIGHBOUR: 'it returns false'. Refute it at one input. -/
def verifyDeadWrong : ChangeSpec := { name := "verifyDead", fn := fun _ => fun
  | [d] => { results := [.lit (.bool false)], args := [d] }
  | _ => none }
def VerifyDeadWrongFalsely : Prop := verifyDeadRow.holds Tryd.pinned (OpenSpec.ofChange verifyDeadWrong)

/-- 'retracelaw14.VerifyWays': WHATEVER THE INPUT: true; the input reads as it did. -/
def verifyWaysSpec : ChangeSpec := { name := "verifyWays", fn := fun _ => fun
  | [d] => { results := [.lit (.bool true)], args := [d] }
  | _ => none }
def verifyWaysRow : OpenClaim := { program := "ytdcaonfnhdjibaadoor", sum := "b6b19b7979166acc361981073a702edca476b63f8e88f7b62cfe3e730e852b50", func := "retrace/retracelaw14.VerifyWays", spec := "verifyWays", unfollowed := true, recurses := true, named := ["retrace/code.typeNames", "retrace/code.instructions", "retrace/code.shapes"], apart := false, laid := [("retrace/code.instructions", laid_retrace_code_instructions), ("retrace/code.shapes", laid_retrace_code_shapes), ("retrace/code.typeNames", laid_retrace_code_typeNames)] }
def VerifyWaysSaid : Prop := verifyWaysRow.holds Tryd.pinned (OpenSpec.ofChange verifyWaysSpec)

/-- ITS FALSE NEIGHBOUR: 'it returns false'. Refute it at one input. -/
def verifyWaysWrong : ChangeSpec := { name := "verifyWays", fn := fun _ => fun
  | [d] => { results := [.lit (.bool false)], args := [d] }
  | _ => none }
def VerifyWaysWrongFalsely : Prop := verifyWaysRow.holds Tryd.pinned (OpenSpec.ofChange verifyWaysWrong)

/-- 'retracelaw14.VerifyProves': WHATEVER THE INPUT: true; the input reads as it did. -/
def verifyProvesSpec : ChangeSpec := { name := "verifyProves", fn := fun _ => fun
  | [d] => { results := [.lit (.bool true)], args := [d] }
  | _ => none }
def verifyProvesRow : OpenClaim := { program := "ytdcaonfnhdjibaadoor", sum := "b6b19b7979166acc361981073a702edca476b63f8e88f7b62cfe3e730e852b50", func := "retrace/retracelaw14.VerifyProves", spec := "verifyProves", unfollowed := true, recurses := true, named := ["retrace/code.typeNames", "retrace/code.instructions", "retrace/code.shapes"], apart := false, laid := [("retrace/code.instructions", laid_retrace_code_instructions), ("retrace/code.shapes", laid_retrace_code_shapes), ("retrace/code.typeNames", laid_retrace_code_typeNames)] }
def VerifyProvesSaid : Prop := verifyProvesRow.holds Tryd.pinned (OpenSpec.ofChange verifyProvesSpec)

/-- ITS FALSE NEIGHBOUR: 'it returns false'. Refute it at one input. -/
def verifyProvesWrong : ChangeSpec := { name := "verifyProves", fn := fun _ => fun
  | [d] => { results := [.lit (.bool false)], args := [d] }
  | _ => none }
def VerifyProvesWrongFalsely : Prop := verifyProvesRow.holds Tryd.pinned (OpenSpec.ofChange verifyProvesWrong)

/-- 'retracelaw14.VerifyChecks': WHATEVER THE INPUT: true; the input reads as it did. -/
def verifyChecksSpec : ChangeSpec := { name := "verifyChecks", fn := fun _ => fun
  | [d] => { results := [.lit (.bool true)], args := [d] }
  | _ => none }
def verifyChecksRow : OpenClaim := { program := "ytdcaonfnhdjibaadoor", sum := "b6b19b7979166acc361981073a702edca476b63f8e88f7b62cfe3e730e852b50", func := "retrace/retracelaw14.VerifyChecks", spec := "verifyChecks", unfollowed := true, recurses := true, named := ["retrace/code.typeNames", "retrace/code.instructions", "retrace/code.shapes"], apart := false, laid := [("retrace/code.instructions", laid_retrace_code_instructions), ("retrace/code.shapes", laid_retrace_code_shapes), ("retrace/code.typeNames", laid_retrace_code_typeNames)] }
def VerifyChecksSaid : Prop := verifyChecksRow.holds Tryd.pinned (OpenSpec.ofChange verifyChecksSpec)

/-- ITS FALSE NEIGHBOUR: 'it returns false'. Refute it at one input. -/
def verifyChecksWrong : ChangeSpec := { name := "verifyChecks", fn := fun _ => fun
  | [d] => { results := [.lit (.bool false)], args := [d] }
  | _ => none }
def VerifyChecksWrongFalsely : Prop := verifyChecksRow.holds Tryd.pinned (OpenSpec.ofChange verifyChecksWrong)

/- THE SECOND FORM. 'bulk': how many values and letters a reading holds, each counted each time it is reached (what is shared counts as often as it is met; a slice's spare places count too). A statement '..UptoSaid' is the law's where the arguments, and the package variables that the reading takes, are together of bulk at most 1048576: NARROWER than '..Said'. Prove '..Said' where nothing that the law and all that it calls make is longer than what came in: it says more and counts as full. Else prove '..UptoSaid'. A law counts once. -/
mutual
def uptoBulk {H : Type} : DataW H → Nat
  | .lit (.string bytes) => bytes.length + 1
  | .lit _ => 1
  | .nil => 1
  | .ptr d => uptoBulk d + 1
  | .slice elems spare => uptoBulkAll elems + uptoBulkAll spare + 1
  | .agg parts => uptoBulkAll parts + 1
  | .iface _ d => uptoBulk d + 1
  | .map entries => uptoBulkEntries entries + 1
  | .held _ => 1
def uptoBulkAll {H : Type} : List (DataW H) → Nat
  | [] => 0
  | d :: r => uptoBulk d + uptoBulkAll r
def uptoBulkEntries {H : Type} : List (Lit × DataW H) → Nat
  | [] => 0
  | x :: r => uptoBulkEntry x + uptoBulkEntries r
def uptoBulkEntry {H : Type} : Lit × DataW H → Nat
  | (.string bytes, d) => bytes.length + uptoBulk d + 1
  | (_, d) => uptoBulk d + 1
 end
def uptoSmall : (H : Type) → List (DataW H) → Bool := fun _ ds => decide (uptoBulkAll ds ≤ 1048576)
def OpenSpec.upto (s : _root_.Go.ChangeSpec) : _root_.Go.OpenSpec := { _root_.Go.OpenSpec.ofChange s with cond := some uptoSmall }

/-- 'retracelaw14.VerifyDead', WHERE WHAT IT READS IS OF BULK AT MOST 1048576: true; the input reads as it did. -/
def verifyDeadUptoRow : OpenClaim := { program := "ytdcaonfnhdjibaadoor", sum := "b6b19b7979166acc361981073a702edca476b63f8e88f7b62cfe3e730e852b50", func := "retrace/retracelaw14.VerifyDead", spec := "verifyDead", unfollowed := true, recurses := true, named := ["retrace/code.typeNames", "retrace/code.instructions", "retrace/code.shapes"], apart := false, laid := [("retrace/code.instructions", laid_retrace_code_instructions), ("retrace/code.shapes", laid_retrace_code_shapes), ("retrace/code.typeNames", laid_retrace_code_typeNames)], narrowed := true }
def VerifyDeadUptoSaid : Prop := verifyDeadUptoRow.holds Tryd.pinned (OpenSpec.upto verifyDeadSpec)

/-- 'retracelaw14.VerifyWays', WHERE WHAT IT READS IS OF BULK AT MOST 1048576: true; the input reads as it did. -/
def verifyWaysUptoRow : OpenClaim := { program := "ytdcaonfnhdjibaadoor", sum := "b6b19b7979166acc361981073a702edca476b63f8e88f7b62cfe3e730e852b50", func := "retrace/retracelaw14.VerifyWays", spec := "verifyWays", unfollowed := true, recurses := true, named := ["retrace/code.typeNames", "retrace/code.instructions", "retrace/code.shapes"], apart := false, laid := [("retrace/code.instructions", laid_retrace_code_instructions), ("retrace/code.shapes", laid_retrace_code_shapes), ("retrace/code.typeNames", laid_retrace_code_typeNames)], narrowed := true }
def VerifyWaysUptoSaid : Prop := verifyWaysUptoRow.holds Tryd.pinned (OpenSpec.upto verifyWaysSpec)

/-- 'retracelaw14.VerifyProves', WHERE WHAT IT READS IS OF BULK AT MOST 1048576: true; the input reads as it did. -/
def verifyProvesUptoRow : OpenClaim := { program := "ytdcaonfnhdjibaadoor", sum := "b6b19b7979166acc361981073a702edca476b63f8e88f7b62cfe3e730e852b50", func := "retrace/retracelaw14.VerifyProves", spec := "verifyProves", unfollowed := true, recurses := true, named := ["retrace/code.typeNames", "retrace/code.instructions", "retrace/code.shapes"], apart := false, laid := [("retrace/code.instructions", laid_retrace_code_instructions), ("retrace/code.shapes", laid_retrace_code_shapes), ("retrace/code.typeNames", laid_retrace_code_typeNames)], narrowed := true }
def VerifyProvesUptoSaid : Prop := verifyProvesUptoRow.holds Tryd.pinned (OpenSpec.upto verifyProvesSpec)

/-- 'retracelaw14.VerifyChecks', WHERE WHAT IT READS IS OF BULK AT MOST 1048576: true; the input reads as it did. -/
def verifyChecksUptoRow : OpenClaim := { program := "ytdcaonfnhdjibaadoor", sum := "b6b19b7979166acc361981073a702edca476b63f8e88f7b62cfe3e730e852b50", func := "retrace/retracelaw14.VerifyChecks", spec := "verifyChecks", unfollowed := true, recurses := true, named := ["retrace/code.typeNames", "retrace/code.instructions", "retrace/code.shapes"], apart := false, laid := [("retrace/code.instructions", laid_retrace_code_instructions), ("retrace/code.shapes", laid_retrace_code_shapes), ("retrace/code.typeNames", laid_retrace_code_typeNames)], narrowed := true }
def VerifyChecksUptoSaid : Prop := verifyChecksUptoRow.holds Tryd.pinned (OpenSpec.upto verifyChecksSpec)

end Rows
end Go.Proofs.YtdcaonfnhdjibaaDoor
