/-
  NARROWER THAN 'FOR EVERY INPUT', by the rows' own cells (each row's printed sentence says how): RecordOnly: laid · RecordCut: laid · RecordSpoilt: laid · RecordRound: laid · RecordFresh: laid · RecordEncodes: laid.
  DERIVED. THE GIVEN ROWS OF THIS SEAT. 6 by the template 'for every input the law returns true; each argument reads behind the call as it read before'; 0 by the template 'total and deterministic' (their statements: YtnecnchdffmhbaaDoorTotals.lean).
  GIVEN WITH THE SEED: the statements are not yours to turn. If you find one false, say at which input.
  Laid BY PROGRAM, IN A SANDBOX (cutbox-rows.mjs): the forced cells as the released guide's own fill.sh prints them over the translation 619615f1c538333d… (all of the seat's roots in one cut). By AI agents, Wed Nov 11 2026. No macro, syntax, notation, axiom, sorry.
-/
import Derived.Test.YtnecnchdffmhbaaDoorChecked
import GoSem.Claim
import GoSem.ClaimJoined
import GoSem.ClaimMapViews
import Derived.JoinedTies
import Derived.KernelRfl
namespace Go.Proofs.YtnecnchdffmhbaaDoor
/- THE CELL 'sum', in the pinned program and in every row, IS THE sha256 OF THE DUMP (.gsa) THAT YtnecnchdffmhbaaDoorProg.lean LOADS. Nothing in Lean hashes anything: it is a label: what it is worth is what the hold of that sum in a sandbox is worth. -/
noncomputable def Tryd.pinned : Pinned := { name := "ytnecnchdffmhbaadoor", sum := "619615f1c538333d2ed0ea22ebd60bb82cbc06aded72688388087c659a18b374", checked := Tryd.checked }
namespace Rows
def none {H : Type} : Left H := { results := [], args := [] }

/- WHAT THE LISTED PACKAGE-LEVEL VARIABLES READ AS WHEN THE CALL BEGINS. Each datum BY PROGRAM (the guide's laid-datum.mjs) off the statement by which the dump's own 'gosem.cut.vars' lays the variable. In a bare row this is a premise. The card (YtnecnchdffmhbaaDoorCards.lean) ties it to the program's text. -/
def laid_retrace_record_sums {H : Type} : DataW H := .agg [.lit (.int .u32 0), .lit (.int .u32 498536548), .lit (.int .u32 997073096), .lit (.int .u32 651767980), .lit (.int .u32 1994146192), .lit (.int .u32 1802195444), .lit (.int .u32 1303535960), .lit (.int .u32 1342533948), .lit (.int .u32 3988292384), .lit (.int .u32 4027552580), .lit (.int .u32 3604390888), .lit (.int .u32 3412177804), .lit (.int .u32 2607071920), .lit (.int .u32 2262029012), .lit (.int .u32 2685067896), .lit (.int .u32 3183342108)]

/-- 'retracelaw25.RecordOnly': WHATEVER THE INPUT: true; the input reads as it did. -/
def recordOnlySpec : ChangeSpec := { name := "recordOnly", fn := fun _ => fun
  | [d] => { results := [.lit (.bool true)], args := [d] }
  | _ => none }
def recordOnlyRow : OpenClaim := { program := "ytnecnchdffmhbaadoor", sum := "619615f1c538333d2ed0ea22ebd60bb82cbc06aded72688388087c659a18b374", func := "retrace/retracelaw25.RecordOnly", spec := "recordOnly", inPlace := ["internal/abi.NoEscape"], unfollowed := true, recurses := true, named := ["retrace/record.sums"], apart := false, laid := [("retrace/record.sums", laid_retrace_record_sums)] }
def RecordOnlySaid : Prop := recordOnlyRow.holds Tryd.pinned (OpenSpec.ofChange recordOnlySpec)

/-- ITS FALSE NEIGHBOUR: 'it returns false'. Refute it at one input. -/
def recordOnlyWrong : ChangeSpec := { name := "recordOnly", fn := fun _ => fun
  | [d] => { results := [.lit (.bool false)], args := [d] }
  | _ => none }
def RecordOnlyWrongFalsely : Prop := recordOnlyRow.holds Tryd.pinned (OpenSpec.ofChange recordOnlyWrong)

/-- 'retracelaw25.RecordCut': WHATEVER THE INPUT: true; the input reads as it did. -/
def recordCutSpec : ChangeSpec := { name := "recordCut", fn := fun _ => fun
  | [d] => { results := [.lit (.bool true)], args := [d] }
  | _ => none }
def recordCutRow : OpenClaim := { program := "ytnecnchdffmhbaadoor", sum := "619615f1c538333d2ed0ea22ebd60bb82cbc06aded72688388087c659a18b374", func := "retrace/retracelaw25.RecordCut", spec := "recordCut", inPlace := ["internal/abi.NoEscape"], unfollowed := true, recurses := true, named := ["retrace/record.sums"], apart := false, laid := [("retrace/record.sums", laid_retrace_record_sums)] }
def RecordCutSaid : Prop := recordCutRow.holds Tryd.pinned (OpenSpec.ofChange recordCutSpec)

/-- ITS FALSE NEIGHBOUR: 'it returns false'. Refute it at one input. -/
def recordCutWrong : ChangeSpec := { name := "recordCut", fn := fun _ => fun
  | [d] => { results := [.lit (.bool false)], args := [d] }
  | _ => none }
def RecordCutWrongFalsely : Prop := recordCutRow.holds Tryd.pinned (OpenSpec.ofChange recordCutWrong)

/-- 'retracelaw25.RecordSpoilt': WHATEVER THE INPUT: true; the input reads as it did. -/
def recordSpoiltSpec : ChangeSpec := { name := "recordSpoilt", fn := fun _ => fun
  | [d] => { results := [.lit (.bool true)], args := [d] }
  | _ => none }
def recordSpoiltRow : OpenClaim := { program := "ytnecnchdffmhbaadoor", sum := "619615f1c538333d2ed0ea22ebd60bb82cbc06aded72688388087c659a18b374", func := "retrace/retracelaw25.RecordSpoilt", spec := "recordSpoilt", inPlace := ["internal/abi.NoEscape"], unfollowed := true, recurses := true, named := ["retrace/record.sums"], apart := false, laid := [("retrace/record.sums", laid_retrace_record_sums)] }
def RecordSpoiltSaid : Prop := recordSpoiltRow.holds Tryd.pinned (OpenSpec.ofChange recordSpoiltSpec)

/-- ITS FALSE NEIGHBOUR: 'it returns false'. Refute it at one input. -/
def recordSpoiltWrong : ChangeSpec := { name := "recordSpoilt", fn := fun _ => fun
  | [d] => { results := [.lit (.bool false)], args := [d] }
  | _ => none }
def RecordSpoiltWrongFalsely : Prop := recordSpoiltRow.holds Tryd.pinned (OpenSpec.ofChange recordSpoiltWrong)

/-- 'retracelaw25.RecordRound': WHATEVER THE INPUT: true; the input reads as it did. -/
def recordRoundSpec : ChangeSpec := { name := "recordRound", fn := fun _ => fun
  | [d] => { results := [.lit (.bool true)], args := [d] }
  | _ => none }
def recordRoundRow : OpenClaim := { program := "ytnecnchdffmhbaadoor", sum := "619615f1c538333d2ed0ea22ebd60bb82cbc06aded72688388087c659a18b374", func := "retrace/retracelaw25.RecordRound", spec := "recordRound", inPlace := ["internal/abi.NoEscape"], unfollowed := true, recurses := true, named := ["retrace/record.sums"], apart := false, laid := [("retrace/record.sums", laid_retrace_record_sums)] }
def RecordRoundSaid : Prop := recordRoundRow.holds Tryd.pinned (OpenSpec.ofChange recordRoundSpec)

/-- ITS FALSE NEIGHBOUR: 'it returns false'. Refute it at one input. -/
def recordRoundWrong : ChangeSpec := { name := "recordRound", fn := fun _ => fun
  | [d] => { results := [.lit (.bool false)], args := [d] }
  | _ => none }
def RecordRoundWrongFalsely : Prop := recordRoundRow.holds Tryd.pinned (OpenSpec.ofChange recordRoundWrong)

/-- 'retracelaw25.RecordFresh': WHATEVER THE INPUT: true; the input reads as it did. -/
def recordFreshSpec : ChangeSpec := { name := "recordFresh", fn := fun _ => fun
  | [d] => { results := [.lit (.bool true)], args := [d] }
  | _ => none }
def recordFreshRow : OpenClaim := { program := "ytnecnchdffmhbaadoor", sum := "619615f1c538333d2ed0ea22ebd60bb82cbc06aded72688388087c659a18b374", func := "retrace/retracelaw25.RecordFresh", spec := "recordFresh", unfollowed := true, recurses := true, named := ["retrace/record.sums"], apart := false, laid := [("retrace/record.sums", laid_retrace_record_sums)] }
def RecordFreshSaid : Prop := recordFreshRow.holds Tryd.pinned (OpenSpec.ofChange recordFreshSpec)

/-- ITS FALSE NEIGHBOUR: 'it returns false'. Refute it at one input. -/
def recordFreshWrong : ChangeSpec := { name := "recordFresh", fn := fun _ => fun
  | [d] => { results := [.lit (.bool false)], args := [d] }
  | _ => none }
def RecordFreshWrongFalsely : Prop := recordFreshRow.holds Tryd.pinned (OpenSpec.ofChange recordFreshWrong)

/-- 'retracelaw25.RecordEncodes': WHATEVER THE INPUT: true; the input reads as it did. -/
def recordEncodesSpec : ChangeSpec := { name := "recordEncodes", fn := fun _ => fun
  | [d] => { results := [.lit (.bool true)], args := [d] }
  | _ => none }
def recordEncodesRow : OpenClaim := { program := "ytnecnchdffmhbaadoor", sum := "619615f1c538333d2ed0ea22ebd60bb82cbc06aded72688388087c659a18b374", func := "retrace/retracelaw25.RecordEncodes", spec := "recordEncodes", inPlace := ["internal/abi.NoEscape"], unfollowed := true, recurses := true, named := ["retrace/record.sums"], apart := false, laid := [("retrace/record.sums", laid_retrace_record_sums)] }
def RecordEncodesSaid : Prop := recordEncodesRow.holds Tryd.pinned (OpenSpec.ofChange recordEncodesSpec)

/-- ITS FALSE NEIGHBOUR: 'it returns false'. Refute it at one input. -/
def recordEncodesWrong : ChangeSpec := { name := "recordEncodes", fn := fun _ => fun
  | [d] => { results := [.lit (.bool false)], args := [d] }
  | _ => none }
def RecordEncodesWrongFalsely : Prop := recordEncodesRow.holds Tryd.pinned (OpenSpec.ofChange recordEncodesWrong)

/- THE SECOND FORM. 'bulk': how many values and letters a reading holds, each counted each time it is reached (what is shared counts as often as it is met; a slice's spare places count too). A statement '..UptoSaid' is the law's where the arguments, and the package variables that the reading takes, are together of bulk at most 1048576: NARROWER than '..Said'. Prove '..Said' where nothing that the law and all that it calls make is longer than what came in: it says more and counts as full. Else prove '..UptoSaid'. A law counts once. -/
mutual
def uptoBulk {H : Type} : DataW H → Nat
  | .lit (.string bytes) => bytes.length + 1
  | .lit _ => 1
  | .nil => 1
  | .ptr d => uptoBulk d + 1
  | .slice elems spare => uptoBulkAll elems + uptoBulkAll spare + 1
  | .agg parts => uptoBulkAll parts + 1
  | .iface _ d => uptoBulk d + 1
  | .map entries => uptoBulkEntries entries + 1
  | .held _ => 1
def uptoBulkAll {H : Type} : List (DataW H) → Nat
  | [] => 0
  | d :: r => uptoBulk d + uptoBulkAll r
def uptoBulkEntries {H : Type} : List (Lit × DataW H) → Nat
  | [] => 0
  | x :: r => uptoBulkEntry x + uptoBulkEntries r
def uptoBulkEntry {H : Type} : Lit × DataW H → Nat
  | (.string bytes, d) => bytes.length + uptoBulk d + 1
  | (_, d) => uptoBulk d + 1
 end
def uptoSmall : (H : Type) → List (DataW H) → Bool := fun _ ds => decide (uptoBulkAll ds ≤ 1048576)
def OpenSpec.upto (s : _root_.Go.ChangeSpec) : _root_.Go.OpenSpec := { _root_.Go.OpenSpec.ofChange s with cond := some uptoSmall }

/-- 'retracelaw25.RecordOnly', WHERE WHAT IT READS IS OF BULK AT MOST 1048576: true; the input reads as it did. -/
def recordOnlyUptoRow : OpenClaim := { program := "ytnecnchdffmhbaadoor", sum := "619615f1c538333d2ed0ea22ebd60bb82cbc06aded72688388087c659a18b374", func := "retrace/retracelaw25.RecordOnly", spec := "recordOnly", inPlace := ["internal/abi.NoEscape"], unfollowed := true, recurses := true, named := ["retrace/record.sums"], apart := false, laid := [("retrace/record.sums", laid_retrace_record_sums)], narrowed := true }
def RecordOnlyUptoSaid : Prop := recordOnlyUptoRow.holds Tryd.pinned (OpenSpec.upto recordOnlySpec)

/-- 'retracelaw25.RecordCut', WHERE WHAT IT READS IS OF BULK AT MOST 1048576: true; the input reads as it did. -/
def recordCutUptoRow : OpenClaim := { program := "ytnecnchdffmhbaadoor", sum := "619615f1c538333d2ed0ea22ebd60bb82cbc06aded72688388087c659a18b374", func := "retrace/retracelaw25.RecordCut", spec := "recordCut", inPlace := ["internal/abi.NoEscape"], unfollowed := true, recurses := true, named := ["retrace/record.sums"], apart := false, laid := [("retrace/record.sums", laid_retrace_record_sums)], narrowed := true }
def RecordCutUptoSaid : Prop := recordCutUptoRow.holds Tryd.pinned (OpenSpec.upto recordCutSpec)

/-- 'retracelaw25.RecordSpoilt', WHERE WHAT IT READS IS OF BULK AT MOST 1048576: true; the input reads as it did. -/
def recordSpoiltUptoRow : OpenClaim := { program := "ytnecnchdffmhbaadoor", sum := "619615f1c538333d2ed0ea22ebd60bb82cbc06aded72688388087c659a18b374", func := "retrace/retracelaw25.RecordSpoilt", spec := "recordSpoilt", inPlace := ["internal/abi.NoEscape"], unfollowed := true, recurses := true, named := ["retrace/record.sums"], apart := false, laid := [("retrace/record.sums", laid_retrace_record_sums)], narrowed := true }
def RecordSpoiltUptoSaid : Prop := recordSpoiltUptoRow.holds Tryd.pinned (OpenSpec.upto recordSpoiltSpec)

/-- 'retracelaw25.RecordRound', WHERE WHAT IT READS IS OF BULK AT MOST 1048576: true; the input reads as it did. -/
def recordRoundUptoRow : OpenClaim := { program := "ytnecnchdffmhbaadoor", sum := "619615f1c538333d2ed0ea22ebd60bb82cbc06aded72688388087c659a18b374", func := "retrace/retracelaw25.RecordRound", spec := "recordRound", inPlace := ["internal/abi.NoEscape"], unfollowed := true, recurses := true, named := ["retrace/record.sums"], apart := false, laid := [("retrace/record.sums", laid_retrace_record_sums)], narrowed := true }
def RecordRoundUptoSaid : Prop := recordRoundUptoRow.holds Tryd.pinned (OpenSpec.upto recordRoundSpec)

/-- 'retracelaw25.RecordFresh', WHERE WHAT IT READS IS OF BULK AT MOST 1048576: true; the input reads as it did. -/
def recordFreshUptoRow : OpenClaim := { program := "ytnecnchdffmhbaadoor", sum := "619615f1c538333d2ed0ea22ebd60bb82cbc06aded72688388087c659a18b374", func := "retrace/retracelaw25.RecordFresh", spec := "recordFresh", unfollowed := true, recurses := true, named := ["retrace/record.sums"], apart := false, laid := [("retrace/record.sums", laid_retrace_record_sums)], narrowed := true }
def RecordFreshUptoSaid : Prop := recordFreshUptoRow.holds Tryd.pinned (OpenSpec.upto recordFreshSpec)

/-- 'retracelaw25.RecordEncodes', WHERE WHAT IT READS IS OF BULK AT MOST 1048576: true; the input reads as it did. -/
def recordEncodesUptoRow : OpenClaim := { program := "ytnecnchdffmhbaadoor", sum := "619615f1c538333d2ed0ea22ebd60bb82cbc06aded72688388087c659a18b374", func := "retrace/retracelaw25.RecordEncodes", spec := "recordEncodes", inPlace := ["internal/abi.NoEscape"], unfollowed := true, recurses := true, named := ["retrace/record.sums"], apart := false, laid := [("retrace/record.sums", laid_retrace_record_sums)], narrowed := true }
def RecordEncodesUptoSaid : Prop := recordEncodesUptoRow.holds Tryd.pinned (OpenSpec.upto recordEncodesSpec)

end Rows
end Go.Proofs.YtnecnchdffmhbaaDoor
