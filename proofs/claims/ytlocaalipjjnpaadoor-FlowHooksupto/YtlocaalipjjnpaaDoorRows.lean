/-
  NARROWER THAN 'FOR EVERY INPUT', by the rows' own cells (each row's printed sentence says how): FlowHooks: laid · FlowChecks: laid · FlowEnds: laid.
  DERIVED. THE GIVEN ROWS OF THIS SEAT. 3 by the template 'for every input the law returns true; each argument reads behind the call as it read before'; 0 by the template 'total and deterministic' (their statements: YtlocaalipjjnpaaDoorTotals.lean).
  GIVEN WITH THE SEED: the statements are not yours to turn. If you find one false, say at which input.
  Laid BY PROGRAM, IN A SANDBOX (cutbox-rows.mjs): the forced cells as the released guide's own fill.sh prints them over the translation 54266fb538b945fe… (all of the seat's roots in one cut). By AI agents, Wed Nov 11 2026. No macro, syntax, notation, axiom, sorry.
-/
import Derived.Test.YtlocaalipjjnpaaDoorChecked
import GoSem.Claim
import GoSem.ClaimJoined
import GoSem.ClaimMapViews
import Derived.JoinedTies
import Derived.KernelRfl
namespace Go.Proofs.YtlocaalipjjnpaaDoor
/- THE CELL 'sum', in the pinned program and in every row, IS THE sha256 OF THE DUMP (.gsa) THAT YtlocaalipjjnpaaDoorProg.lean LOADS. Nothing in Lean hashes anything: it is a label: what it is worth is what the hold of that sum in a sandbox is worth. -/
noncomputable def Tryd.pinned : Pinned := { name := "ytlocaalipjjnpaadoor", sum := "54266fb538b945fe7a7ec4706c61561eb0a4c751b96188b1ac59ee0cb59ed660", checked := Tryd.checked }
namespace Rows
def none {H : Type} : Left H := { results := [], args := [] }

/- WHAT THE LISTED PACKAGE-LEVEL VARIABLES READ AS WHEN THE CALL BEGINS. Each datum BY PROGRAM (the guide's laid-datum.mjs) off the statement by which the dump's own 'gosem.cut.vars' lays the variable. In a bare row this is a premise. The card (YtlocaalipjjnpaaDoorCards.lean) ties it to the program's text. -/
def laid_retrace_retraceref02_keywords {H : Type} : DataW H := .agg [.lit (.string [102, 110]), .lit (.string [118, 97, 114]), .lit (.string [105, 102]), .lit (.string [101, 108, 115, 101]), .lit (.string [119, 104, 105, 108, 101]), .lit (.string [102, 111, 114]), .lit (.string [116, 111]), .lit (.string [98, 114, 101, 97, 107]), .lit (.string [99, 111, 110, 116, 105, 110, 117, 101]), .lit (.string [114, 101, 116, 117, 114, 110]), .lit (.string [112, 114, 105, 110, 116]), .lit (.string [114, 101, 97, 100]), .lit (.string [116, 114, 117, 101]), .lit (.string [102, 97, 108, 115, 101]), .lit (.string [105, 110, 116]), .lit (.string [98, 111, 111, 108]), .lit (.string [116, 101, 120, 116]), .lit (.string [110, 101, 119]), .lit (.string [108, 101, 110]), .lit (.string [115, 116, 114])]
def laid_retrace_lex_keywords {H : Type} : DataW H := .agg [.lit (.string [102, 110]), .lit (.string [118, 97, 114]), .lit (.string [105, 102]), .lit (.string [101, 108, 115, 101]), .lit (.string [119, 104, 105, 108, 101]), .lit (.string [102, 111, 114]), .lit (.string [116, 111]), .lit (.string [98, 114, 101, 97, 107]), .lit (.string [99, 111, 110, 116, 105, 110, 117, 101]), .lit (.string [114, 101, 116, 117, 114, 110]), .lit (.string [112, 114, 105, 110, 116]), .lit (.string [114, 101, 97, 100]), .lit (.string [116, 114, 117, 101]), .lit (.string [102, 97, 108, 115, 101]), .lit (.string [105, 110, 116]), .lit (.string [98, 111, 111, 108]), .lit (.string [116, 101, 120, 116]), .lit (.string [110, 101, 119]), .lit (.string [108, 101, 110]), .lit (.string [115, 116, 114])]

/-- 'retracelaw08.FlowHooks': WHATEVER THE INPUT: true; the input reads as it did. -/
def flowHooksSpec : ChangeSpec := { name := "flowHooks", fn := fun _ => fun
  | [d] => { results := [.lit (.bool true)], args := [d] }
  | _ => none }
def flowHooksRow : OpenClaim := { program := "ytlocaalipjjnpaadoor", sum := "54266fb538b945fe7a7ec4706c61561eb0a4c751b96188b1ac59ee0cb59ed660", func := "retrace/retracelaw08.FlowHooks", spec := "flowHooks", unfollowed := true, recurses := true, named := ["retrace/lex.keywords", "retrace/retraceref02.keywords"], apart := false, laid := [("retrace/retraceref02.keywords", laid_retrace_retraceref02_keywords), ("retrace/lex.keywords", laid_retrace_lex_keywords)] }
def FlowHooksSaid : Prop := flowHooksRow.holds Tryd.pinned (OpenSpec.ofChange flowHooksSpec)

/-- ITS FALSE NEIGHBOUR: 'it returns false'. Refute it at one input. -/
def flowHooksWrong : ChangeSpec := { name := "flowHooks", fn := fun _ => fun
  | [d] => { results := [.lit (.bool false)], args := [d] }
  | _ => none }
def FlowHooksWrongFalsely : Prop := flowHooksRow.holds Tryd.pinned (OpenSpec.ofChange flowHooksWrong)

/-- 'retracelaw08.FlowChecks': WHATEVER THE INPUT: true; the input reads as it did. -/
def flowChecksSpec : ChangeSpec := { name := "flowChecks", fn := fun _ => fun
  | [d] => { results := [.lit (.bool true)], args := [d] }
  | _ => none }
def flowChecksRow : OpenClaim := { program := "ytlocaalipjjnpaadoor", sum := "54266fb538b945fe7a7ec4706c61561eb0a4c751b96188b1ac59ee0cb59ed660", func := "retrace/retracelaw08.FlowChecks", spec := "flowChecks", unfollowed := true, recurses := true, named := ["retrace/lex.keywords", "retrace/retraceref02.keywords"], apart := false, laid := [("retrace/retraceref02.keywords", laid_retrace_retraceref02_keywords), ("retrace/lex.keywords", laid_retrace_lex_keywords)] }
def FlowChecksSaid : Prop := flowChecksRow.holds Tryd.pinned (OpenSpec.ofChange flowChecksSpec)

/-- ITS FALSE NEIGHBOUR: 'it returns false'. Refute it at one input. -/
def flowChecksWrong : ChangeSpec := { name := "flowChecks", fn := fun _ => fun
  | [d] => { results := [.lit (.bool false)], args := [d] }
  | _ => none }
def FlowChecksWrongFalsely : Prop := flowChecksRow.holds Tryd.pinned (OpenSpec.ofChange flowChecksWrong)

/-- 'retracelaw08.FlowEnds': WHATEVER THE INPUT: true; the input reads as it did. -/
def flowEndsSpec : ChangeSpec := { name := "flowEnds", fn := fun _ => fun
  | [d] => { results := [.lit (.bool true)], args := [d] }
  | _ => none }
def flowEndsRow : OpenClaim := { program := "ytlocaalipjjnpaadoor", sum := "54266fb538b945fe7a7ec4706c61561eb0a4c751b96188b1ac59ee0cb59ed660", func := "retrace/retracelaw08.FlowEnds", spec := "flowEnds", unfollowed := true, recurses := true, named := ["retrace/lex.keywords", "retrace/retraceref02.keywords"], apart := false, laid := [("retrace/retraceref02.keywords", laid_retrace_retraceref02_keywords), ("retrace/lex.keywords", laid_retrace_lex_keywords)] }
def FlowEndsSaid : Prop := flowEndsRow.holds Tryd.pinned (OpenSpec.ofChange flowEndsSpec)

/-- ITS FALSE NEIGHBOUR: 'it returns false'. Refute it at one input. -/
def flowEndsWrong : ChangeSpec := { name := "flowEnds", fn := fun _ => fun
  | [d] => { results := [.lit (.bool false)], args := [d] }
  | _ => none }
def FlowEndsWrongFalsely : Prop := flowEndsRow.holds Tryd.pinned (OpenSpec.ofChange flowEndsWrong)

/- THE SECOND FORM. 'bulk': how many values and letters a reading holds, each counted each time it is reached (what is shared counts as often as it is met; a slice's spare places count too). A statement '..UptoSaid' is the law's where the arguments, and the package variables that the reading takes, are together of bulk at most 1048576: NARROWER than '..Said'. Prove '..Said' where nothing that the law and all that it calls make is longer than what came in: it says more and counts as full. Else prove '..UptoSaid'. A law counts once. -/
mutual
def uptoBulk {H : Type} : DataW H → Nat
  | .lit (.string bytes) => bytes.length + 1
  | .lit _ => 1
  | .nil => 1
  | .ptr d => uptoBulk d + 1
  | .slice elems spare => uptoBulkAll elems + uptoBulkAll spare + 1
  | .agg parts => uptoBulkAll parts + 1
  | .iface _ d => uptoBulk d + 1
  | .map entries => uptoBulkEntries entries + 1
  | .held _ => 1
def uptoBulkAll {H : Type} : List (DataW H) → Nat
  | [] => 0
  | d :: r => uptoBulk d + uptoBulkAll r
def uptoBulkEntries {H : Type} : List (Lit × DataW H) → Nat
  | [] => 0
  | x :: r => uptoBulkEntry x + uptoBulkEntries r
def uptoBulkEntry {H : Type} : Lit × DataW H → Nat
  | (.string bytes, d) => bytes.length + uptoBulk d + 1
  | (_, d) => uptoBulk d + 1
 end
def uptoSmall : (H : Type) → List (DataW H) → Bool := fun _ ds => decide (uptoBulkAll ds ≤ 1048576)
def OpenSpec.upto (s : _root_.Go.ChangeSpec) : _root_.Go.OpenSpec := { _root_.Go.OpenSpec.ofChange s with cond := some uptoSmall }

/-- 'retracelaw08.FlowHooks', WHERE WHAT IT READS IS OF BULK AT MOST 1048576: true; the input reads as it did. -/
def flowHooksUptoRow : OpenClaim := { program := "ytlocaalipjjnpaadoor", sum := "54266fb538b945fe7a7ec4706c61561eb0a4c751b96188b1ac59ee0cb59ed660", func := "retrace/retracelaw08.FlowHooks", spec := "flowHooks", unfollowed := true, recurses := true, named := ["retrace/lex.keywords", "retrace/retraceref02.keywords"], apart := false, laid := [("retrace/retraceref02.keywords", laid_retrace_retraceref02_keywords), ("retrace/lex.keywords", laid_retrace_lex_keywords)], narrowed := true }
def FlowHooksUptoSaid : Prop := flowHooksUptoRow.holds Tryd.pinned (OpenSpec.upto flowHooksSpec)

/-- 'retracelaw08.FlowChecks', WHERE WHAT IT READS IS OF BULK AT MOST 1048576: true; the input reads as it did. -/
def flowChecksUptoRow : OpenClaim := { program := "ytlocaalipjjnpaadoor", sum := "54266fb538b945fe7a7ec4706c61561eb0a4c751b96188b1ac59ee0cb59ed660", func := "retrace/retracelaw08.FlowChecks", spec := "flowChecks", unfollowed := true, recurses := true, named := ["retrace/lex.keywords", "retrace/retraceref02.keywords"], apart := false, laid := [("retrace/retraceref02.keywords", laid_retrace_retraceref02_keywords), ("retrace/lex.keywords", laid_retrace_lex_keywords)], narrowed := true }
def FlowChecksUptoSaid : Prop := flowChecksUptoRow.holds Tryd.pinned (OpenSpec.upto flowChecksSpec)

/-- 'retracelaw08.FlowEnds', WHERE WHAT IT READS IS OF BULK AT MOST 1048576: true; the input reads as it did. -/
def flowEndsUptoRow : OpenClaim := { program := "ytlocaalipjjnpaadoor", sum := "54266fb538b945fe7a7ec4706c61561eb0a4c751b96188b1ac59ee0cb59ed660", func := "retrace/retracelaw08.FlowEnds", spec := "flowEnds", unfollowed := true, recurses := true, named := ["retrace/lex.keywords", "retrace/retraceref02.keywords"], apart := false, laid := [("retrace/retraceref02.keywords", laid_retrace_retraceref02_keywords), ("retrace/lex.keywords", laid_retrace_lex_keywords)], narrowed := true }
def FlowEndsUptoSaid : Prop := flowEndsUptoRow.holds Tryd.pinned (OpenSpec.upto flowEndsSpec)

end Rows
end Go.Proofs.YtlocaalipjjnpaaDoor
