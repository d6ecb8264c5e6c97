/-
  NARROWER THAN 'FOR EVERY INPUT', by the rows' own cells (each row's printed sentence says how): CellsMemory: laid · CellsTwin: laid · CellsFresh: laid · CellsLoads: laid · CellsPlays: laid.
  DERIVED. THE GIVEN ROWS OF THIS SEAT. 5 by the template 'for every input the law returns true; each argument reads behind the call as it read before'; 0 by the template 'total and deterministic' (their statements: YtdcioemjmmhbhaaDoorTotals.lean).
  GIVEN WITH THE SEED: the statements are not yours to turn. If you find one false, say at which input.
  Laid BY PROGRAM, IN A SANDBOX (cutbox-rows.mjs): the forced cells as the released guide's own fill.sh prints them over the translation bb6b138a35571ad8… (all of the seat's roots in one cut). By AI agents, Wed Nov 11 2026. No macro, syntax, notation, axiom, sorry.
-/
import Derived.Test.YtdcioemjmmhbhaaDoorChecked
import GoSem.Claim
import GoSem.ClaimJoined
import GoSem.ClaimMapViews
import Derived.JoinedTies
import Derived.KernelRfl
namespace Go.Proofs.YtdcioemjmmhbhaaDoor
/- THE CELL 'sum', in the pinned program and in every row, IS THE sha256 OF THE DUMP (.gsa) THAT YtdcioemjmmhbhaaDoorProg.lean LOADS. Nothing in Lean hashes anything: it is a label: what it is worth is what the hold of that sum in a sandbox is worth. -/
noncomputable def Tryd.pinned : Pinned := { name := "ytdcioemjmmhbhaadoor", sum := "bb6b138a35571ad8a33d3441a1d686b6761b98185c3e2a79f7a785e8d3fb999b", checked := Tryd.checked }
namespace Rows
def none {H : Type} : Left H := { results := [], args := [] }

/- WHAT THE LISTED PACKAGE-LEVEL VARIABLES READ AS WHEN THE CALL BEGINS. Each datum BY PROGRAM (the guide's laid-datum.mjs) off the statement by which the dump's own 'gosem.cut.vars' lays the variable. In a bare row this is a premise. The card (YtdcioemjmmhbhaaDoorCards.lean) ties it to the program's text. -/
def laid_retrace_cells_zeros {H : Type} : DataW H := .agg [.agg [.lit (.int .i64 0), .lit (.int .i64 0), .lit (.string [])], .agg [.lit (.int .i64 1), .lit (.int .i64 0), .lit (.string [])], .agg [.lit (.int .i64 2), .lit (.int .i64 0), .lit (.string [])], .agg [.lit (.int .i64 3), .lit (.int .i64 0), .lit (.string [])], .agg [.lit (.int .i64 4), .lit (.int .i64 0), .lit (.string [])]]

/-- 'retracelaw10.CellsMemory': WHATEVER THE INPUT: true; the input reads as it did. -/
def cellsMemorySpec : ChangeSpec := { name := "cellsMemory", fn := fun _ => fun
  | [d] => { results := [.lit (.bool true)], args := [d] }
  | _ => none }
def cellsMemoryRow : OpenClaim := { program := "ytdcioemjmmhbhaadoor", sum := "bb6b138a35571ad8a33d3441a1d686b6761b98185c3e2a79f7a785e8d3fb999b", func := "retrace/retracelaw10.CellsMemory", spec := "cellsMemory", named := ["retrace/cells.zeros"], apart := false, laid := [("retrace/cells.zeros", laid_retrace_cells_zeros)] }
def CellsMemorySaid : Prop := cellsMemoryRow.holds Tryd.pinned (OpenSpec.ofChange cellsMemorySpec)

/-- ITS FALSE NEIGHBOUR: 'it returns false'. Refute it at one input. -/
def cellsMemoryWrong : ChangeSpec := { name := "cellsMemory", fn := fun _ => fun
  | [d] => { results := [.lit (.bool false)], args := [d] }
  | _ => none }
def CellsMemoryWrongFalsely : Prop := cellsMemoryRow.holds Tryd.pinned (OpenSpec.ofChange cellsMemoryWrong)

/-- 'retracelaw10.CellsTwin': WHATEVER THE INPUT: true; the input reads as it did. -/
def cellsTwinSpec : ChangeSpec := { name := "cellsTwin", fn := fun _ => fun
  | [d] => { results := [.lit (.bool true)], args := [d] }
  | _ => none }
def cellsTwinRow : OpenClaim := { program := "ytdcioemjmmhbhaadoor", sum := "bb6b138a35571ad8a33d3441a1d686b6761b98185c3e2a79f7a785e8d3fb999b", func := "retrace/retracelaw10.CellsTwin", spec := "cellsTwin", named := ["retrace/cells.zeros"], apart := false, laid := [("retrace/cells.zeros", laid_retrace_cells_zeros)] }
def CellsTwinSaid : Prop := cellsTwinRow.holds Tryd.pinned (OpenSpec.ofChange cellsTwinSpec)

/-- ITS FALSE NEIGHBOUR: 'it returns false'. Refute it at one input. -/
def cellsTwinWrong : ChangeSpec := { name := "cellsTwin", fn := fun _ => fun
  | [d] => { results := [.lit (.bool false)], args := [d] }
  | _ => none }
def CellsTwinWrongFalsely : Prop := cellsTwinRow.holds Tryd.pinned (OpenSpec.ofChange cellsTwinWrong)

/-- 'retracelaw10.CellsFresh': WHATEVER THE INPUT: true; the input reads as it did. -/
def cellsFreshSpec : ChangeSpec := { name := "cellsFresh", fn := fun _ => fun
  | [d] => { results := [.lit (.bool true)], args := [d] }
  | _ => none }
def cellsFreshRow : OpenClaim := { program := "ytdcioemjmmhbhaadoor", sum := "bb6b138a35571ad8a33d3441a1d686b6761b98185c3e2a79f7a785e8d3fb999b", func := "retrace/retracelaw10.CellsFresh", spec := "cellsFresh", named := ["retrace/cells.zeros"], apart := false, laid := [("retrace/cells.zeros", laid_retrace_cells_zeros)] }
def CellsFreshSaid : Prop := cellsFreshRow.holds Tryd.pinned (OpenSpec.ofChange cellsFreshSpec)

/-- ITS FALSE NEIGHBOUR: 'it returns false'. Refute it at one input. -/
def cellsFreshWrong : ChangeSpec := { name := "cellsFresh", fn := fun _ => fun
  | [d] => { results := [.lit (.bool false)], args := [d] }
  | _ => none }
def CellsFreshWrongFalsely : Prop := cellsFreshRow.holds Tryd.pinned (OpenSpec.ofChange cellsFreshWrong)

/-- 'retracelaw10.CellsLoads': WHATEVER THE INPUT: true; the input reads as it did. -/
def cellsLoadsSpec : ChangeSpec := { name := "cellsLoads", fn := fun _ => fun
  | [d] => { results := [.lit (.bool true)], args := [d] }
  | _ => none }
def cellsLoadsRow : OpenClaim := { program := "ytdcioemjmmhbhaadoor", sum := "bb6b138a35571ad8a33d3441a1d686b6761b98185c3e2a79f7a785e8d3fb999b", func := "retrace/retracelaw10.CellsLoads", spec := "cellsLoads", named := ["retrace/cells.zeros"], apart := false, laid := [("retrace/cells.zeros", laid_retrace_cells_zeros)] }
def CellsLoadsSaid : Prop := cellsLoadsRow.holds Tryd.pinned (OpenSpec.ofChange cellsLoadsSpec)

/-- ITS FALSE NEIGHBOUR: 'it returns false'. Refute it at one input. -/
def cellsLoadsWrong : ChangeSpec := { name := "cellsLoads", fn := fun _ => fun
  | [d] => { results := [.lit (.bool false)], args := [d] }
  | _ => none }
def CellsLoadsWrongFalsely : Prop := cellsLoadsRow.holds Tryd.pinned (OpenSpec.ofChange cellsLoadsWrong)

/-- 'retracelaw10.CellsPlays': WHATEVER THE INPUT: true; the input reads as it did. -/
def cellsPlaysSpec : ChangeSpec := { name := "cellsPlays", fn := fun _ => fun
  | [d] => { results := [.lit (.bool true)], args := [d] }
  | _ => none }
def cellsPlaysRow : OpenClaim := { program := "ytdcioemjmmhbhaadoor", sum := "bb6b138a35571ad8a33d3441a1d686b6761b98185c3e2a79f7a785e8d3fb999b", func := "retrace/retracelaw10.CellsPlays", spec := "cellsPlays", named := ["retrace/cells.zeros"], apart := false, laid := [("retrace/cells.zeros", laid_retrace_cells_zeros)] }
def CellsPlaysSaid : Prop := cellsPlaysRow.holds Tryd.pinned (OpenSpec.ofChange cellsPlaysSpec)

/-- ITS FALSE NEIGHBOUR: 'it returns false'. Refute it at one input. -/
def cellsPlaysWrong : ChangeSpec := { name := "cellsPlays", fn := fun _ => fun
  | [d] => { results := [.lit (.bool false)], args := [d] }
  | _ => none }
def CellsPlaysWrongFalsely : Prop := cellsPlaysRow.holds Tryd.pinned (OpenSpec.ofChange cellsPlaysWrong)

/- THE SECOND FORM. 'bulk': how many values and letters a reading holds, each counted each time it is reached (what is shared counts as often as it is met; a slice's spare places count too). A statement '..UptoSaid' is the law's where the arguments, and the package variables that the reading takes, are together of bulk at most 1048576: NARROWER than '..Said'. Prove '..Said' where nothing that the law and all that it calls make is longer than what came in: it says more and counts as full. Else prove '..UptoSaid'. A law counts once. -/
mutual
def uptoBulk {H : Type} : DataW H → Nat
  | .lit (.string bytes) => bytes.length + 1
  | .lit _ => 1
  | .nil => 1
  | .ptr d => uptoBulk d + 1
  | .slice elems spare => uptoBulkAll elems + uptoBulkAll spare + 1
  | .agg parts => uptoBulkAll parts + 1
  | .iface _ d => uptoBulk d + 1
  | .map entries => uptoBulkEntries entries + 1
  | .held _ => 1
def uptoBulkAll {H : Type} : List (DataW H) → Nat
  | [] => 0
  | d :: r => uptoBulk d + uptoBulkAll r
def uptoBulkEntries {H : Type} : List (Lit × DataW H) → Nat
  | [] => 0
  | x :: r => uptoBulkEntry x + uptoBulkEntries r
def uptoBulkEntry {H : Type} : Lit × DataW H → Nat
  | (.string bytes, d) => bytes.length + uptoBulk d + 1
  | (_, d) => uptoBulk d + 1
 end
def uptoSmall : (H : Type) → List (DataW H) → Bool := fun _ ds => decide (uptoBulkAll ds ≤ 1048576)
def OpenSpec.upto (s : _root_.Go.ChangeSpec) : _root_.Go.OpenSpec := { _root_.Go.OpenSpec.ofChange s with cond := some uptoSmall }

/-- 'retracelaw10.CellsMemory', WHERE WHAT IT READS IS OF BULK AT MOST 1048576: true; the input reads as it did. -/
def cellsMemoryUptoRow : OpenClaim := { program := "ytdcioemjmmhbhaadoor", sum := "bb6b138a35571ad8a33d3441a1d686b6761b98185c3e2a79f7a785e8d3fb999b", func := "retrace/retracelaw10.CellsMemory", spec := "cellsMemory", named := ["retrace/cells.zeros"], apart := false, laid := [("retrace/cells.zeros", laid_retrace_cells_zeros)], narrowed := true }
def CellsMemoryUptoSaid : Prop := cellsMemoryUptoRow.holds Tryd.pinned (OpenSpec.upto cellsMemorySpec)

/-- 'retracelaw10.CellsTwin', WHERE WHAT IT READS IS OF BULK AT MOST 1048576: true; the input reads as it did. -/
def cellsTwinUptoRow : OpenClaim := { program := "ytdcioemjmmhbhaadoor", sum := "bb6b138a35571ad8a33d3441a1d686b6761b98185c3e2a79f7a785e8d3fb999b", func := "retrace/retracelaw10.CellsTwin", spec := "cellsTwin", named := ["retrace/cells.zeros"], apart := false, laid := [("retrace/cells.zeros", laid_retrace_cells_zeros)], narrowed := true }
def CellsTwinUptoSaid : Prop := cellsTwinUptoRow.holds Tryd.pinned (OpenSpec.upto cellsTwinSpec)

/-- 'retracelaw10.CellsFresh', WHERE WHAT IT READS IS OF BULK AT MOST 1048576: true; the input reads as it did. -/
def cellsFreshUptoRow : OpenClaim := { program := "ytdcioemjmmhbhaadoor", sum := "bb6b138a35571ad8a33d3441a1d686b6761b98185c3e2a79f7a785e8d3fb999b", func := "retrace/retracelaw10.CellsFresh", spec := "cellsFresh", named := ["retrace/cells.zeros"], apart := false, laid := [("retrace/cells.zeros", laid_retrace_cells_zeros)], narrowed := true }
def CellsFreshUptoSaid : Prop := cellsFreshUptoRow.holds Tryd.pinned (OpenSpec.upto cellsFreshSpec)

/-- 'retracelaw10.CellsLoads', WHERE WHAT IT READS IS OF BULK AT MOST 1048576: true; the input reads as it did. -/
def cellsLoadsUptoRow : OpenClaim := { program := "ytdcioemjmmhbhaadoor", sum := "bb6b138a35571ad8a33d3441a1d686b6761b98185c3e2a79f7a785e8d3fb999b", func := "retrace/retracelaw10.CellsLoads", spec := "cellsLoads", named := ["retrace/cells.zeros"], apart := false, laid := [("retrace/cells.zeros", laid_retrace_cells_zeros)], narrowed := true }
def CellsLoadsUptoSaid : Prop := cellsLoadsUptoRow.holds Tryd.pinned (OpenSpec.upto cellsLoadsSpec)

/-- 'retracelaw10.CellsPlays', WHERE WHAT IT READS IS OF BULK AT MOST 1048576: true; the input reads as it did. -/
def cellsPlaysUptoRow : OpenClaim := { program := "ytdcioemjmmhbhaadoor", sum := "bb6b138a35571ad8a33d3441a1d686b6761b98185c3e2a79f7a785e8d3fb999b", func := "retrace/retracelaw10.CellsPlays", spec := "cellsPlays", named := ["retrace/cells.zeros"], apart := false, laid := [("retrace/cells.zeros", laid_retrace_cells_zeros)], narrowed := true }
def CellsPlaysUptoSaid : Prop := cellsPlaysUptoRow.holds Tryd.pinned (OpenSpec.upto cellsPlaysSpec)

end Rows
end Go.Proofs.YtdcioemjmmhbhaaDoor
