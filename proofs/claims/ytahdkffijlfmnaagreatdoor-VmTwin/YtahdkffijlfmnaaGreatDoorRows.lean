/-
  NARROWER THAN 'FOR EVERY INPUT', by the rows' own cells (each row's printed sentence says how): VmGrows: laid · VmRuns: laid · VmFresh: laid · VmTwin: laid.
  DERIVED. THE GIVEN ROWS OF THIS SEAT. 4 by the template 'for every input the law returns true; each argument reads behind the call as it read before'; 0 by the template 'total and deterministic' (their statements: YtahdkffijlfmnaaGreatDoorTotals.lean).
  GIVEN WITH THE SEED: the statements are not yours to turn. If you find one false, say at which input.
  Laid BY PROGRAM, IN A SANDBOX (cutbox-rows.mjs): the forced cells as the released guide's own fill.sh prints them over the translation 7f2a018686d9b21e… (all of the seat's roots in one cut). By AI agents, Wed Nov 11 2026. No macro, syntax, notation, axiom, sorry.
-/
import Derived.Test.YtahdkffijlfmnaaGreatDoorChecked
import GoSem.Claim
import GoSem.ClaimJoined
import GoSem.ClaimMapViews
import Derived.JoinedTies
import Derived.KernelRfl
namespace Go.Proofs.YtahdkffijlfmnaaGreatDoor
/- THE CELL 'sum', in the pinned program and in every row, IS THE sha256 OF THE DUMP (.gsa) THAT YtahdkffijlfmnaaGreatDoorProg.lean LOADS. Nothing in Lean hashes anything: it is a label: what it is worth is what the hold of that sum in a sandbox is worth. -/
noncomputable def Tryz.pinned : Pinned := { name := "ytahdkffijlfmnaagreatdoor", sum := "7f2a018686d9b21ec9c4091f8dc0b2eae2db20bac8b7bb78199e544fec9135ef", checked := Tryz.checked }
namespace Rows
def none {H : Type} : Left H := { results := [], args := [] }

/- WHAT THE LISTED PACKAGE-LEVEL VARIABLES READ AS WHEN THE CALL BEGINS. Each datum BY PROGRAM (the guide's laid-datum.mjs) off the statement by which the dump's own 'gosem.cut.vars' lays the variable. In a bare row this is a premise. The card (YtahdkffijlfmnaaGreatDoorCards.lean) ties it to the program's text. -/
def laid_math_bits_deBruijn32tab {H : Type} : DataW H := .agg [.lit (.int .u8 0), .lit (.int .u8 1), .lit (.int .u8 28), .lit (.int .u8 2), .lit (.int .u8 29), .lit (.int .u8 14), .lit (.int .u8 24), .lit (.int .u8 3), .lit (.int .u8 30), .lit (.int .u8 22), .lit (.int .u8 20), .lit (.int .u8 15), .lit (.int .u8 25), .lit (.int .u8 17), .lit (.int .u8 4), .lit (.int .u8 8), .lit (.int .u8 31), .lit (.int .u8 27), .lit (.int .u8 13), .lit (.int .u8 23), .lit (.int .u8 21), .lit (.int .u8 19), .lit (.int .u8 16), .lit (.int .u8 7), .lit (.int .u8 26), .lit (.int .u8 12), .lit (.int .u8 18), .lit (.int .u8 6), .lit (.int .u8 11), .lit (.int .u8 5), .lit (.int .u8 10), .lit (.int .u8 9)]
def laid_math_bits_deBruijn64tab {H : Type} : DataW H := .agg [.lit (.int .u8 0), .lit (.int .u8 1), .lit (.int .u8 56), .lit (.int .u8 2), .lit (.int .u8 57), .lit (.int .u8 49), .lit (.int .u8 28), .lit (.int .u8 3), .lit (.int .u8 61), .lit (.int .u8 58), .lit (.int .u8 42), .lit (.int .u8 50), .lit (.int .u8 38), .lit (.int .u8 29), .lit (.int .u8 17), .lit (.int .u8 4), .lit (.int .u8 62), .lit (.int .u8 47), .lit (.int .u8 59), .lit (.int .u8 36), .lit (.int .u8 45), .lit (.int .u8 43), .lit (.int .u8 51), .lit (.int .u8 22), .lit (.int .u8 53), .lit (.int .u8 39), .lit (.int .u8 33), .lit (.int .u8 30), .lit (.int .u8 24), .lit (.int .u8 18), .lit (.int .u8 12), .lit (.int .u8 5), .lit (.int .u8 63), .lit (.int .u8 55), .lit (.int .u8 48), .lit (.int .u8 27), .lit (.int .u8 60), .lit (.int .u8 41), .lit (.int .u8 37), .lit (.int .u8 16), .lit (.int .u8 46), .lit (.int .u8 35), .lit (.int .u8 44), .lit (.int .u8 21), .lit (.int .u8 52), .lit (.int .u8 32), .lit (.int .u8 23), .lit (.int .u8 11), .lit (.int .u8 54), .lit (.int .u8 26), .lit (.int .u8 40), .lit (.int .u8 15), .lit (.int .u8 34), .lit (.int .u8 20), .lit (.int .u8 31), .lit (.int .u8 10), .lit (.int .u8 25), .lit (.int .u8 14), .lit (.int .u8 19), .lit (.int .u8 9), .lit (.int .u8 13), .lit (.int .u8 8), .lit (.int .u8 7), .lit (.int .u8 6)]
def laid_internal_strconv_uint64pow10 {H : Type} : DataW H := .agg [.lit (.int .u64 1), .lit (.int .u64 10), .lit (.int .u64 100), .lit (.int .u64 1000), .lit (.int .u64 10000), .lit (.int .u64 100000), .lit (.int .u64 1000000), .lit (.int .u64 10000000), .lit (.int .u64 100000000), .lit (.int .u64 1000000000), .lit (.int .u64 10000000000), .lit (.int .u64 100000000000), .lit (.int .u64 1000000000000), .lit (.int .u64 10000000000000), .lit (.int .u64 100000000000000), .lit (.int .u64 1000000000000000), .lit (.int .u64 10000000000000000), .lit (.int .u64 100000000000000000), .lit (.int .u64 1000000000000000000), .lit (.int .u64 10000000000000000000)]
def laid_retrace_code_instructions {H : Type} : DataW H := .agg [.agg [.lit (.string [110, 111, 112]), .lit (.int .i64 0), .lit (.int .i64 0)], .agg [.lit (.string [105, 110, 116]), .lit (.int .i64 1), .lit (.int .i64 0)], .agg [.lit (.string [98, 111, 111, 108]), .lit (.int .i64 2), .lit (.int .i64 0)], .agg [.lit (.string [116, 101, 120, 116]), .lit (.int .i64 3), .lit (.int .i64 0)], .agg [.lit (.string [108, 111, 97, 100]), .lit (.int .i64 4), .lit (.int .i64 0)], .agg [.lit (.string [115, 116, 111, 114, 101]), .lit (.int .i64 4), .lit (.int .i64 0)], .agg [.lit (.string [112, 111, 112]), .lit (.int .i64 0), .lit (.int .i64 0)], .agg [.lit (.string [117, 110]), .lit (.int .i64 5), .lit (.int .i64 0)], .agg [.lit (.string [98, 105, 110]), .lit (.int .i64 6), .lit (.int .i64 0)], .agg [.lit (.string [106, 117, 109, 112]), .lit (.int .i64 7), .lit (.int .i64 0)], .agg [.lit (.string [102, 97, 108, 115, 101]), .lit (.int .i64 7), .lit (.int .i64 0)], .agg [.lit (.string [99, 97, 108, 108]), .lit (.int .i64 8), .lit (.int .i64 0)], .agg [.lit (.string [114, 101, 116]), .lit (.int .i64 0), .lit (.int .i64 0)], .agg [.lit (.string [100, 111, 110, 101]), .lit (.int .i64 0), .lit (.int .i64 0)], .agg [.lit (.string [110, 101, 119]), .lit (.int .i64 9), .lit (.int .i64 0)], .agg [.lit (.string [103, 101, 116]), .lit (.int .i64 0), .lit (.int .i64 0)], .agg [.lit (.string [112, 117, 116]), .lit (.int .i64 0), .lit (.int .i64 0)], .agg [.lit (.string [108, 101, 110]), .lit (.int .i64 0), .lit (.int .i64 0)], .agg [.lit (.string [115, 116, 114]), .lit (.int .i64 0), .lit (.int .i64 0)], .agg [.lit (.string [112, 114, 105, 110, 116]), .lit (.int .i64 10), .lit (.int .i64 0)], .agg [.lit (.string [114, 101, 97, 100]), .lit (.int .i64 0), .lit (.int .i64 0)], .agg [.lit (.string [101, 109, 105, 116]), .lit (.int .i64 11), .lit (.int .i64 0)], .agg [.lit (.string [115, 104, 111, 119]), .lit (.int .i64 11), .lit (.int .i64 4)], .agg [.lit (.string [116, 101, 108, 108]), .lit (.int .i64 11), .lit (.int .i64 0)]]
def laid_retrace_code_shapes {H : Type} : DataW H := .agg [.agg [.lit (.int .i64 0), .lit (.int .i64 0), .lit (.int .i64 0)], .agg [.lit (.int .i64 (-9223372036854775808)), .lit (.int .i64 9223372036854775807), .lit (.int .i64 8)], .agg [.lit (.int .i64 0), .lit (.int .i64 1), .lit (.int .i64 1)], .agg [.lit (.int .i64 0), .lit (.int .i64 3999), .lit (.int .i64 2)], .agg [.lit (.int .i64 0), .lit (.int .i64 249), .lit (.int .i64 1)], .agg [.lit (.int .i64 1), .lit (.int .i64 2), .lit (.int .i64 1)], .agg [.lit (.int .i64 3), .lit (.int .i64 13), .lit (.int .i64 1)], .agg [.lit (.int .i64 0), .lit (.int .i64 59999), .lit (.int .i64 4)], .agg [.lit (.int .i64 0), .lit (.int .i64 59), .lit (.int .i64 1)], .agg [.lit (.int .i64 1), .lit (.int .i64 15), .lit (.int .i64 1)], .agg [.lit (.int .i64 1), .lit (.int .i64 16), .lit (.int .i64 1)], .agg [.lit (.int .i64 1), .lit (.int .i64 40000), .lit (.int .i64 2)], .agg [.lit (.int .i64 0), .lit (.int .i64 8), .lit (.int .i64 1)]]
def laid_retrace_code_typeNames {H : Type} : DataW H := .agg [.lit (.string []), .lit (.string [105, 110, 116]), .lit (.string [98, 111, 111, 108]), .lit (.string [116, 101, 120, 116]), .lit (.string []), .lit (.string [91, 105, 110, 116, 93]), .lit (.string [91, 98, 111, 111, 108, 93]), .lit (.string [91, 116, 101, 120, 116, 93]), .lit (.string []), .lit (.string [91, 91, 105, 110, 116, 93, 93]), .lit (.string [91, 91, 98, 111, 111, 108, 93, 93]), .lit (.string [91, 91, 116, 101, 120, 116, 93, 93]), .lit (.string []), .lit (.string [91, 91, 91, 105, 110, 116, 93, 93, 93]), .lit (.string [91, 91, 91, 98, 111, 111, 108, 93, 93, 93]), .lit (.string [91, 91, 91, 116, 101, 120, 116, 93, 93, 93]), .lit (.string []), .lit (.string [91, 91, 91, 91, 105, 110, 116, 93, 93, 93, 93]), .lit (.string [91, 91, 91, 91, 98, 111, 111, 108, 93, 93, 93, 93]), .lit (.string [91, 91, 91, 91, 116, 101, 120, 116, 93, 93, 93, 93])]
def laid_retrace_cells_zeros {H : Type} : DataW H := .agg [.agg [.lit (.int .i64 0), .lit (.int .i64 0), .lit (.string [])], .agg [.lit (.int .i64 1), .lit (.int .i64 0), .lit (.string [])], .agg [.lit (.int .i64 2), .lit (.int .i64 0), .lit (.string [])], .agg [.lit (.int .i64 3), .lit (.int .i64 0), .lit (.string [])], .agg [.lit (.int .i64 4), .lit (.int .i64 0), .lit (.string [])]]
def laid_retrace_vm_wants {H : Type} : DataW H := .agg [.lit (.int .i64 0), .lit (.int .i64 0), .lit (.int .i64 0), .lit (.int .i64 0), .lit (.int .i64 0), .lit (.int .i64 1), .lit (.int .i64 1), .lit (.int .i64 1), .lit (.int .i64 2), .lit (.int .i64 0), .lit (.int .i64 1), .lit (.int .i64 0), .lit (.int .i64 1), .lit (.int .i64 0), .lit (.int .i64 1), .lit (.int .i64 2), .lit (.int .i64 3), .lit (.int .i64 1), .lit (.int .i64 1), .lit (.int .i64 0), .lit (.int .i64 0), .lit (.int .i64 0), .lit (.int .i64 0), .lit (.int .i64 1)]

/-- 'retracelaw16.VmGrows': WHATEVER THE INPUT: true; the input reads as it did. -/
def vmGrowsSpec : ChangeSpec := { name := "vmGrows", fn := fun _ => fun
  | [d] => { results := [.lit (.bool true)], args := [d] }
  | _ => none }
def vmGrowsRow : OpenClaim := { program := "ytahdkffijlfmnaagreatdoor", sum := "7f2a018686d9b21ec9c4091f8dc0b2eae2db20bac8b7bb78199e544fec9135ef", func := "retrace/retracelaw16.VmGrows", spec := "vmGrows", named := ["retrace/code.typeNames", "retrace/code.instructions", "retrace/code.shapes", "retrace/vm.wants", "retrace/cells.zeros", "internal/strconv.uint64pow10", "math/bits.deBruijn32tab", "math/bits.deBruijn64tab"], apart := false, laid := [("math/bits.deBruijn32tab", laid_math_bits_deBruijn32tab), ("math/bits.deBruijn64tab", laid_math_bits_deBruijn64tab), ("internal/strconv.uint64pow10", laid_internal_strconv_uint64pow10), ("retrace/code.instructions", laid_retrace_code_instructions), ("retrace/code.shapes", laid_retrace_code_shapes), ("retrace/code.typeNames", laid_retrace_code_typeNames), ("retrace/cells.zeros", laid_retrace_cells_zeros), ("retrace/vm.wants", laid_retrace_vm_wants)] }
def VmGrowsSaid : Prop := vmGrowsRow.holds Tryz.pinned (OpenSpec.ofChange vmGrowsSpec)

/-- ITS FALSE NEIGHBOUR: 'it returns false'. Refute it at one input. -/
def vmGrowsWrong : ChangeSpec := { name := "vmGrows", fn := fun _ => fun
  | [d] => { results := [.lit (.bool false)], args := [d] }
  | _ => none }
def VmGrowsWrongFalsely : Prop := vmGrowsRow.holds Tryz.pinned (OpenSpec.ofChange vmGrowsWrong)

/-- 'retracelaw16.VmRuns': WHATEVER THE INPUT: true; the input reads as it did. -/
def vmRunsSpec : ChangeSpec := { name := "vmRuns", fn := fun _ => fun
  | [d] => { results := [.lit (.bool true)], args := [d] }
  | _ => none }
def vmRunsRow : OpenClaim := { program := "ytahdkffijlfmnaagreatdoor", sum := "7f2a018686d9b21ec9c4091f8dc0b2eae2db20bac8b7bb78199e544fec9135ef", func := "retrace/retracelaw16.VmRuns", spec := "vmRuns", named := ["retrace/code.typeNames", "retrace/code.instructions", "retrace/code.shapes", "retrace/vm.wants", "retrace/cells.zeros", "internal/strconv.uint64pow10", "math/bits.deBruijn32tab", "math/bits.deBruijn64tab"], apart := false, laid := [("math/bits.deBruijn32tab", laid_math_bits_deBruijn32tab), ("math/bits.deBruijn64tab", laid_math_bits_deBruijn64tab), ("internal/strconv.uint64pow10", laid_internal_strconv_uint64pow10), ("retrace/code.instructions", laid_retrace_code_instructions), ("retrace/code.shapes", laid_retrace_code_shapes), ("retrace/code.typeNames", laid_retrace_code_typeNames), ("retrace/cells.zeros", laid_retrace_cells_zeros), ("retrace/vm.wants", laid_retrace_vm_wants)] }
def VmRunsSaid : Prop := vmRunsRow.holds Tryz.pinned (OpenSpec.ofChange vmRunsSpec)

/-- ITS FALSE NEIGHBOUR: 'it returns false'. Refute it at one input. -/
def vmRunsWrong : ChangeSpec := { name := "vmRuns", fn := fun _ => fun
  | [d] => { results := [.lit (.bool false)], args := [d] }
  | _ => none }
def VmRunsWrongFalsely : Prop := vmRunsRow.holds Tryz.pinned (OpenSpec.ofChange vmRunsWrong)

/-- 'retracelaw16.VmFresh': WHATEVER THE INPUT: true; the input reads as it did. -/
def vmFreshSpec : ChangeSpec := { name := "vmFresh", fn := fun _ => fun
  | [d] => { results := [.lit (.bool true)], args := [d] }
  | _ => none }
def vmFreshRow : OpenClaim := { program := "ytahdkffijlfmnaagreatdoor", sum := "7f2a018686d9b21ec9c4091f8dc0b2eae2db20bac8b7bb78199e544fec9135ef", func := "retrace/retracelaw16.VmFresh", spec := "vmFresh", named := ["retrace/code.typeNames", "retrace/code.instructions", "retrace/code.shapes", "retrace/vm.wants", "retrace/cells.zeros", "internal/strconv.uint64pow10", "math/bits.deBruijn32tab", "math/bits.deBruijn64tab"], apart := false, laid := [("math/bits.deBruijn32tab", laid_math_bits_deBruijn32tab), ("math/bits.deBruijn64tab", laid_math_bits_deBruijn64tab), ("internal/strconv.uint64pow10", laid_internal_strconv_uint64pow10), ("retrace/code.instructions", laid_retrace_code_instructions), ("retrace/code.shapes", laid_retrace_code_shapes), ("retrace/code.typeNames", laid_retrace_code_typeNames), ("retrace/cells.zeros", laid_retrace_cells_zeros), ("retrace/vm.wants", laid_retrace_vm_wants)] }
def VmFreshSaid : Prop := vmFreshRow.holds Tryz.pinned (OpenSpec.ofChange vmFreshSpec)

/-- ITS FALSE NEIGHBOUR: 'it returns false'. Refute it at one input. -/
def vmFreshWrong : ChangeSpec := { name := "vmFresh", fn := fun _ => fun
  | [d] => { results := [.lit (.bool false)], args := [d] }
  | _ => none }
def VmFreshWrongFalsely : Prop := vmFreshRow.holds Tryz.pinned (OpenSpec.ofChange vmFreshWrong)

/-- 'retracelaw16.VmTwin': WHATEVER THE INPUT: true; the input reads as it did. -/
def vmTwinSpec : ChangeSpec := { name := "vmTwin", fn := fun _ => fun
  | [d] => { results := [.lit (.bool true)], args := [d] }
  | _ => none }
def vmTwinRow : OpenClaim := { program := "ytahdkffijlfmnaagreatdoor", sum := "7f2a018686d9b21ec9c4091f8dc0b2eae2db20bac8b7bb78199e544fec9135ef", func := "retrace/retracelaw16.VmTwin", spec := "vmTwin", named := ["retrace/code.typeNames", "retrace/code.instructions", "retrace/code.shapes", "retrace/vm.wants", "retrace/cells.zeros", "internal/strconv.uint64pow10", "math/bits.deBruijn32tab", "math/bits.deBruijn64tab"], apart := false, laid := [("math/bits.deBruijn32tab", laid_math_bits_deBruijn32tab), ("math/bits.deBruijn64tab", laid_math_bits_deBruijn64tab), ("internal/strconv.uint64pow10", laid_internal_strconv_uint64pow10), ("retrace/code.instructions", laid_retrace_code_instructions), ("retrace/code.shapes", laid_retrace_code_shapes), ("retrace/code.typeNames", laid_retrace_code_typeNames), ("retrace/cells.zeros", laid_retrace_cells_zeros), ("retrace/vm.wants", laid_retrace_vm_wants)] }
def VmTwinSaid : Prop := vmTwinRow.holds Tryz.pinned (OpenSpec.ofChange vmTwinSpec)

/-- ITS FALSE NEIGHBOUR: 'it returns false'. Refute it at one input. -/
def vmTwinWrong : ChangeSpec := { name := "vmTwin", fn := fun _ => fun
  | [d] => { results := [.lit (.bool false)], args := [d] }
  | _ => none }
def VmTwinWrongFalsely : Prop := vmTwinRow.holds Tryz.pinned (OpenSpec.ofChange vmTwinWrong)

/- THE SECOND FORM. 'bulk': how many values and letters a reading holds, each counted each time it is reached (what is shared counts as often as it is met; a slice's spare places count too). A statement '..UptoSaid' is the law's where the arguments, and the package variables that the reading takes, are together of bulk at most 1048576: NARROWER than '..Said'. Prove '..Said' where nothing that the law and all that it calls make is longer than what came in: it says more and counts as full. Else prove '..UptoSaid'. A law counts once. -/
mutual
def uptoBulk {H : Type} : DataW H → Nat
  | .lit (.string bytes) => bytes.length + 1
  | .lit _ => 1
  | .nil => 1
  | .ptr d => uptoBulk d + 1
  | .slice elems spare => uptoBulkAll elems + uptoBulkAll spare + 1
  | .agg parts => uptoBulkAll parts + 1
  | .iface _ d => uptoBulk d + 1
  | .map entries => uptoBulkEntries entries + 1
  | .held _ => 1
def uptoBulkAll {H : Type} : List (DataW H) → Nat
  | [] => 0
  | d :: r => uptoBulk d + uptoBulkAll r
def uptoBulkEntries {H : Type} : List (Lit × DataW H) → Nat
  | [] => 0
  | x :: r => uptoBulkEntry x + uptoBulkEntries r
def uptoBulkEntry {H : Type} : Lit × DataW H → Nat
  | (.string bytes, d) => bytes.length + uptoBulk d + 1
  | (_, d) => uptoBulk d + 1
 end
def uptoSmall : (H : Type) → List (DataW H) → Bool := fun _ ds => decide (uptoBulkAll ds ≤ 1048576)
def OpenSpec.upto (s : _root_.Go.ChangeSpec) : _root_.Go.OpenSpec := { _root_.Go.OpenSpec.ofChange s with cond := some uptoSmall }

/-- 'retracelaw16.VmGrows', WHERE WHAT IT READS IS OF BULK AT MOST 1048576: true; the input reads as it did. -/
def vmGrowsUptoRow : OpenClaim := { program := "ytahdkffijlfmnaagreatdoor", sum := "7f2a018686d9b21ec9c4091f8dc0b2eae2db20bac8b7bb78199e544fec9135ef", func := "retrace/retracelaw16.VmGrows", spec := "vmGrows", named := ["retrace/code.typeNames", "retrace/code.instructions", "retrace/code.shapes", "retrace/vm.wants", "retrace/cells.zeros", "internal/strconv.uint64pow10", "math/bits.deBruijn32tab", "math/bits.deBruijn64tab"], apart := false, laid := [("math/bits.deBruijn32tab", laid_math_bits_deBruijn32tab), ("math/bits.deBruijn64tab", laid_math_bits_deBruijn64tab), ("internal/strconv.uint64pow10", laid_internal_strconv_uint64pow10), ("retrace/code.instructions", laid_retrace_code_instructions), ("retrace/code.shapes", laid_retrace_code_shapes), ("retrace/code.typeNames", laid_retrace_code_typeNames), ("retrace/cells.zeros", laid_retrace_cells_zeros), ("retrace/vm.wants", laid_retrace_vm_wants)], narrowed := true }
def VmGrowsUptoSaid : Prop := vmGrowsUptoRow.holds Tryz.pinned (OpenSpec.upto vmGrowsSpec)

/-- 'retracelaw16.VmRuns', WHERE WHAT IT READS IS OF BULK AT MOST 1048576: true; the input reads as it did. -/
def vmRunsUptoRow : OpenClaim := { program := "ytahdkffijlfmnaagreatdoor", sum := "7f2a018686d9b21ec9c4091f8dc0b2eae2db20bac8b7bb78199e544fec9135ef", func := "retrace/retracelaw16.VmRuns", spec := "vmRuns", named := ["retrace/code.typeNames", "retrace/code.instructions", "retrace/code.shapes", "retrace/vm.wants", "retrace/cells.zeros", "internal/strconv.uint64pow10", "math/bits.deBruijn32tab", "math/bits.deBruijn64tab"], apart := false, laid := [("math/bits.deBruijn32tab", laid_math_bits_deBruijn32tab), ("math/bits.deBruijn64tab", laid_math_bits_deBruijn64tab), ("internal/strconv.uint64pow10", laid_internal_strconv_uint64pow10), ("retrace/code.instructions", laid_retrace_code_instructions), ("retrace/code.shapes", laid_retrace_code_shapes), ("retrace/code.typeNames", laid_retrace_code_typeNames), ("retrace/cells.zeros", laid_retrace_cells_zeros), ("retrace/vm.wants", laid_retrace_vm_wants)], narrowed := true }
def VmRunsUptoSaid : Prop := vmRunsUptoRow.holds Tryz.pinned (OpenSpec.upto vmRunsSpec)

/-- 'retracelaw16.VmFresh', WHERE WHAT IT READS IS OF BULK AT MOST 1048576: true; the input reads as it did. -/
def vmFreshUptoRow : OpenClaim := { program := "ytahdkffijlfmnaagreatdoor", sum := "7f2a018686d9b21ec9c4091f8dc0b2eae2db20bac8b7bb78199e544fec9135ef", func := "retrace/retracelaw16.VmFresh", spec := "vmFresh", named := ["retrace/code.typeNames", "retrace/code.instructions", "retrace/code.shapes", "retrace/vm.wants", "retrace/cells.zeros", "internal/strconv.uint64pow10", "math/bits.deBruijn32tab", "math/bits.deBruijn64tab"], apart := false, laid := [("math/bits.deBruijn32tab", laid_math_bits_deBruijn32tab), ("math/bits.deBruijn64tab", laid_math_bits_deBruijn64tab), ("internal/strconv.uint64pow10", laid_internal_strconv_uint64pow10), ("retrace/code.instructions", laid_retrace_code_instructions), ("retrace/code.shapes", laid_retrace_code_shapes), ("retrace/code.typeNames", laid_retrace_code_typeNames), ("retrace/cells.zeros", laid_retrace_cells_zeros), ("retrace/vm.wants", laid_retrace_vm_wants)], narrowed := true }
def VmFreshUptoSaid : Prop := vmFreshUptoRow.holds Tryz.pinned (OpenSpec.upto vmFreshSpec)

/-- 'retracelaw16.VmTwin', WHERE WHAT IT READS IS OF BULK AT MOST 1048576: true; the input reads as it did. -/
def vmTwinUptoRow : OpenClaim := { program := "ytahdkffijlfmnaagreatdoor", sum := "7f2a018686d9b21ec9c4091f8dc0b2eae2db20bac8b7bb78199e544fec9135ef", func := "retrace/retracelaw16.VmTwin", spec := "vmTwin", named := ["retrace/code.typeNames", "retrace/code.instructions", "retrace/code.shapes", "retrace/vm.wants", "retrace/cells.zeros", "internal/strconv.uint64pow10", "math/bits.deBruijn32tab", "math/bits.deBruijn64tab"], apart := false, laid := [("math/bits.deBruijn32tab", laid_math_bits_deBruijn32tab), ("math/bits.deBruijn64tab", laid_math_bits_deBruijn64tab), ("internal/strconv.uint64pow10", laid_internal_strconv_uint64pow10), ("retrace/code.instructions", laid_retrace_code_instructions), ("retrace/code.shapes", laid_retrace_code_shapes), ("retrace/code.typeNames", laid_retrace_code_typeNames), ("retrace/cells.zeros", laid_retrace_cells_zeros), ("retrace/vm.wants", laid_retrace_vm_wants)], narrowed := true }
def VmTwinUptoSaid : Prop := vmTwinUptoRow.holds Tryz.pinned (OpenSpec.upto vmTwinSpec)

end Rows
end Go.Proofs.YtahdkffijlfmnaaGreatDoor
