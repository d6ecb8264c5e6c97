import Derived.Test.YtichbejmelkjeaaGreatDoorU29
import Derived.Test.YtichbejmelkjeaaGreatDoorU24
namespace Go.Proofs.YtichbejmelkjeaaGreatDoor
open Go.RowKit

def evB : List ByteArray := evs.map fun r => ⟨r.toArray⟩
def trB : List ByteArray := trs.map fun r => ⟨r.toArray⟩
def evP : List ByteArray := ByteArray.empty :: evB.tail
def trP : List ByteArray := ByteArray.empty :: trB.tail
theorem gEv : Tryz.prog.globalNamed "retrace/command.eventWords" = some 0 := by kernel_rfl
theorem gTr : Tryz.prog.globalNamed "retrace/command.trapWords" = some 5 := by kernel_rfl
theorem gRe : Tryz.prog.globalNamed "retrace/retraceref23.events" = some 1 := by kernel_rfl
theorem gRt : Tryz.prog.globalNamed "retrace/retraceref23.traps" = some 2 := by kernel_rfl
theorem tEv : (Tryz.prog.globals[0]?).map (·.type) = some 58 := by kernel_rfl
theorem tTr : (Tryz.prog.globals[5]?).map (·.type) = some 79 := by kernel_rfl
theorem tRe : (Tryz.prog.globals[1]?).map (·.type) = some 58 := by kernel_rfl
theorem tRt : (Tryz.prog.globals[2]?).map (·.type) = some 79 := by kernel_rfl
theorem ev_data : (Rows.laid_retrace_command_eventWords : DataW Unit) = Lx.strData evP := by kernel_rfl
theorem tr_data : (Rows.laid_retrace_command_trapWords : DataW Unit) = Lx.strData trP := by kernel_rfl
theorem re_data : (Rows.laid_retrace_retraceref23_events : DataW Unit) = Lx.strData evB := by kernel_rfl
theorem rt_data : (Rows.laid_retrace_retraceref23_traps : DataW Unit) = Lx.strData trB := by kernel_rfl
abbrev laidT : List (String × DataW Unit) := [("math/bits.deBruijn32tab", Rows.laid_math_bits_deBruijn32tab), ("math/bits.deBruijn64tab", Rows.laid_math_bits_deBruijn64tab), ("internal/strconv.uint64pow10", Rows.laid_internal_strconv_uint64pow10), ("strconv.ErrRange", Rows.laid_strconv_ErrRange), ("strconv.ErrSyntax", Rows.laid_strconv_ErrSyntax), ("retrace/retraceref23.events", Rows.laid_retrace_retraceref23_events), ("retrace/retraceref23.traps", Rows.laid_retrace_retraceref23_traps), ("retrace/lex.keywords", Rows.laid_retrace_lex_keywords), ("retrace/lex.signs", Rows.laid_retrace_lex_signs), ("retrace/command.rows", Rows.laid_retrace_command_rows), ("retrace/command.eventWords", Rows.laid_retrace_command_eventWords), ("retrace/command.trapWords", Rows.laid_retrace_command_trapWords)]
theorem get_e (L : List (List UInt8)) (k : Nat) (hk : k < L.length) : (L.map fun r => (⟨r.toArray⟩ : ByteArray)).getD k ByteArray.empty = ⟨(L.getD k []).toArray⟩ := by
  rw [List.getD_eq_getElem?_getD, List.getD_eq_getElem?_getD, List.getElem?_map, List.getElem?_eq_getElem hk]; rfl
theorem get_p (L : List (List UInt8)) (k : Nat) (h1 : 1 ≤ k) (hk : k < L.length) : (ByteArray.empty :: (L.map fun r => (⟨r.toArray⟩ : ByteArray)).tail).getD k ByteArray.empty = ⟨(L.getD k []).toArray⟩ := by
  rw [← get_e L k hk]
  cases L with
  | nil => simp at hk
  | cons a L =>
    cases k with
    | zero => omega
    | succ k => simp
theorem tells_of_laid {W : World} (h : laidMet Tryz.prog laidT W) : Tb W ∧ TW W := by
  have h2 := h.tail.tail
  have h3 := h2.tail
  have h4 := h3.tail
  have h5 := h4.tail
  have h6 := h5.tail
  have h7 := h6.tail
  have h8 := h7.tail
  have h9 := h8.tail
  have h10 := h9.tail
  have h11 := h10.tail
  have hsz : 15 < W.heap.size := laid_in gRng h3
  obtain ⟨a7, _, hv7, _⟩ := laid_sentinel h3 gRng tRng Tryz.underlying102 rowErr Tryz.underlying167 Tryz.underlying169 rfl rfl Tryz.underlying9 (by kernel_rfl) cStr
  obtain ⟨a6, _, hv6, _⟩ := laid_sentinel h4 gSyn tSyn Tryz.underlying102 rowErr Tryz.underlying167 Tryz.underlying169 rfl rfl Tryz.underlying9 (by kernel_rfl) cStr
  rw [re_data] at h5
  have hre : Lx.StrIs Tryz.prog W "retrace/retraceref23.events" evB := Lx.strIs_of_head gRe tRe Tryz.underlying58 Tryz.underlying9 cStr (by kernel_rfl) h5
  rw [rt_data] at h6
  have hrt : Lx.StrIs Tryz.prog W "retrace/retraceref23.traps" trB := Lx.strIs_of_head gRt tRt Tryz.underlying79 Tryz.underlying9 cStr (by kernel_rfl) h6
  have hk : Lx.StrIs Tryz.prog W "retrace/lex.keywords" Lx.kws := Lx.strIs_of_head Lx.gKw tKw Tryz.underlying154 Tryz.underlying9 cStr (by kernel_rfl) h7
  have hg : Lx.StrIs Tryz.prog W "retrace/lex.signs" Lx.sgs := Lx.strIs_of_head gSg tSg Tryz.underlying151 Tryz.underlying9 cStr (by kernel_rfl) h8
  rw [ev_data] at h10
  have hev : Lx.StrIs Tryz.prog W "retrace/command.eventWords" evP := Lx.strIs_of_head gEv tEv Tryz.underlying58 Tryz.underlying9 cStr (by kernel_rfl) h10
  rw [tr_data] at h11
  have htr : Lx.StrIs Tryz.prog W "retrace/command.trapWords" trP := Lx.strIs_of_head gTr tTr Tryz.underlying79 Tryz.underlying9 cStr (by kernel_rfl) h11
  have h10p : Tab10 W := Lib.tabIs_of_head gPow tPow Tryz.underlying134 Tryz.underlying119 (by kernel_rfl) (by kernel_rfl) h2
  refine ⟨⟨⟨Lx.kw_range hk, sg_range hg, ⟨_, _, World.var?_cell gSyn hv6 0⟩, hsz, ⟨_, _, World.var?_cell gRng hv7 0⟩⟩, rows_of h9, h10p⟩, ⟨fun k a b => ?_, fun k a b => ?_, fun k a b => ?_, fun k a b => ?_, h10p⟩⟩
  · rw [htr.cell gTr k b]; exact congrArg (fun x => some (Value.string x)) (get_p trs k a b)
  · rw [hev.cell gEv k b]; exact congrArg (fun x => some (Value.string x)) (get_p evs k a b)
  · rw [hrt.cell gRt k b]; exact congrArg (fun x => some (Value.string x)) (get_e trs k b)
  · rw [hre.cell gRe k b]; exact congrArg (fun x => some (Value.string x)) (get_e evs k b)
set_option maxRecDepth 100000 in
theorem tells_met (os : Os) (args : Array Value) : laidMet Tryz.prog laidT ((laidWorld os).forCall (fun _ _ => 0) ⟨#[], args, []⟩).memory :=
  laidMet_of_run' 8 (by kernel_rfl) (by kernel_rfl)
end Go.Proofs.YtichbejmelkjeaaGreatDoor
