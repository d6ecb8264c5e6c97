import Derived.Test.YtlahcmhjnhangaaDoorCards
import Derived.Test.YtlahcmhjnhangaaDoorTie
import Derived.OpenShut
import Derived.ShutString
import Derived.SizedLaws
import Derived.Test.YtlahcmhjnhangaaDoorLaid
import Derived.Test.YtlahcmhjnhangaaDoorScans
namespace Go.Proofs.YtlahcmhjnhangaaDoor.lexScans
open Go.ChangeShapes Go.WideShapes Go.ChangeAt Go.RowKit
open Go.ChangeMaps (open_string shut_string)

abbrev laid9 : List (String × DataW Unit) := [("math/bits.deBruijn32tab", Rows.laid_math_bits_deBruijn32tab), ("math/bits.deBruijn64tab", Rows.laid_math_bits_deBruijn64tab), ("internal/strconv.uint64pow10", Rows.laid_internal_strconv_uint64pow10), ("strconv.ErrRange", Rows.laid_strconv_ErrRange), ("strconv.ErrSyntax", Rows.laid_strconv_ErrSyntax), ("retrace/retraceref02.keywords", Rows.laid_retrace_retraceref02_keywords), ("retrace/retraceref02.signs", Rows.laid_retrace_retraceref02_signs), ("retrace/lex.keywords", Rows.laid_retrace_lex_keywords), ("retrace/lex.signs", Rows.laid_retrace_lex_signs)]

theorem g1Type : (Tryd.prog.globals[1]?).map (·.type) = some 48 := by kernel_rfl
theorem g3Type : (Tryd.prog.globals[3]?).map (·.type) = some 65 := by kernel_rfl
theorem gSg2 : Tryd.prog.globalNamed "retrace/retraceref02.signs" = some 3 := by kernel_rfl

theorem tabs_of_laid9 {W : World} (h : laidMet Tryd.prog laid9 W) : Tabs W ∧ RTabs W := by
  have h3 := h.tail.tail.tail
  obtain ⟨a7, _, hv7, _⟩ := laid_sentinel h3 gE7 g7Type Tryd.underlying60 row96 Tryd.underlying96 Tryd.underlying98 rfl rfl Tryd.underlying9 cells98 cells9
  obtain ⟨a6, _, hv6, _⟩ := laid_sentinel h3.tail gE6 g6Type Tryd.underlying60 row96 Tryd.underlying96 Tryd.underlying98 rfl rfl Tryd.underlying9 cells98 cells9
  have hk2 : StrIs Tryd.prog W "retrace/retraceref02.keywords" kws := strIs_of_head gKw2 g1Type Tryd.underlying48 Tryd.underlying9 cells9 cells48 h3.tail.tail
  have hg2 : StrIs Tryd.prog W "retrace/retraceref02.signs" sgs := strIs_of_head gSg2 g3Type Tryd.underlying65 Tryd.underlying9 cells9 cells65 h3.tail.tail.tail
  have hk : StrIs Tryd.prog W "retrace/lex.keywords" kws := strIs_of_head (rest := [("retrace/lex.signs", Rows.laid_retrace_lex_signs)]) gKw g0Type Tryd.underlying48 Tryd.underlying9 cells9 cells48 h3.tail.tail.tail.tail
  have hg : StrIs Tryd.prog W "retrace/lex.signs" sgs := strIs_of_head (rest := []) gSg g2Type Tryd.underlying65 Tryd.underlying9 cells9 cells65 h3.tail.tail.tail.tail.tail
  refine ⟨⟨kw_range hk, ?_, ⟨_, _, World.var?_cell gE6 hv6 0⟩, ⟨_, _, World.var?_cell gE7 hv7 0⟩⟩, fun j hj => hk2.cell gKw2 j hj, fun j hj => hg2.cell gSg2 j hj⟩
  intro j v hv
  have hj : j < sgs.length := by have := (List.getElem?_eq_some_iff.1 hv).1; simpa [sgCells] using this
  rw [Nat.zero_add, hg.cell gSg j hj]
  simp only [sgCells, List.getElem?_map, List.getElem?_eq_getElem hj, Option.map_some, Option.some.injEq] at hv
  rw [← hv, List.getD_eq_getElem?_getD, List.getElem?_eq_getElem hj]
  rfl

theorem laid_met9 (os : Os) (args : Array Value) : laidMet Tryd.prog laid9 ((laidWorld os).forCall (fun _ _ => 0) ⟨#[], args, []⟩).memory :=
  laidMet_of_run' 8 (by kernel_rfl) (by kernel_rfl)

theorem contract (H : Type) (enc : TypeId × Value → H) (W : World) (base : Nat) (args : Array Value) (ds gs : List (DataW H)) (before : List MemPlace)
    (hval : ∀ (j : Nat) t v, Tryd.f8.params[j]? = some t → args[j]? = some v → Value.okWide Tryd.prog W .any base t v)
    (hW : DataW.Whole enc Tryd.prog Tryd.f8.params.toList Rows.lexScansSpec.vars false W args.toList ds gs before) (hsz : (DataW.weightsEach Tryd.prog (Tryd.f8.params.toList ++ (OpenSpec.ofChange Rows.lexScansSpec).bare.plain.varTypes Tryd.prog) (ds ++ gs)).all (· ≤ reachBytes) = true) (hL : laidMetH Tryd.prog Rows.lexScansRow.laid W) :
    Calls Tryd.prog 8 args W fun e W' => ∃ v, e = .returned v ∧ Rows.lexScansSpec.post enc Tryd.prog Tryd.f8 false true false false W args v W' := by
  have hW' := hW
  obtain ⟨p, q, hA0, hV, rfl, hfz, hnd⟩ := hW
  have hA : DataW.TrodAll enc Tryd.prog W 0 (fun _ => true) true Tryd.f8.params.toList args.toList ds p := hA0
  rw [Tryd.params8] at hA hval
  obtain ⟨v0, d0, hargs, rfl, h0⟩ := trodAll_one hA
  obtain rfl : args = #[v0] := by cases args; simp_all
  obtain ⟨rfl, rfl⟩ := trodVars_none hV
  obtain ⟨a0, rfl, rfl, rfl, w0⟩ := open_string Tryd.underlying9 (hval 0 9 v0 rfl rfl) h0
  have hlen : a0.data.toList.length ≤ reachBytes := sized_string hsz (j := 0) (t := 9) rfl rfl
  have hbd : a0.size ≤ 140737488355328 := by rw [Lib.size_eq]; exact Nat.le_trans hlen (by decide)
  clear hA0 hsz
  simp only [List.append_nil] at hW'
  obtain ⟨hT, hRT⟩ := tabs_of_laid9 hL
  refine (lexScans_any a0 W hbd hT hRT).mono fun e W' ⟨he, hg⟩ => ?_
  subst he
  exact ⟨_, rfl, _, _, _, [], [], [], hW', trodAll_mk1 (shut_bool Tryd.underlying4 true), trodAll_mk1 (shut_string Tryd.underlying9 w0), rfl, hg.frame _, fun h => by cases h⟩

theorem reads (os : Os) {H : Type} (enc : TypeId × Value → H) : ∃ places, DataW.whole enc Tryd.prog ((laidWorld os).forCall (fun _ _ => 0) ⟨#[], #[.string ByteArray.empty], []⟩).memory Tryd.f8.params.toList Rows.lexScansSpec.vars false #[Value.string ByteArray.empty].toList 8 = some ([.lit (.string [])], [], places) :=
  ⟨[], by kernel_rfl⟩

set_option maxRecDepth 100000 in
theorem lifted (os : Os) (started : os.Started) (H : Type) (enc : TypeId × Value → H) (F : Stop.Interp) :
    ReturnsInHanded {} Tryd.checked os 8 .any ((OpenSpec.ofChange Rows.lexScansSpec).preRow enc Tryd.prog Tryd.f8 Rows.lexScansRow.domain false Rows.lexScansRow.laid) (((OpenSpec.ofChange Rows.lexScansSpec).at F).post enc Tryd.prog Tryd.f8 false true false false) := by
  obtain ⟨places, hx⟩ := reads os enc
  refine returnsInHanded_of_row (C := Tryd.checked) (s := OpenSpec.ofChange Rows.lexScansSpec) own started (by kernel_rfl) Tryd.func8
    (witness_row_atRef (enc := enc) (C := Tryd.checked) false (laidWorld os) #[.string ByteArray.empty] rfl (laid_vars os _) (laid_heap os _) (by kernel_rfl)
      (OpenSpec.preRow_of_cond 8 hx (by kernel_rfl) (fun k hk => by cases hk) (by kernel_rfl) (laid_met9 os _))) ?_
  intro W base args ds gs before hval hW _ _ hsz hL _ _
  exact contract H enc W base args ds gs before hval hW hsz hL

theorem said : Rows.LexScansSaid :=
  OpenClaim.holds_of_cond 8 Tryd.f8 rfl rfl rfl rfl rfl rfl rfl ⟨rfl, rfl, rfl, rfl, rfl⟩ rfl rfl rfl rfl rfl (by kernel_rfl) Tryd.func8 (by kernel_rfl)
    (of_decide_eq_true (by kernel_rfl)) (by unfold Func.isWrapper; first | (rw [if_pos (by decide +kernel)]; kernel_rfl) | (rw [if_neg (by decide +kernel)]; exact ⟨rfl, rfl⟩))
    (fun os started H enc _ F => by rw [OpenClaim.pre_eq_preRow]; exact lifted os started H enc F)

theorem plain (f : FuncId) (fn : Func) (hf : Tryd.pinned.checked.prog.funcNamed "retrace/retracelaw02.LexScans" = some f) (hfn : Tryd.pinned.checked.prog.funcs[f]? = some fn) :
    true = Tryd.pinned.checked.prog.looks [] ∧ ∀ (j : Nat) t, fn.params[j]? = some t → Tryd.pinned.checked.prog.wantsStandIn t = false := by
  obtain rfl : f = 8 := Option.some.inj ((show Tryd.prog.funcNamed "retrace/retracelaw02.LexScans" = some 8 by kernel_rfl).symm.trans hf) |>.symm
  obtain rfl : fn = Tryd.f8 := (Option.some.inj (Tryd.func8.symm.trans hfn)).symm
  refine ⟨by kernel_rfl, fun j t ht => ?_⟩
  rw [Tryd.params8] at ht
  obtain rfl : t = 9 := by simpa using Array.mem_of_getElem? ht
  exact (show Tryd.prog.wantsStandIn 9 = false by kernel_rfl)

theorem card : Rows.LexScansCardSaid :=
  Claim7.holds_tied_plain_at .later [] _ _ _ _ said (fun _ h => by cases h) (by kernel_rfl) (fun _ h => by cases h) lexScans_row_tie rfl ⟨rfl, rfl⟩ (by kernel_rfl) rfl plain (by kernel_rfl)
end Go.Proofs.YtlahcmhjnhangaaDoor.lexScans

namespace Go.Proofs.YtlahcmhjnhangaaDoor
theorem LexScans_holds : Rows.LexScansCardSaid := lexScans.card
#print axioms LexScans_holds
end Go.Proofs.YtlahcmhjnhangaaDoor
