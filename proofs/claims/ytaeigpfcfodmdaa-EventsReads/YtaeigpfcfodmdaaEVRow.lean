import Derived.Test.YtaeigpfcfodmdaaEVo
import Derived.Test.YtaeigpfcfodmdaaEVe
namespace Go.Proofs.Ytaeigpfcfodmdaa
open Go.ChangeShapes Go.WideShapes Go.ChangeAt Go.RowKit

set_option maxRecDepth 100000 in
theorem eventsReads_lifted (os : Os) (started : os.Started) (H : Type) (enc : TypeId × Value → H) :
    ReturnsInHanded {} Try.checked os 3 .any (Rows.eventsReadsSpec.pre6 enc Try.prog Try.f3 Rows.eventsReadsRow.domain false) (Rows.eventsReadsSpec.post enc Try.prog Try.f3 false true false false) := by
  refine returnsInHanded_of_change_sized (C := Try.checked) own started (by kernel_rfl) Try.func3
    (ChangeSpec.witness6 (enc := enc) (C := Try.checked) false ⟨#[], #[.agg #[.slice none 0 0, .slice none 0 0]], []⟩ 8 (by kernel_rfl) (by kernel_rfl) (by kernel_rfl) (by kernel_rfl)) ?_
  intro W base args ds gs before hval0 hW _ hsz _
  have hval : ∀ (j : Nat) t v, Try.f3.params[j]? = some t → args[j]? = some v → Value.okWide Try.prog W .any base t v := hval0
  have hW' := hW
  obtain ⟨p, q, hA0, hV, rfl, hfz, hnd⟩ := hW
  have hA : DataW.TrodAll enc Try.prog W 0 (fun _ => true) true Try.f3.params.toList args.toList ds p := hA0
  rw [Try.params3] at hA hval
  obtain ⟨v0, d0, hargs, rfl, h0⟩ := trodAll_one hA
  obtain rfl : args = #[v0] := by cases args; simp_all
  obtain ⟨rfl, rfl⟩ := trodVars_none hV
  have hbd : Light 25 d0 := fun m hm => by
    have h3 := DataW.weights_mem_each (P := Try.prog) (ts := Try.f3.params.toList ++ Rows.eventsReadsSpec.plain.varTypes Try.prog) (ds := [d0] ++ []) (j := 0) (t := 25) (d := d0) (by rw [Try.params3]; rfl) rfl m hm
    simpa using List.all_eq_true.1 hsz m h3
  obtain ⟨tq, yq, tc, ycp, HT, YL, rfl, r0, r1, b0, b1, n0, n1⟩ := open_asked (hval 0 25 v0 rfl rfl) h0 hbd
  clear hA0 hval0 hsz
  simp only [List.append_nil] at hW'
  have hlt : ∀ x ∈ p, x.block < W.heap.size := fun x hx => by simpa using hW'.lt x hx
  refine (reads_any (tc := tc) (ycp := ycp) r0 r1 b0 b1 (fun x hx => by have := n0 x hx; omega) (fun y hy => by have := n1 y hy; omega) (Nat.le_refl _)).mono fun e W' ⟨he, hg⟩ => ?_
  subst he
  exact ⟨_, rfl, _, _, _, [], p, [], hW', trodAll_mk1 (shut_bool Try.underlying4 true), trodAll_mk1 (Below.trod laidOut (by kernel_rfl) (of_decide_eq_true (by kernel_rfl)) h0 hg hlt), rfl, hg.frame _, fun h => by cases h⟩

theorem EventsReads_holds : Rows.EventsReadsSaid :=
  OpenClaim.holds_of_wide 3 Try.f3 rfl rfl rfl rfl rfl rfl rfl ⟨rfl, rfl, rfl, rfl, rfl⟩ rfl rfl rfl rfl rfl (by kernel_rfl) Try.func3 (by kernel_rfl)
    (of_decide_eq_true (by kernel_rfl)) (by unfold Func.isWrapper; first | (rw [if_pos (by decide +kernel)]; kernel_rfl) | (rw [if_neg (by decide +kernel)]; exact ⟨rfl, rfl⟩))
    (fun os started H enc _ => eventsReads_lifted os started H enc)
#print axioms EventsReads_holds
end Go.Proofs.Ytaeigpfcfodmdaa
