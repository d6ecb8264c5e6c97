import Derived.Test.YtchinflkjcebjaaGreatDoorCards
import Derived.Test.YtchinflkjcebjaaGreatDoorTie
import Derived.Test.YtchinflkjcebjaaGreatDoorCOp
import Derived.Test.YtchinflkjcebjaaGreatDoorRDe
namespace Go.Proofs.YtchinflkjcebjaaGreatDoor
open Go.RowKit

set_option maxRecDepth 100000 in
set_option maxHeartbeats 4000000 in
theorem codeReads_any (s : ByteArray) (w : World) (hs : s.size ≤ 140737488351232) (ht : Tabs w) : Calls Tryz.prog 6 #[.string s] w fun e w' => e = .returned (.bool true) ∧ Below w.heap.size w w' := by
  have HT : Hid (∀ W, Below w.heap.size w W → Tabs W) := fun W hW => ht.next hW
  have d0 := decode_any s w (by omega) ht
  have r0 : ∀ W : World, _ := fun W => rdecode_any s W (by omega)
  have HR : Hid (∀ W : World, _) := r0
  generalize decC s.data.toList = c at *
  generalize decE s.data.toList = E at *
  unfold codeV at d0 HR
  clear ht r0
  go_enter Tryz.func6, Tryz.ntmps6
  go_wp2_with fail
  refine d0.mono ?_
  rintro e W1 ⟨iq, ia, eq, ea, tq, ta, rfl, hw1⟩
  obtain ⟨W2, hW2⟩ : ∃ W2, W2 = W1.alloc (.cells #[.slice iq c.ins.length ia, .slice eq c.ens.length ea, .slice tq c.txs.length ta, .int .i64 c.main] 28) := ⟨_, rfl⟩
  have nb2 : Below W1.heap.size W1 W2 := by rw [hW2]; exact (Below.refl _ W1).alloc (Nat.le_refl _) _
  have H2 : Hid (Full W2 W1.heap.size 28 [.slice iq c.ins.length ia, .slice eq c.ens.length ea, .slice tq c.txs.length ta, .int .i64 c.main] ∧ ∃ Es, CodeF w W2 iq ia eq ea tq ta Es c) := by
    obtain ⟨Es, F⟩ := hw1.out
    exact ⟨by rw [hW2]; exact Full.new W1 _ _, Es, F.next nb2⟩
  clear hw1 d0 nb2
  go_upto_region 2 with fail
  rw [← hW2]
  clear hW2
  generalize W1.heap.size = p1 at *
  clear W1
  have r2 := HR.out W2
  go_wp2_with fail
  refine r2.mono ?_
  rintro e W3 ⟨iq', ia', eq', ea', tq', ta', rfl, hw3⟩
  obtain ⟨W4, hW4⟩ : ∃ W4, W4 = W3.alloc (.cells #[.slice iq' c.ins.length ia', .slice eq' c.ens.length ea', .slice tq' c.txs.length ta', .int .i64 c.main] 28) := ⟨_, rfl⟩
  have nb4 : Below W3.heap.size W3 W4 := by rw [hW4]; exact (Below.refl _ W3).alloc (Nat.le_refl _) _
  have H4 : Hid (Full W4 p1 28 [.slice iq c.ins.length ia, .slice eq c.ens.length ea, .slice tq c.txs.length ta, .int .i64 c.main] ∧ Full W4 W3.heap.size 28 [.slice iq' c.ins.length ia', .slice eq' c.ens.length ea', .slice tq' c.txs.length ta', .int .i64 c.main] ∧ (∃ Es, CodeF w W4 iq ia eq ea tq ta Es c) ∧ ∃ Es, CodeM W4 W4.heap.size iq' eq' tq' Es c) := by
    obtain ⟨f2, Es, F⟩ := H2.out
    obtain ⟨Es', F'⟩ := hw3.out
    have b4 := below2 F'.bel nb4
    exact ⟨f2.next b4, by rw [hW4]; exact Full.new W3 _ _, ⟨Es, F.next b4⟩, Es', (F'.next nb4).m⟩
  clear hw3 r2 nb4 H2 HR
  go_upto_region 3 with fail
  rw [← hW4]
  clear hW4
  generalize W3.heap.size = p2 at *
  clear W3 W2
  obtain ⟨x0, x1, x2, x3⟩ := H4.out.1.four
  obtain ⟨y0, y1, y2, y3⟩ := H4.out.2.1.four
  have s4 : Calls Tryz.prog 12 #[.agg #[.slice iq c.ins.length ia, .slice eq c.ens.length ea, .slice tq c.txs.length ta, .int .i64 c.main], .agg #[.slice iq' c.ins.length ia', .slice eq' c.ens.length ea', .slice tq' c.txs.length ta', .int .i64 c.main]] W4 fun e w' => e = .returned (.bool true) ∧ Below W4.heap.size W4 w' := by
    obtain ⟨-, -, ⟨Es, F⟩, Es', m⟩ := H4.out
    exact same_any F.m m ia ea ta ia' ea' ta'
  have HB : Hid (Below w.heap.size w W4) := by
    obtain ⟨-, -, ⟨Es, F⟩, -⟩ := H4.out
    exact F.bel
  go_wp2_with fail
  refine s4.mono ?_
  rintro e W5 ⟨rfl, hw5⟩
  have HB5 : Hid (Below w.heap.size w W5) := below2 HB.out hw5
  have k5 := known_any W5 (HT.out _ HB5.out)
  clear s4 hw5 HB H4 x0 x1 x2 x3 y0 y1 y2 y3
  go_wp2_with fail
  refine k5.mono ?_
  rintro e W6 ⟨rfl, hw6⟩
  go_wp2
  go_ret
  exact ⟨rfl, below2 HB5.out hw6⟩
end Go.Proofs.YtchinflkjcebjaaGreatDoor
namespace Go.Proofs.YtchinflkjcebjaaGreatDoor.codeReads
open Go.ChangeShapes Go.WideShapes Go.ChangeAt Go.RowKit
open Go.ChangeMaps (open_string shut_string)

set_option maxRecDepth 100000 in
theorem contract (H : Type) (enc : TypeId × Value → H) (W : World) (base : Nat) (args : Array Value) (ds gs : List (DataW H)) (before : List MemPlace)
    (hval : ∀ (j : Nat) t v, Tryz.f6.params[j]? = some t → args[j]? = some v → Value.okWide Tryz.prog W .any base t v)
    (hW : DataW.Whole enc Tryz.prog Tryz.f6.params.toList Rows.codeReadsSpec.vars false W args.toList ds gs before) (hk : (DataW.weightsEach Tryz.prog (Tryz.f6.params.toList ++ (OpenSpec.ofChange Rows.codeReadsSpec).bare.plain.varTypes Tryz.prog) (ds ++ gs)).all (· ≤ reachBytes) = true) (hL : laidMetH Tryz.prog Rows.codeReadsRow.laid W) :
    Calls Tryz.prog 6 args W fun e W' => ∃ v, e = .returned v ∧ Rows.codeReadsSpec.post enc Tryz.prog Tryz.f6 false true false false W args v W' := by
  have hW' := hW
  obtain ⟨p, q, hA0, hV, rfl, hfz, hnd⟩ := hW
  have hA : DataW.TrodAll enc Tryz.prog W 0 (fun _ => true) true Tryz.f6.params.toList args.toList ds p := hA0
  rw [Tryz.params6] at hA hval
  obtain ⟨v0, d0, hargs, rfl, h0⟩ := trodAll_one hA
  obtain rfl : args = #[v0] := by cases args; simp_all
  obtain ⟨rfl, rfl⟩ := trodVars_none hV
  have hbd : Light 9 d0 := fun m hm => by
    have h3 := DataW.weights_mem_each (P := Tryz.prog) (ts := Tryz.f6.params.toList ++ (OpenSpec.ofChange Rows.codeReadsSpec).bare.plain.varTypes Tryz.prog) (ds := [d0] ++ []) (j := 0) (t := 9) (d := d0) (by rw [Tryz.params6]; rfl) rfl m hm
    simpa using List.all_eq_true.1 hk m h3
  obtain ⟨a0, rfl, rfl, rfl, w0⟩ := open_string Tryz.underlying9 (hval 0 9 v0 rfl rfl) h0
  have hsz : a0.size ≤ 140737488351232 := by
    have := hbd a0.size (by simp only [DataW.weights]; exact List.mem_singleton.2 (Array.length_toList (xs := a0.data)).symm)
    rwa [reach_eq] at this
  clear hA0 hk
  simp only [List.append_nil] at hW'
  have hT : Tabs W := tabs_of_laid (W := W) hL
  refine (codeReads_any a0 W hsz hT).mono fun e W' ⟨he, hg⟩ => ?_
  subst he
  exact ⟨_, rfl, _, _, _, [], [], [], hW', trodAll_mk1 (shut_bool Tryz.underlying4 true), trodAll_mk1 (shut_string Tryz.underlying9 w0), rfl, hg.frame _, fun h => by cases h⟩

theorem reads (os : Os) {H : Type} (enc : TypeId × Value → H) : ∃ places, DataW.whole enc Tryz.prog ((laidWorld os).forCall (fun _ _ => 0) ⟨#[], #[.string ByteArray.empty], []⟩).memory Tryz.f6.params.toList Rows.codeReadsSpec.vars false #[(.string ByteArray.empty : Value)].toList 8 = some ([.lit (.string [])], [], places) :=
  ⟨[], by kernel_rfl⟩

set_option maxRecDepth 100000 in
theorem lifted (os : Os) (started : os.Started) (H : Type) (enc : TypeId × Value → H) (F : Stop.Interp) :
    ReturnsInHanded {} Tryz.checked os 6 .any ((OpenSpec.ofChange Rows.codeReadsSpec).preRow enc Tryz.prog Tryz.f6 Rows.codeReadsRow.domain false Rows.codeReadsRow.laid) (((OpenSpec.ofChange Rows.codeReadsSpec).at F).post enc Tryz.prog Tryz.f6 false true false false) := by
  obtain ⟨places, hx⟩ := reads os enc
  refine returnsInHanded_of_row (C := Tryz.checked) (s := OpenSpec.ofChange Rows.codeReadsSpec) own started (by kernel_rfl) Tryz.func6
    (witness_row_atRef (enc := enc) (C := Tryz.checked) false (laidWorld os) #[.string ByteArray.empty] rfl (laid_vars os _) (laid_heap os _) (by kernel_rfl)
      (OpenSpec.preRow_of_cond 8 hx (by kernel_rfl) (fun k hk => by cases hk) (by kernel_rfl) (laid_met os _))) ?_
  intro W base args ds gs before hval hW _ _ hw hL _ _
  exact contract H enc W base args ds gs before hval hW hw hL

theorem said : Rows.CodeReadsSaid :=
  OpenClaim.holds_of_cond 6 Tryz.f6 rfl rfl rfl rfl rfl rfl rfl ⟨rfl, rfl, rfl, rfl, rfl⟩ rfl rfl rfl rfl rfl (by kernel_rfl) Tryz.func6 (by kernel_rfl)
    (of_decide_eq_true (by kernel_rfl)) (by unfold Func.isWrapper; first | (rw [if_pos (by decide +kernel)]; kernel_rfl) | (rw [if_neg (by decide +kernel)]; exact ⟨rfl, rfl⟩))
    (fun os started H enc _ F => by rw [OpenClaim.pre_eq_preRow]; exact lifted os started H enc F)

theorem plain (f : FuncId) (fn : Func) (hf : Tryz.pinned.checked.prog.funcNamed "retrace/retracelaw13.CodeReads" = some f) (hfn : Tryz.pinned.checked.prog.funcs[f]? = some fn) :
    true = Tryz.pinned.checked.prog.looks [] ∧ ∀ (j : Nat) t, fn.params[j]? = some t → Tryz.pinned.checked.prog.wantsStandIn t = false := by
  obtain rfl : f = 6 := Option.some.inj ((show Tryz.prog.funcNamed "retrace/retracelaw13.CodeReads" = some 6 by kernel_rfl).symm.trans hf) |>.symm
  obtain rfl : fn = Tryz.f6 := (Option.some.inj (Tryz.func6.symm.trans hfn)).symm
  refine ⟨by kernel_rfl, fun j t ht => ?_⟩
  rw [Tryz.params6] at ht
  obtain rfl : t = 9 := by simpa using Array.mem_of_getElem? ht
  exact (show Tryz.prog.wantsStandIn 9 = false by kernel_rfl)

theorem card : Rows.CodeReadsCardSaid :=
  Claim7.holds_tied_plain_at .later [] _ _ _ _ said (fun _ h => by cases h) (by kernel_rfl) (fun _ h => by cases h) codeReads_row_tie rfl ⟨rfl, rfl⟩ (by kernel_rfl) rfl plain (by kernel_rfl)
end Go.Proofs.YtchinflkjcebjaaGreatDoor.codeReads
namespace Go.Proofs.YtchinflkjcebjaaGreatDoor
theorem CodeReads_holds : Rows.CodeReadsCardSaid := codeReads.card
#print axioms CodeReads_holds
end Go.Proofs.YtchinflkjcebjaaGreatDoor
