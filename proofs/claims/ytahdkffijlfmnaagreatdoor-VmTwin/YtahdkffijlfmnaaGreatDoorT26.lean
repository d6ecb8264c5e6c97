import Derived.Deep.RegionLaw
import Derived.Deep.CutBlock
import Derived.Deep.DeepCutAuto
import Derived.BigQuiet
import Derived.Lib.QuietBelow
import Derived.Test.YtahdkffijlfmnaaGreatDoorT17
namespace Go.Proofs.YtahdkffijlfmnaaGreatDoor
open Go.RowKit
open Hp (V vc vcs vaB)
theorem full_lt' {w : World} {b : Nat} {t : TypeId} {vs : List Value} (h : Full w b t vs) : b < w.heap.size := by
  by_cases q : b < w.heap.size
  · exact q
  · unfold Full at h
    rw [Array.getElem?_eq_none (by omega)] at h
    cases h
theorem full_kept' {w w' : World} {U : Nat → Prop} {b : Nat} {t : TypeId} {vs : List Value} (h : Full w b t vs) (k : Kp U w w') (hU : ¬ U b) : Full w' b t vs := (k.block b (full_lt' h) hU).trans h
def frC (f : Fr) (b : List UInt8) : List UInt8 := Hp.numB f.fn 1 ++ (Hp.numB f.pc 4 ++ (f.sl.flatMap vaB ++ (Hp.numB (f.st.length : Int) 2 ++ (f.st.flatMap vaB ++ b))))
theorem callPE (a b : Value) (w : World) : (callFunc 73 #[a, b]).run Tryz.prog w = .ok (.enter 73 #[a, b]) w := by kernel_rfl
theorem callWi (a b c d : Value) (w : World) : (callFunc 61 #[a, b, c, d]).run Tryz.prog w = .ok (.enter 61 #[a, b, c, d]) w := by kernel_rfl
set_option maxRecDepth 100000 in
set_option maxHeartbeats 2000000 in
theorem rframe_any {w W : World} {g rb : Nat} {K : Cg} {Q : Nat → Prop} {l : List Value} {f : Fr} {bs : List UInt8} (h : RsI w W g rb K Q l (frC f bs)) (l0 : l[0]? = some (.slice K.iq K.c.ins.length K.ia)) (l1 : l[1]? = some (.slice K.eq K.c.ens.length K.ea))
    {i : Nat} (hi : i < K.Es.length) (hE : K.Es.length ≤ 60) (hfi : f.fn = (i : Int)) (hsl : f.sl.length = K.Es[i].1.sorts.length) (h250 : f.sl.length ≤ 250) (hst : f.st.length ≤ 400) (hv : ∀ v ∈ f.sl, Hp.RdV v) (hv2 : ∀ v ∈ f.st, Hp.RdV v) (hp0 : 0 ≤ f.pc) (hp1 : K.Es[i].1.start ≤ f.pc) (hp2 : f.pc ≤ endM K i) (hp3 : f.pc ≤ 60000) :
    Calls Tryz.prog 62 #[.pointer (some ⟨g, 0, none⟩), .pointer (some ⟨rb, 0, none⟩)] W fun e w' => ∃ gs gt, e = .returned (.agg #[.int .i64 f.fn, .int .i64 f.pc, .slice (some ⟨gs, 0, none⟩) f.sl.length f.sl.length, .slice (some ⟨gt, 0, none⟩) f.st.length f.st.length]) ∧ Hid (RsI w w' g rb K Q l bs ∧ Kp (fun x => x = rb) W w' ∧ w'.ownsRow W.heap.size 52 3 (.slice (some ⟨gs, 0, none⟩) f.sl.length f.sl.length) f.sl.length (vcs f.sl) ∧ w'.ownsRow W.heap.size 52 3 (.slice (some ⟨gt, 0, none⟩) f.st.length f.st.length) f.st.length (vcs f.st) ∧ gs ≠ gt) := by
  unfold frC at h
  rw [hfi] at h ⊢
  obtain ⟨X, hX⟩ : ∃ X, W.alloc (.cells #[.int .i64 0, .int .i64 0, .slice none 0 0, .slice none 0 0] 89) = X := ⟨_, rfl⟩
  have bX : Below W.heap.size W X := by rw [← hX]; exact (Below.refl _ W).alloc (Nat.le_refl _) _
  have fX : Full X W.heap.size 89 [.int .i64 0, .int .i64 0, .slice none 0 0, .slice none 0 0] := by rw [← hX]; exact Full.new W _ _
  have hX1 := h.next bX
  have HX1 : Hid (RsI w X g rb K Q l (Hp.numB (i : Int) 1 ++ (Hp.numB f.pc 4 ++ (f.sl.flatMap vaB ++ (Hp.numB (f.st.length : Int) 2 ++ (f.st.flatMap vaB ++ bs)))))) := hX1
  have HFX : Hid (Full X W.heap.size 89 [.int .i64 0, .int .i64 0, .slice none 0 0, .slice none 0 0]) := fX
  have HBX : Hid (Below W.heap.size W X) := bX
  have HRL : Hid (rb < W.heap.size) := block_lt_of_cell h.r.1.1
  have HGW : Hid (g < W.heap.size) := h.c.1.lt
  have HQW : Hid (∀ b, Q b → b < W.heap.size) := h.q.lt
  have HWw : Hid (w.heap.size ≤ W.heap.size) := h.k.size
  have c1 := (hX1.cell 1 l1).1
  rw [← h.q.len] at c1
  obtain ⟨ne, hne⟩ : ∃ ne, K.Es.length = ne := ⟨_, rfl⟩
  have HNE : Hid (K.Es.length = ne) := hne
  have i0 : (0 : Int) ≤ (i : Int) := Int.natCast_nonneg _
  have i1 : (i : Int) < (ne : Int) := by omega
  have hw : IntKind.i64.wrap ((ne : Int) - 1) = (ne : Int) - 1 := by rw [IntKind.wrap_i64]; omega
  rw [hne] at c1
  have d1 := RsI.within (i : Int) 1 hX1 0 ((ne : Int) - 1) (by rw [Hp.nv1]; omega) i0 (by omega)
  obtain ⟨E, hEE⟩ : ∃ E, K.Es[i] = E := ⟨_, rfl⟩
  have HEE : Hid (K.Es[i] = E) := hEE
  rw [hEE] at hsl hp1
  have HEN : Hid (∀ W', RsI w W' g rb K Q l (Hp.numB f.pc 4 ++ (f.sl.flatMap vaB ++ (Hp.numB (f.st.length : Int) 2 ++ (f.st.flatMap vaB ++ bs)))) → ∃ ge o, W'.cell? ⟨g, 1, none⟩ = some (.slice (some ⟨ge, o, none⟩) ne K.ea) ∧ W'.cell? ⟨ge, o + i * 5, none⟩ = some (.string E.1.name) ∧ W'.cell? ⟨ge, o + i * 5 + 1, none⟩ = some (.int .i64 E.1.start) ∧ W'.cell? ⟨ge, o + i * 5 + 2, none⟩ = some (.int .i64 E.1.params) ∧ W'.cell? ⟨ge, o + i * 5 + 3, none⟩ = some (.slice E.2.1 E.1.sorts.length E.2.2) ∧ W'.cell? ⟨ge, o + i * 5 + 4, none⟩ = some (.int .i64 E.1.result)) := fun W' hW => by
    obtain ⟨ge, o, he, -, e0, e1, e2, e3, e4⟩ := hW.q.ent i hi
    have q1 := (hW.cell 1 l1).1
    rw [← hW.q.len, HNE.out, he] at q1
    rw [HEE.out] at e0 e1 e2 e3 e4
    exact ⟨ge, o, q1, e0, e1, e2, e3, e4⟩
  clear h hX1 bX fX
  go_enter Tryz.func62, Tryz.ntmps62
  go_wp2_with (first
    | (go_at_call 61; refine d1.mono ?_; rintro z1 w1 ⟨rfl, H1⟩; have HI1 : Hid _ := H1.out.1; have HK1 : Hid (Kp (fun x => x = rb) X w1) := H1.out.2; obtain ⟨ge, o, q1, e0, e1, e2, e3, e4⟩ := HEN.out w1 H1.out.1; clear d1 H1)
    | fail)
  have nY : Below w1.heap.size w1 (w1.alloc (.cells #[.string E.1.name, .int .i64 E.1.start, .int .i64 E.1.params, .slice E.2.1 E.1.sorts.length E.2.2, .int .i64 E.1.result] 71)) := (Below.refl _ w1).alloc (Nat.le_refl _) _
  have fY : Full (w1.alloc (.cells #[.string E.1.name, .int .i64 E.1.start, .int .i64 E.1.params, .slice E.2.1 E.1.sorts.length E.2.2, .int .i64 E.1.result] 71)) w1.heap.size 71 [.string E.1.name, .int .i64 E.1.start, .int .i64 E.1.params, .slice E.2.1 E.1.sorts.length E.2.2, .int .i64 E.1.result] := Full.new w1 _ _
  generalize w1.alloc (.cells #[.string E.1.name, .int .i64 E.1.start, .int .i64 E.1.params, .slice E.2.1 E.1.sorts.length E.2.2, .int .i64 E.1.result] 71) = Y at nY fY ⊢
  have hBz : X.heap.size ≤ w1.heap.size := HK1.out.size
  generalize hB : w1.heap.size = B at fY hBz ⊢
  have HIY : Hid (RsI w Y g rb K Q l (Hp.numB f.pc 4 ++ (f.sl.flatMap vaB ++ (Hp.numB (f.st.length : Int) 2 ++ (f.st.flatMap vaB ++ bs))))) := HI1.out.next nY
  have HKY : Hid (Kp (fun x => x = rb) X Y) := HK1.out.next nY
  have HFY : Hid (Full Y B 71 [.string E.1.name, .int .i64 E.1.start, .int .i64 E.1.params, .slice E.2.1 E.1.sorts.length E.2.2, .int .i64 E.1.result]) := fY
  have HBL : Hid (W.heap.size < B ∧ rb < B) := by
    have := full_lt' HFX.out
    have := HRL.out
    exact ⟨by omega, by omega⟩
  clear e0 e1 e2 e3 e4 q1 c1 HI1 HK1 HX1 nY fY hBz hB w1
  have bD : Below Y.heap.size Y Y.drew := (Below.refl _ Y).drew
  have HID : Hid (RsI w Y.drew g rb K Q l (Hp.numB f.pc 4 ++ (f.sl.flatMap vaB ++ (Hp.numB (f.st.length : Int) 2 ++ (f.st.flatMap vaB ++ bs))))) := HIY.out.next bD
  have y1 := ((HFY.out.next bD).cell 1 _ rfl).1
  have HY1 : Hid (∀ W', Below Y.drew.heap.size Y.drew W' → W'.cell? ⟨B, 1, none⟩ = some (.int .i64 E.1.start) ∧ RsI w W' g rb K Q l (Hp.numB f.pc 4 ++ (f.sl.flatMap vaB ++ (Hp.numB (f.st.length : Int) 2 ++ (f.st.flatMap vaB ++ bs)))) ∧ Kp (fun x => x = rb) X W' ∧ Full W' B 71 [.string E.1.name, .int .i64 E.1.start, .int .i64 E.1.params, .slice E.2.1 E.1.sorts.length E.2.2, .int .i64 E.1.result]) := fun W' hW => ⟨(((HFY.out.next bD).next hW).cell 1 _ rfl).1, HID.out.next hW, (HKY.out.next bD).next hW, (HFY.out.next bD).next hW⟩
  have dP : Calls Tryz.prog 73 #[.pointer (some ⟨g, 0, none⟩), .int .i64 (i : Int)] Y.drew fun e w' => ∃ v, e = .returned v ∧ (v = .int .i64 (endM K i) ∧ Below Y.drew.heap.size Y.drew w') := (pieceEnd_cel (HID.out.cell 0 l0).1 (HID.out.cell 1 l1).1 HID.out.q hi (by omega)).mono fun _ _ q => ⟨_, q.1, rfl, q.2⟩
  obtain ⟨en, hen⟩ : ∃ en, endM K i = en := ⟨_, rfl⟩
  rw [hen] at dP hp2
  clear hen
  go_cut [0, 1, 4, 5, 6, 7] (fun u0 u1 u4 u5 u6 u7 wx => u0 = .pointer (some ⟨g, 0, none⟩) ∧ u1 = .pointer (some ⟨rb, 0, none⟩) ∧ u4 = .pointer (some ⟨W.heap.size, 0, none⟩) ∧ u5 = .int .i64 (i : Int) ∧ u6 = .pointer (some ⟨B, 0, none⟩) ∧ u7 = .int .i64 f.pc ∧ Hid (RsI w wx g rb K Q l (f.sl.flatMap vaB ++ (Hp.numB (f.st.length : Int) 2 ++ (f.st.flatMap vaB ++ bs))) ∧ Kp (fun x => x = rb) X wx ∧ Full wx B 71 [.string E.1.name, .int .i64 E.1.start, .int .i64 E.1.params, .slice E.2.1 E.1.sorts.length E.2.2, .int .i64 E.1.result]))
  case first =>
    go_region_law (first
      | (refine step_call (by rfl) 73 [.tmp 30, .tmp 31] _ [.pointer (some ⟨g, 0, none⟩), .int .i64 (i : Int)] (by rfl) (by rfl) (callPE _ _) _ dP ?_; rintro v2 w2 ⟨rfl, hb2⟩; obtain ⟨y2, hI2, hK2, hF2⟩ := HY1.out w2 hb2; have HI2 : Hid _ := hI2; have HK2 : Hid (Kp (fun x => x = rb) X w2) := hK2; have HF2 : Hid _ := hF2; have dW := RsI.within f.pc 4 HI2.out E.1.start en (by rw [Hp.nv4]; omega) hp1 hp2; clear hI2 hK2 hF2 hb2)
      | (refine step_call (by rfl) 61 [.tmp 27, .const (.int .i64 4), .tmp 29, .tmp 32] _ [.pointer (some ⟨rb, 0, none⟩), .int .i64 4, .int .i64 E.1.start, .int .i64 en] (by rfl) (by rfl) (callWi _ _ _ _) (fun v w' => v = .int .i64 f.pc ∧ Hid (RsI w w' g rb K Q l (f.sl.flatMap vaB ++ (Hp.numB (f.st.length : Int) 2 ++ (f.st.flatMap vaB ++ bs))) ∧ Kp (fun x => x = rb) w2 w')) (dW.mono fun _ _ q => ⟨_, q.1, rfl, q.2⟩) ?_; rintro v3 w3 ⟨rfl, H3⟩))
    all_goals
      clear y1 y2
      go_wp2_with fail
      go_meet
      exact ⟨rfl, rfl, rfl, rfl, rfl, rfl, H3.out.1, HK2.out.trans H3.out.2 (fun _ _ q => q), full_kept' HF2.out H3.out.2 (fun e => by have e : B = rb := e; have := HBL.out; omega)⟩
  case rest =>
    obtain ⟨rfl, rfl, rfl, rfl, rfl, rfl, HC⟩ := hcut
    have c3 := (HC.out.2.2.cell 3 _ rfl).1
    rw [← hsl] at c3
    clear hsl
    have dV1 := RsI.values f.sl HC.out.1 hv (by omega)
    have HKC : Hid (Kp (fun x => x = rb) X wc) := HC.out.2.1
    have HSN : Hid (∀ n : Nat, n ≤ 400 → Hp.numV (Hp.numB (n : Int) 2) = (n : Int)) := fun n hn => by rw [Hp.nv2]; omega
    obtain ⟨gs, hgs⟩ : ∃ gs, wc.heap.size = gs := ⟨_, rfl⟩
    have HGS : Hid (X.heap.size ≤ gs) := by show X.heap.size ≤ gs; rw [← hgs]; exact HKC.out.size
    have HXW : Hid (W.heap.size < X.heap.size) := full_lt' HFX.out
    rw [hgs] at dV1
    have HFIN : Hid (∀ (w6 : World) (gt : Nat), Kp (fun x => x = rb) X w6 → RsI w w6 g rb K Q l bs → w6.ownsRow gs 52 3 (.slice (some ⟨gs, 0, none⟩) f.sl.length f.sl.length) f.sl.length (vcs f.sl) → gs < gt → w6.ownsRow gt 52 3 (.slice (some ⟨gt, 0, none⟩) f.st.length f.st.length) f.st.length (vcs f.st) → Full ((((w6.setCell ⟨W.heap.size, 0, none⟩ (.int .i64 (i : Int))).setCell ⟨W.heap.size, 1, none⟩ (.int .i64 f.pc)).setCell ⟨W.heap.size, 2, none⟩ (.slice (some ⟨gs, 0, none⟩) f.sl.length f.sl.length)).setCell ⟨W.heap.size, 3, none⟩ (.slice (some ⟨gt, 0, none⟩) f.st.length f.st.length)) W.heap.size 89 [.int .i64 (i : Int), .int .i64 f.pc, .slice (some ⟨gs, 0, none⟩) f.sl.length f.sl.length, .slice (some ⟨gt, 0, none⟩) f.st.length f.st.length] ∧ Hid (RsI w ((((w6.setCell ⟨W.heap.size, 0, none⟩ (.int .i64 (i : Int))).setCell ⟨W.heap.size, 1, none⟩ (.int .i64 f.pc)).setCell ⟨W.heap.size, 2, none⟩ (.slice (some ⟨gs, 0, none⟩) f.sl.length f.sl.length)).setCell ⟨W.heap.size, 3, none⟩ (.slice (some ⟨gt, 0, none⟩) f.st.length f.st.length)) g rb K Q l bs ∧ Kp (fun x => x = rb) W ((((w6.setCell ⟨W.heap.size, 0, none⟩ (.int .i64 (i : Int))).setCell ⟨W.heap.size, 1, none⟩ (.int .i64 f.pc)).setCell ⟨W.heap.size, 2, none⟩ (.slice (some ⟨gs, 0, none⟩) f.sl.length f.sl.length)).setCell ⟨W.heap.size, 3, none⟩ (.slice (some ⟨gt, 0, none⟩) f.st.length f.st.length)) ∧ (((((w6.setCell ⟨W.heap.size, 0, none⟩ (.int .i64 (i : Int))).setCell ⟨W.heap.size, 1, none⟩ (.int .i64 f.pc)).setCell ⟨W.heap.size, 2, none⟩ (.slice (some ⟨gs, 0, none⟩) f.sl.length f.sl.length)).setCell ⟨W.heap.size, 3, none⟩ (.slice (some ⟨gt, 0, none⟩) f.st.length f.st.length))).ownsRow W.heap.size 52 3 (.slice (some ⟨gs, 0, none⟩) f.sl.length f.sl.length) f.sl.length (vcs f.sl) ∧ (((((w6.setCell ⟨W.heap.size, 0, none⟩ (.int .i64 (i : Int))).setCell ⟨W.heap.size, 1, none⟩ (.int .i64 f.pc)).setCell ⟨W.heap.size, 2, none⟩ (.slice (some ⟨gs, 0, none⟩) f.sl.length f.sl.length)).setCell ⟨W.heap.size, 3, none⟩ (.slice (some ⟨gt, 0, none⟩) f.st.length f.st.length))).ownsRow W.heap.size 52 3 (.slice (some ⟨gt, 0, none⟩) f.st.length f.st.length) f.st.length (vcs f.st) ∧ gs ≠ gt)) := fun w6 gt k6 h6 o6 hlt p6 => by
      have hg := HGS.out
      have hx := HXW.out
      have hf6 := full_kept' HFX.out k6 (fun e => by have e : W.heap.size = rb := e; have := HRL.out; omega)
      have kz : Kp (fun x => x = W.heap.size) w6 ((((w6.setCell ⟨W.heap.size, 0, none⟩ (.int .i64 (i : Int))).setCell ⟨W.heap.size, 1, none⟩ (.int .i64 f.pc)).setCell ⟨W.heap.size, 2, none⟩ (.slice (some ⟨gs, 0, none⟩) f.sl.length f.sl.length)).setCell ⟨W.heap.size, 3, none⟩ (.slice (some ⟨gt, 0, none⟩) f.st.length f.st.length)) := ((((Kp.refl (fun x => x = W.heap.size) w6).setCell (p := ⟨W.heap.size, 0, none⟩) (.inl rfl) _).setCell (p := ⟨W.heap.size, 1, none⟩) (.inl rfl) _).setCell (p := ⟨W.heap.size, 2, none⟩) (.inl rfl) _).setCell (p := ⟨W.heap.size, 3, none⟩) (.inl rfl) _
      have keep : ∀ {D : Nat} {v : Value} {n : Nat} {ys : List Value}, w6.ownsRow D 52 3 v n ys → W.heap.size < D → (((((w6.setCell ⟨W.heap.size, 0, none⟩ (.int .i64 (i : Int))).setCell ⟨W.heap.size, 1, none⟩ (.int .i64 f.pc)).setCell ⟨W.heap.size, 2, none⟩ (.slice (some ⟨gs, 0, none⟩) f.sl.length f.sl.length)).setCell ⟨W.heap.size, 3, none⟩ (.slice (some ⟨gt, 0, none⟩) f.st.length f.st.length))).ownsRow W.heap.size 52 3 v n ys := fun {D v n ys} ho hD => own_down (own_same ho fun x hx => kz.block x (own_blk ho x hx).lt (fun e => by have e : x = W.heap.size := e; have := own_ge ho x hx; omega)) (Nat.le_of_lt hD)
      have kW : Kp (fun x => x = rb) W ((((w6.setCell ⟨W.heap.size, 0, none⟩ (.int .i64 (i : Int))).setCell ⟨W.heap.size, 1, none⟩ (.int .i64 f.pc)).setCell ⟨W.heap.size, 2, none⟩ (.slice (some ⟨gs, 0, none⟩) f.sl.length f.sl.length)).setCell ⟨W.heap.size, 3, none⟩ (.slice (some ⟨gt, 0, none⟩) f.st.length f.st.length)) := by
        refine ⟨kz.os.trans (k6.os.trans HBX.out.os), kz.tape.trans (k6.tape.trans HBX.out.tape), kz.output.trans (k6.output.trans HBX.out.output), Nat.le_trans HBX.out.size (Nat.le_trans k6.size kz.size), fun x hx hn => ?_⟩
        have hxX : x < X.heap.size := Nat.lt_of_lt_of_le hx HBX.out.size
        exact (kz.block x (Nat.lt_of_lt_of_le hxX k6.size) (fun e => by have e : x = W.heap.size := e; omega)).trans ((k6.block x hxX hn).trans (HBX.out.block x hx))
      have hr6 := h6.r
      have hk6 := h6.k
      obtain ⟨n1, n2, n3, n4, n5⟩ := h6.n
      have hrl := HRL.out
      have hgW : g < W.heap.size := HGW.out
      refine ⟨Full.put (g := W.heap.size) (t := 89) [.int .i64 (i : Int), .int .i64 f.pc, .slice (some ⟨gs, 0, none⟩) f.sl.length f.sl.length, .slice (some ⟨gt, 0, none⟩) f.st.length f.st.length] (a := []) (b := [.int .i64 0, .int .i64 0, .slice none 0 0, .slice none 0 0]) (d := []) hf6 rfl, ⟨h6.c.same (kz.block g h6.c.1.lt (fun e => by have e : g = W.heap.size := e; omega)), h6.q.same (fun b hb => kz.block b (h6.q.lt b hb) (fun e => by have e : b = W.heap.size := e; have := HQW.out b hb; omega)) kz.size, h6.r.same (kz.block rb (block_lt_of_cell h6.r.1.1) (fun e => by have e : rb = W.heap.size := e; omega)), hk6.trans kz fun x hx e => ?_, h6.n, h6.lb⟩, kW, keep o6 (by omega), keep p6 (by omega), by omega⟩
      have e : x = W.heap.size := e
      have := HWw.out
      omega
    clear dP HY1 HID HIY HKY HFY bD y1
    go_wp2_with (first
      | (go_at_call 98; (with_reducible refine dV1.mono ?_); rintro z4 w4 ⟨rfl, H4⟩; have HI4 : Hid _ := H4.out.1; have HO4 : Hid (w4.ownsRow gs 52 3 (.slice (some ⟨gs, 0, none⟩) f.sl.length f.sl.length) f.sl.length (vcs f.sl)) := H4.out.2.1; have HK4 : Hid (Kp (fun x => x = rb) X w4) := HKC.out.trans H4.out.2.2.1 (fun _ _ q => q); have HZ4 : Hid (gs < w4.heap.size) := H4.out.2.2.2; have dW2 := RsI.within (f.st.length : Int) 2 HI4.out 0 400 (HSN.out _ hst) (by omega) (by omega); rw [show ((2 : Nat) : Int) = 2 from rfl] at dW2; clear dV1 H4)
      | (go_at_call 61; (with_reducible refine dW2.mono ?_); rintro z5 w5 ⟨rfl, H5⟩; have HI5 : Hid _ := H5.out.1; have HK5 : Hid (Kp (fun x => x = rb) w4 w5) := H5.out.2; have dV2 := RsI.values f.st HI5.out hv2 (by omega); obtain ⟨gt, hgt⟩ : ∃ gt, w5.heap.size = gt := ⟨_, rfl⟩; have HGT : Hid (w5.heap.size = gt) := hgt; rw [hgt] at dV2; clear dW2 H5 hgt)
      | (go_at_call 98; (with_reducible refine dV2.mono ?_); rintro z6 w6 ⟨rfl, H6⟩; have HI6 : Hid _ := H6.out.1; have HK6 : Hid (Kp (fun x => x = rb) w5 w6) := H6.out.2.2.1; have HP6 : Hid (w6.ownsRow gt 52 3 (.slice (some ⟨gt, 0, none⟩) f.st.length f.st.length) f.st.length (vcs f.st)) := H6.out.2.1; have HK46 : Hid (Kp (fun x => x = rb) w4 w6) := HK5.out.trans HK6.out (fun _ _ q => q); have HKX6 : Hid (Kp (fun x => x = rb) X w6) := HK4.out.trans HK46.out (fun _ _ q => q); have hf6 := full_kept' HFX.out HKX6.out (fun e => by have e : W.heap.size = rb := e; have := HRL.out; omega); obtain ⟨t0, g0⟩ := hf6.cell 0 _ rfl; obtain ⟨t1, g1⟩ := hf6.cell 1 _ rfl; obtain ⟨t2, g2⟩ := hf6.cell 2 _ rfl; obtain ⟨t3, g3⟩ := hf6.cell 3 _ rfl; obtain ⟨hF, HR⟩ := HFIN.out w6 gt HKX6.out HI6.out (own_same HO4.out fun x hx => HK46.out.block x (own_blk HO4.out x hx).lt (fun e => by have e : x = rb := e; have := own_ge HO4.out x hx; have := HGS.out; have := HXW.out; have := HRL.out; omega)) (by have := HZ4.out; have := HK5.out.size; have := HGT.out; omega) HP6.out; clear dV2 H6 hf6)
      | fail)
    obtain ⟨p0, -⟩ := hF.cell 0 _ rfl
    obtain ⟨p1, -⟩ := hF.cell 1 _ rfl
    obtain ⟨p2, -⟩ := hF.cell 2 _ rfl
    obtain ⟨p3, -⟩ := hF.cell 3 _ rfl
    exact bodyPost_ret (v := .agg #[.int .i64 (i : Int), .int .i64 f.pc, .slice (some ⟨gs, 0, none⟩) f.sl.length f.sl.length, .slice (some ⟨gt, 0, none⟩) f.st.length f.st.length]) (by simp [results, Tryz.results62, go_sem, p0, p1, p2, p3]) rfl ⟨gs, gt, rfl, HR⟩
end Go.Proofs.YtahdkffijlfmnaaGreatDoor
