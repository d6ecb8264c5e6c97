import Derived.Test.YtljhobjgofhldaaDoordOv
import Derived.Test.YtljhobjgofhldaaDoordLt
import Derived.Deep.RegionHeld3
namespace Go.Proofs.YtljhobjgofhldaaDoor
open Go.RowKit

theorem dpN_le (dp : Int) : dpN dp ≤ 4 := by unfold dpN; split; omega; split; omega; omega
theorem show5 : (⟨(dpS [] (dpN 1) (1, -5, ⟨#[]⟩)).toArray⟩ : ByteArray) = ⟨#[45, 53]⟩ := by
  have h : dpS [] (dpN 1) (1, -5, ⟨#[]⟩) = shL (1, -5, ⟨#[]⟩) := rfl
  rw [h]
  decide +kernel
theorem callRD (a b c : Value) (w : World) : (callFunc 6 #[a, b, c]).run Tryd.prog w = .ok (.enter 6 #[a, b, c]) w := by kernel_rfl
theorem callSh (a : Value) (w : World) : (callFunc 8 #[a]).run Tryd.prog w = .ok (.enter 8 #[a]) w := by kernel_rfl
theorem callLf (a b c : Value) (w : World) : (callFunc 7 #[a, b, c]).run Tryd.prog w = .ok (.enter 7 #[a, b, c]) w := by kernel_rfl
theorem step_callW {P : Program} {w : World} {ops : Array Oper} {o : Oper} {a : Act} {K : Act → World → Prop} {Q : Exit → Act → World → Prop} {E : Prop} (hw : Region.wanted o (yielded ops a.tmps) = true) (f : FuncId) (xs : List Operand) (ts : Array TypeId) (us : List Value)
    (ho : o.op = .call { callee := .value (.func f), args := xs.toArray, argTypes := ts }) (hx : xs.map a.eval = us) (hcf : ∀ w : World, (callFunc f us.toArray).run P w = .ok (.enter f us.toArray) w)
    (Post : Value → World → Prop) (hc : Calls P f us.toArray w fun e w' => ∃ v, e = .returned v ∧ Post v w') (hK : ∀ v w', Post v w' → K (a.put o.dst v) w') : if Region.wanted o (yielded ops a.tmps) = true then Oper.wp P o a w K Q else E := by
  rw [if_pos hw]
  have hf : a.eval (.func f) = .func (.func f) #[] #[] := rfl
  have hr : (execOp a.eval o).run P w = .ok (.enter f us.toArray) w := by
    unfold execOp
    simp only [ho, resolve, invoke, Sem.run_bind, List.map_toArray, hx, hf]
    simp [go_sem, hcf]
  unfold Oper.wp
  rw [hr, Oper.upon_enter]
  refine hc.mono ?_
  rintro e w' ⟨v, rfl, hb⟩
  exact hK _ _ hb
set_option maxRecDepth 100000 in
set_option maxHeartbeats 8000000 in
theorem shows_any {w : World} {tx s : ByteArray} {vq aq : Option Addr} {vcp acp : Nat} {k n dp : Int} {Vs : List Sw} {Ls : List (List V)} (hV : ShAt w w.heap.size vq Vs) (hA : ArrAt w w.heap.size aq Ls) (ht : Tab10 w) (h3 : 3 ≤ w.heap.size) (hv : vIn (k, n, s))
    (b0 : Vs.length * 80 ≤ 140737488351232) (b1 : Ls.length * 24 ≤ 140737488351232) (b2 : ∀ L ∈ Ls, L.length * 32 ≤ 140737488351232) :
    Calls Tryd.prog 3 #[.agg #[.string tx, .slice vq Vs.length vcp, .slice aq Ls.length acp, .int .i64 k, .int .i64 n, .string s, .int .i64 dp]] w fun e w' => e = .returned (.bool true) ∧ Below w.heap.size w w' := by
  obtain ⟨X, hX⟩ : ∃ X, w.alloc (.cells #[.string tx, .slice vq Vs.length vcp, .slice aq Ls.length acp, .int .i64 k, .int .i64 n, .string s, .int .i64 dp] 28) = X := ⟨_, rfl⟩
  have nb : Below w.heap.size w X := by rw [← hX]; exact (Below.refl _ w).alloc (Nat.le_refl _) _
  have fX : Full X w.heap.size 28 [.string tx, .slice vq Vs.length vcp, .slice aq Ls.length acp, .int .i64 k, .int .i64 n, .string s, .int .i64 dp] := by rw [← hX]; exact Full.new w _ _
  have HX : Hid (∀ Y, Below X.heap.size X Y → (Y.cell? ⟨w.heap.size, 0, none⟩ = some (.string tx) ∧ Y.cell? ⟨w.heap.size, 1, none⟩ = some (.slice vq Vs.length vcp) ∧ Y.cell? ⟨w.heap.size, 2, none⟩ = some (.slice aq Ls.length acp) ∧ Y.cell? ⟨w.heap.size, 3, none⟩ = some (.int .i64 k) ∧ Y.cell? ⟨w.heap.size, 4, none⟩ = some (.int .i64 n) ∧ Y.cell? ⟨w.heap.size, 5, none⟩ = some (.string s) ∧ Y.cell? ⟨w.heap.size, 6, none⟩ = some (.int .i64 dp)) ∧ ShAt Y Y.heap.size vq Vs ∧ ArrAt Y Y.heap.size aq Ls ∧ Tab10 Y ∧ Below w.heap.size w Y) := fun Y hb => by
    have f := fX.next hb
    have hwY : Below w.heap.size w Y := nb.trans (hb.mono nb.size)
    refine ⟨⟨(f.cell 0 _ rfl).1, (f.cell 1 _ rfl).1, (f.cell 2 _ rfl).1, (f.cell 3 _ rfl).1, (f.cell 4 _ rfl).1, (f.cell 5 _ rfl).1, (f.cell 6 _ rfl).1⟩, fun j hj => ?_, (hA.below hwY).up hwY.size, ht.next hwY, hwY⟩
    obtain ⟨g, o, e1, e2, e3⟩ := hV j hj
    exact ⟨g, o, e1, Nat.lt_of_lt_of_le e2 hwY.size, e3.same (hwY.block g e2)⟩
  have HV : Hid (∀ L ∈ Ls, ∀ v ∈ L, vIn v) := hA.vin
  have H3 : Hid (3 ≤ X.heap.size) := Nat.le_trans h3 nb.size
  have Hv : Hid (vIn (k, n, s)) := hv
  have HB0 : Hid (Vs.length * 80 ≤ 140737488351232 ∧ Ls.length * 24 ≤ 140737488351232 ∧ ∀ L ∈ Ls, L.length * 32 ≤ 140737488351232) := ⟨b0, b1, b2⟩
  have d1 := lists_any (w := X) acp (HX.out X (Below.refl _ _)).2.2.1 b1 b2
  obtain ⟨⟨x0, x1, x2, x3, x4, x5, x6⟩, -⟩ := HX.out X (Below.refl _ _)
  clear hV hA ht h3 hv b0 b1 b2 nb fX
  go_enter Tryd.func3, Tryd.ntmps3
  go_wp2_with fail
  refine d1.mono ?_
  rintro z1 w1 ⟨rfl, H1⟩
  obtain ⟨Gs, h, LW, B1⟩ := H1.out
  have HLW : Hid (LsW w1 X.heap.size X.heap.size Gs h Ls) := LW
  have HB1 : Hid (Below X.heap.size X w1) := B1
  obtain ⟨⟨y0, y1, y2, y3, y4, y5, y6⟩, -, -, t1, -⟩ := HX.out w1 B1
  have d2 := deep_any (w := w1) (cq := Ls.length + 1) (v := (k, n, s)) (dp := dp) (HLW.out.m HV.out).arr t1 (Nat.le_trans H3.out B1.size) Hv.out
  obtain ⟨R, hR⟩ : ∃ R : ByteArray, (⟨(dpS Ls (dpN dp) (k, n, s)).toArray⟩ : ByteArray) = R := ⟨_, rfl⟩
  have HR : Hid ((⟨(dpS Ls (dpN dp) (k, n, s)).toArray⟩ : ByteArray) = R) := hR
  simp only at d2
  rw [hR] at d2
  clear x0 x1 x2 x3 x4 x5 x6 d1 hR LW B1 H1 t1
  go_wp2_with fail
  refine d2.mono ?_
  rintro z2 w2 ⟨rfl, hb2⟩
  have HB2 : Hid (Below X.heap.size X w2) := HB1.out.trans (hb2.mono HB1.out.size)
  have HLW2 : Hid (LsW w2 X.heap.size X.heap.size Gs h Ls) := HLW.out.next hb2
  clear y0 y1 y2 y3 y4 y5 y6 d2 hb2 HLW HB1
  go_wp2_with fail
  have bd : Below w2.heap.size w2 w2.drew := (Below.refl _ w2).drew
  have HB3 : Hid (Below X.heap.size X w2.drew) := HB2.out.trans (bd.mono HB2.out.size)
  obtain ⟨⟨y0, y1, y2, y3, y4, y5, y6⟩, -, A3, t3, -⟩ := HX.out w2.drew HB3.out
  have d3 := rdeep_any (cq := acp) (dpN dp) (dpN_le dp) (dp := dp) (v := (k, n, s)) rfl A3 t3 Hv.out
  simp only at d3
  rw [HR.out] at d3
  clear A3 t3
  go_region_law (first
    | (refine step_call (by rfl) 6 [.tmp 16, .tmp 18, .tmp 20] _ [.agg #[.int .i64 k, .int .i64 n, .string s], .slice aq Ls.length acp, .int .i64 dp] (by rfl) (by rfl) (callRD _ _ _) (fun v w' => v = .string R ∧ Hid (Below w2.drew.heap.size w2.drew w')) (d3.mono fun _ _ q => ⟨_, q.1, rfl, q.2⟩) ?_; rintro v4 w4 ⟨rfl, H4⟩; have HB4 : Hid (Below X.heap.size X w4) := HB3.out.trans (H4.out.mono HB3.out.size); obtain ⟨⟨p0, p1, p2, p3, p4, p5, p6⟩, V4, -⟩ := HX.out w4 HB4.out; have d4 := shown_any vcp V4 HB0.out.1; clear V4)
    | (refine step_callW (by rfl) 8 [.tmp 26] _ [.slice vq Vs.length vcp] (by rfl) (by rfl) (callSh _) (fun v w' => v = .slice (some ⟨w4.heap.size, 0, none⟩) Vs.length (Vs.length + 1) ∧ Hid (Full w' w4.heap.size 48 (Vs.flatMap sc ++ sc mkS) ∧ Below w4.heap.size w4 w')) (d4.mono fun _ _ q => ⟨_, q.1, rfl, q.2⟩) ?_; rintro v5 w5 ⟨rfl, H5⟩; have HB5 : Hid (Below X.heap.size X w5) := HB4.out.trans (H5.out.2.mono HB4.out.size); obtain ⟨⟨q0, q1, q2, q3, q4, q5, q6⟩, V5, A5, -⟩ := HX.out w5 HB5.out; have d5 := left_any (tx := tx) (s := s) (k := k) (n := n) (dp := dp) (vcp := vcp) (acp := acp) V5 A5 H5.out.1 (((HLW2.out.next bd).next H4.out).next H5.out.2) HB0.out.1 HB0.out.2.1 HB0.out.2.2; clear V5 A5)
    | (refine step_callW (by rfl) 7 [.tmp 24, .tmp 27, .tmp 28] _ [.agg #[.string tx, .slice vq Vs.length vcp, .slice aq Ls.length acp, .int .i64 k, .int .i64 n, .string s, .int .i64 dp], .slice (some ⟨w4.heap.size, 0, none⟩) Vs.length (Vs.length + 1), .slice (some ⟨X.heap.size, 0, none⟩) Ls.length (Ls.length + 1)] (by rfl) (by rfl) (callLf _ _ _) (fun v w' => v = .bool true ∧ Hid (Below w5.heap.size w5 w')) (d5.mono fun _ _ q => ⟨_, q.1, rfl, q.2⟩) ?_; rintro v6 w6 ⟨rfl, H6⟩)
    | fail)
  all_goals
    have HB6 : Hid (Below X.heap.size X w6) := HB5.out.trans (H6.out.mono HB5.out.size)
    have O6 : OvI w6 w6 X.heap.size X.heap.size Gs (Ls.map (·.length)) := ⟨Ls, ((((HLW2.out.next bd).next H4.out).next H5.out.2).next H6.out).m HV.out, rfl, Below.refl _ _⟩
    have d6 := over_any (cp := Ls.length + 1) O6 (by rw [List.length_map]; have := HB0.out.2.1; omega) (fun m hm => by obtain ⟨L, hL, rfl⟩ := List.mem_map.1 hm; have := HB0.out.2.2 L hL; omega)
    rw [List.length_map] at d6
    clear O6 d3 d4 d5 p0 p1 p2 p3 p4 p5 p6 q0 q1 q2 q3 q4 q5 q6 y0 y1 y2 y3 y4 y5 y6 H4 H5 H6 HLW2 bd HB2 HB3 HB4 HB5 HR hX
    go_wp2_with fail
    refine d6.mono ?_
    rintro z7 w7 ⟨⟨r7, rfl⟩, H7⟩
    obtain ⟨Ls', M7, l7, B7⟩ := H7.out
    have e7 : Ls'.length = Ls.length := by have := congrArg List.length l7; rwa [List.length_map, List.length_map] at this
    have HB7 : Hid (Below X.heap.size X w7) := HB6.out.trans B7
    have HM7 : Hid (LsM w7 X.heap.size X.heap.size Gs Ls') := M7
    obtain ⟨⟨y0, y1, y2, y3, y4, y5, y6⟩, -, -, t7, -⟩ := HX.out w7 HB7.out
    have d8 := deep_any (w := w7) (cq := Ls.length + 1) (v := (k, n, s)) (dp := dp) M7.arr t7 (Nat.le_trans H3.out HB7.out.size) Hv.out
    obtain ⟨R', hR⟩ : ∃ R' : ByteArray, (⟨(dpS Ls' (dpN dp) (k, n, s)).toArray⟩ : ByteArray) = R' := ⟨_, rfl⟩
    have HR' : Hid ((⟨(dpS Ls' (dpN dp) (k, n, s)).toArray⟩ : ByteArray) = R') := hR
    simp only at d8
    rw [hR, e7] at d8
    have HE7 : Hid (Ls'.length = Ls.length) := e7
    clear d6 H7 M7 l7 B7 HB6 hR t7 e7
    go_wp2_with fail
    refine d8.mono ?_
    rintro z8 w8 ⟨rfl, hb8⟩
    have HB8 : Hid (Below X.heap.size X w8) := HB7.out.trans (hb8.mono HB7.out.size)
    obtain ⟨⟨x0, x1, x2, x3, x4, x5, x6⟩, -, -, t8, -⟩ := HX.out w8 HB8.out
    have d9 := rdeep_any (cq := Ls.length + 1) (dpN dp) (dpN_le dp) (dp := dp) (v := (k, n, s)) rfl (HM7.out.next hb8).arr t8 Hv.out
    simp only at d9
    rw [HR'.out, HE7.out] at d9
    clear d8 y0 y1 y2 y3 y4 y5 y6 t8 hb8 HM7 HB7 HR'
    go_wp2_with fail
    refine d9.mono ?_
    rintro z9 w9 ⟨rfl, hb9⟩
    have HB9 : Hid (Below X.heap.size X w9) := HB8.out.trans (hb9.mono HB8.out.size)
    have d10 := deep_any (w := w9) (q := none) (cq := 0) (Ls := []) (v := (1, -5, ⟨#[]⟩)) (dp := 1) (fun n hn => absurd hn (by simp)) (HX.out w9 HB9.out).2.2.2.1 (Nat.le_trans H3.out HB9.out.size) ⟨⟨by decide, by decide⟩, by decide⟩
    rw [show5] at d10
    simp only [List.length_nil] at d10
    clear d9 x0 x1 x2 x3 x4 x5 x6 hb9 HB8
    go_wp2_with fail
    refine d10.mono ?_
    rintro z10 w10 ⟨rfl, hb10⟩
    have HF : Hid (Below w.heap.size w w10) := (HX.out w10 (HB9.out.trans (hb10.mono HB9.out.size))).2.2.2.2
    clear d10 hb10 HB9 HX
    go_wp2_with fail
    go_ret
    exact ⟨rfl, HF.out⟩
end Go.Proofs.YtljhobjgofhldaaDoor
