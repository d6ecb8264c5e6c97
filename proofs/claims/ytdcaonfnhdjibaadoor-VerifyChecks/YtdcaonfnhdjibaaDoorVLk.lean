import Derived.Test.YtdcaonfnhdjibaaDoorVQx
namespace Go.Proofs.YtdcaonfnhdjibaaDoor
open Go.RowKit
theorem PanicsIn.call {P : Program} {ops : Array Oper} {w : World} {Q : Exit → Act → World → Prop} {o : Oper} {a : Act} (hw : Region.wanted o (yielded ops a.tmps) = true) (f : FuncId) (xs : List Operand) (ts : Array TypeId) (us : List Value)
    (ho : o.op = .call { callee := .value (.func f), args := xs.toArray, argTypes := ts }) (hx : xs.map a.eval = us) (hcf : ∀ w : World, (callFunc f us.toArray).run P w = .ok (.enter f us.toArray) w) (k c : Int)
    (hc : ∀ dd os, Calls P f us.toArray (Sort.grow (redrawn w dd) os) fun e w' => e = rfs k c ∧ w' = Sort.grow (redrawn w dd) os)
    (hP : ∀ a' w', a'.defers = a.defers → Below w.heap.size w w' → Q (.panic [{ v := .iface 89 (.agg #[.int .i64 k, .int .i64 c]), recovered := false }]) a' w') : PanicsIn P ops (fun w' => ∃ p : Regrown, w' = Sort.grow (redrawn w p.d) p.os) Q o a := by
  refine ⟨hw, ?_⟩
  rintro W ⟨⟨dd, os⟩, rfl⟩ K a' hd he
  have hf : a.eval (.func f) = .func (.func f) #[] #[] := rfl
  have hr : ∀ W : World, (execOp a.eval o).run P W = .ok (.enter f us.toArray) W := fun W => by
    unfold execOp
    simp only [ho, resolve, invoke, Sem.run_bind, List.map_toArray, hx, hf]
    simp [go_sem, hcf]
  unfold Oper.wp
  rw [he, hr, Oper.upon_enter]
  refine (hc dd os).mono ?_
  rintro e w' ⟨h1, rfl⟩
  cases h1
  exact hP _ _ hd (below_regrown w dd os)
set_option maxRecDepth 100000 in
set_option maxHeartbeats 60000000 in
theorem eff_16 {w : World} {h G B : Nat} {a : Int} {A Bb : Int} {q : Option Addr} {n cap : Nat} {s : List Int} {iq eq tq : Option Addr} {ia ea ta : Nat} {Es : List Em} {c : Cd} {e : En} {sq : Option Addr} {sc : Nat} {hi : Int} {kv ov : Value} (k : LS w h G a (16, A, Bb) q n cap s) (hn : n ≤ 1000) (P : Pce w h G B iq eq tq ia ea ta Es c e sq sc hi kv ov) (hs : ∀ v ∈ s, 1 ≤ v ∧ v < 20) : Calls Tryd.prog 54 #[.pointer (some ⟨h, 0, none⟩)] w fun z w' => Hid (Eff w h G a (16, A, Bb) (effS c e (16, A, Bb) s) z w') := by
  obtain ⟨R, HR⟩ : ∃ R, Hid (R = effS c e (16, A, Bb) s) := ⟨_, (rfl : effS c e (16, A, Bb) s = _)⟩
  rw [← HR.out]
  replace HR : Hid (R = tkS 3 s fun r t => wtS (decide (4 < t.getD 0 0) && decide (t.getD 1 0 = 1) && decide (t.getD 2 0 = eltS (t.getD 0 0))) (.ok r)) := HR.out
  obtain ⟨⟨x0, x1⟩, ⟨x2, x3, x4⟩, x5, y5⟩ := k.lk.cs
  obtain ⟨⟨p1, p2⟩, p7, p8⟩ := P.cs
  have HN : Hid (s.length ≤ 1000) := by show s.length ≤ 1000; rw [k.len]; exact hn
  have c1 : Calls Tryd.prog 65 #[.pointer (some ⟨h, 0, none⟩), .int .i64 3] w _ := take_any k 3 hn
  have HS : Hid (∀ v ∈ s, 1 ≤ v ∧ v < 20) := hs
  clear hs
  clear k P p1 p2 p7 p8
  go_enter Tryd.func54, Tryd.ntmps54
  go_wp2_with fail
  refine c1.mono ?_
  rintro z W1 h1
  rcases h1 with ⟨h2, rfl, rfl⟩ | ⟨h2, q1, cap1, rfl, hw1⟩
  · have HE : Hid (R = .error 141) := HR.out.trans (tk_no h2)
    go_wp2
    refine ⟨rfl, ?_⟩
    rw [HE.out]
    exact ⟨rfl, Kp.refl _ _⟩
  · have HE : Hid (R = _) := HR.out.trans (tk_yes h2)
    have HNr : Hid ((s.take (s.length - 3)).length ≤ 1000) := len_take_le _ _ HN.out
    have HLS : Hid (LS W1 h G a (16, A, Bb) q (n - 3) cap (s.take (s.length - 3)) ∧ Kp (fun i => i = h) w W1) := ⟨hw1.out.ls, hw1.out.kp⟩
    obtain ⟨g, o, u, v, y, rfl, et, z0, z1, z2⟩ := hw1.out.st.three
    have hu := mem_drop_ok HS.out et u (by simp)
    rw [et] at HE
    replace HE : Hid (R = wtS (decide (4 < u) && decide (v = 1) && decide (y = eltS u)) (.ok (s.take (s.length - 3)))) := HE.out
    have y0 := cell_regrown z0
    have y1 := cell_regrown z1
    have y2 := cell_regrown z2
    have cI : ∀ dd os, Calls Tryd.prog 73 #[.int .i64 u] (Sort.grow (redrawn W1 dd) os) fun e w'' => e = .returned (.bool (decide (4 < u))) ∧ ∃ z : Regrown, w'' = Sort.grow (redrawn W1 z.d) z.os := fun dd os => (isArray_any _ u).mono fun _ _ ⟨e1, e2⟩ => ⟨e1, ⟨dd, os⟩, e2⟩
    have cE : ∀ dd os, Calls Tryd.prog 72 #[.int .i64 u] (Sort.grow (redrawn W1 dd) os) fun e w'' => e = .returned (.int .i64 (eltS u)) ∧ ∃ z : Regrown, w'' = Sort.grow (redrawn W1 z.d) z.os := fun dd os => (elementOf_any _ u (by omega)).mono fun _ _ ⟨e1, e2⟩ => ⟨e1, ⟨dd, os⟩, e2⟩
    have cY : ∀ dd os, Calls Tryd.prog 69 #[.pointer (some ⟨h, 0, none⟩), .bool true] (Sort.grow (redrawn W1 dd) os) fun e w'' => e = .returned (.tuple #[]) ∧ ∃ z : Regrown, w'' = Sort.grow (redrawn W1 z.d) z.os := fun dd os => (want_any (HLS.out.1.next (below_regrown W1 dd os)).lk true).mono fun _ _ ⟨e1, e2⟩ => ⟨by rw [if_pos rfl] at e1; exact e1, ⟨dd, os⟩, e2⟩
    have cN : ∀ dd os, Calls Tryd.prog 69 #[.pointer (some ⟨h, 0, none⟩), .bool false] (Sort.grow (redrawn W1 dd) os) fun e w'' => e = rfs 142 a ∧ w'' = Sort.grow (redrawn W1 dd) os := fun dd os => want_no (HLS.out.1.next (below_regrown W1 dd os)).lk
    clear c1 hw1 et HR h2 HN x0 x1 x2 x3 x4 x5 y5 hu HS HNr z0 z1 z2
    cases hB : decide (4 < u) with
    | true =>
      rw [hB, Bool.true_and] at HE
      rw [hB] at cI
      clear hB
      by_cases hv : v = 1
      · subst hv
        rw [decide_eq_true rfl, Bool.true_and] at HE
        by_cases hy : y = eltS u
        · replace HE : Hid (R = .ok (s.take (s.length - 3))) := by show R = _; rw [HE.out, decide_eq_true hy]; rfl
          rw [← hy] at cE
          have hy1 : (y == y) = true := by simp
          clear hy cN
          go_wp2_with fail
          refine wp_region_quiet_below (by kernel_rfl) (by kernel_rfl) ?_
          repeat (first | go_big_quiet_step (first | with_reducible exact cI _ _ | with_reducible exact cE _ _ | with_reducible exact cY _ _) | quiet_step (first | with_reducible exact cI _ _ | with_reducible exact cE _ _ | with_reducible exact cY _ _))
          refine wpQuiet_nil ?_
          intro _ hw'
          obtain ⟨⟨dq, osq⟩, hw''⟩ := hw'
          subst hw''
          have hY := below_regrown W1 dq osq
          first | (change Exit.then _ _ Exit.normal _ (Sort.grow (redrawn W1 dq) osq)) | skip
          generalize Sort.grow (redrawn W1 dq) osq = Y at hY ⊢
          clear cI cE cY
          go_wp2
          go_end0
          rw [HE.out]
          exact ⟨rfl, ⟨_, _, _, HLS.out.1.next hY⟩, HLS.out.2.next hY⟩
        · replace HE : Hid (R = .error 142) := by show R = _; rw [HE.out, decide_eq_false hy]; rfl
          have hy1 : (y == eltS u) = false := by rw [beq_eq_false_iff_ne]; exact hy
          generalize eltS u = eu at *
          clear cY
          go_wp2_with fail
          refine wp_region_quiet_panic (l' := _) (z := _) (by exact (List.dropLast_concat_getLast (by simp)).symm) (by kernel_rfl) (by kernel_rfl) ?_
          simp only [List.dropLast, List.getLast]
          repeat (first | go_big_quiet_step (first | with_reducible exact cI _ _ | with_reducible exact cE _ _) | quiet_step (first | with_reducible exact cI _ _ | with_reducible exact cE _ _))
          refine wpQuiet_nil ?_
          refine PanicsIn.call (by rfl) 69 [.tmp 174, .tmp 194] #[121, 4] [.pointer (some ⟨h, 0, none⟩), .bool false] (by rfl) (by rfl) (callWa _ _) 142 a cN ?_
          intro a8 W8 hd8 h8
          refine ⟨hd8, ?_⟩
          rw [HE.out]
          exact ⟨rfl, HLS.out.2.next h8⟩
      · replace HE : Hid (R = .error 142) := by show R = _; rw [HE.out, decide_eq_false hv]; rfl
        have hv1 : (v == 1) = false := by rw [beq_eq_false_iff_ne]; exact hv
        clear cY
        go_wp2_with fail
        refine wp_region_quiet_panic (l' := _) (z := _) (by exact (List.dropLast_concat_getLast (by simp)).symm) (by kernel_rfl) (by kernel_rfl) ?_
        simp only [List.dropLast, List.getLast]
        repeat (first | go_big_quiet_step (first | with_reducible exact cI _ _ | with_reducible exact cE _ _) | quiet_step (first | with_reducible exact cI _ _ | with_reducible exact cE _ _))
        refine wpQuiet_nil ?_
        refine PanicsIn.call (by rfl) 69 [.tmp 174, .tmp 194] #[121, 4] [.pointer (some ⟨h, 0, none⟩), .bool false] (by rfl) (by rfl) (callWa _ _) 142 a cN ?_
        intro a8 W8 hd8 h8
        refine ⟨hd8, ?_⟩
        rw [HE.out]
        exact ⟨rfl, HLS.out.2.next h8⟩
    | false =>
      rw [hB] at HE
      replace HE : Hid (R = .error 142) := HE.out
      rw [hB] at cI
      clear hB cY
      go_wp2_with fail
      refine wp_region_quiet_panic (l' := _) (z := _) (by exact (List.dropLast_concat_getLast (by simp)).symm) (by kernel_rfl) (by kernel_rfl) ?_
      simp only [List.dropLast, List.getLast]
      repeat (first | go_big_quiet_step (first | with_reducible exact cI _ _ | with_reducible exact cE _ _) | quiet_step (first | with_reducible exact cI _ _ | with_reducible exact cE _ _))
      refine wpQuiet_nil ?_
      refine PanicsIn.call (by rfl) 69 [.tmp 174, .tmp 194] #[121, 4] [.pointer (some ⟨h, 0, none⟩), .bool false] (by rfl) (by rfl) (callWa _ _) 142 a cN ?_
      intro a8 W8 hd8 h8
      refine ⟨hd8, ?_⟩
      rw [HE.out]
      exact ⟨rfl, HLS.out.2.next h8⟩
end Go.Proofs.YtdcaonfnhdjibaaDoor
