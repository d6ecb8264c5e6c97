import Derived.Test.YtdcaonfnhdjibaaDoorCVg
namespace Go.Proofs.YtdcaonfnhdjibaaDoor
open Go.RowKit

/-! The reference: which parts may be. -/
set_option maxRecDepth 100000 in
set_option maxHeartbeats 1000000 in
theorem rletter_any (b : UInt8) (w : World) : Calls Tryd.prog 88 #[.int .u8 (b.toNat : Int)] w fun e w' => e = .returned (.bool (letB b)) ∧ w' = w := by
  have hb := b.toNat_lt
  unfold letB
  generalize b.toNat = n at *
  go_enter Tryd.func88, Tryd.ntmps88
  by_cases h1 : 97 ≤ n
  · by_cases h2 : n ≤ 122
    · go_wp2
      go_ret
      refine ⟨ret_bool ?_, rfl⟩
      simp
      try omega
    · go_wp2
      go_ret
      refine ⟨ret_bool ?_, rfl⟩
      simp
      try omega
  · by_cases h2 : 65 ≤ n
    · go_wp2
      go_ret
      refine ⟨ret_bool ?_, rfl⟩
      simp
      try omega
    · go_wp2
      go_ret
      refine ⟨ret_bool ?_, rfl⟩
      simp
      try omega
theorem sort_fin : ∀ k : Fin 20, 1 ≤ k.val → (sortS (k.val : Int) = true ↔ (k.val : Int) % 4 ≠ 0) := by decide +kernel
theorem may9_fin : ∀ k : Fin 16, 1 ≤ k.val → (mayS 9 (k.val : Int) = true ↔ (k.val : Int) % 4 ≠ 0) := by decide +kernel
theorem sort_tm {n : Int} (h0 : 1 ≤ n) (h1 : n ≤ 19) : sortS n = true ↔ n % 4 ≠ 0 := by
  have := sort_fin ⟨n.toNat, by omega⟩ (by show 1 ≤ n.toNat; omega)
  simp only at this
  rwa [show ((n.toNat : Nat) : Int) = n by omega] at this
theorem may9_tm {n : Int} (h0 : 1 ≤ n) (h1 : n ≤ 15) : mayS 9 n = true ↔ n % 4 ≠ 0 := by
  have := may9_fin ⟨n.toNat, by omega⟩ (by show 1 ≤ n.toNat; omega)
  simp only at this
  rwa [show ((n.toNat : Nat) : Int) = n by omega] at this
set_option maxRecDepth 100000 in
set_option maxHeartbeats 1000000 in
theorem rsort_any (n : Int) (w : World) : Calls Tryd.prog 79 #[.int .i64 n] w fun e w' => e = .returned (.bool (sortS n)) ∧ w' = w := by
  by_cases h0 : 1 ≤ n
  · by_cases h1 : n ≤ 19
    · have HI : Hid (sortS n = true ↔ n % 4 ≠ 0) := sort_tm h0 h1
      generalize sortS n = S at HI ⊢
      go_enter Tryd.func79, Tryd.ntmps79
      go_wp2
      go_ret
      refine ⟨ret_bool ?_, rfl⟩
      rw [HI.out]
      simp
    · have hs : sortS n = false := by unfold sortS; simp; omega
      rw [hs]
      go_enter Tryd.func79, Tryd.ntmps79
      go_wp2
      go_ret
      exact ⟨rfl, rfl⟩
  · have hs : sortS n = false := by unfold sortS; simp; omega
    rw [hs]
    go_enter Tryd.func79, Tryd.ntmps79
    go_wp2
    go_ret
    exact ⟨rfl, rfl⟩
set_option maxRecDepth 100000 in
set_option maxHeartbeats 1000000 in
theorem rmay_0 (n : Int) (w : World) : Calls Tryd.prog 80 #[.int .i64 0, .int .i64 n] w fun e w' => e = .returned (.bool (mayS 0 n)) ∧ w' = w := by
  have HM : Hid (mayS 0 n = true ↔ (0 : Int) ≤ n ∧ n ≤ (0 : Int)) := (may_iff 0 n).trans ⟨fun ⟨a, b, _⟩ => ⟨a, b⟩, fun ⟨a, b⟩ => ⟨a, b, fun h => absurd h (by decide)⟩⟩
  generalize mayS 0 n = M at HM ⊢
  go_enter Tryd.func80, Tryd.ntmps80
  go_wp2
  all_goals
    go_ret
    refine ⟨ret_bool ?_, rfl⟩
    have h := HM.out
    clear HM
    grind
set_option maxRecDepth 100000 in
set_option maxHeartbeats 1000000 in
theorem rmay_1 (n : Int) (w : World) (b0 : -9223372036854775808 ≤ n) (b1 : n ≤ 9223372036854775807) : Calls Tryd.prog 80 #[.int .i64 1, .int .i64 n] w fun e w' => e = .returned (.bool (mayS 1 n)) ∧ w' = w := by
  have HM : Hid (mayS 1 n = true ↔ ((-9223372036854775808) : Int) ≤ n ∧ n ≤ (9223372036854775807 : Int)) := (may_iff 1 n).trans ⟨fun ⟨a, b, _⟩ => ⟨a, b⟩, fun ⟨a, b⟩ => ⟨a, b, fun h => absurd h (by decide)⟩⟩
  generalize mayS 1 n = M at HM ⊢
  go_enter Tryd.func80, Tryd.ntmps80
  go_wp2
  all_goals
    go_ret
    refine ⟨ret_bool ?_, rfl⟩
    have h := HM.out
    clear HM
    grind
set_option maxRecDepth 100000 in
set_option maxHeartbeats 1000000 in
theorem rmay_2 (n : Int) (w : World) : Calls Tryd.prog 80 #[.int .i64 2, .int .i64 n] w fun e w' => e = .returned (.bool (mayS 2 n)) ∧ w' = w := by
  have HM : Hid (mayS 2 n = true ↔ (0 : Int) ≤ n ∧ n ≤ (1 : Int)) := (may_iff 2 n).trans ⟨fun ⟨a, b, _⟩ => ⟨a, b⟩, fun ⟨a, b⟩ => ⟨a, b, fun h => absurd h (by decide)⟩⟩
  generalize mayS 2 n = M at HM ⊢
  go_enter Tryd.func80, Tryd.ntmps80
  go_wp2
  all_goals
    go_ret
    refine ⟨ret_bool ?_, rfl⟩
    have h := HM.out
    clear HM
    grind
set_option maxRecDepth 100000 in
set_option maxHeartbeats 1000000 in
theorem rmay_3 (n : Int) (w : World) : Calls Tryd.prog 80 #[.int .i64 3, .int .i64 n] w fun e w' => e = .returned (.bool (mayS 3 n)) ∧ w' = w := by
  have HM : Hid (mayS 3 n = true ↔ (0 : Int) ≤ n ∧ n ≤ (3999 : Int)) := (may_iff 3 n).trans ⟨fun ⟨a, b, _⟩ => ⟨a, b⟩, fun ⟨a, b⟩ => ⟨a, b, fun h => absurd h (by decide)⟩⟩
  generalize mayS 3 n = M at HM ⊢
  go_enter Tryd.func80, Tryd.ntmps80
  go_wp2
  all_goals
    go_ret
    refine ⟨ret_bool ?_, rfl⟩
    have h := HM.out
    clear HM
    grind
set_option maxRecDepth 100000 in
set_option maxHeartbeats 1000000 in
theorem rmay_4 (n : Int) (w : World) : Calls Tryd.prog 80 #[.int .i64 4, .int .i64 n] w fun e w' => e = .returned (.bool (mayS 4 n)) ∧ w' = w := by
  have HM : Hid (mayS 4 n = true ↔ (0 : Int) ≤ n ∧ n ≤ (249 : Int)) := (may_iff 4 n).trans ⟨fun ⟨a, b, _⟩ => ⟨a, b⟩, fun ⟨a, b⟩ => ⟨a, b, fun h => absurd h (by decide)⟩⟩
  generalize mayS 4 n = M at HM ⊢
  go_enter Tryd.func80, Tryd.ntmps80
  go_wp2
  all_goals
    go_ret
    refine ⟨ret_bool ?_, rfl⟩
    have h := HM.out
    clear HM
    grind
set_option maxRecDepth 100000 in
set_option maxHeartbeats 1000000 in
theorem rmay_5 (n : Int) (w : World) : Calls Tryd.prog 80 #[.int .i64 5, .int .i64 n] w fun e w' => e = .returned (.bool (mayS 5 n)) ∧ w' = w := by
  have HM : Hid (mayS 5 n = true ↔ (1 : Int) ≤ n ∧ n ≤ (2 : Int)) := (may_iff 5 n).trans ⟨fun ⟨a, b, _⟩ => ⟨a, b⟩, fun ⟨a, b⟩ => ⟨a, b, fun h => absurd h (by decide)⟩⟩
  generalize mayS 5 n = M at HM ⊢
  go_enter Tryd.func80, Tryd.ntmps80
  go_wp2
  all_goals
    go_ret
    refine ⟨ret_bool ?_, rfl⟩
    have h := HM.out
    clear HM
    grind
set_option maxRecDepth 100000 in
set_option maxHeartbeats 1000000 in
theorem rmay_6 (n : Int) (w : World) : Calls Tryd.prog 80 #[.int .i64 6, .int .i64 n] w fun e w' => e = .returned (.bool (mayS 6 n)) ∧ w' = w := by
  have HM : Hid (mayS 6 n = true ↔ (3 : Int) ≤ n ∧ n ≤ (13 : Int)) := (may_iff 6 n).trans ⟨fun ⟨a, b, _⟩ => ⟨a, b⟩, fun ⟨a, b⟩ => ⟨a, b, fun h => absurd h (by decide)⟩⟩
  generalize mayS 6 n = M at HM ⊢
  go_enter Tryd.func80, Tryd.ntmps80
  go_wp2
  all_goals
    go_ret
    refine ⟨ret_bool ?_, rfl⟩
    have h := HM.out
    clear HM
    grind
set_option maxRecDepth 100000 in
set_option maxHeartbeats 1000000 in
theorem rmay_7 (n : Int) (w : World) : Calls Tryd.prog 80 #[.int .i64 7, .int .i64 n] w fun e w' => e = .returned (.bool (mayS 7 n)) ∧ w' = w := by
  have HM : Hid (mayS 7 n = true ↔ (0 : Int) ≤ n ∧ n ≤ (59999 : Int)) := (may_iff 7 n).trans ⟨fun ⟨a, b, _⟩ => ⟨a, b⟩, fun ⟨a, b⟩ => ⟨a, b, fun h => absurd h (by decide)⟩⟩
  generalize mayS 7 n = M at HM ⊢
  go_enter Tryd.func80, Tryd.ntmps80
  go_wp2
  all_goals
    go_ret
    refine ⟨ret_bool ?_, rfl⟩
    have h := HM.out
    clear HM
    grind
set_option maxRecDepth 100000 in
set_option maxHeartbeats 1000000 in
theorem rmay_8 (n : Int) (w : World) : Calls Tryd.prog 80 #[.int .i64 8, .int .i64 n] w fun e w' => e = .returned (.bool (mayS 8 n)) ∧ w' = w := by
  have HM : Hid (mayS 8 n = true ↔ (0 : Int) ≤ n ∧ n ≤ (59 : Int)) := (may_iff 8 n).trans ⟨fun ⟨a, b, _⟩ => ⟨a, b⟩, fun ⟨a, b⟩ => ⟨a, b, fun h => absurd h (by decide)⟩⟩
  generalize mayS 8 n = M at HM ⊢
  go_enter Tryd.func80, Tryd.ntmps80
  go_wp2
  all_goals
    go_ret
    refine ⟨ret_bool ?_, rfl⟩
    have h := HM.out
    clear HM
    grind
set_option maxRecDepth 100000 in
set_option maxHeartbeats 1000000 in
theorem rmay_9 (n : Int) (w : World) : Calls Tryd.prog 80 #[.int .i64 9, .int .i64 n] w fun e w' => e = .returned (.bool (mayS 9 n)) ∧ w' = w := by
  by_cases h0 : 1 ≤ n
  · by_cases h1 : n ≤ 15
    · have HI : Hid (mayS 9 n = true ↔ n % 4 ≠ 0) := may9_tm h0 h1
      generalize mayS 9 n = S at HI ⊢
      go_enter Tryd.func80, Tryd.ntmps80
      go_wp2
      go_ret
      refine ⟨ret_bool ?_, rfl⟩
      rw [HI.out]
      simp
    · have hs : mayS 9 n = false := by
        rw [Bool.eq_false_iff]
        intro q
        have : n ≤ (15 : Int) := ((may_iff 9 n).1 q).2.1
        omega
      rw [hs]
      go_enter Tryd.func80, Tryd.ntmps80
      go_wp2
      go_ret
      exact ⟨rfl, rfl⟩
  · have hs : mayS 9 n = false := by
      rw [Bool.eq_false_iff]
      intro q
      have : (1 : Int) ≤ n := ((may_iff 9 n).1 q).1
      omega
    rw [hs]
    go_enter Tryd.func80, Tryd.ntmps80
    go_wp2
    go_ret
    exact ⟨rfl, rfl⟩
set_option maxRecDepth 100000 in
set_option maxHeartbeats 1000000 in
theorem rmay_10 (n : Int) (w : World) : Calls Tryd.prog 80 #[.int .i64 10, .int .i64 n] w fun e w' => e = .returned (.bool (mayS 10 n)) ∧ w' = w := by
  have HM : Hid (mayS 10 n = true ↔ (1 : Int) ≤ n ∧ n ≤ (16 : Int)) := (may_iff 10 n).trans ⟨fun ⟨a, b, _⟩ => ⟨a, b⟩, fun ⟨a, b⟩ => ⟨a, b, fun h => absurd h (by decide)⟩⟩
  generalize mayS 10 n = M at HM ⊢
  go_enter Tryd.func80, Tryd.ntmps80
  go_wp2
  all_goals
    go_ret
    refine ⟨ret_bool ?_, rfl⟩
    have h := HM.out
    clear HM
    grind
set_option maxRecDepth 100000 in
set_option maxHeartbeats 1000000 in
theorem rmay_11 (n : Int) (w : World) : Calls Tryd.prog 80 #[.int .i64 11, .int .i64 n] w fun e w' => e = .returned (.bool (mayS 11 n)) ∧ w' = w := by
  have HM : Hid (mayS 11 n = true ↔ (1 : Int) ≤ n ∧ n ≤ (40000 : Int)) := (may_iff 11 n).trans ⟨fun ⟨a, b, _⟩ => ⟨a, b⟩, fun ⟨a, b⟩ => ⟨a, b, fun h => absurd h (by decide)⟩⟩
  generalize mayS 11 n = M at HM ⊢
  go_enter Tryd.func80, Tryd.ntmps80
  go_wp2
  all_goals
    go_ret
    refine ⟨ret_bool ?_, rfl⟩
    have h := HM.out
    clear HM
    grind
theorem rmay_any (o : Nat) (n : Int) (w : World) (ho : o < 12) (b0 : -9223372036854775808 ≤ n) (b1 : n ≤ 9223372036854775807) : Calls Tryd.prog 80 #[.int .i64 (o : Int), .int .i64 n] w fun e w' => e = .returned (.bool (mayS o n)) ∧ w' = w := by
  match o, ho with
  | 0, _ => exact rmay_0 n w
  | 1, _ => exact rmay_1 n w b0 b1
  | 2, _ => exact rmay_2 n w
  | 3, _ => exact rmay_3 n w
  | 4, _ => exact rmay_4 n w
  | 5, _ => exact rmay_5 n w
  | 6, _ => exact rmay_6 n w
  | 7, _ => exact rmay_7 n w
  | 8, _ => exact rmay_8 n w
  | 9, _ => exact rmay_9 n w
  | 10, _ => exact rmay_10 n w
  | 11, _ => exact rmay_11 n w
def tabA : Array Value := #[.int .i64 0, .int .i64 1, .int .i64 2, .int .i64 3, .int .i64 4, .int .i64 4, .int .i64 0, .int .i64 5, .int .i64 6, .int .i64 7, .int .i64 7, .int .i64 8, .int .i64 0, .int .i64 0, .int .i64 9, .int .i64 0, .int .i64 0, .int .i64 0, .int .i64 0, .int .i64 10, .int .i64 0, .int .i64 11, .int .i64 11, .int .i64 11]
theorem opA_tab (k : Nat) (hk : k < 24) : tabA[k]? = some (.int .i64 ((opA.getD k 0 : Nat) : Int)) := by
  match k, hk with
  | 0, _ => rfl
  | 1, _ => rfl
  | 2, _ => rfl
  | 3, _ => rfl
  | 4, _ => rfl
  | 5, _ => rfl
  | 6, _ => rfl
  | 7, _ => rfl
  | 8, _ => rfl
  | 9, _ => rfl
  | 10, _ => rfl
  | 11, _ => rfl
  | 12, _ => rfl
  | 13, _ => rfl
  | 14, _ => rfl
  | 15, _ => rfl
  | 16, _ => rfl
  | 17, _ => rfl
  | 18, _ => rfl
  | 19, _ => rfl
  | 20, _ => rfl
  | 21, _ => rfl
  | 22, _ => rfl
  | 23, _ => rfl
  | n + 24, h => exact absurd h (by omega)
/-- A table that a function lays. -/
theorem tab_there (w : World) (t : TypeId) (n : Nat) (C : Array Value) (h : C.size = n) : (w.alloc (.cells C t)).there w.heap.size 0 n := (Blk.new w C t (Nat.le_of_eq h.symm)).there 0 n (by omega)
theorem tab_lay (w : World) (t : TypeId) (T C : Array Value) (h : C.size = T.size) : Below w.heap.size w ((w.alloc (.cells C t)).setCells w.heap.size 0 T.toList) ∧ ∀ k v, T[k]? = some v → ((w.alloc (.cells C t)).setCells w.heap.size 0 T.toList).cell? ⟨w.heap.size, k, none⟩ = some v := by
  refine ⟨?_, fun k v hv => ?_⟩
  · have h1 : Kp (fun _ => False) w (w.alloc (.cells C t)) := (Kp.refl _ w).alloc _
    have h2 := Kp.setCells (B := w.heap.size) (.inr (Nat.le_refl _)) T.toList 0 h1
    exact h2.below (fun _ q => q.elim) (Nat.le_refl _)
  · have := World.rangeAt_setCells_same (w.alloc (.cells C t)) w.heap.size 0 T.toList (tab_there w t _ C (by rw [h]; simp)) k v (by rw [Array.getElem?_toList]; exact hv)
    rwa [Nat.zero_add] at this
theorem wpList_bld {P : Program} {ops : Array Oper} {rest : List Oper} {o : Oper} {a : Act} {w : World} {Q : Exit → Act → World → Prop} (hgd : o.guard = none) (t : TypeId) (ps : Array (Nat × Operand)) (ho : o.op = .build t ps) (v : Value)
    (hr : (Instr.build t (ps.map fun (i, x) => (i, a.eval x))).run P w = .ok v w) (h : wpList P ops Q rest (a.put o.dst v) w) : wpList P ops Q (o :: rest) a w := by
  refine wpList_plain hgd fun K hK => ?_
  unfold Oper.wp execOp
  simp only [ho, Sem.run_bind, Sem.run_pure, Result.andThen_ok, hr]
  exact hK _ _ h
theorem wpList_alc {P : Program} {ops : Array Oper} {rest : List Oper} {o : Oper} {a : Act} {w w' : World} {Q : Exit → Act → World → Prop} (hgd : o.guard = none) (t : TypeId) (ho : o.op = .alloc t) (v : Value)
    (hr : (Instr.alloc t true (.tuple #[])).run P w = .ok v w') (h : wpList P ops Q rest (a.put o.dst v) w') : wpList P ops Q (o :: rest) a w := by
  refine wpList_plain hgd fun K hK => ?_
  unfold Oper.wp execOp
  simp only [ho, Sem.run_bind, Sem.run_pure, Result.andThen_ok, hr]
  exact hK _ _ h
theorem alc24 (w : World) : (Instr.alloc 144 true (.tuple #[])).run Tryd.prog w = .ok (.pointer (some ⟨w.heap.size, 0, none⟩)) (w.alloc (.cells (Array.replicate 24 (.int .i64 0)) 144)) := by kernel_rfl
set_option maxRecDepth 100000 in
set_option maxHeartbeats 1000000 in
theorem rA_any (k : Nat) (w : World) (hk : k < 24) : Calls Tryd.prog 81 #[.int .i64 (k : Int)] w fun e w' => e = .returned (.int .i64 ((opA.getD k 0 : Nat) : Int)) ∧ Below w.heap.size w w' := by
  have ht := opA_tab k hk
  obtain ⟨nb, hx⟩ := tab_lay w 144 tabA (Array.replicate 24 (.int .i64 0)) rfl
  have hx' := hx k _ ht
  generalize opA.getD k 0 = oa at *
  have k0 : (0 : Int) ≤ (k : Int) := by omega
  have k1 : (k : Int) < 24 := by omega
  clear hx ht
  go_enter Tryd.func81, Tryd.ntmps81
  go_upto_region 1 with fail
  refine wp_region_lit ?_
  refine wpList_bld (by rfl) 144 _ (by rfl) (.agg tabA) (by kernel_rfl) ?_
  refine wpList_alc (by rfl) 144 (by rfl) _ (alc24 w) ?_
  refine wpList_store_mid (by rfl) 144 (.tmp 3) (.tmp 4) (by rfl) w.heap.size 0 tabA (by rfl) (by rfl) (tab_there w 144 24 _ rfl) (by kernel_rfl) (by kernel_rfl) ?_
  generalize (w.alloc (.cells (Array.replicate 24 (.int .i64 0)) 144)).setCells w.heap.size 0 tabA.toList = X at nb hx' ⊢
  go_wp2
  go_ret
  exact ⟨rfl, nb⟩
theorem opB_eq : ∀ k : Fin 24, opB.getD k.val 0 = if k.val = 22 then 4 else 0 := by decide
set_option maxRecDepth 100000 in
set_option maxHeartbeats 1000000 in
theorem rB_any (k : Nat) (w : World) (hk : k < 24) : Calls Tryd.prog 82 #[.int .i64 (k : Int)] w fun e w' => e = .returned (.int .i64 ((opB.getD k 0 : Nat) : Int)) ∧ w' = w := by
  have hb := opB_eq ⟨k, hk⟩
  simp only at hb
  rw [hb]
  clear hb
  by_cases h : k = 22
  · subst h
    go_enter Tryd.func82, Tryd.ntmps82
    go_wp2
    go_ret
    exact ⟨rfl, rfl⟩
  · rw [if_neg h]
    have h1 : ((k : Int) == 22) = false := by rw [beq_eq_false_iff_ne]; omega
    have h2 : ¬ (k : Int) = 22 := by omega
    go_enter Tryd.func82, Tryd.ntmps82
    go_wp2
    go_ret
    exact ⟨rfl, rfl⟩
end Go.Proofs.YtdcaonfnhdjibaaDoor
namespace Go.Proofs.YtdcaonfnhdjibaaDoor
open Go.RowKit

/-- May a byte stand at a place of a name? -/
def nmAt (l : List UInt8) (i : Nat) : Bool := letB (l.getD i 0) || (i != 0 && nmB (l.getD i 0))
theorem let_nm {b : UInt8} (h : letB b = true) : nmB b = true := by unfold nmB; rw [h]; rfl
theorem name_at (l : List UInt8) : nameS l = true ↔ (1 ≤ l.length ∧ l.length ≤ 24) ∧ ∀ i, i < l.length → nmAt l i = true := by
  cases l with
  | nil => simp [nameS]
  | cons c r =>
    simp only [nameS, Bool.and_eq_true, decide_eq_true_eq, List.all_eq_true, List.length_cons]
    constructor
    · rintro ⟨h1, h2, h3⟩
      refine ⟨by omega, fun i hi => ?_⟩
      unfold nmAt
      cases i with
      | zero => rw [show (c :: r).getD 0 0 = c from rfl, h2]; rfl
      | succ i =>
        have e : (c :: r).getD (i + 1) 0 = (c :: r)[i + 1]'(by simpa using hi) := by
          rw [List.getD_eq_getElem?_getD, List.getElem?_eq_getElem (by simpa using hi)]; rfl
        have := h3 ((c :: r)[i + 1]'(by simpa using hi)) (List.getElem_mem _)
        rw [e, this]
        simp
    · rintro ⟨h1, h2⟩
      have h0 := h2 0 (by omega)
      unfold nmAt at h0
      rw [show (c :: r).getD 0 0 = c from rfl] at h0
      have hc : letB c = true := by simpa using h0
      refine ⟨by omega, hc, fun x hx => ?_⟩
      obtain ⟨i, hi, rfl⟩ := List.getElem_of_mem hx
      have h3 := h2 i (by simpa using hi)
      unfold nmAt at h3
      rw [List.getD_eq_getElem?_getD, List.getElem?_eq_getElem hi, Option.getD_some] at h3
      simp only [Bool.or_eq_true, Bool.and_eq_true] at h3
      rcases h3 with h3 | h3
      · exact let_nm h3
      · exact h3.2
theorem nmAt_iff (l : List UInt8) (i : Nat) : nmAt l i = true ↔ letB (l.getD i 0) = true ∨ ((i : Int) ≠ 0 ∧ ((48 ≤ ((l.getD i 0).toNat : Int) ∧ ((l.getD i 0).toNat : Int) ≤ 57) ∨ ((l.getD i 0).toNat : Int) = 95)) := by
  unfold nmAt
  simp only [Bool.or_eq_true, Bool.and_eq_true, bne_iff_ne, ne_eq]
  rw [nm_iff]
  have hd : digB (l.getD i 0) = true ↔ 48 ≤ ((l.getD i 0).toNat : Int) ∧ ((l.getD i 0).toNat : Int) ≤ 57 := by
    unfold digB
    simp only [Bool.and_eq_true, decide_eq_true_eq]
    omega
  rw [hd]
  have hz : ((i : Int) = 0) ↔ i = 0 := by omega
  rw [hz]
  generalize letB (l.getD i 0) = L
  generalize ((l.getD i 0).toNat : Int) = n
  grind
set_option maxRecDepth 100000 in
set_option maxHeartbeats 2000000 in
theorem rname_any (s : ByteArray) (hs : s.size ≤ 9223372036854775807) (w : World) : Calls Tryd.prog 78 #[.string s] w fun e w' => e = .returned (.bool (nameS s.data.toList)) ∧ w' = w := by
  have hl := Lib.size_eq s
  have HI : Hid (nameS s.data.toList = true ↔ (1 ≤ s.size ∧ s.size ≤ 24) ∧ ∀ i, i < s.size → nmAt s.data.toList i = true) := by
    show _ ↔ _
    rw [hl]
    exact name_at _
  generalize nameS s.data.toList = N at HI ⊢
  have hsi : (s.size : Int) ≤ 9223372036854775807 := by omega
  clear hl
  by_cases h0 : 1 ≤ s.size
  case neg =>
    have HF : Hid (N = false) := by
      show N = false
      rw [Bool.eq_false_iff]
      intro q
      have := (HI.out.1 q).1
      omega
    have k0 : (s.size : Int) < 1 := by omega
    clear HI
    go_enter Tryd.func78, Tryd.ntmps78
    go_wp2
    go_ret
    exact ⟨by rw [HF.out]; rfl, rfl⟩
  by_cases h1 : s.size ≤ 24
  case neg =>
    have HF : Hid (N = false) := by
      show N = false
      rw [Bool.eq_false_iff]
      intro q
      have := (HI.out.1 q).1
      omega
    have k0 : (1 : Int) ≤ (s.size : Int) := by omega
    have k1 : (24 : Int) < (s.size : Int) := by omega
    clear HI
    go_enter Tryd.func78, Tryd.ntmps78
    go_wp2
    go_ret
    exact ⟨by rw [HF.out]; rfl, rfl⟩
  have k0 : (1 : Int) ≤ (s.size : Int) := by omega
  have k1 : (s.size : Int) ≤ 24 := by omega
  go_enter Tryd.func78, Tryd.ntmps78
  go_wp2
  go_loopw [3] (fun i wr => ∃ j : Nat, j ≤ s.size ∧ i = .int .i64 (j : Int) ∧ Hid (∀ i, i < j → nmAt s.data.toList i = true) ∧ wr = w) (fun i _ => s.size - (intOf i).toNat)
  case atStart => exact ⟨0, Nat.zero_le _, rfl, fun i hi => absurd hi (Nat.not_lt_zero _), rfl⟩
  case round =>
    obtain ⟨j, hj, rfl, hA, hw⟩ := hrel
    subst wr
    by_cases hlt : j < s.size
    case neg =>
      obtain rfl : j = s.size := by omega
      have HE : Hid (N = true) := HI.out.2 ⟨⟨h0, h1⟩, hA.out⟩
      have p1 : ¬ (s.size : Int) < (s.size : Int) := by omega
      clear HI hA
      go_wp2
      first | (change bodyPost Tryd.prog Tryd.f78 _ Exit.ret _ _) | (simp only [Exit.noGoto])
      go_ret
      exact ⟨by rw [HE.out]; rfl, rfl⟩
    have ixj := ix_run s j hlt
    have cl := rletter_any (s.data.toList.getD j 0) w
    have HX : Hid (nmAt s.data.toList j = true ↔ letB (s.data.toList.getD j 0) = true ∨ ((j : Int) ≠ 0 ∧ ((48 ≤ ((s.data.toList.getD j 0).toNat : Int) ∧ ((s.data.toList.getD j 0).toNat : Int) ≤ 57) ∨ ((s.data.toList.getD j 0).toNat : Int) = 95))) := nmAt_iff _ _
    have HY : Hid (nmAt s.data.toList j = false → N = false) := fun h => by
      rw [Bool.eq_false_iff]
      intro q
      have := (HI.out.1 q).2 j hlt
      rw [h] at this
      cases this
    have HZ : Hid (nmAt s.data.toList j = true → ∀ i, i < j + 1 → nmAt s.data.toList i = true) := fun h i hi => by
      by_cases q : i < j
      · exact hA.out i q
      · rw [show i = j by omega]; exact h
    have j0 : (0 : Int) ≤ (j : Int) := by omega
    have j1 : (j : Int) < (s.size : Int) := by omega
    clear HI hA
    generalize nmAt s.data.toList j = nb at HX HY HZ
    generalize letB (s.data.toList.getD j 0) = lb at *
    generalize s.data.toList.getD j 0 = c at *
    go_wp2_with (first
      | (go_at_call 88; refine cl.mono ?_; rintro e w1 ⟨rfl, hw⟩; subst w1) | fail)
    all_goals first
      | (have e : nb = true := by (have h := HX.out; grind)
         exact ⟨⟨j + 1, by omega, by go_num, HZ.out e, trivial⟩, by simp [intOf]; omega⟩)
      | (first | (change bodyPost Tryd.prog Tryd.f78 _ Exit.ret _ _) | (simp only [Exit.noGoto])
         go_ret
         have e : nb = false := by (have h := HX.out; grind)
         exact ⟨by rw [HY.out e]; rfl, rfl⟩)
end Go.Proofs.YtdcaonfnhdjibaaDoor
namespace Go.Proofs.YtdcaonfnhdjibaaDoor
open Go.RowKit

theorem rmay_b (o : Nat) (n : Int) (w : World) (ho : o < 12) (b0 : -9223372036854775808 ≤ n) (b1 : n ≤ 9223372036854775807) : Calls Tryd.prog 80 #[.int .i64 (o : Int), .int .i64 n] w fun e w' => e = .returned (.bool (mayS o n)) ∧ Below w.heap.size w w' :=
  (rmay_any o n w ho b0 b1).mono fun _ _ ⟨a, b⟩ => ⟨a, by rw [b]; exact Below.refl _ _⟩
theorem rB_b (k : Nat) (w : World) (hk : k < 24) : Calls Tryd.prog 82 #[.int .i64 (k : Int)] w fun e w' => e = .returned (.int .i64 ((opB.getD k 0 : Nat) : Int)) ∧ Below w.heap.size w w' :=
  (rB_any k w hk).mono fun _ _ ⟨a, b⟩ => ⟨a, by rw [b]; exact Below.refl _ _⟩
theorem opA_12 : ∀ k : Fin 24, opA.getD k.val 0 < 12 ∧ opB.getD k.val 0 < 12 := by decide
set_option maxRecDepth 100000 in
set_option maxHeartbeats 4000000 in
theorem rinstr_any (op a b : Int) (w : World) (ha0 : -9223372036854775808 ≤ a) (ha1 : a ≤ 9223372036854775807) (hb0 : -9223372036854775808 ≤ b) (hb1 : b ≤ 9223372036854775807) : Calls Tryd.prog 60 #[.agg #[.int .i64 op, .int .i64 a, .int .i64 b]] w fun e w' => e = .returned (.bool (insS (op, a, b))) ∧ Below w.heap.size w w' := by
  have B1 : Below w.heap.size w (w.alloc (.cells #[.int .i64 op, .int .i64 a, .int .i64 b] 38)) := (Below.refl _ w).alloc (Nat.le_refl _) _
  by_cases h0 : 0 ≤ op
  case neg =>
    have hs : insS (op, a, b) = false := by unfold insS; simp; omega
    rw [hs]
    go_enter Tryd.func60, Tryd.ntmps60
    go_wp2
    go_ret
    exact ⟨rfl, B1⟩
  by_cases h1 : op < 24
  case neg =>
    have hs : insS (op, a, b) = false := by unfold insS; simp; omega
    rw [hs]
    go_enter Tryd.func60, Tryd.ntmps60
    go_wp2
    go_ret
    exact ⟨rfl, B1⟩
  obtain ⟨k, rfl⟩ : ∃ k : Nat, op = (k : Int) := ⟨op.toNat, by omega⟩
  have hk : k < 24 := by omega
  have hs : insS ((k : Int), a, b) = (mayS (opA.getD k 0) a && mayS (opB.getD k 0) b) := by
    unfold insS
    simp only [decide_eq_true h0, decide_eq_true h1, Bool.true_and, Int.toNat_natCast]
  rw [hs]
  obtain ⟨hA, hB⟩ := opA_12 ⟨k, hk⟩
  simp only at hA hB
  have x0 := (cells_new w #[.int .i64 (k : Int), .int .i64 a, .int .i64 b] 38 0 (.int .i64 (k : Int)) rfl).1
  have x1 := (cells_new w #[.int .i64 (k : Int), .int .i64 a, .int .i64 b] 38 1 (.int .i64 a) rfl).1
  have x2 := (cells_new w #[.int .i64 (k : Int), .int .i64 a, .int .i64 b] 38 2 (.int .i64 b) rfl).1
  obtain ⟨R, HR⟩ : ∃ R, Hid (R = (mayS (opA.getD k 0) a && mayS (opB.getD k 0) b)) := ⟨_, rfl⟩
  rw [← HR.out]
  clear hs
  go_enter Tryd.func60, Tryd.ntmps60
  go_upto_region 3 with fail
  generalize w.alloc (.cells #[.int .i64 (k : Int), .int .i64 a, .int .i64 b] 38) = X at *
  have cA : ∀ d os, Calls Tryd.prog 81 #[.int .i64 (k : Int)] (Sort.grow (redrawn X d) os) fun e w'' => e = .returned (.int .i64 ((opA.getD k 0 : Nat) : Int)) ∧ ∃ z : Regrown, w'' = Sort.grow (redrawn X z.d) z.os := fun d os => Calls.regrown_of (rA_any k _ hk)
  have cB : ∀ d os, Calls Tryd.prog 82 #[.int .i64 (k : Int)] (Sort.grow (redrawn X d) os) fun e w'' => e = .returned (.int .i64 ((opB.getD k 0 : Nat) : Int)) ∧ ∃ z : Regrown, w'' = Sort.grow (redrawn X z.d) z.os := fun d os => Calls.regrown_of (rB_b k _ hk)
  have cM : ∀ d os, Calls Tryd.prog 80 #[.int .i64 ((opA.getD k 0 : Nat) : Int), .int .i64 a] (Sort.grow (redrawn X d) os) fun e w'' => e = .returned (.bool (mayS (opA.getD k 0) a)) ∧ ∃ z : Regrown, w'' = Sort.grow (redrawn X z.d) z.os := fun d os => Calls.regrown_of (rmay_b _ a _ hA ha0 ha1)
  have cN : ∀ d os, Calls Tryd.prog 80 #[.int .i64 ((opB.getD k 0 : Nat) : Int), .int .i64 b] (Sort.grow (redrawn X d) os) fun e w'' => e = .returned (.bool (mayS (opB.getD k 0) b)) ∧ ∃ z : Regrown, w'' = Sort.grow (redrawn X z.d) z.os := fun d os => Calls.regrown_of (rmay_b _ b _ hB hb0 hb1)
  generalize mayS (opA.getD k 0) a = ma at cM HR
  generalize mayS (opB.getD k 0) b = mb at cN HR
  generalize opA.getD k 0 = oa at *
  generalize opB.getD k 0 = ob at *
  have y0 := cell_regrown x0
  have y1 := cell_regrown x1
  have y2 := cell_regrown x2
  clear x0 x1 x2 hA hB
  cases ma
  case false =>
    go_wp2_with fail
    refine wp_region_quiet_below (by kernel_rfl) (by kernel_rfl) ?_
    repeat (first | go_big_quiet_step (first | with_reducible exact cA _ _ | with_reducible exact cM _ _) | quiet_step (first | with_reducible exact cA _ _ | with_reducible exact cM _ _))
    refine wpQuiet_nil ?_
    intro _ hw'
    obtain ⟨⟨dq, osq⟩, hw''⟩ := hw'
    subst hw''
    have hY := below_regrown X dq osq
    change Exit.then _ _ Exit.normal _ (Sort.grow (redrawn X dq) osq)
    generalize Sort.grow (redrawn X dq) osq = Y at hY ⊢
    clear cA cM
    have e : R = false := by rw [HR.out]; rfl
    go_wp2
    go_ret
    exact ⟨by rw [e]; rfl, below2 B1 hY⟩
  have e : Hid (R = mb) := by show R = mb; rw [HR.out]; rfl
  go_wp2_with fail
  refine wp_region_quiet_below (by kernel_rfl) (by kernel_rfl) ?_
  repeat (first | go_big_quiet_step (first | with_reducible exact cA _ _ | with_reducible exact cB _ _ | with_reducible exact cM _ _ | with_reducible exact cN _ _) | quiet_step (first | with_reducible exact cA _ _ | with_reducible exact cB _ _ | with_reducible exact cM _ _ | with_reducible exact cN _ _))
  refine wpQuiet_nil ?_
  intro _ hw'
  obtain ⟨⟨dq, osq⟩, hw''⟩ := hw'
  subst hw''
  have hY := below_regrown X dq osq
  change Exit.then _ _ Exit.normal _ (Sort.grow (redrawn X dq) osq)
  generalize Sort.grow (redrawn X dq) osq = Y at hY ⊢
  clear cA cB cM cN
  go_wp2
  go_ret
  exact ⟨by rw [e.out]; rfl, below2 B1 hY⟩
set_option maxRecDepth 100000 in
set_option maxHeartbeats 4000000 in
theorem rentry_any (x : Em) (w : World) (hr : Row w w.heap.size x.2.1 x.1.sorts.length (sv x.1.sorts)) (hn : x.1.name.size ≤ 9223372036854775807) (hl : x.1.sorts.length ≤ 9223372036854775807) :
    Calls Tryd.prog 59 #[.agg (ec x).toArray] w fun e w' => e = .returned (.bool (entS x.1)) ∧ Below w.heap.size w w' := by
  obtain ⟨⟨nm, st, pr, so, rs⟩, q, cp⟩ := x
  simp only at hr hn hl ⊢
  have hI := ent_iff ⟨nm, st, pr, so, rs⟩
  generalize entS ⟨nm, st, pr, so, rs⟩ = R at hI ⊢
  simp only at hI
  have HI : Hid (R = true ↔ nameS nm.data.toList = true ∧ (so.length : Int) ≤ 250 ∧ 0 ≤ pr ∧ pr ≤ 8 ∧ pr ≤ (so.length : Int) ∧ (rs = 0 ∨ sortS rs = true) ∧ so.all sortS = true) := hI
  clear hI
  have B1 : Below w.heap.size w (w.alloc (.cells #[.string nm, .int .i64 st, .int .i64 pr, .slice q so.length cp, .int .i64 rs] 47)) := (Below.refl _ w).alloc (Nat.le_refl _) _
  have x0 := (cells_new w #[.string nm, .int .i64 st, .int .i64 pr, .slice q so.length cp, .int .i64 rs] 47 0 (.string nm) rfl).1
  have x2 := (cells_new w #[.string nm, .int .i64 st, .int .i64 pr, .slice q so.length cp, .int .i64 rs] 47 2 (.int .i64 pr) rfl).1
  have x3 := (cells_new w #[.string nm, .int .i64 st, .int .i64 pr, .slice q so.length cp, .int .i64 rs] 47 3 (.slice q so.length cp) rfl).1
  have x4 := (cells_new w #[.string nm, .int .i64 st, .int .i64 pr, .slice q so.length cp, .int .i64 rs] 47 4 (.int .i64 rs) rfl).1
  have hl' : (so.length : Int) ≤ 9223372036854775807 := by omega
  show Calls Tryd.prog 59 #[.agg #[.string nm, .int .i64 st, .int .i64 pr, .slice q so.length cp, .int .i64 rs]] w _
  go_enter Tryd.func59, Tryd.ntmps59
  go_upto_region 1 with fail
  generalize w.alloc (.cells #[.string nm, .int .i64 st, .int .i64 pr, .slice q so.length cp, .int .i64 rs] 47) = X at *
  have n1 := rname_any nm hn X
  have s1 := rsort_any rs X
  have s2 := fun n => rsort_any n X
  have HR : Hid (∀ j (hj : j < so.length), ∃ g o, q = some ⟨g, o, none⟩ ∧ X.cell? ⟨g, o + j, none⟩ = some (.int .i64 so[j])) := fun j hj => by
    obtain ⟨g, o, h1, h2, h3⟩ := row_get hr j hj
    refine ⟨g, o, h1, (B1.cell (p := ⟨g, o + j, none⟩) h2).trans (h3 j _ ?_)⟩
    unfold sv
    rw [List.getElem?_map, List.getElem?_eq_getElem hj]
    rfl
  have HA : Hid (∀ j (hj : j < so.length), sortS so[j] = false → so.all sortS = false) := fun j hj h => all_no hj h
  have HB : Hid (∀ j (hj : j < so.length), (so.take j).all sortS = true → sortS so[j] = true → (so.take (j + 1)).all sortS = true) := fun j hj h1 h2 => all_next hj h1 h2
  have HC : Hid ((so.take so.length).all sortS = so.all sortS) := by show _ = _; rw [List.take_length]
  generalize so.all sortS = A at HI HA HC
  generalize nameS nm.data.toList = N at HI n1
  generalize sortS rs = S at HI s1
  clear hr
  go_wp2_with (first
    | (go_at_call 78; refine n1.mono ?_; rintro e w1 ⟨rfl, hw⟩; subst w1; clear n1) | fail)
  all_goals first
    | (go_ret; have e : R = false := by (have h := HI.out; clear HR HA HB HC s1 s2 x0 x2 x3 x4 B1; grind)
       exact ⟨by rw [e]; rfl, B1⟩)
    | skip
  all_goals
    go_loopw [3, 4] (fun v i wr => ∃ (b : Bool) (j : Nat), v = .bool b ∧ j ≤ so.length ∧ i = .int .i64 (j : Int) ∧ Hid ((so.take j).all sortS = true) ∧ wr = X) (fun _ i _ => so.length - (intOf i).toNat)
    case atStart => exact ⟨_, 0, rfl, Nat.zero_le _, rfl, by rw [List.take_zero]; exact (rfl : _ = _), rfl⟩
    case round =>
      obtain ⟨b, j, rfl, hj, rfl, hA, hw⟩ := hrel
      subst wr
      by_cases hlt : j < so.length
      case neg =>
        obtain rfl : j = so.length := by omega
        have HE : Hid (R = true ↔ (rs = 0 ∨ S = true)) := by
          have h := HI.out
          have h1 := hA.out
          rw [HC.out] at h1
          show R = true ↔ _
          clear HR HA HB HC s1 s2 x0 x2 x3 x4 B1
          grind
        clear HI HR HA HB HC s2
        go_wp2_with (first | (go_at_call 79; refine s1.mono ?_; rintro e w1 ⟨rfl, hw⟩; subst w1; clear s1) | fail)
        all_goals
          first | (change bodyPost Tryd.prog Tryd.f59 _ Exit.ret _ _) | (simp only [Exit.noGoto])
          go_ret
          refine ⟨ret_bool ?_, B1⟩
          have h := HE.out
          clear HE hA x0 x2 x3 x4 B1
          grind
      obtain ⟨g, o, rfl, hc⟩ := HR.out j hlt
      have s3 := s2 so[j]
      have HE : Hid (sortS so[j] = false → R = false) := fun h => by
        have h1 := HA.out j hlt h
        have h := HI.out
        clear HR HA HB HC s1 s2 s3 x0 x2 x3 x4 B1
        grind
      have HF := HB.out j hlt hA.out
      have HF' : Hid (sortS so[j] = true → (so.take (j + 1)).all sortS = true) := HF
      have j0 : (0 : Int) ≤ (j : Int) := by omega
      have j1 : (j : Int) < (so.length : Int) := by omega
      clear s2 HF
      generalize sortS so[j] = sb at s3 HE HF'
      generalize so[j] = sj at s3 hc
      cases sb
      case false =>
        go_wp2_with (first | (go_at_call 79; refine s3.mono ?_; rintro e w1 ⟨rfl, hw⟩; subst w1; clear s3) | fail)
        first | (change bodyPost Tryd.prog Tryd.f59 _ Exit.ret _ _) | (simp only [Exit.noGoto])
        go_ret
        exact ⟨by rw [HE.out (by first | trivial | rfl)]; rfl, B1⟩
      go_wp2_with (first | (go_at_call 79; refine s3.mono ?_; rintro e w1 ⟨rfl, hw⟩; subst w1; clear s3) | fail)
      exact ⟨⟨true, j + 1, by first | trivial | rfl, by omega, by go_num, HF'.out (by first | trivial | rfl), trivial⟩, by simp [intOf]; omega⟩
end Go.Proofs.YtdcaonfnhdjibaaDoor
namespace Go.Proofs.YtdcaonfnhdjibaaDoor
open Go.RowKit

/-- May the function of a number be, its Start too? -/
def enP (L : List En) (n i : Nat) : Bool := entS (enAt L i) && (stAt L n i && (i != 0 || (enAt L i).start == 0))
theorem mayC_iff {c : Cd} : mayC c = true ↔ (0 ≤ c.main ∧ c.main < (c.ens.length : Int)) ∧ (∀ i, i < c.ens.length → enP c.ens c.ins.length i = true) ∧ c.ins.all insS = true ∧ c.txs.all shortT = true := by
  unfold mayC stsS
  simp only [Bool.and_eq_true, decide_eq_true_eq, List.all_eq_true, beq_iff_eq, List.mem_range]
  constructor
  · rintro ⟨⟨⟨⟨⟨a, b⟩, d, e⟩, f⟩, g⟩, h⟩
    refine ⟨⟨a, b⟩, fun i hi => ?_, g, fun t ht => by unfold shortT; simpa using h t ht⟩
    unfold enP
    have hmem : enAt c.ens i ∈ c.ens := by
      unfold enAt
      rw [List.getD_eq_getElem?_getD, List.getElem?_eq_getElem hi]
      exact List.getElem_mem hi
    rw [f _ hmem, e i hi, Bool.true_and, Bool.true_and]
    cases i with
    | zero => rw [d]; rfl
    | succ i => rfl
  · rintro ⟨⟨a, b⟩, d, g, h⟩
    have hp : 0 < c.ens.length := by omega
    have k : ∀ i, i < c.ens.length → entS (enAt c.ens i) = true ∧ stAt c.ens c.ins.length i = true ∧ (i = 0 → (enAt c.ens i).start = 0) := fun i hi => by
      have := d i hi
      unfold enP at this
      simp only [Bool.and_eq_true, Bool.or_eq_true, bne_iff_ne, ne_eq, beq_iff_eq] at this
      exact ⟨this.1, this.2.1, fun q => by rcases this.2.2 with r | r; exact absurd q r; exact r⟩
    refine ⟨⟨⟨⟨⟨a, b⟩, (k 0 hp).2.2 rfl, fun i hi => (k i hi).2.1⟩, fun e he => ?_⟩, g⟩, fun t ht => by have := h t ht; unfold shortT at this; simpa using this⟩
    obtain ⟨i, hi, rfl⟩ := List.getElem_of_mem he
    have := (k i hi).1
    unfold enAt at this
    rwa [List.getD_eq_getElem?_getD, List.getElem?_eq_getElem hi] at this
theorem enP_iff (L : List En) (n i : Nat) : enP L n i = true ↔ entS (enAt L i) = true ∧ (enAt L i).start < (n : Int) ∧ ((i : Int) = 0 → (enAt L i).start = 0) ∧ (0 < (i : Int) → (enAt L (i - 1)).start < (enAt L i).start) := by
  unfold enP stAt
  simp only [Bool.and_eq_true, Bool.or_eq_true, bne_iff_ne, ne_eq, beq_iff_eq, decide_eq_true_eq]
  constructor
  · rintro ⟨a, ⟨b, d⟩, e⟩
    exact ⟨a, b, fun q => by rcases e with e | e; omega; exact e, fun q => by rcases d with d | d; omega; exact d⟩
  · rintro ⟨a, b, d, e⟩
    refine ⟨a, ⟨b, ?_⟩, ?_⟩
    · rcases Nat.eq_zero_or_pos i with q | q
      · exact .inl q
      · exact .inr (e (by omega))
    · rcases Nat.eq_zero_or_pos i with q | q
      · exact .inr (d (by omega))
      · exact .inl (by omega)
/-- What is asked of the numbers of a code in memory. -/
def In64 (c : Cd) : Prop := ∀ x ∈ c.ins, (-9223372036854775808 ≤ x.2.1 ∧ x.2.1 ≤ 9223372036854775807) ∧ (-9223372036854775808 ≤ x.2.2 ∧ x.2.2 ≤ 9223372036854775807)
set_option maxRecDepth 100000 in
set_option maxHeartbeats 8000000 in
theorem rvalid_any {w : World} {B : Nat} {iq eq tq : Option Addr} {Es : List Em} {c : Cd} (h : CodeM w B iq eq tq Es c) (ia ea ta : Nat) (hB : B ≤ w.heap.size) (h64 : In64 c) :
    Calls Tryd.prog 48 #[codeV iq eq tq ia ea ta c] w fun e w' => e = .returned (.int .i64 (validS c)) ∧ Below w.heap.size w w' := by
  obtain ⟨R, HR⟩ : ∃ R, Hid (R = validS c) := ⟨_, rfl⟩
  rw [← HR.out]
  have HV : Hid (validS c = if bigC c then 2 else if mayC c then 0 else 130) := rfl
  have hil : (c.ins.length : Int) ≤ 9223372036854775807 := by have := h.il; omega
  have hel : (c.ens.length : Int) ≤ 9223372036854775807 := by have := h.el; omega
  have htl : (c.txs.length : Int) ≤ 9223372036854775807 := by have := h.tl; omega
  have B1 : Below w.heap.size w (w.alloc (.cells #[.slice iq c.ins.length ia, .slice eq c.ens.length ea, .slice tq c.txs.length ta, .int .i64 c.main] 26)) := (Below.refl _ w).alloc (Nat.le_refl _) _
  have x0 := (cells_new w #[.slice iq c.ins.length ia, .slice eq c.ens.length ea, .slice tq c.txs.length ta, .int .i64 c.main] 26 0 (.slice iq c.ins.length ia) rfl).1
  have x1 := (cells_new w #[.slice iq c.ins.length ia, .slice eq c.ens.length ea, .slice tq c.txs.length ta, .int .i64 c.main] 26 1 (.slice eq c.ens.length ea) rfl).1
  have x2 := (cells_new w #[.slice iq c.ins.length ia, .slice eq c.ens.length ea, .slice tq c.txs.length ta, .int .i64 c.main] 26 2 (.slice tq c.txs.length ta) rfl).1
  have x3 := (cells_new w #[.slice iq c.ins.length ia, .slice eq c.ens.length ea, .slice tq c.txs.length ta, .int .i64 c.main] 26 3 (.int .i64 c.main) rfl).1
  have hlt1 : w.heap.size < (w.alloc (.cells #[.slice iq c.ins.length ia, .slice eq c.ens.length ea, .slice tq c.txs.length ta, .int .i64 c.main] 26)).heap.size := by simp
  have HH : Hid (CodeM w B iq eq tq Es c) := h
  have HL : Hid (Es.length = c.ens.length) := h.len
  have H64 : Hid (In64 c) := h64
  by_cases hb : bigC c = true
  · have HE : Hid (R = 2) := by
      show R = 2
      rw [HR.out, HV.out, if_pos hb]
    unfold bigC at hb
    simp only [Bool.or_eq_true, decide_eq_true_eq] at hb
    have hbi : (60 : Int) < (c.ens.length : Int) ∨ (60000 : Int) < (c.ins.length : Int) ∨ (4000 : Int) < (c.txs.length : Int) := by omega
    have HB3 : Hid ((60 : Int) < (c.ens.length : Int) ∨ (60000 : Int) < (c.ins.length : Int) ∨ (4000 : Int) < (c.txs.length : Int)) := hbi
    unfold codeV
    clear hb hbi h h64
    go_enter Tryd.func48, Tryd.ntmps48
    go_upto_region 1 with fail
    generalize w.alloc (.cells #[.slice iq c.ins.length ia, .slice eq c.ens.length ea, .slice tq c.txs.length ta, .int .i64 c.main] 26) = X at *
    by_cases k1 : (60 : Int) < (c.ens.length : Int)
    · go_wp2
      go_ret
      exact ⟨by rw [HE.out]; rfl, B1⟩
    by_cases k2 : (60000 : Int) < (c.ins.length : Int)
    · go_wp2
      go_ret
      exact ⟨by rw [HE.out]; rfl, B1⟩
    have k3 : (4000 : Int) < (c.txs.length : Int) := by have := HB3.out; omega
    go_wp2
    go_ret
    exact ⟨by rw [HE.out]; rfl, B1⟩
  have HE : Hid (R = if mayC c then 0 else 130) := by
    show R = _
    rw [HR.out, HV.out, if_neg hb]
  have hb' : ¬ (60 < c.ens.length) ∧ ¬ (60000 < c.ins.length) ∧ ¬ (4000 < c.txs.length) := by
    unfold bigC at hb
    simp only [Bool.or_eq_true, decide_eq_true_eq] at hb
    omega
  have k1 : (c.ens.length : Int) ≤ 60 := by omega
  have k2 : (c.ins.length : Int) ≤ 60000 := by omega
  have k3 : (c.txs.length : Int) ≤ 4000 := by omega
  have HMi := mayC_iff (c := c)
  have HM : Hid (mayC c = true ↔ (0 ≤ c.main ∧ c.main < (c.ens.length : Int)) ∧ (∀ i, i < c.ens.length → enP c.ens c.ins.length i = true) ∧ c.ins.all insS = true ∧ c.txs.all shortT = true) := HMi
  have HNo : Hid (mayC c = false → R = 130) := fun q => by rw [HE.out, q]; rfl
  have HYes : Hid (mayC c = true → R = 0) := fun q => by rw [HE.out, q]; rfl
  generalize mayC c = M at HM HNo HYes
  clear HE HMi HV HR hb hb' h h64
  by_cases hm : 0 ≤ c.main ∧ c.main < (c.ens.length : Int)
  case neg =>
    have HF : Hid (R = 130) := HNo.out (by
      rw [Bool.eq_false_iff]
      intro q
      exact hm (HM.out.1 q).1)
    unfold codeV
    clear HM HNo HYes
    go_enter Tryd.func48, Tryd.ntmps48
    go_upto_region 1 with fail
    generalize w.alloc (.cells #[.slice iq c.ins.length ia, .slice eq c.ens.length ea, .slice tq c.txs.length ta, .int .i64 c.main] 26) = X at *
    by_cases q0 : c.main < 0
    · clear hm
      go_wp2
      go_ret
      exact ⟨by rw [HF.out]; rfl, B1⟩
    have q1 : (c.ens.length : Int) ≤ c.main := by omega
    clear hm
    go_wp2
    go_ret
    exact ⟨by rw [HF.out]; rfl, B1⟩
  obtain ⟨m0, m1⟩ := hm
  have HM2 : Hid (M = true ↔ (∀ i, i < c.ens.length → enP c.ens c.ins.length i = true) ∧ c.ins.all insS = true ∧ c.txs.all shortT = true) := HM.out.trans ⟨fun q => q.2, fun q => ⟨⟨m0, m1⟩, q⟩⟩
  clear HM
  unfold codeV
  go_enter Tryd.func48, Tryd.ntmps48
  go_upto_region 1 with fail
  generalize w.alloc (.cells #[.slice iq c.ins.length ia, .slice eq c.ens.length ea, .slice tq c.txs.length ta, .int .i64 c.main] 26) = X at *
  have HC : Hid (∀ W, Below X.heap.size X W → W.cell? ⟨w.heap.size, 0, none⟩ = some (.slice iq c.ins.length ia) ∧ W.cell? ⟨w.heap.size, 1, none⟩ = some (.slice eq c.ens.length ea) ∧ W.cell? ⟨w.heap.size, 2, none⟩ = some (.slice tq c.txs.length ta)) := fun W hW => ⟨(hW.cell (p := ⟨w.heap.size, 0, none⟩) hlt1).trans x0, (hW.cell (p := ⟨w.heap.size, 1, none⟩) hlt1).trans x1, (hW.cell (p := ⟨w.heap.size, 2, none⟩) hlt1).trans x2⟩
  have HBX : Hid (Below w.heap.size w X) := B1
  go_upto_region 5 with fail
  clear x0 x1 x2 x3 B1
  go_wp2_with fail
  go_loopw [3] (fun i wr => ∃ j : Nat, j ≤ c.ens.length ∧ i = .int .i64 (j : Int) ∧ Hid (∀ i, i < j → enP c.ens c.ins.length i = true) ∧ Hid (Below X.heap.size X wr)) (fun i _ => c.ens.length - (intOf i).toNat)
  case atStart => exact ⟨0, Nat.zero_le _, rfl, fun i hi => absurd hi (Nat.not_lt_zero _), Below.refl _ _⟩
  case round =>
    obtain ⟨j, hj, rfl, hA, hb⟩ := hrel
    have hbw := below2 HBX.out hb.out
    obtain ⟨z0, z1, z2⟩ := HC.out wr hb.out
    by_cases hlt : j < c.ens.length
    case pos =>
      have hlt' : j < Es.length := by rw [HL.out]; exact hlt
      have hm := HH.out.below hbw hB
      obtain ⟨g, o, rfl, hg, d0, d1, d2, d3, d4⟩ := hm.ent j hlt'
      obtain ⟨sr, sn, sl⟩ := hm.sr Es[j] (List.getElem_mem hlt')
      have HS : Hid (enP c.ens c.ins.length j = true ↔ entS Es[j].1 = true ∧ Es[j].1.start < (c.ins.length : Int) ∧ ((j : Int) = 0 → Es[j].1.start = 0) ∧ (0 < (j : Int) → (YtdcaonfnhdjibaaDoor.enAt c.ens (j - 1)).start < Es[j].1.start)) := by
        have := enP_iff c.ens c.ins.length j
        rw [hm.enAt j hlt'] at this
        exact this
      have HN : Hid (enP c.ens c.ins.length j = false → R = 130) := fun q => HNo.out (by
        rw [Bool.eq_false_iff]
        intro k
        have := (HM2.out.1 k).1 j hlt
        rw [q] at this
        cases this)
      have HJ : Hid (enP c.ens c.ins.length j = true → ∀ i, i < j + 1 → enP c.ens c.ins.length i = true) := fun q i hi => by
        by_cases k : i < j
        · exact hA.out i k
        · rw [show i = j by omega]; exact q
      have HQ : Hid (0 < j → wr.cell? ⟨g, o + (j - 1) * 5 + 1, none⟩ = some (.int .i64 (YtdcaonfnhdjibaaDoor.enAt c.ens (j - 1)).start)) := fun q => by
        obtain ⟨g', o', hgo, -, -, d1, -⟩ := hm.ent (j - 1) (by omega)
        cases hgo
        rw [hm.enAt (j - 1) (by omega)]
        exact d1
      generalize (YtdcaonfnhdjibaaDoor.enAt c.ens (j - 1)).start = pst at HS HQ
      generalize enP c.ens c.ins.length j = pb at HS HN HJ
      generalize Es[j] = x at *
      have j0 : (0 : Int) ≤ (j : Int) := by omega
      have j1 : (j : Int) < (c.ens.length : Int) := by omega
      have hwz : B ≤ wr.heap.size := by have := hbw.size; omega
      have nb : Below wr.heap.size wr (wr.alloc (.cells (ec x).toArray 47)) := (Below.refl _ wr).alloc (Nat.le_refl _) _
      have y := fun j v hv => (cells_new wr (ec x).toArray 47 j v hv).1
      have en := rentry_any x (wr.alloc (.cells (ec x).toArray 47)) ((sr.up hwz).below nb (Nat.le_refl _) |>.up nb.size) sn sl
      generalize entS x.1 = eb at en HS
      obtain ⟨⟨nm, st, pr, so, rs⟩, q, cp⟩ := x
      simp only at d0 d1 d2 d3 d4 HS
      have y0 := y 0 (.string nm) rfl
      have y1 := y 1 (.int .i64 st) rfl
      have y2 := y 2 (.int .i64 pr) rfl
      have y3 := y 3 (.slice q so.length cp) rfl
      have y4 := y 4 (.int .i64 rs) rfl
      have hbx := below2 hb.out nb
      have hgl : g < wr.heap.size := by have := hbw.size; omega
      have hpl : wr.heap.size < (wr.alloc (.cells (ec (⟨nm, st, pr, so, rs⟩, q, cp)).toArray 47)).heap.size := by simp
      have HQ2 : Hid (∀ W, Below wr.heap.size wr W → 0 < j → W.cell? ⟨g, o + (j - 1) * 5 + 1, none⟩ = some (.int .i64 pst)) := fun W hW q => (hW.cell (p := ⟨g, o + (j - 1) * 5 + 1, none⟩) hgl).trans (HQ.out q)
      clear y sr sn sl hm HQ
      simp only [ec] at en y0 y1 y2 y3 y4 hbx nb hpl
      go_upto_region 9 with fail
      generalize wr.alloc (.cells [Value.string nm, .int .i64 st, .int .i64 pr, .slice q so.length cp, .int .i64 rs].toArray 47) = Y at *
      go_wp2_with fail
      refine en.mono ?_
      rintro e Z ⟨rfl, hz⟩
      have hYZ : Below wr.heap.size wr Z := below2 nb hz
      have u1 := cell_regrown ((hz.cell (p := ⟨wr.heap.size, 1, none⟩) hpl).trans y1)
      obtain ⟨t0, t1, t2⟩ := HC.out Z (below2 hbx hz)
      have t0' := cell_regrown t0
      have t1' := cell_regrown t1
      have hZX : Hid (Below X.heap.size X Z) := below2 hbx hz
      have HQ3 : Hid (0 < j → Z.cell? ⟨g, o + (j - 1) * 5 + 1, none⟩ = some (.int .i64 pst)) := HQ2.out Z hYZ
      clear en y0 y1 y2 y3 y4 d0 d1 d2 d3 d4 t0 t1 t2 hz hYZ HQ2 z0 z1 z2
      cases eb
      case false =>
        go_wp2_with fail
        refine wp_region_quiet_below (by kernel_rfl) (by kernel_rfl) ?_
        repeat (first | go_big_quiet_step (first | fail) | quiet_step (first | fail))
        refine wpQuiet_nil ?_
        intro _ hw'
        obtain ⟨⟨dq, osq⟩, hw''⟩ := hw'
        subst hw''
        have hY := below_regrown Z dq osq
        change Exit.then _ _ Exit.normal _ (Sort.grow (redrawn Z dq) osq)
        generalize Sort.grow (redrawn Z dq) osq = Q at hY ⊢
        have e : pb = false := by have h := HS.out; grind
        go_wp2
        first | (change bodyPost Tryd.prog Tryd.f48 _ Exit.ret _ _) | (simp only [Exit.noGoto])
        go_ret
        exact ⟨by rw [HN.out e]; rfl, below2 HBX.out (below2 hZX.out hY)⟩
      by_cases c1 : st < (c.ins.length : Int)
      case neg =>
        have q1 : decide ((c.ins.length : Int) ≤ st) = true := decide_eq_true (by omega)
        go_wp2_with fail
        refine wp_region_quiet_below (by kernel_rfl) (by kernel_rfl) ?_
        repeat (first | go_big_quiet_step (first | fail) | quiet_step (first | fail))
        refine wpQuiet_nil ?_
        intro _ hw'
        obtain ⟨⟨dq, osq⟩, hw''⟩ := hw'
        subst hw''
        have hY := below_regrown Z dq osq
        change Exit.then _ _ Exit.normal _ (Sort.grow (redrawn Z dq) osq)
        generalize Sort.grow (redrawn Z dq) osq = Q at hY ⊢
        have e : pb = false := by have h := HS.out; grind
        go_wp2
        first | (change bodyPost Tryd.prog Tryd.f48 _ Exit.ret _ _) | (simp only [Exit.noGoto])
        go_ret
        exact ⟨by rw [HN.out e]; rfl, below2 HBX.out (below2 hZX.out hY)⟩
      have q1 : decide ((c.ins.length : Int) ≤ st) = false := decide_eq_false (by omega)
      rcases Nat.eq_zero_or_pos j with hj0 | hj0
      · have w1 : ((j : Int) == 0) = true := by rw [beq_iff_eq]; omega
        have w2 : decide ((0 : Int) < (j : Int)) = false := decide_eq_false (by omega)
        have w2n : decide (0 < j) = false := decide_eq_false (by omega)
        by_cases c2 : st = 0
        · have w3 : (st != 0) = false := by rw [c2]; rfl
          have e : Hid (pb = true) := by show pb = true; have h := HS.out; grind
          clear c2 hj0
          go_wp2_with fail
          refine wp_region_quiet_below (by kernel_rfl) (by kernel_rfl) ?_
          repeat (first | go_big_quiet_step (first | fail) | quiet_step (first | fail))
          refine wpQuiet_nil ?_
          intro _ hw'
          obtain ⟨⟨dq, osq⟩, hw''⟩ := hw'
          subst hw''
          have hY := below_regrown Z dq osq
          change Exit.then _ _ Exit.normal _ (Sort.grow (redrawn Z dq) osq)
          generalize Sort.grow (redrawn Z dq) osq = Q at hY ⊢
          go_wp2
          exact ⟨⟨j + 1, by omega, by go_num, HJ.out e.out, below2 hZX.out hY⟩, by simp [intOf]; omega⟩
        · have w3 : (st != 0) = true := by rw [bne_iff_ne]; exact c2
          have e : Hid (pb = false) := by show pb = false; have h := HS.out; grind
          clear c2 hj0
          go_wp2_with fail
          refine wp_region_quiet_below (by kernel_rfl) (by kernel_rfl) ?_
          repeat (first | go_big_quiet_step (first | fail) | quiet_step (first | fail))
          refine wpQuiet_nil ?_
          intro _ hw'
          obtain ⟨⟨dq, osq⟩, hw''⟩ := hw'
          subst hw''
          have hY := below_regrown Z dq osq
          change Exit.then _ _ Exit.normal _ (Sort.grow (redrawn Z dq) osq)
          generalize Sort.grow (redrawn Z dq) osq = Q at hY ⊢
          go_wp2
          first | (change bodyPost Tryd.prog Tryd.f48 _ Exit.ret _ _) | (simp only [Exit.noGoto])
          go_ret
          exact ⟨by rw [HN.out e.out]; rfl, below2 HBX.out (below2 hZX.out hY)⟩
      have w1 : ((j : Int) == 0) = false := by rw [beq_eq_false_iff_ne]; omega
      have w2 : decide ((0 : Int) < (j : Int)) = true := decide_eq_true (by omega)
      have w2n : decide (0 < j) = true := decide_eq_true (by omega)
      have p1 := cell_regrown (HQ3.out hj0)
      have w3 : IntKind.i64.wrap ((j : Int) - 1) = ((j - 1 : Nat) : Int) := by rw [IntKind.wrap_i64]; omega
      have j2 : (0 : Int) ≤ ((j - 1 : Nat) : Int) := by omega
      have j3 : ((j - 1 : Nat) : Int) < (c.ens.length : Int) := by omega
      generalize j - 1 = jp at *
      by_cases c2 : pst < st
      · have w4 : decide (st ≤ pst) = false := decide_eq_false (by omega)
        have e : Hid (pb = true) := by show pb = true; have h := HS.out; grind
        go_wp2_with fail
        refine wp_region_quiet_below (by kernel_rfl) (by kernel_rfl) ?_
        repeat (first | go_big_quiet_step (first | fail) | quiet_step (first | fail))
        refine wpQuiet_nil ?_
        intro _ hw'
        obtain ⟨⟨dq, osq⟩, hw''⟩ := hw'
        subst hw''
        have hY := below_regrown Z dq osq
        change Exit.then _ _ Exit.normal _ (Sort.grow (redrawn Z dq) osq)
        generalize Sort.grow (redrawn Z dq) osq = Q at hY ⊢
        go_wp2
        exact ⟨⟨j + 1, by omega, by go_num, HJ.out e.out, below2 hZX.out hY⟩, by simp [intOf]; omega⟩
      · have w4 : decide (st ≤ pst) = true := decide_eq_true (by omega)
        have e : Hid (pb = false) := by show pb = false; have h := HS.out; grind
        go_wp2_with fail
        refine wp_region_quiet_below (by kernel_rfl) (by kernel_rfl) ?_
        repeat (first | go_big_quiet_step (first | fail) | quiet_step (first | fail))
        refine wpQuiet_nil ?_
        intro _ hw'
        obtain ⟨⟨dq, osq⟩, hw''⟩ := hw'
        subst hw''
        have hY := below_regrown Z dq osq
        change Exit.then _ _ Exit.normal _ (Sort.grow (redrawn Z dq) osq)
        generalize Sort.grow (redrawn Z dq) osq = Q at hY ⊢
        go_wp2
        first | (change bodyPost Tryd.prog Tryd.f48 _ Exit.ret _ _) | (simp only [Exit.noGoto])
        go_ret
        exact ⟨by rw [HN.out e.out]; rfl, below2 HBX.out (below2 hZX.out hY)⟩
    obtain rfl : j = c.ens.length := by omega
    have HM3 : Hid (M = true ↔ c.ins.all insS = true ∧ c.txs.all shortT = true) := HM2.out.trans ⟨fun q => q.2, fun q => ⟨hA.out, q⟩⟩
    clear hA HM2 HL hlt hj
    go_wp2
    go_loopw [6] (fun i wv => ∃ j : Nat, j ≤ c.ins.length ∧ i = .int .i64 (j : Int) ∧ Hid ((c.ins.take j).all insS = true) ∧ Hid (Below X.heap.size X wv)) (fun i _ => c.ins.length - (intOf i).toNat)
    case atStart => exact ⟨0, Nat.zero_le _, rfl, by rw [List.take_zero]; exact (rfl : _ = _), hb⟩
    case round =>
      obtain ⟨j, hj, rfl, hA, hb⟩ := hrel
      have hbw := below2 HBX.out hb.out
      obtain ⟨z0, z1, z2⟩ := HC.out wr hb.out
      by_cases hlt : j < c.ins.length
      case pos =>
        have hm := HH.out.below hbw hB
        obtain ⟨g, o, rfl, hg, d0, d1, d2⟩ := hm.ins j hlt
        obtain ⟨⟨a0, a1⟩, b0, b1⟩ := H64.out _ (List.getElem_mem hlt)
        have HN : Hid (insS c.ins[j] = false → R = 130) := fun q => HNo.out (by
          rw [Bool.eq_false_iff]
          intro k
          have := (HM3.out.1 k).1
          rw [all_no hlt q] at this
          cases this)
        have HJ : Hid (insS c.ins[j] = true → (c.ins.take (j + 1)).all insS = true) := fun q => all_next hlt hA.out q
        have j0 : (0 : Int) ≤ (j : Int) := by omega
        have j1 : (j : Int) < (c.ins.length : Int) := by omega
        generalize c.ins[j] = x at *
        obtain ⟨op, a, b⟩ := x
        simp only at d0 d1 d2 a0 a1 b0 b1
        have en := rinstr_any op a b wr a0 a1 b0 b1
        generalize insS (op, a, b) = eb at en HN HJ
        clear hm
        cases eb
        case false =>
          go_wp2_with (first | (go_at_call 60; refine en.mono ?_; rintro e w2 ⟨rfl, hb2⟩) | fail)
          first | (change bodyPost Tryd.prog Tryd.f48 _ Exit.ret _ _) | (simp only [Exit.noGoto])
          go_ret
          exact ⟨by rw [HN.out (by first | trivial | rfl)]; rfl, below2 HBX.out (below2 hb.out hb2)⟩
        go_wp2_with (first | (go_at_call 60; refine en.mono ?_; rintro e w2 ⟨rfl, hb2⟩) | fail)
        exact ⟨⟨j + 1, by omega, by go_num, HJ.out (by first | trivial | rfl), below2 hb.out hb2⟩, by simp [intOf]; omega⟩
      obtain rfl : j = c.ins.length := by omega
      have HM4 : Hid (M = true ↔ c.txs.all shortT = true) := HM3.out.trans ⟨fun q => q.2, fun q => ⟨by have := hA.out; rwa [List.take_length] at this, q⟩⟩
      clear hA HM3 hlt hj
      go_wp2
      go_loopw [8] (fun i wv => ∃ j : Nat, j ≤ c.txs.length ∧ i = .int .i64 (j : Int) ∧ Hid ((c.txs.take j).all shortT = true) ∧ Hid (Below X.heap.size X wv)) (fun i _ => c.txs.length - (intOf i).toNat)
      case atStart => exact ⟨0, Nat.zero_le _, rfl, by rw [List.take_zero]; exact (rfl : _ = _), hb⟩
      case round =>
        obtain ⟨j, hj, rfl, hA, hb⟩ := hrel
        have hbw := below2 HBX.out hb.out
        obtain ⟨z0, z1, z2⟩ := HC.out wr hb.out
        by_cases hlt : j < c.txs.length
        case pos =>
          have hm := HH.out.below hbw hB
          obtain ⟨g, o, rfl, hg, d0⟩ := hm.txt j hlt
          have hts := hm.ts _ (List.getElem_mem hlt)
          have HN : Hid (shortT c.txs[j] = false → R = 130) := fun q => HNo.out (by
            rw [Bool.eq_false_iff]
            intro k
            have := HM4.out.1 k
            rw [all_no hlt q] at this
            cases this)
          have HJ : Hid (shortT c.txs[j] = true → (c.txs.take (j + 1)).all shortT = true) := fun q => all_next hlt hA.out q
          have HS : Hid (shortT c.txs[j] = true ↔ (c.txs[j].size : Int) ≤ 200) := by show _ ↔ _; unfold shortT; rw [decide_eq_true_eq]; omega
          have j0 : (0 : Int) ≤ (j : Int) := by omega
          have j1 : (j : Int) < (c.txs.length : Int) := by omega
          generalize shortT c.txs[j] = sb at HN HJ HS
          generalize c.txs[j] = x at *
          have hx : (x.size : Int) ≤ 9223372036854775807 := by omega
          clear hm
          by_cases hq : (x.size : Int) ≤ 200
          · have e := HS.out.2 hq
            go_wp2
            exact ⟨⟨j + 1, by omega, by go_num, HJ.out e, hb⟩, by simp [intOf]; omega⟩
          · have hq' : (200 : Int) < (x.size : Int) := by omega
            have e : sb = false := by rw [Bool.eq_false_iff]; intro k; exact hq (HS.out.1 k)
            go_wp2
            first | (change bodyPost Tryd.prog Tryd.f48 _ Exit.ret _ _) | (simp only [Exit.noGoto])
            go_ret
            exact ⟨by rw [HN.out e]; rfl, below2 HBX.out hb.out⟩
        obtain rfl : j = c.txs.length := by omega
        have HF : Hid (R = 0) := HYes.out (HM4.out.2 (by have := hA.out; rwa [List.take_length] at this))
        clear hA HM4
        go_wp2
        first | (change bodyPost Tryd.prog Tryd.f48 _ Exit.ret _ _) | (simp only [Exit.noGoto])
        go_ret
        exact ⟨by rw [HF.out]; rfl, below2 HBX.out hb.out⟩
end Go.Proofs.YtdcaonfnhdjibaaDoor
