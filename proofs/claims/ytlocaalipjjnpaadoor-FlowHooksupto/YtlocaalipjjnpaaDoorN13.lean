import Derived.Test.YtlocaalipjjnpaaDoorN11
import Derived.Test.YtlocaalipjjnpaaDoorN06
import Derived.Test.YtlocaalipjjnpaaDoorN12
namespace Go.Proofs.YtlocaalipjjnpaaDoor
open Go.RowKit Go.Shelf

theorem info4 : (Tryd.prog.info? 4).map (fun i => (i.zero, i.size, i.bytes)) = some (some (.bool false), 1, 1) := by kernel_rfl
theorem run_make4 (n : Nat) (hn : n ≤ 1353245080300) : ∃ Z : Array Value, Z.toList = List.replicate n (.bool false) ∧ ∀ w : World, (Instr.makeSlice 49 (.int .i64 (n : Int)) (.int .i64 (n : Int))).run Tryd.prog w = .ok (.slice (some ⟨w.heap.size, 0, none⟩) n n) (w.alloc (.cells Z 4)) := by
  obtain ⟨i, hq, hz, hi, hb⟩ := info_parts info4
  refine ⟨madeCells #[.bool false] n, toList_madeCells_one _ _, fun w => ?_⟩
  have := run_make (P := Tryd.prog) w 49 4 i _ Tryd.underlying49 hq hz .i64 .i64 (n : Int) (n : Int) (by omega) (by omega) (by rw [hb]; omega) (by omega)
  rw [show ((n : Int)).toNat = n by omega, hi, Nat.mul_one] at this
  exact this

theorem call36 (a b : Value) (w : World) : (callFunc 36 #[a, b]).run Tryd.prog w = .ok (.enter 36 #[a, b]) w := by kernel_rfl
theorem call37 (a b : Value) (w : World) : (callFunc 37 #[a, b]).run Tryd.prog w = .ok (.enter 37 #[a, b]) w := by kernel_rfl

abbrev ops4 : List Oper := [{ dst := some 17, op := Op.fieldAddr 51 (Operand.tmp 3) 1, type := 0, pos := "ways.go:21", after := #[], guard := none },
  { dst := some 18, op := Op.load 49 (Operand.tmp 17), type := 49, pos := "ways.go:21", after := #[{ on := 0, ground := Ground.data }], guard := none },
  { dst := some 19, op := Op.move (Operand.tmp 4), type := 3, pos := "ways.go:21", after := #[], guard := none },
  { dst := some 20, op := Op.load 51 (Operand.tmp 3), type := 51, pos := "ways.go:21", after := #[], guard := none },
  { dst := some 21, op := Op.move (Operand.tmp 4), type := 3, pos := "ways.go:21", after := #[], guard := none },
  { dst := some 22, op := Op.call { callee := Callee.value (Operand.func 36), args := #[Operand.tmp 20, Operand.tmp 21], argTypes := #[51, 3] }, type := 4, pos := "ways.go:21", after := #[{ on := 3, ground := Ground.data }, { on := 4, ground := Ground.data }], guard := none },
  { dst := some 23, op := Op.indexAddr 49 (Operand.tmp 18) (Operand.tmp 19), type := 0, pos := "ways.go:21", after := #[{ on := 1, ground := Ground.data }, { on := 2, ground := Ground.data }, { on := 0, ground := Ground.phase }, { on := 1, ground := Ground.phase }, { on := 2, ground := Ground.phase }, { on := 3, ground := Ground.phase }, { on := 4, ground := Ground.phase }, { on := 5, ground := Ground.phase }], guard := none },
  { dst := none, op := Op.store 4 (Operand.tmp 23) (Operand.tmp 22), type := 0, pos := "ways.go:21", after := #[{ on := 6, ground := Ground.data }, { on := 5, ground := Ground.data }, { on := 5, ground := Ground.chain }, { on := 0, ground := Ground.phase }, { on := 1, ground := Ground.phase }, { on := 2, ground := Ground.phase }, { on := 3, ground := Ground.phase }, { on := 4, ground := Ground.phase }, { on := 5, ground := Ground.phase }], guard := none }]
set_option maxRecDepth 100000 in
set_option maxHeartbeats 2000000 in
theorem nw_r4 (l n : Nat) (Q : Exit → Act → World → Prop) (W : World) (g o cap p3 gr ge x : Nat) (L : List Nd) (b : Bool) (t0 t1 t2 t5 t6 t7 t8 t9 t10 t11 t12 t13 t14 t15 t16 t17 t18 t19 t20 t21 t22 t23 t24 t25 t26 t27 t28 t29 t30 t31 : Value) (hx : x < L.length)
    (HS : Hid (∀ w', Below W.heap.size W w' → w'.cell? ⟨p3, 0, none⟩ = some (.slice (some ⟨g, o, none⟩) L.length cap) ∧ w'.cell? ⟨p3, 1, none⟩ = some (.slice (some ⟨gr, 0, none⟩) L.length L.length) ∧ w'.cell? ⟨p3, 2, none⟩ = some (.slice (some ⟨ge, 0, none⟩) L.length L.length)))
    (HC : Hid (∀ w', Below W.heap.size W w' → Calls Tryd.prog 36 #[.agg #[.slice (some ⟨g, o, none⟩) L.length cap, .slice (some ⟨gr, 0, none⟩) L.length L.length, .slice (some ⟨ge, 0, none⟩) L.length L.length], .int .i64 (x : Int)] w' fun e w'' => e = .returned (.bool b) ∧ Below w'.heap.size w' w''))
    (HT : Hid (∀ w', Below W.heap.size W w' → ∃ u, w'.cell? ⟨gr, x, none⟩ = some (.bool u) ∧ w'.frozen? ⟨gr, x, none⟩ = false))
    (HP : Hid (∀ w', Below W.heap.size W w' → (w'.setCell ⟨gr, x, none⟩ (.bool b)).cell? ⟨p3, 0, none⟩ = some (.slice (some ⟨g, o, none⟩) L.length cap) ∧ (w'.setCell ⟨gr, x, none⟩ (.bool b)).cell? ⟨p3, 1, none⟩ = some (.slice (some ⟨gr, 0, none⟩) L.length L.length) ∧ (w'.setCell ⟨gr, x, none⟩ (.bool b)).cell? ⟨p3, 2, none⟩ = some (.slice (some ⟨ge, 0, none⟩) L.length L.length)))
    (hQ : Hid (∀ W1, Below W.heap.size W W1 → Q .normal { tmps := #[t0, t1, t2, .pointer (some ⟨p3, 0, none⟩), .int .i64 (x : Int), t5, t6, t7, t8, t9, t10, t11, t12, t13, t14, t15, t16, .pointer (some ⟨p3, 1, none⟩), .slice (some ⟨gr, 0, none⟩) L.length L.length, .int .i64 (x : Int), .agg #[.slice (some ⟨g, o, none⟩) L.length cap, .slice (some ⟨gr, 0, none⟩) L.length L.length, .slice (some ⟨ge, 0, none⟩) L.length L.length], .int .i64 (x : Int), .bool b, .pointer (some ⟨gr, x, none⟩), t24, t25, t26, t27, t28, t29, t30, t31], defers := [] } (W1.setCell ⟨gr, x, none⟩ (.bool b)))) :
    (Code.region 4 ops4.toArray true).wpIn (Fence.wide.inRound l) n Tryd.prog Q { tmps := #[t0, t1, t2, .pointer (some ⟨p3, 0, none⟩), .int .i64 (x : Int), t5, t6, t7, t8, t9, t10, t11, t12, t13, t14, t15, t16, t17, t18, t19, t20, t21, t22, t23, t24, t25, t26, t27, t28, t29, t30, t31], defers := [] } W := by
  have j0 : (0 : Int) ≤ (x : Int) := by omega
  have j1 : (x : Int) < (L.length : Int) := by omega
  refine region_in (S := fun w' => w'.cell? ⟨p3, 0, none⟩ = some (.slice (some ⟨g, o, none⟩) L.length cap) ∧ w'.cell? ⟨p3, 1, none⟩ = some (.slice (some ⟨gr, 0, none⟩) L.length L.length) ∧ w'.cell? ⟨p3, 2, none⟩ = some (.slice (some ⟨ge, 0, none⟩) L.length L.length)) ?nd (by kernel_rfl) ?_
  case nd => intro o ho c; simp only [ops4, List.mem_cons, List.not_mem_nil, or_false] at ho; rcases ho with rfl | rfl | rfl | rfl | rfl | rfl | rfl | rfl <;> simp
  have hbd : Below W.heap.size W W.drew := (Below.refl _ W).drew
  have hS := HS.out _ hbd
  refine wpAnyH_take (i := 0) (oi := { dst := some 17, op := Op.fieldAddr 51 (Operand.tmp 3) 1, type := 0, pos := "ways.go:21", after := #[], guard := none }) (v := .pointer (some ⟨p3, 1, none⟩)) rfl (by kernel_rfl) (by kernel_rfl) (by kernel_rfl) (fun _ _ _ h => (by cases h.1)) (Or.inl ⟨by rfl, fun w' hS' => by obtain ⟨s0, s1, s2⟩ := hS'; go_simp⟩) hS ?_
  simp only [Act.put, List.setIfInBounds_toArray, List.set_cons_zero, List.set_cons_succ]
  refine wpAnyH_take (i := 1) (oi := { dst := some 18, op := Op.load 49 (Operand.tmp 17), type := 49, pos := "ways.go:21", after := #[{ on := 0, ground := Ground.data }], guard := none }) (v := .slice (some ⟨gr, 0, none⟩) L.length L.length) rfl (by kernel_rfl) (by kernel_rfl) (by kernel_rfl) (fun _ _ _ h => (by cases h.1)) (Or.inl ⟨by rfl, fun w' hS' => by obtain ⟨s0, s1, s2⟩ := hS'; go_simp⟩) hS ?_
  simp only [Act.put, List.setIfInBounds_toArray, List.set_cons_zero, List.set_cons_succ]
  refine wpAnyH_take (i := 2) (oi := { dst := some 19, op := Op.move (Operand.tmp 4), type := 3, pos := "ways.go:21", after := #[], guard := none }) (v := .int .i64 (x : Int)) rfl (by kernel_rfl) (by kernel_rfl) (by kernel_rfl) (fun _ _ _ h => (by cases h.1)) (Or.inl ⟨by rfl, fun w' hS' => by obtain ⟨s0, s1, s2⟩ := hS'; go_simp⟩) hS ?_
  simp only [Act.put, List.setIfInBounds_toArray, List.set_cons_zero, List.set_cons_succ]
  refine wpAnyH_take (i := 3) (oi := { dst := some 20, op := Op.load 51 (Operand.tmp 3), type := 51, pos := "ways.go:21", after := #[], guard := none }) (v := .agg #[.slice (some ⟨g, o, none⟩) L.length cap, .slice (some ⟨gr, 0, none⟩) L.length L.length, .slice (some ⟨ge, 0, none⟩) L.length L.length]) rfl (by kernel_rfl) (by kernel_rfl) (by kernel_rfl) (fun _ _ _ h => (by cases h.1)) (Or.inl ⟨by rfl, fun w' hS' => by obtain ⟨s0, s1, s2⟩ := hS'; go_simp⟩) hS ?_
  simp only [Act.put, List.setIfInBounds_toArray, List.set_cons_zero, List.set_cons_succ]
  refine wpAnyH_take (i := 4) (oi := { dst := some 21, op := Op.move (Operand.tmp 4), type := 3, pos := "ways.go:21", after := #[], guard := none }) (v := .int .i64 (x : Int)) rfl (by kernel_rfl) (by kernel_rfl) (by kernel_rfl) (fun _ _ _ h => (by cases h.1)) (Or.inl ⟨by rfl, fun w' hS' => by obtain ⟨s0, s1, s2⟩ := hS'; go_simp⟩) hS ?_
  simp only [Act.put, List.setIfInBounds_toArray, List.set_cons_zero, List.set_cons_succ]
  refine held_one (i := 5) (o := { dst := some 22, op := Op.call { callee := Callee.value (Operand.func 36), args := #[Operand.tmp 20, Operand.tmp 21], argTypes := #[51, 3] }, type := 4, pos := "ways.go:21", after := #[{ on := 3, ground := Ground.data }, { on := 4, ground := Ground.data }], guard := none }) (by kernel_rfl) rfl rfl (fun K hK => ?_)
  refine op_call 36 [.tmp 20, .tmp 21] #[51, 3] [.agg #[.slice (some ⟨g, o, none⟩) L.length cap, .slice (some ⟨gr, 0, none⟩) L.length L.length, .slice (some ⟨ge, 0, none⟩) L.length L.length], .int .i64 (x : Int)] (.bool b) rfl rfl (call36 _ _ _) (HC.out _ hbd) (fun w8 hb8 => ?_)
  have hbd8 : Below W.heap.size W w8 := hbd.trans (hb8.mono hbd.size)
  have hS8 := HS.out _ hbd8
  refine hK _ _ hS8 ?_
  clear hK K
  simp only [Act.put, List.setIfInBounds_toArray, List.set_cons_zero, List.set_cons_succ]
  refine wpAnyH_take (i := 6) (oi := { dst := some 23, op := Op.indexAddr 49 (Operand.tmp 18) (Operand.tmp 19), type := 0, pos := "ways.go:21", after := #[{ on := 1, ground := Ground.data }, { on := 2, ground := Ground.data }, { on := 0, ground := Ground.phase }, { on := 1, ground := Ground.phase }, { on := 2, ground := Ground.phase }, { on := 3, ground := Ground.phase }, { on := 4, ground := Ground.phase }, { on := 5, ground := Ground.phase }], guard := none }) (v := .pointer (some ⟨gr, x, none⟩)) rfl (by kernel_rfl) (by kernel_rfl) (by kernel_rfl) (fun _ _ _ h => (by cases h.1)) (Or.inl ⟨by rfl, fun w' hS' => by obtain ⟨s0, s1, s2⟩ := hS'; go_simp⟩) hS8 ?_
  simp only [Act.put, List.setIfInBounds_toArray, List.set_cons_zero, List.set_cons_succ]
  obtain ⟨u, hu, hf⟩ := HT.out _ hbd8
  refine held_one (i := 7) (o := { dst := none, op := Op.store 4 (Operand.tmp 23) (Operand.tmp 22), type := 0, pos := "ways.go:21", after := #[{ on := 6, ground := Ground.data }, { on := 5, ground := Ground.data }, { on := 5, ground := Ground.chain }, { on := 0, ground := Ground.phase }, { on := 1, ground := Ground.phase }, { on := 2, ground := Ground.phase }, { on := 3, ground := Ground.phase }, { on := 4, ground := Ground.phase }, { on := 5, ground := Ground.phase }], guard := none }) (by kernel_rfl) rfl rfl (fun K hK => ?_)
  go_simp
  refine hK _ _ (HP.out _ hbd8) ?_
  clear hK K
  refine wpAnyH_done (by kernel_rfl) ?_ _
  exact ⟨rfl, hQ.out _ hbd8⟩

abbrev ops5 : List Oper := [{ dst := some 24, op := Op.fieldAddr 51 (Operand.tmp 3) 2, type := 0, pos := "ways.go:22", after := #[], guard := none },
  { dst := some 25, op := Op.load 49 (Operand.tmp 24), type := 49, pos := "ways.go:22", after := #[{ on := 0, ground := Ground.data }], guard := none },
  { dst := some 26, op := Op.move (Operand.tmp 4), type := 3, pos := "ways.go:22", after := #[], guard := none },
  { dst := some 27, op := Op.load 51 (Operand.tmp 3), type := 51, pos := "ways.go:22", after := #[], guard := none },
  { dst := some 28, op := Op.move (Operand.tmp 4), type := 3, pos := "ways.go:22", after := #[], guard := none },
  { dst := some 29, op := Op.call { callee := Callee.value (Operand.func 37), args := #[Operand.tmp 27, Operand.tmp 28], argTypes := #[51, 3] }, type := 4, pos := "ways.go:22", after := #[{ on := 3, ground := Ground.data }, { on := 4, ground := Ground.data }], guard := none },
  { dst := some 30, op := Op.indexAddr 49 (Operand.tmp 25) (Operand.tmp 26), type := 0, pos := "ways.go:22", after := #[{ on := 1, ground := Ground.data }, { on := 2, ground := Ground.data }, { on := 0, ground := Ground.phase }, { on := 1, ground := Ground.phase }, { on := 2, ground := Ground.phase }, { on := 3, ground := Ground.phase }, { on := 4, ground := Ground.phase }, { on := 5, ground := Ground.phase }], guard := none },
  { dst := none, op := Op.store 4 (Operand.tmp 30) (Operand.tmp 29), type := 0, pos := "ways.go:22", after := #[{ on := 6, ground := Ground.data }, { on := 5, ground := Ground.data }, { on := 5, ground := Ground.chain }, { on := 0, ground := Ground.phase }, { on := 1, ground := Ground.phase }, { on := 2, ground := Ground.phase }, { on := 3, ground := Ground.phase }, { on := 4, ground := Ground.phase }, { on := 5, ground := Ground.phase }], guard := none }]
set_option maxRecDepth 100000 in
set_option maxHeartbeats 2000000 in
theorem nw_r5 (l n : Nat) (Q : Exit → Act → World → Prop) (W : World) (g o cap p3 gr ge x : Nat) (L : List Nd) (b : Bool) (t0 t1 t2 t5 t6 t7 t8 t9 t10 t11 t12 t13 t14 t15 t16 t17 t18 t19 t20 t21 t22 t23 t24 t25 t26 t27 t28 t29 t30 t31 : Value) (hx : x < L.length)
    (HS : Hid (∀ w', Below W.heap.size W w' → w'.cell? ⟨p3, 0, none⟩ = some (.slice (some ⟨g, o, none⟩) L.length cap) ∧ w'.cell? ⟨p3, 1, none⟩ = some (.slice (some ⟨gr, 0, none⟩) L.length L.length) ∧ w'.cell? ⟨p3, 2, none⟩ = some (.slice (some ⟨ge, 0, none⟩) L.length L.length)))
    (HC : Hid (∀ w', Below W.heap.size W w' → Calls Tryd.prog 37 #[.agg #[.slice (some ⟨g, o, none⟩) L.length cap, .slice (some ⟨gr, 0, none⟩) L.length L.length, .slice (some ⟨ge, 0, none⟩) L.length L.length], .int .i64 (x : Int)] w' fun e w'' => e = .returned (.bool b) ∧ Below w'.heap.size w' w''))
    (HT : Hid (∀ w', Below W.heap.size W w' → ∃ u, w'.cell? ⟨ge, x, none⟩ = some (.bool u) ∧ w'.frozen? ⟨ge, x, none⟩ = false))
    (HP : Hid (∀ w', Below W.heap.size W w' → (w'.setCell ⟨ge, x, none⟩ (.bool b)).cell? ⟨p3, 0, none⟩ = some (.slice (some ⟨g, o, none⟩) L.length cap) ∧ (w'.setCell ⟨ge, x, none⟩ (.bool b)).cell? ⟨p3, 1, none⟩ = some (.slice (some ⟨gr, 0, none⟩) L.length L.length) ∧ (w'.setCell ⟨ge, x, none⟩ (.bool b)).cell? ⟨p3, 2, none⟩ = some (.slice (some ⟨ge, 0, none⟩) L.length L.length)))
    (hQ : Hid (∀ W1, Below W.heap.size W W1 → Q .normal { tmps := #[t0, t1, t2, .pointer (some ⟨p3, 0, none⟩), .int .i64 (x : Int), t5, t6, t7, t8, t9, t10, t11, t12, t13, t14, t15, t16, t17, t18, t19, t20, t21, t22, t23, .pointer (some ⟨p3, 2, none⟩), .slice (some ⟨ge, 0, none⟩) L.length L.length, .int .i64 (x : Int), .agg #[.slice (some ⟨g, o, none⟩) L.length cap, .slice (some ⟨gr, 0, none⟩) L.length L.length, .slice (some ⟨ge, 0, none⟩) L.length L.length], .int .i64 (x : Int), .bool b, .pointer (some ⟨ge, x, none⟩), t31], defers := [] } (W1.setCell ⟨ge, x, none⟩ (.bool b)))) :
    (Code.region 5 ops5.toArray true).wpIn (Fence.wide.inRound l) n Tryd.prog Q { tmps := #[t0, t1, t2, .pointer (some ⟨p3, 0, none⟩), .int .i64 (x : Int), t5, t6, t7, t8, t9, t10, t11, t12, t13, t14, t15, t16, t17, t18, t19, t20, t21, t22, t23, t24, t25, t26, t27, t28, t29, t30, t31], defers := [] } W := by
  have j0 : (0 : Int) ≤ (x : Int) := by omega
  have j1 : (x : Int) < (L.length : Int) := by omega
  refine region_in (S := fun w' => w'.cell? ⟨p3, 0, none⟩ = some (.slice (some ⟨g, o, none⟩) L.length cap) ∧ w'.cell? ⟨p3, 1, none⟩ = some (.slice (some ⟨gr, 0, none⟩) L.length L.length) ∧ w'.cell? ⟨p3, 2, none⟩ = some (.slice (some ⟨ge, 0, none⟩) L.length L.length)) ?nd (by kernel_rfl) ?_
  case nd => intro o ho c; simp only [ops5, List.mem_cons, List.not_mem_nil, or_false] at ho; rcases ho with rfl | rfl | rfl | rfl | rfl | rfl | rfl | rfl <;> simp
  have hbd : Below W.heap.size W W.drew := (Below.refl _ W).drew
  have hS := HS.out _ hbd
  refine wpAnyH_take (i := 0) (oi := { dst := some 24, op := Op.fieldAddr 51 (Operand.tmp 3) 2, type := 0, pos := "ways.go:22", after := #[], guard := none }) (v := .pointer (some ⟨p3, 2, none⟩)) rfl (by kernel_rfl) (by kernel_rfl) (by kernel_rfl) (fun _ _ _ h => (by cases h.1)) (Or.inl ⟨by rfl, fun w' hS' => by obtain ⟨s0, s1, s2⟩ := hS'; go_simp⟩) hS ?_
  simp only [Act.put, List.setIfInBounds_toArray, List.set_cons_zero, List.set_cons_succ]
  refine wpAnyH_take (i := 1) (oi := { dst := some 25, op := Op.load 49 (Operand.tmp 24), type := 49, pos := "ways.go:22", after := #[{ on := 0, ground := Ground.data }], guard := none }) (v := .slice (some ⟨ge, 0, none⟩) L.length L.length) rfl (by kernel_rfl) (by kernel_rfl) (by kernel_rfl) (fun _ _ _ h => (by cases h.1)) (Or.inl ⟨by rfl, fun w' hS' => by obtain ⟨s0, s1, s2⟩ := hS'; go_simp⟩) hS ?_
  simp only [Act.put, List.setIfInBounds_toArray, List.set_cons_zero, List.set_cons_succ]
  refine wpAnyH_take (i := 2) (oi := { dst := some 26, op := Op.move (Operand.tmp 4), type := 3, pos := "ways.go:22", after := #[], guard := none }) (v := .int .i64 (x : Int)) rfl (by kernel_rfl) (by kernel_rfl) (by kernel_rfl) (fun _ _ _ h => (by cases h.1)) (Or.inl ⟨by rfl, fun w' hS' => by obtain ⟨s0, s1, s2⟩ := hS'; go_simp⟩) hS ?_
  simp only [Act.put, List.setIfInBounds_toArray, List.set_cons_zero, List.set_cons_succ]
  refine wpAnyH_take (i := 3) (oi := { dst := some 27, op := Op.load 51 (Operand.tmp 3), type := 51, pos := "ways.go:22", after := #[], guard := none }) (v := .agg #[.slice (some ⟨g, o, none⟩) L.length cap, .slice (some ⟨gr, 0, none⟩) L.length L.length, .slice (some ⟨ge, 0, none⟩) L.length L.length]) rfl (by kernel_rfl) (by kernel_rfl) (by kernel_rfl) (fun _ _ _ h => (by cases h.1)) (Or.inl ⟨by rfl, fun w' hS' => by obtain ⟨s0, s1, s2⟩ := hS'; go_simp⟩) hS ?_
  simp only [Act.put, List.setIfInBounds_toArray, List.set_cons_zero, List.set_cons_succ]
  refine wpAnyH_take (i := 4) (oi := { dst := some 28, op := Op.move (Operand.tmp 4), type := 3, pos := "ways.go:22", after := #[], guard := none }) (v := .int .i64 (x : Int)) rfl (by kernel_rfl) (by kernel_rfl) (by kernel_rfl) (fun _ _ _ h => (by cases h.1)) (Or.inl ⟨by rfl, fun w' hS' => by obtain ⟨s0, s1, s2⟩ := hS'; go_simp⟩) hS ?_
  simp only [Act.put, List.setIfInBounds_toArray, List.set_cons_zero, List.set_cons_succ]
  refine held_one (i := 5) (o := { dst := some 29, op := Op.call { callee := Callee.value (Operand.func 37), args := #[Operand.tmp 27, Operand.tmp 28], argTypes := #[51, 3] }, type := 4, pos := "ways.go:22", after := #[{ on := 3, ground := Ground.data }, { on := 4, ground := Ground.data }], guard := none }) (by kernel_rfl) rfl rfl (fun K hK => ?_)
  refine op_call 37 [.tmp 27, .tmp 28] #[51, 3] [.agg #[.slice (some ⟨g, o, none⟩) L.length cap, .slice (some ⟨gr, 0, none⟩) L.length L.length, .slice (some ⟨ge, 0, none⟩) L.length L.length], .int .i64 (x : Int)] (.bool b) rfl rfl (call37 _ _ _) (HC.out _ hbd) (fun w8 hb8 => ?_)
  have hbd8 : Below W.heap.size W w8 := hbd.trans (hb8.mono hbd.size)
  have hS8 := HS.out _ hbd8
  refine hK _ _ hS8 ?_
  clear hK K
  simp only [Act.put, List.setIfInBounds_toArray, List.set_cons_zero, List.set_cons_succ]
  refine wpAnyH_take (i := 6) (oi := { dst := some 30, op := Op.indexAddr 49 (Operand.tmp 25) (Operand.tmp 26), type := 0, pos := "ways.go:22", after := #[{ on := 1, ground := Ground.data }, { on := 2, ground := Ground.data }, { on := 0, ground := Ground.phase }, { on := 1, ground := Ground.phase }, { on := 2, ground := Ground.phase }, { on := 3, ground := Ground.phase }, { on := 4, ground := Ground.phase }, { on := 5, ground := Ground.phase }], guard := none }) (v := .pointer (some ⟨ge, x, none⟩)) rfl (by kernel_rfl) (by kernel_rfl) (by kernel_rfl) (fun _ _ _ h => (by cases h.1)) (Or.inl ⟨by rfl, fun w' hS' => by obtain ⟨s0, s1, s2⟩ := hS'; go_simp⟩) hS8 ?_
  simp only [Act.put, List.setIfInBounds_toArray, List.set_cons_zero, List.set_cons_succ]
  obtain ⟨u, hu, hf⟩ := HT.out _ hbd8
  refine held_one (i := 7) (o := { dst := none, op := Op.store 4 (Operand.tmp 30) (Operand.tmp 29), type := 0, pos := "ways.go:22", after := #[{ on := 6, ground := Ground.data }, { on := 5, ground := Ground.data }, { on := 5, ground := Ground.chain }, { on := 0, ground := Ground.phase }, { on := 1, ground := Ground.phase }, { on := 2, ground := Ground.phase }, { on := 3, ground := Ground.phase }, { on := 4, ground := Ground.phase }, { on := 5, ground := Ground.phase }], guard := none }) (by kernel_rfl) rfl rfl (fun K hK => ?_)
  go_simp
  refine hK _ _ (HP.out _ hbd8) ?_
  clear hK K
  refine wpAnyH_done (by kernel_rfl) ?_ _
  exact ⟨rfl, hQ.out _ hbd8⟩

end Go.Proofs.YtlocaalipjjnpaaDoor

namespace Go.Proofs.YtlocaalipjjnpaaDoor
open Go.RowKit Go.Shelf
attribute [local go_sem] Oper.semAt_some

theorem endL_snd {T T' : WT} (h : ∀ i, (T i).2 = (T' i).2) (K : List Nat) : endL T K = endL T' K := by
  unfold endL
  congr 1
  funext k
  exact h k
theorem way_snd {L : List Nd} {T T' : WT} (n : Nat) (h : ∀ i, (T i).2 = (T' i).2) : (wayAt L T n).2 = (wayAt L T' n).2 := by
  unfold wayAt
  split
  · rfl
  · split
    · rfl
    · split
      · exact endL_snd h _
      · split
        · split
          · rfl
          · simp only [h]
        · rfl

theorem other (w : World) (p a : Addr) (v : Value) (h : a ≠ p) : (w.setCell p v).cell? a = w.cell? a := World.cell?_setCell_other _ _ _ _ (Ne.symm h)
theorem set_at {w : World} {B x : Nat} {v : Value} (u : Value) {a : Addr} (h : w.cell? a = some v) (hn : a ≠ ⟨B, x, none⟩) : (w.setCell ⟨B, x, none⟩ u).cell? a = some v := (other _ _ _ _ hn).trans h

/-- What the loop over the nodes keeps. -/
structure NI (B g o cap gr ge p3 : Nat) (L : List Nd) (d : Nat) (W : World) : Prop where
  tb : Tb W gr ge L.length (tbl L d)
  fr : ∀ i, i < L.length → W.frozen? ⟨gr, i, none⟩ = false
  fe : ∀ i, i < L.length → W.frozen? ⟨ge, i, none⟩ = false
  bk : BKeep B g o cap L W
  p0 : W.cell? ⟨p3, 0, none⟩ = some (.slice (some ⟨g, o, none⟩) L.length cap)
  p1 : W.cell? ⟨p3, 1, none⟩ = some (.slice (some ⟨gr, 0, none⟩) L.length L.length)
  p2 : W.cell? ⟨p3, 2, none⟩ = some (.slice (some ⟨ge, 0, none⟩) L.length L.length)

theorem ni_own (B g o cap gr ge p3 : Nat) (L : List Nd) : Own (fun (s : List Nat) W => NI B g o cap gr ge p3 L s.length W) := fun s W W' row hs hg hr =>
  ⟨⟨Nat.lt_of_lt_of_le hs.tb.lr hg.size, Nat.lt_of_lt_of_le hs.tb.le hg.size, fun i hi => cell_kept (hs.tb.r i hi) hg hr, fun i hi => cell_kept (hs.tb.e i hi) hg hr⟩, fun i hi => (frozen_kept (hs.tb.r i hi) hg hr).trans (hs.fr i hi), fun i hi => (frozen_kept (hs.tb.e i hi) hg hr).trans (hs.fe i hi),
    bkeep_own B g o cap L s W W' row hs.bk hg hr, cell_kept hs.p0 hg hr, cell_kept hs.p1 hg hr, cell_kept hs.p2 hg hr⟩

/-- The blocks are apart. -/
structure Ap (N B g gr ge p3 : Nat) : Prop where
  g0 : g < N
  r0 : N < gr
  e0 : N < ge
  q0 : N < p3
  b0 : N < B
  re : gr ≠ ge
  rq : gr ≠ p3
  rb : gr ≠ B
  eq : ge ≠ p3
  eb : ge ≠ B

/-- One round: both rows have the node's way. -/
theorem NI.step {B g o cap gr ge p3 N : Nat} {L : List Nd} {d x : Nat} {W W1 W2 : World} (h : NI B g o cap gr ge p3 L d W) (ha : Ap N B g gr ge p3) (hx : x + d + 1 = L.length) (hb1 : Below W.heap.size W W1)
    (hb2 : Below (W1.setCell ⟨gr, x, none⟩ (.bool (wayAt L (tbl L d) x).1)).heap.size (W1.setCell ⟨gr, x, none⟩ (.bool (wayAt L (tbl L d) x).1)) W2) : NI B g o cap gr ge p3 L (d + 1) (W2.setCell ⟨ge, x, none⟩ (.bool (wayAt L (tbl L d) x).2)) := by
  have hsz : (W1.setCell ⟨gr, x, none⟩ (.bool (wayAt L (tbl L d) x).1)).heap.size = W1.heap.size := size_set _ _ _
  rw [hsz] at hb2
  have hxl : x < L.length := by omega
  have key : ∀ a : Addr, a.block < W.heap.size → a ≠ ⟨gr, x, none⟩ → a ≠ ⟨ge, x, none⟩ → (W2.setCell ⟨ge, x, none⟩ (.bool (wayAt L (tbl L d) x).2)).cell? a = W.cell? a := fun a hl h1 h2 => by
    rw [other _ _ _ _ h2, hb2.cell (by have := hb1.size; omega), other _ _ _ _ h1, hb1.cell hl]
  have kf : ∀ a : Addr, a.block < W.heap.size → (W2.setCell ⟨ge, x, none⟩ (.bool (wayAt L (tbl L d) x).2)).frozen? a = W.frozen? a := fun a hl => by
    rw [World.frozen?_setCell, hb2.frozen (by have := hb1.size; omega), World.frozen?_setCell, hb1.frozen hl]
  have hne : ∀ {b c : Nat} {i j : Nat}, b ≠ c → (⟨b, i, none⟩ : Addr) ≠ ⟨c, j, none⟩ := fun hbc e => hbc (by cases e; rfl)
  have hss : W.heap.size ≤ (W2.setCell ⟨ge, x, none⟩ (.bool (wayAt L (tbl L d) x).2)).heap.size := by rw [size_set]; have := hb1.size; have := hb2.size; omega
  have lq := World.block_lt_of_cell? W _ h.p0
  have lb := World.block_lt_of_cell? W _ h.bk.ns
  have htb : ∀ i, tbl L (d + 1) i = if i = x then wayAt L (tbl L d) x else tbl L d i := fun i => by
    show (if i = L.length - (d + 1) then wayAt L (tbl L d) (L.length - (d + 1)) else tbl L d i) = _
    rw [show L.length - (d + 1) = x by omega]
  refine ⟨⟨Nat.lt_of_lt_of_le h.tb.lr hss, Nat.lt_of_lt_of_le h.tb.le hss, fun i hi => ?_, fun i hi => ?_⟩, fun i hi => (kf _ h.tb.lr).trans (h.fr i hi), fun i hi => (kf _ h.tb.le).trans (h.fe i hi), ⟨⟨Nat.lt_of_lt_of_le h.bk.lay.lt hss, fun i hi j v hv => ?_⟩, ?_⟩, ?_, ?_, ?_⟩
  · rw [htb]
    by_cases e : i = x
    · subst e
      rw [if_pos rfl, other _ _ _ _ (hne ha.re), hb2.cell (by show gr < _; have := h.tb.lr; have := hb1.size; omega)]
      exact World.cell?_setCell_same' _ _ _ (by rw [hb1.cell h.tb.lr, h.tb.r i hi]; rfl)
    · rw [if_neg e, key _ h.tb.lr (fun q => e (by cases q; rfl)) (hne ha.re)]
      exact h.tb.r i hi
  · rw [htb]
    by_cases e : i = x
    · subst e
      rw [if_pos rfl]
      exact World.cell?_setCell_same' _ _ _ (by rw [hb2.cell (by show ge < _; have := h.tb.le; have := hb1.size; omega), other _ _ _ _ (hne (Ne.symm ha.re)), hb1.cell h.tb.le, h.tb.e i hi]; rfl)
    · rw [if_neg e, key _ h.tb.le (hne (Ne.symm ha.re)) (fun q => e (by cases q; rfl))]
      exact h.tb.e i hi
  · rw [key _ h.bk.lay.lt (hne (by have := ha.g0; have := ha.r0; omega)) (hne (by have := ha.g0; have := ha.e0; omega))]
    exact h.bk.lay.c i hi j v hv
  · rw [key _ lb (hne (Ne.symm ha.rb)) (hne (Ne.symm ha.eb))]
    exact h.bk.ns
  · rw [key ⟨p3, 0, none⟩ lq (hne (Ne.symm ha.rq)) (hne (Ne.symm ha.eq))]
    exact h.p0
  · rw [key ⟨p3, 1, none⟩ lq (hne (Ne.symm ha.rq)) (hne (Ne.symm ha.eq))]
    exact h.p1
  · rw [key ⟨p3, 2, none⟩ lq (hne (Ne.symm ha.rq)) (hne (Ne.symm ha.eq))]
    exact h.p2

set_option maxRecDepth 100000 in
set_option maxHeartbeats 4000000 in
theorem nw_loop (N : Nat) (wc : World) (B g o cap gr ge p3 : Nat) (L : List Nd) (t0 t1 t2 t5 t6 t7 t8 t9 t10 t11 t12 t13 : Value) (Q : Exit → Act → World → Prop) (hL : L.length ≤ 1353245080300) (hw : Wy L) (ha : Ap N B g gr ge p3) (hni : NI B g o cap gr ge p3 L 0 wc) (hN : N < wc.heap.size)
    (hQ : ∀ (D : Nat) (W : World), wc.heap.size ≤ D → NI B g o cap gr ge p3 L L.length W → Below (N + 1) wc W → W.heap[D]? = some (.deferred (some [])) → Q .normal { tmps := #[t0, t1, t2, .pointer (some ⟨p3, 0, none⟩), undef, t5, t6, t7, t8, t9, t10, t11, t12, t13, .func (.func 56) #[] #[.pointer (some ⟨B, 0, none⟩)], undef, undef, undef, undef, undef, undef, undef, undef, undef, undef, undef, undef, undef, undef, undef, undef, undef], defers := [{ target := .collected D, args := #[] }] } W) :
    (Code.rangeFunc (Operand.tmp 14) #[15, 16] (Code.region 3 #[{ dst := some 4, op := Op.assign (Operand.tmp 15), type := 3, pos := "ways.go:20", after := #[], guard := none }] false)
      (Code.block 1 ((Code.region 4 ops4.toArray true).seq (Code.region 5 ops5.toArray true)))).wpIn Fence.wide 6 Tryd.prog Q { tmps := #[t0, t1, t2, .pointer (some ⟨p3, 0, none⟩), undef, t5, t6, t7, t8, t9, t10, t11, t12, t13, .func (.func 56) #[] #[.pointer (some ⟨B, 0, none⟩)], undef, undef, undef, undef, undef, undef, undef, undef, undef, undef, undef, undef, undef, undef, undef, undef, undef], defers := [] } wc := by
  have lb := World.block_lt_of_cell? wc _ hni.bk.ns
  refine wpIn_range_guard rfl (by omega) (gf := 56) (lb := #[.pointer (some ⟨B, 0, none⟩)]) rfl trivial (enters_of Tryd.func56 (by kernel_rfl) rfl)
    (back_seq 5 (by omega) B g o cap L wc hL hni.bk lb) (Below.refl _ _) (fun _ => rfl)
    (fun pre W => NI B g o cap gr ge p3 L pre.length W ∧ Below (N + 1) wc W) (fun _ _ _ => False)
    (OwnFrom.and (Own.from (ni_own B g o cap gr ge p3 L) _) (ownFrom_below (by omega) (by omega)))
    (fun c => (fun s A B row hs hg hr => hs))
    ⟨hni, Below.refl _ _⟩ (fun pre W hI => hI.1.bk) (fun pre x W hI => trivial)
    (fun x => { tmps := #[t0, t1, t2, .pointer (some ⟨p3, 0, none⟩), .int .i64 (x : Int), t5, t6, t7, t8, t9, t10, t11, t12, t13, .func (.func 56) #[] #[.pointer (some ⟨B, 0, none⟩)], .int .i64 (x : Int), .agg (ndV (nd L x)), undef, undef, undef, undef, undef, undef, undef, undef, undef, undef, undef, undef, undef, undef, undef], defers := [] }) ?assign ?body ?done ?stop
  case assign =>
    intro l x W K hK
    gi_wp2
    simpa [encB] using hK
  case body =>
    rintro l pre x W ⟨hi, hB⟩ hx
    have hxl : x < L.length := by omega
    have lq := World.block_lt_of_cell? W _ hi.p0
    have HI : Hid (NI B g o cap gr ge p3 L pre.length W) := hi
    have HB : Hid (Below (N + 1) wc W) := hB
    have HS1 : Hid (∀ w', Below W.heap.size W w' → w'.cell? ⟨p3, 0, none⟩ = some (.slice (some ⟨g, o, none⟩) L.length cap) ∧ w'.cell? ⟨p3, 1, none⟩ = some (.slice (some ⟨gr, 0, none⟩) L.length L.length) ∧ w'.cell? ⟨p3, 2, none⟩ = some (.slice (some ⟨ge, 0, none⟩) L.length L.length)) := fun w' hb => ⟨(hb.cell (p := ⟨p3, 0, none⟩) lq).trans hi.p0, (hb.cell (p := ⟨p3, 1, none⟩) lq).trans hi.p1, (hb.cell (p := ⟨p3, 2, none⟩) lq).trans hi.p2⟩
    have HC1 : Hid (∀ w', Below W.heap.size W w' → Calls Tryd.prog 36 #[.agg #[.slice (some ⟨g, o, none⟩) L.length cap, .slice (some ⟨gr, 0, none⟩) L.length L.length, .slice (some ⟨ge, 0, none⟩) L.length L.length], .int .i64 (x : Int)] w' fun e w'' => e = .returned (.bool (wayAt L (tbl L pre.length) x).1) ∧ Below w'.heap.size w' w'') := fun w' hb => findReturns_any w' g o cap L gr ge x _ hL hxl hw (hi.bk.lay.next hb) (hi.tb.next hb)
    have HT1 : Hid (∀ w', Below W.heap.size W w' → ∃ u, w'.cell? ⟨gr, x, none⟩ = some (.bool u) ∧ w'.frozen? ⟨gr, x, none⟩ = false) := fun w' hb => ⟨_, (hi.tb.next hb).r x hxl, (hb.frozen (p := ⟨gr, x, none⟩) hi.tb.lr).trans (hi.fr x hxl)⟩
    have hne : ∀ {b c : Nat} {i j : Nat}, b ≠ c → (⟨b, i, none⟩ : Addr) ≠ ⟨c, j, none⟩ := fun hbc e => hbc (by cases e; rfl)
    have HP1 : Hid (∀ w', Below W.heap.size W w' → (w'.setCell ⟨gr, x, none⟩ (.bool (wayAt L (tbl L pre.length) x).1)).cell? ⟨p3, 0, none⟩ = some (.slice (some ⟨g, o, none⟩) L.length cap) ∧ (w'.setCell ⟨gr, x, none⟩ (.bool (wayAt L (tbl L pre.length) x).1)).cell? ⟨p3, 1, none⟩ = some (.slice (some ⟨gr, 0, none⟩) L.length L.length) ∧ (w'.setCell ⟨gr, x, none⟩ (.bool (wayAt L (tbl L pre.length) x).1)).cell? ⟨p3, 2, none⟩ = some (.slice (some ⟨ge, 0, none⟩) L.length L.length)) := fun w' hb =>
      ⟨set_at _ (HS1.out w' hb).1 (hne (Ne.symm ha.rq)), set_at _ (HS1.out w' hb).2.1 (hne (Ne.symm ha.rq)), set_at _ (HS1.out w' hb).2.2 (hne (Ne.symm ha.rq))⟩
    clear hi hB
    generalize ndV (nd L x) = nv
    gi_wp2
    refine nw_r4 l _ _ W g o cap p3 gr ge x L _ t0 t1 t2 t5 t6 t7 t8 t9 t10 t11 t12 t13 (.func (.func 56) #[] #[.pointer (some ⟨B, 0, none⟩)]) (.int .i64 (x : Int)) (.agg nv) undef undef undef undef undef undef undef undef undef undef undef undef undef undef undef hxl HS1 HC1 HT1 HP1 (fun W1 hb1 => ?_)
    obtain ⟨W2, hW2⟩ : ∃ W2, W1.setCell ⟨gr, x, none⟩ (.bool (wayAt L (tbl L pre.length) x).1) = W2 := ⟨_, rfl⟩
    have z2 : W2.heap.size = W1.heap.size := by rw [← hW2]; exact size_set _ _ _
    have hp2 : W2.cell? ⟨p3, 0, none⟩ = some (.slice (some ⟨g, o, none⟩) L.length cap) ∧ W2.cell? ⟨p3, 1, none⟩ = some (.slice (some ⟨gr, 0, none⟩) L.length L.length) ∧ W2.cell? ⟨p3, 2, none⟩ = some (.slice (some ⟨ge, 0, none⟩) L.length L.length) := by rw [← hW2]; exact HP1.out W1 hb1
    have lq2 := World.block_lt_of_cell? W2 _ hp2.1
    have hl2 : Lay W2 g o L := by
      have h1 := HI.out.bk.lay.next hb1
      have hg := ha.g0
      have hg2 := ha.r0
      rw [← hW2]
      exact ⟨by rw [size_set]; exact h1.lt, fun i hi j v hv => set_at _ (h1.c i hi j v hv) (hne (by omega))⟩
    have ht2 : Tb W2 gr ge L.length (fun i => if i = x then ((wayAt L (tbl L pre.length) x).1, (tbl L pre.length i).2) else tbl L pre.length i) := by
      have h1 := HI.out.tb.next hb1
      refine ⟨by rw [z2]; exact h1.lr, by rw [z2]; exact h1.le, fun i hi => ?_, fun i hi => ?_⟩
      · rw [← hW2]
        by_cases e : i = x
        · subst e
          rw [if_pos rfl]
          exact World.cell?_setCell_same' _ _ _ (by rw [h1.r i hi]; rfl)
        · rw [if_neg e]
          exact set_at _ (h1.r i hi) (fun q => e (by cases q; rfl))
      · rw [← hW2]
        have := set_at (B := gr) (x := x) (.bool (wayAt L (tbl L pre.length) x).1) (h1.e i hi) (hne (Ne.symm ha.re))
        rw [this]
        split <;> rfl
    have hfz : W2.frozen? ⟨ge, x, none⟩ = false := by rw [← hW2, World.frozen?_setCell]; exact (hb1.frozen (p := ⟨ge, x, none⟩) HI.out.tb.le).trans (HI.out.fe x hxl)
    have hwy : (wayAt L (fun i => if i = x then ((wayAt L (tbl L pre.length) x).1, (tbl L pre.length i).2) else tbl L pre.length i) x).2 = (wayAt L (tbl L pre.length) x).2 := way_snd x (fun i => by split <;> rfl)
    have HS2 : Hid (∀ w', Below W2.heap.size W2 w' → w'.cell? ⟨p3, 0, none⟩ = some (.slice (some ⟨g, o, none⟩) L.length cap) ∧ w'.cell? ⟨p3, 1, none⟩ = some (.slice (some ⟨gr, 0, none⟩) L.length L.length) ∧ w'.cell? ⟨p3, 2, none⟩ = some (.slice (some ⟨ge, 0, none⟩) L.length L.length)) := fun w' hb => ⟨(hb.cell (p := ⟨p3, 0, none⟩) lq2).trans hp2.1, (hb.cell (p := ⟨p3, 1, none⟩) lq2).trans hp2.2.1, (hb.cell (p := ⟨p3, 2, none⟩) lq2).trans hp2.2.2⟩
    have HC2 : Hid (∀ w', Below W2.heap.size W2 w' → Calls Tryd.prog 37 #[.agg #[.slice (some ⟨g, o, none⟩) L.length cap, .slice (some ⟨gr, 0, none⟩) L.length L.length, .slice (some ⟨ge, 0, none⟩) L.length L.length], .int .i64 (x : Int)] w' fun e w'' => e = .returned (.bool (wayAt L (tbl L pre.length) x).2) ∧ Below w'.heap.size w' w'') := fun w' hb => by
      rw [← hwy]
      exact findEnds_any w' g o cap L gr ge x _ hL hxl hw (hl2.next hb) (ht2.next hb)
    have HT2 : Hid (∀ w', Below W2.heap.size W2 w' → ∃ u, w'.cell? ⟨ge, x, none⟩ = some (.bool u) ∧ w'.frozen? ⟨ge, x, none⟩ = false) := fun w' hb => ⟨_, (ht2.next hb).e x hxl, (hb.frozen (p := ⟨ge, x, none⟩) ht2.le).trans hfz⟩
    have HP2 : Hid (∀ w', Below W2.heap.size W2 w' → (w'.setCell ⟨ge, x, none⟩ (.bool (wayAt L (tbl L pre.length) x).2)).cell? ⟨p3, 0, none⟩ = some (.slice (some ⟨g, o, none⟩) L.length cap) ∧ (w'.setCell ⟨ge, x, none⟩ (.bool (wayAt L (tbl L pre.length) x).2)).cell? ⟨p3, 1, none⟩ = some (.slice (some ⟨gr, 0, none⟩) L.length L.length) ∧ (w'.setCell ⟨ge, x, none⟩ (.bool (wayAt L (tbl L pre.length) x).2)).cell? ⟨p3, 2, none⟩ = some (.slice (some ⟨ge, 0, none⟩) L.length L.length)) := fun w' hb =>
      ⟨set_at _ (HS2.out w' hb).1 (hne (Ne.symm ha.eq)), set_at _ (HS2.out w' hb).2.1 (hne (Ne.symm ha.eq)), set_at _ (HS2.out w' hb).2.2 (hne (Ne.symm ha.eq))⟩
    rw [hW2]
    clear hp2 hl2 ht2 hfz hwy
    gi_wp2
    refine nw_r5 l _ _ W2 g o cap p3 gr ge x L _ t0 t1 t2 t5 t6 t7 t8 t9 t10 t11 t12 t13 (.func (.func 56) #[] #[.pointer (some ⟨B, 0, none⟩)]) (.int .i64 (x : Int)) (.agg nv) (.pointer (some ⟨p3, 1, none⟩)) (.slice (some ⟨gr, 0, none⟩) L.length L.length) (.int .i64 (x : Int)) (.agg #[.slice (some ⟨g, o, none⟩) L.length cap, .slice (some ⟨gr, 0, none⟩) L.length L.length, .slice (some ⟨ge, 0, none⟩) L.length L.length]) (.int .i64 (x : Int)) (.bool (wayAt L (tbl L pre.length) x).1) (.pointer (some ⟨gr, x, none⟩)) undef undef undef undef undef undef undef undef hxl HS2 HC2 HT2 HP2 (fun W3 hb3 => ?_)
    have hs1 := HB.out.size
    have hs2 := hb1.size
    refine ⟨((keeps_below hb1).trans ?_).trans ((keeps_below hb3).trans (KeepsOthers.setCell _ _ _)), ?_, ?_⟩
    · rw [← hW2]; exact KeepsOthers.setCell _ _ _
    · rw [List.length_append]
      refine HI.out.step ha hx hb1 ?_
      rw [hW2]; exact hb3
    · have b2 : Below (N + 1) W1 W2 := by rw [← hW2]; exact (Below.refl _ W1).setCell (p := ⟨gr, x, none⟩) ha.r0 _
      exact (((HB.out.trans (hb1.mono (by omega))).trans b2).trans (hb3.mono (by omega))).setCell (p := ⟨ge, x, none⟩) ha.e0 _
  case done =>
    rintro D ys W hD hS ⟨hi, hB⟩ hK
    rw [hS] at hi
    exact hQ D W hD hi hB hK
  case stop =>
    rintro D c pre W hD hF
    exact hF.elim

end Go.Proofs.YtlocaalipjjnpaaDoor

namespace Go.Proofs.YtlocaalipjjnpaaDoor
open Go.RowKit Go.Shelf
attribute [local go_sem] Oper.semAt_some

theorem hgAlloc (w : World) (o : Obj) (k : Nat) : (w.alloc o).heap[k]? = if k = w.heap.size then some o else w.heap[k]? := by
  by_cases h : k = w.heap.size
  · subst h
    rw [if_pos rfl]
    exact World.alloc_heap_new w o
  · rw [if_neg h]
    rcases Nat.lt_or_ge k w.heap.size with h1 | h1
    · exact Below.heap_alloc _ _ _ h1
    · rw [Array.getElem?_eq_none (by rw [World.size_alloc]; omega), Array.getElem?_eq_none (by omega)]

theorem hgDrew (w : World) : w.drew.heap = w.heap := rfl
theorem hgSize (w : World) : w.drew.heap.size = w.heap.size := rfl
theorem cell_block {W : World} {B k : Nat} {cs : Array Value} {t : TypeId} {v : Value} (h : W.heap[B]? = some (.cells cs t)) (hv : cs[k]? = some v) : W.cell? ⟨B, k, none⟩ = some v ∧ W.frozen? ⟨B, k, none⟩ = false :=
  ⟨by simp [World.cell?, h, hv], by simp [World.frozen?, h]⟩

theorem ni_start {W : World} {B g o cap gr ge p3 : Nat} {L : List Nd} {Z : Array Value} (hZ : Z.toList = List.replicate L.length (.bool false)) (hr : W.heap[gr]? = some (.cells Z 4)) (he : W.heap[ge]? = some (.cells Z 4))
    (hp : W.heap[p3]? = some (.cells #[.slice (some ⟨g, o, none⟩) L.length cap, .slice (some ⟨gr, 0, none⟩) L.length L.length, .slice (some ⟨ge, 0, none⟩) L.length L.length] 51)) (hB : W.heap[B]? = some (.cells #[.slice (some ⟨g, o, none⟩) L.length cap] 22)) (hl : Lay W g o L) : NI B g o cap gr ge p3 L 0 W := by
  have hz : ∀ i, i < L.length → Z[i]? = some (.bool false) := fun i hi => by
    rw [← Array.getElem?_toList, hZ]
    simp [hi]
  exact ⟨⟨(Array.getElem?_eq_some_iff.1 hr).1, (Array.getElem?_eq_some_iff.1 he).1, fun i hi => (cell_block hr (hz i hi)).1, fun i hi => (cell_block he (hz i hi)).1⟩, fun i hi => (cell_block hr (hz i hi)).2, fun i hi => (cell_block he (hz i hi)).2,
    ⟨hl, (cell_block hB rfl).1⟩, (cell_block hp rfl).1, (cell_block hp rfl).1, (cell_block hp rfl).1⟩

theorem nw_loop2 (N : Nat) (wc : World) (B g o cap gr ge p3 : Nat) (L : List Nd) (t0 t1 t2 t5 t6 t7 t9 t10 t13 : Value) (Q : Exit → Act → World → Prop) (hL : L.length ≤ 1353245080300) (hw : Wy L) (ha : Ap N B g gr ge p3) (hni : NI B g o cap gr ge p3 L 0 wc) (hN : N < wc.heap.size)
    (hQ : ∀ (D : Nat) (W : World), wc.heap.size ≤ D → NI B g o cap gr ge p3 L L.length W → Below (N + 1) wc W → W.heap[D]? = some (.deferred (some [])) → Q .normal { tmps := #[t0, t1, t2, .pointer (some ⟨p3, 0, none⟩), undef, t5, t6, t7, .slice (some ⟨gr, 0, none⟩) L.length L.length, t9, t10, .slice (some ⟨ge, 0, none⟩) L.length L.length, .agg #[.slice (some ⟨g, o, none⟩) L.length cap, .slice (some ⟨gr, 0, none⟩) L.length L.length, .slice (some ⟨ge, 0, none⟩) L.length L.length], t13, .func (.func 56) #[] #[.pointer (some ⟨B, 0, none⟩)], undef, undef, undef, undef, undef, undef, undef, undef, undef, undef, undef, undef, undef, undef, undef, undef, undef], defers := [{ target := .collected D, args := #[] }] } W) :
    (Code.rangeFunc (Operand.tmp 14) #[15, 16] (Code.region 3 #[{ dst := some 4, op := Op.assign (Operand.tmp 15), type := 3, pos := "ways.go:20", after := #[], guard := none }] false)
      (Code.block 1 ((Code.region 4 ops4.toArray true).seq (Code.region 5 ops5.toArray true)))).wpIn Fence.wide 6 Tryd.prog Q { tmps := #[t0, t1, t2, .pointer (some ⟨p3, 0, none⟩), undef, t5, t6, t7, .slice (some ⟨gr, 0, none⟩) L.length L.length, t9, t10, .slice (some ⟨ge, 0, none⟩) L.length L.length, .agg #[.slice (some ⟨g, o, none⟩) L.length cap, .slice (some ⟨gr, 0, none⟩) L.length L.length, .slice (some ⟨ge, 0, none⟩) L.length L.length], t13, .func (.func 56) #[] #[.pointer (some ⟨B, 0, none⟩)], undef, undef, undef, undef, undef, undef, undef, undef, undef, undef, undef, undef, undef, undef, undef, undef, undef], defers := [] } wc :=
  nw_loop N wc B g o cap gr ge p3 L _ _ _ _ _ _ _ _ _ _ _ _ Q hL hw ha hni hN hQ

theorem ret22 {tm : Array Value} {N D : Nat} {W : World} {a b c : Value} {R : Ending → World → Prop} (ca : W.cell? ⟨N, 0, none⟩ = some a) (cb : W.cell? ⟨N, 1, none⟩ = some b) (cc : W.cell? ⟨N, 2, none⟩ = some c) (h2 : tm[2]?.getD undef = .pointer (some ⟨N, 0, none⟩)) (hK : W.heap[D]? = some (.deferred (some [])))
    (hR : R (.returned (.agg #[a, b, c])) (W.putObj D (.deferred none))) : bodyPostM Fence.wide 6 Tryd.prog Tryd.f22 R Exit.ret { tmps := tm, defers := [{ target := .collected D, args := #[] }] } W := by
  refine ⟨by simp, .inl ⟨_, _, rfl, run_takeDeferred hK, ?_⟩⟩
  have e0 := cell_kept ca (grownBy_putObj' _ D (.deferred none)) (fun r e => by cases e; exact ⟨_, hK, rfl⟩)
  have e1 := cell_kept cb (grownBy_putObj' _ D (.deferred none)) (fun r e => by cases e; exact ⟨_, hK, rfl⟩)
  have e2 := cell_kept cc (grownBy_putObj' _ D (.deferred none)) (fun r e => by cases e; exact ⟨_, hK, rfl⟩)
  refine ⟨.agg #[a, b, c], ?_, hR⟩
  simp [results, Tryd.results22, go_sem, h2, e0, e1, e2]

theorem nw_fin {w wc W : World} {B g o cap gr ge p3 D : Nat} {L : List Nd} {a b c x0 x1 x2 : Value} {tm : Array Value} (hi : NI B g o cap gr ge p3 L L.length W) (h1 : w.heap.size < gr) (h2 : w.heap.size < ge) (hwc : Below w.heap.size w wc) (hB : Below (w.heap.size + 1) wc W) (hD : wc.heap.size ≤ D) (hK : W.heap[D]? = some (.deferred (some [])))
    (k0 : W.cell? ⟨w.heap.size, 0, none⟩ = some x0) (k1 : W.cell? ⟨w.heap.size, 1, none⟩ = some x1) (k2 : W.cell? ⟨w.heap.size, 2, none⟩ = some x2) (ha : a = .slice (some ⟨g, o, none⟩) L.length cap) (hb : b = .slice (some ⟨gr, 0, none⟩) L.length L.length) (hc : c = .slice (some ⟨ge, 0, none⟩) L.length L.length) (ht : tm[2]?.getD undef = .pointer (some ⟨w.heap.size, 0, none⟩)) :
    bodyPostM Fence.wide 6 Tryd.prog Tryd.f22 (fun e w' => (∃ gr ge, e = .returned (.agg #[.slice (some ⟨g, o, none⟩) L.length cap, .slice (some ⟨gr, 0, none⟩) L.length L.length, .slice (some ⟨ge, 0, none⟩) L.length L.length]) ∧ Hid (Tb w' gr ge L.length (tbl L L.length))) ∧ Below w.heap.size w w') Exit.ret { tmps := tm, defers := [{ target := .collected D, args := #[] }] } (((W.setCell ⟨w.heap.size, 0, none⟩ a).setCell ⟨w.heap.size, 1, none⟩ b).setCell ⟨w.heap.size, 2, none⟩ c) := by
  have hne : ∀ {b c : Nat} {i j : Nat}, b ≠ c → (⟨b, i, none⟩ : Addr) ≠ ⟨c, j, none⟩ := fun hbc e => hbc (by cases e; rfl)
  have hno : ∀ {b i j : Nat}, i ≠ j → (⟨b, i, none⟩ : Addr) ≠ ⟨b, j, none⟩ := fun hij e => hij (by cases e; rfl)
  have c0 : (((W.setCell ⟨w.heap.size, 0, none⟩ a).setCell ⟨w.heap.size, 1, none⟩ b).setCell ⟨w.heap.size, 2, none⟩ c).cell? ⟨w.heap.size, 0, none⟩ = some a := by
    rw [other _ _ _ _ (hno (by omega)), other _ _ _ _ (hno (by omega))]
    exact set_same k0 _
  have c1 : (((W.setCell ⟨w.heap.size, 0, none⟩ a).setCell ⟨w.heap.size, 1, none⟩ b).setCell ⟨w.heap.size, 2, none⟩ c).cell? ⟨w.heap.size, 1, none⟩ = some b := by
    rw [other _ _ _ _ (hno (by omega))]
    exact set_same (v := x1) (by rw [other _ _ _ _ (hno (by omega))]; exact k1) _
  have c2 : (((W.setCell ⟨w.heap.size, 0, none⟩ a).setCell ⟨w.heap.size, 1, none⟩ b).setCell ⟨w.heap.size, 2, none⟩ c).cell? ⟨w.heap.size, 2, none⟩ = some c :=
    set_same (v := x2) (by rw [other _ _ _ _ (hno (by omega)), other _ _ _ _ (hno (by omega))]; exact k2) _
  have hko : KeepsOthers W (((W.setCell ⟨w.heap.size, 0, none⟩ a).setCell ⟨w.heap.size, 1, none⟩ b).setCell ⟨w.heap.size, 2, none⟩ c) := ((KeepsOthers.setCell _ _ _).trans (KeepsOthers.setCell _ _ _)).trans (KeepsOthers.setCell _ _ _)
  have hK' := hko.same D _ hK rfl
  have hoc : ∀ {B i : Nat} {v : Value}, w.heap.size < B → W.cell? ⟨B, i, none⟩ = some v → ((((W.setCell ⟨w.heap.size, 0, none⟩ a).setCell ⟨w.heap.size, 1, none⟩ b).setCell ⟨w.heap.size, 2, none⟩ c).putObj D (.deferred none)).cell? ⟨B, i, none⟩ = some v := fun {B i v} hlt hv => by
    refine cell_kept ?_ (grownBy_putObj' _ D (.deferred none)) (fun r e => by cases e; exact ⟨_, hK', rfl⟩)
    rw [other _ _ _ _ (hne (by omega)), other _ _ _ _ (hne (by omega)), other _ _ _ _ (hne (by omega))]
    exact hv
  have hs1 := hwc.size
  have hs2 := hB.size
  refine ret22 c0 c1 c2 ht hK' ⟨⟨gr, ge, by rw [ha, hb, hc], ⟨?_, ?_, fun i hi' => hoc h1 (hi.tb.r i hi'), fun i hi' => hoc h2 (hi.tb.e i hi')⟩⟩, ?_⟩
  · exact Nat.lt_of_lt_of_le hi.tb.lr (Nat.le_trans hko.size (grownBy_putObj' _ D (.deferred none)).size)
  · exact Nat.lt_of_lt_of_le hi.tb.le (Nat.le_trans hko.size (grownBy_putObj' _ D (.deferred none)).size)
  · have hb3 := (((hwc.trans (hB.mono (Nat.le_succ _))).setCell (p := ⟨w.heap.size, 0, none⟩) (Nat.le_refl _) a).setCell (p := ⟨w.heap.size, 1, none⟩) (Nat.le_refl _) b).setCell (p := ⟨w.heap.size, 2, none⟩) (Nat.le_refl _) c
    exact hb3.trans (belowK_b (w := w) (Nat.le_refl _) _ D _ _ (by omega) hK' rfl rfl)

set_option maxRecDepth 100000 in
set_option maxHeartbeats 4000000 in
theorem newWays_any (w : World) (g o cap : Nat) (L : List Nd) (hL : L.length ≤ 1353245080300) (hw : Wy L) (h : Hid (Lay w g o L)) :
    Calls Tryd.prog 22 #[.slice (some ⟨g, o, none⟩) L.length cap] w fun e w' => (∃ gr ge, e = .returned (.agg #[.slice (some ⟨g, o, none⟩) L.length cap, .slice (some ⟨gr, 0, none⟩) L.length L.length, .slice (some ⟨ge, 0, none⟩) L.length L.length]) ∧ Hid (Tb w' gr ge L.length (tbl L L.length))) ∧ Below w.heap.size w w' := by
  obtain ⟨Z, hZ, hmk⟩ := run_make4 L.length hL
  have HZ : Hid (Z.toList = List.replicate L.length (.bool false)) := hZ
  have hlt := h.out.lt
  clear hZ
  refine (callsIn_wide (n := 6)).1 ?_
  refine callsIn_of_wp_marks Tryd.func22 rfl trivial ?_ rfl
  simp only [Tryd.ntmps22, List.size_toArray, List.length_cons, List.length_nil, Nat.reduceAdd, Nat.reduceSub, Array.replicate_succ, Array.replicate_zero, List.push_toArray, List.append_toArray, List.nil_append, List.cons_append]
  gi_wp2
  gi_region
  all_goals gi_wp2_with (refine ⟨trivial, ?_⟩; gi_at_call 35; refine (callsIn_wide.2 (backward_any _ _ _ _)).mono ?_; rintro e w' ⟨rfl, rfl⟩)
  all_goals
    refine nw_loop2 w.heap.size _ _ g o cap _ _ _ L _ _ _ _ _ _ _ _ _ _ hL hw (by constructor <;> omega) (ni_start HZ.out (by simp only [hgDrew, hgAlloc, World.size_alloc]; simp) (by simp only [hgDrew, hgAlloc, World.size_alloc]; simp) (by simp only [hgDrew, hgAlloc, World.size_alloc]; simp) (by simp only [hgDrew, hgAlloc, World.size_alloc]; simp) (h.out.next ((((((Below.refl _ w).alloc (Nat.le_refl _) _).alloc (by simp) _).alloc (by simp; omega) _).alloc (by simp; omega) _).alloc (by simp; omega) _).drew)) (by rw [hgSize]; simp; omega) ?_
    intro D W hD hi hB hK
    have hR : W.heap[w.heap.size]? = some (.cells #[.slice none 0 0, .slice none 0 0, .slice none 0 0] 51) := (hB.block _ (Nat.lt_succ_self _)).trans (by simp only [hgDrew, hgAlloc, World.size_alloc]; rw [if_neg (by omega), if_neg (by omega), if_neg (by omega), if_neg (by omega), if_pos trivial])
    have k0 := cell_block (k := 0) hR rfl
    have k1 := cell_block (k := 1) hR rfl
    have k2 := cell_block (k := 2) hR rfl
    have p0 := hi.p0
    have p1 := hi.p1
    have p2 := hi.p2
    have HI : Hid (NI _ g o cap _ _ _ L L.length W) := hi
    have HB : Hid (Below (w.heap.size + 1) _ W) := hB
    clear hi hB hR
    gi_wp2
    exact nw_fin HI.out (by omega) (by omega) ((((((Below.refl _ w).alloc (Nat.le_refl _) _).alloc (by simp) _).alloc (by simp; omega) _).alloc (by simp; omega) _).alloc (by simp; omega) _).drew HB.out hD hK k0.1 k1.1 k2.1 rfl rfl rfl rfl

end Go.Proofs.YtlocaalipjjnpaaDoor
