import Derived.Test.YtgncoeihlfcaiaaDoorStep
import Derived.Test.YtgncoeihlfcaiaaDoorAny
namespace Go.Proofs.YtgncoeihlfcaiaaDoor
open Go.RowKit

/-- A call whose answer is known, as an operation. -/
theorem op_call {w : World} {o : Oper} {a : Act} {K : Act → World → Prop} {Q : Exit → Act → World → Prop} (f : FuncId) (xs : List Operand) (ts : Array TypeId) (us : List Value) (v : Value)
    (ho : o.op = .call { callee := .value (.func f), args := xs.toArray, argTypes := ts }) (hx : xs.map a.eval = us) (hcf : (callFunc f us.toArray).run Tryd.prog w = .ok (.enter f us.toArray) w)
    (hc : Calls Tryd.prog f us.toArray w fun e w' => e = .returned v ∧ Below w.heap.size w w') (hK : ∀ w', Below w.heap.size w w' → K (a.put o.dst v) w') : o.wp Tryd.prog a w K Q := by
  have hf : a.eval (.func f) = .func (.func f) #[] #[] := rfl
  have hr : (execOp a.eval o).run Tryd.prog w = .ok (.enter f us.toArray) w := by
    unfold execOp
    simp only [ho, resolve, invoke, Sem.run_bind, List.map_toArray, hx, hf]
    simp [go_sem, hcf]
  unfold Oper.wp
  rw [hr, Oper.upon_enter]
  refine hc.mono ?_
  rintro e w' ⟨rfl, hb⟩
  exact hK _ hb

/-- A text is appended to a list of the call's own, as an operation. -/
theorem op_app {w : World} {o : Oper} {a : Act} {K : Act → World → Prop} {Q : Exit → Act → World → Prop} (s x : Operand)
    (ho : o.op = .call { callee := .builtin .append, args := #[s, x], argTypes := #[26, 26] }) (base : Nat) (v : Value) (l : List ByteArray) (hs : a.eval s = v) (hown : w.ownsRow base 9 1 v l.length (tc l))
    (ad : Addr) (c : Nat) (t : ByteArray) (hx : a.eval x = .slice (some ad) 1 c) (hnews : w.cell? ad = some (.string t)) (h40 : l.length + 1 ≤ 4294967296) (hbase : base ≤ w.heap.size)
    (h : ∀ v' w', w'.ownsRow base 9 1 v' (l ++ [t]).length (tc (l ++ [t])) → w.grownBy w' v.ownBlock → K (a.put o.dst v') w') : o.wp Tryd.prog a w K Q := by
  obtain ⟨i0, hi, hz0, hz1, hz2⟩ := info_parts info9
  obtain ⟨v', w', hr, h2, h3, _⟩ := app_one (P := Tryd.prog) (w := w) (base := base) 26 o.type i0 _ 16 Tryd.underlying26 hi hz0 hz1 hz2 rfl v l.length (tc l) hown ad c (.string t) hnews rfl (by unfold maxLen; omega) (by omega) hbase
  unfold Oper.wp execOp
  simp only [ho, resolve, invoke, builtin, Sem.run_bind, Sem.run_pure, Result.andThen_ok, List.map_toArray, List.map_cons, List.map_nil, hs, hx, hr]
  refine h v' w' ?_ h3
  rw [List.length_append, tc_append]
  exact h2
theorem call12 (a b c : Value) (w : World) : (callFunc 12 #[a, b, c]).run Tryd.prog w = .ok (.enter 12 #[a, b, c]) w := by kernel_rfl
theorem call13 (a b : Value) (w : World) : (callFunc 13 #[a, b]).run Tryd.prog w = .ok (.enter 13 #[a, b]) w := by kernel_rfl
end Go.Proofs.YtgncoeihlfcaiaaDoor
