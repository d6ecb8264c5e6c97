import Derived.Test.YtcjnejdemfemfaaGreatDoorCPe
namespace Go.Proofs.YtcjnejdemfemfaaGreatDoor
open Go.RowKit

theorem step_run {P : Program} {w : World} {ops : Array Oper} {o : Oper} {a : Act} {K : Act → World → Prop} {Q : Exit → Act → World → Prop} {E : Prop} {v' : Value} {w' : World} (hgd : o.guard = none) (s x : Operand) (t t2 ty : TypeId)
    (ho : o.op = .call { callee := .builtin .append, args := #[s, x], argTypes := #[t, t2] }) (hty : o.type = ty) (va vb : Value) (hs : a.eval s = va) (hx : a.eval x = vb) (hr : (Builtin.append_ #[t, t2] ty #[va, vb]).run P w = .ok v' w') (h : K (a.put o.dst v') w') : if Region.wanted o (yielded ops a.tmps) = true then Oper.wp P o a w K Q else E := by
  have hw : Region.wanted o (yielded ops a.tmps) = true := by simp [Region.wanted, hgd]
  rw [if_pos hw]
  unfold Oper.wp execOp
  subst hty
  simp only [ho, resolve, invoke, builtin, Sem.run_bind, Sem.run_pure, Result.andThen_ok, List.map_toArray, List.map_cons, List.map_nil, hs, hx, hr]
  exact h
theorem iw_size {x : In} (h : insS x = true) : (∀ s ∈ iwB x, s.size ≤ 100000000) ∧ (iwB x).length ≤ 1000 := by
  obtain ⟨⟨a0, a1⟩, b0, b1⟩ := ins_i64 h
  have h2 : (insW x).length ≤ 3 := by
    unfold insW
    simp only [List.length_append, List.length_cons, List.length_nil]
    split <;> split <;> simp
  refine ⟨fun s hs => ?_, by unfold iwB; rw [List.length_map]; omega⟩
  unfold iwB at hs
  obtain ⟨y, hy, rfl⟩ := List.mem_map.1 hs
  rw [bk_size]
  unfold insW at hy
  simp only [List.mem_append, List.mem_cons, List.not_mem_nil, or_false] at hy
  rcases hy with rfl | hy | hy
  · have := getD_len wdT 21 (by decide +kernel) x.1.toNat; omega
  · split at hy
    · cases hy
    · obtain rfl := List.mem_singleton.1 hy; have := opW_len (opA.getD x.1.toNat 0) _ a0 a1; omega
  · split at hy
    · cases hy
    · obtain rfl := List.mem_singleton.1 hy; have := opW_len (opB.getD x.1.toNat 0) _ b0 b1; omega
theorem ew_size {e : En} (h : EntOk e) : (∀ s ∈ ewB e, s.size ≤ 100000000) ∧ (ewB e).length ≤ 1000 := by
  have h2 : (entW e).length = 4 + e.sorts.length := by unfold entW; simp; omega
  have := h.sl
  refine ⟨fun s hs => ?_, by unfold ewB; rw [List.length_map]; omega⟩
  unfold ewB at hs
  obtain ⟨y, hy, rfl⟩ := List.mem_map.1 hs
  rw [bk_size]
  have := entW_word h y hy
  omega
end Go.Proofs.YtcjnejdemfemfaaGreatDoor

