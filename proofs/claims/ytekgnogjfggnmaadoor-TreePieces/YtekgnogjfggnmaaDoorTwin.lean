import Derived.Test.YtekgnogjfggnmaaDoorAlike
import Derived.Laws.CopyOwn
import Derived.Laws.MakeOwn
import Derived.Deep.MidRow
namespace Go.Proofs.YtekgnogjfggnmaaDoor
open Go.RowKit

/-- The cells of a list's nodes, one behind the other. -/
def flat (L : List Nd) : List Value := L.flatMap fun x => (ndV x).toList
theorem flat_len : ∀ L : List Nd, (flat L).length = L.length * 9
  | [] => rfl
  | x :: L => by
    have := flat_len L
    unfold flat at this ⊢
    rw [List.flatMap_cons, List.length_append, this, List.length_cons]
    show 9 + L.length * 9 = _
    omega
theorem flat_at : ∀ (L : List Nd) (i j : Nat), i < L.length → j < 9 → (flat L)[i * 9 + j]? = (ndV (nd L i))[j]?
  | [], i, j, h, _ => by simp at h
  | x :: L, 0, j, _, hj => by
    unfold flat
    rw [List.flatMap_cons, Nat.zero_mul, Nat.zero_add, List.getElem?_append_left (show j < 9 from hj)]
    simp [nd]
  | x :: L, i + 1, j, h, hj => by
    have := flat_at L i j (by simpa using h) hj
    unfold flat at this ⊢
    rw [List.flatMap_cons, List.getElem?_append_right (show 9 ≤ (i + 1) * 9 + j by omega)]
    rw [show (i + 1) * 9 + j - (ndV x).toList.length = i * 9 + j by show (i + 1) * 9 + j - 9 = _; omega, this]
    simp [nd]
theorem flat_one (L : List Nd) : ∀ v ∈ flat L, v.oneCell' = true := by
  intro v hv
  obtain ⟨x, _, hx⟩ := List.mem_flatMap.1 hv
  simp only [ndV, List.mem_cons, List.not_mem_nil, or_false] at hx
  rcases hx with rfl | rfl | rfl | rfl | rfl | rfl | rfl | rfl | rfl <;> rfl
theorem lay_of_range {w : World} {B : Nat} {L : List Nd} (hB : B < w.heap.size) (h : w.rangeAt B 0 (flat L)) : Lay w B 0 L :=
  ⟨hB, fun i hi j v hv => by
    have hj : j < 9 := (Array.getElem?_eq_some_iff.1 hv).1
    have := h (i * 9 + j) v (by rw [flat_at L i j hi hj]; exact hv)
    rw [Nat.zero_add] at this ⊢
    exact this⟩

theorem info36 : (Tryd.prog.info? 36).map (fun i => (i.zero, i.size, i.bytes)) = some (some (.agg #[.int .i64 0, .int .i64 0, .string ⟨#[]⟩, .string ⟨#[]⟩, .string ⟨#[]⟩, .int .i64 0, .int .i64 0, .string ⟨#[]⟩, .int .i64 0]), 9, 104) := by kernel_rfl
theorem size36 : (Tryd.prog.info? 36).map (·.size) = some 9 := by kernel_rfl

/-- A copy of nodes. -/
theorem run_copy9 (w : World) (ty : TypeId) (B dLen dCap : Nat) (a : Addr) (n sCap : Nat) (cs : List Value) (hl : cs.length = n * 9) (hd : n ≤ dLen)
    (hsrc : ∀ j v, cs[j]? = some v → w.cell? (a.add j) = some v) (ht : w.there B 0 cs.length) (h1 : ∀ v ∈ cs, v.oneCell' = true) :
    (Builtin.copy_ #[22, 22] ty #[.slice (some ⟨B, 0, none⟩) dLen dCap, .slice (some a) n sCap]).run Tryd.prog w = .ok (goInt n) (w.setCells B 0 cs) := by
  have hll := run_loadCells_list (P := Tryd.prog) w a cs hsrc
  have hst := run_storeCells_cells (P := Tryd.prog) B 0 cs 0 w (fun j hj => by simpa using (ht j hj).1) (fun j hj => by simpa using (ht j hj).2) h1
  obtain ⟨i, hq, _, hi, _⟩ := info_parts info36
  have hm : min n dLen = n := by omega
  rw [hl] at hll
  simp [Builtin.copy_, run_underlying Tryd.underlying22, Builtin.lenOf, Builtin.firstCells, sizeOf, typeInfo, hq, hi, hm, hll, hst]

theorem wpList_copy9 {w : World} {ops : Array Oper} {rest : List Oper} {o : Oper} {a : Act} {Q : Exit → Act → World → Prop} (hgd : o.guard = none) (d s : Operand)
    (ho : o.op = .call { callee := .builtin .copy, args := #[d, s], argTypes := #[22, 22] }) (B dLen dCap : Nat) (ad : Addr) (n sCap : Nat) (hd : a.eval d = .slice (some ⟨B, 0, none⟩) dLen dCap) (hs : a.eval s = .slice (some ad) n sCap)
    (cs : List Value) (hl : cs.length = n * 9) (hn : n ≤ dLen) (hsrc : ∀ j v, cs[j]? = some v → w.cell? (ad.add j) = some v) (ht : w.there B 0 cs.length) (h1 : ∀ v ∈ cs, v.oneCell' = true)
    (h : wpList Tryd.prog ops Q rest (a.put o.dst (goInt n)) (w.setCells B 0 cs)) : wpList Tryd.prog ops Q (o :: rest) a w := by
  refine wpList_plain hgd fun K hK => ?_
  have hrun := run_copy9 w o.type B dLen dCap ad n sCap cs hl hn hsrc ht h1
  unfold Oper.wp
  simp [execOp, ho, resolve, invoke, builtin, hd, hs, hrun, Result.andThen]
  exact hK _ _ h

end Go.Proofs.YtekgnogjfggnmaaDoor
