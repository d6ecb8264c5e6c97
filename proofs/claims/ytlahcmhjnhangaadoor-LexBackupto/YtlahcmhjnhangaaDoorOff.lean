import Derived.Maps.AppendAt
import Derived.Laws.OwnMore
import Derived.Test.YtlahcmhjnhangaaDoorSame
namespace Go.Proofs.YtlahcmhjnhangaaDoor
open Go.RowKit

theorem Reads.below {w w' : World} {v : Value} {l : List (Nat × Tk)} (h : Reads w v l) (hb : Below w.heap.size w w') : Reads w' v l := by
  rcases h with h | ⟨g, cap, h1, h2, h3, h4⟩
  · exact Or.inl h
  · exact Or.inr ⟨g, cap, h1, h2, Nat.lt_of_lt_of_le h3 hb.size, fun j u hu => (hb.cell (p := ⟨g, j, none⟩) h3).trans (h4 j u hu)⟩
/-- Tokens in another block than the one that is written. -/
theorem Reads.off {w w' : World} {v : Value} {l : List (Nat × Tk)} {row : Option Nat} (h : Reads w v l) (hg : w.grownBy w' row) (hne : ∀ k, v.ownBlock = some k → some k ≠ row) : Reads w' v l := by
  rcases h with h | ⟨g, cap, h1, h2, h3, h4⟩
  · exact Or.inl h
  · subst h1
    exact Or.inr ⟨g, cap, rfl, h2, Nat.lt_of_lt_of_le h3 hg.size, fun j u hu => (hg.cell_far ⟨g, j, none⟩ h3 (hne g rfl)).trans (h4 j u hu)⟩

theorem grown_refl (w : World) (row : Option Nat) : w.grownBy w row := ⟨rfl, rfl, rfl, Nat.le_refl _, fun _ _ _ => rfl⟩
theorem grown_set {w w' : World} {g : Nat} (h : w.grownBy w' (some g)) (j : Nat) (u : Value) : w.grownBy (w'.setCell ⟨g, j, none⟩ u) (some g) :=
  ⟨h.os, h.tape, h.output, by simp [World.setCell]; exact h.size, fun k hk hne => (Below.heap_setCell w' ⟨g, j, none⟩ u k (fun e => hne (by rw [e]))).trans (h.block k hk hne)⟩
theorem grown_drew {w w' : World} {row : Option Nat} (h : w.grownBy w' row) : w.grownBy w'.drew row := ⟨h.os, h.tape, h.output, h.size, h.block⟩
theorem grown_below2 {w w' w'' : World} {row : Option Nat} (h : w.grownBy w' row) (hb : Below w'.heap.size w' w'') : w.grownBy w'' row :=
  ⟨hb.os.trans h.os, hb.tape.trans h.tape, hb.output.trans h.output, Nat.le_trans h.size hb.size, fun k hk hne => (hb.block k (Nat.lt_of_lt_of_le hk h.size)).trans (h.block k hk hne)⟩

/-- A row of the call's own, whatever it holds. -/
structure RowB (w : World) (g cap : Nat) : Prop where
  ex : ∃ cur : Array Value, w.heap[g]? = some (.cells cur 35) ∧ cur.size = cap * 5
theorem RowB.cell {w : World} {g cap : Nat} (h : RowB w g cap) (j : Nat) (hj : j < cap * 5) : (w.cell? ⟨g, j, none⟩).isSome = true ∧ w.frozen? ⟨g, j, none⟩ = false := by
  obtain ⟨cur, hc, hs⟩ := h.ex
  constructor
  · simp only [World.cell?, hc]
    simp [Array.getElem?_eq_getElem (show j < cur.size by omega)]
  · simp only [World.frozen?, hc]
    simp
theorem RowB.set {w : World} {g cap : Nat} (h : RowB w g cap) (j : Nat) (u : Value) : RowB (w.setCell ⟨g, j, none⟩ u) g cap := by
  obtain ⟨cur, hc, hs⟩ := h.ex
  exact ⟨cur.setIfInBounds j u, heap_setCell_same w g j cur 35 u hc, by simpa using hs⟩

/-- A token more, whatever the row holds. -/
theorem wpList_appN {w0 w : World} {ops : Array Oper} {rest : List Oper} {o : Oper} {a : Act} {Q : Exit → Act → World → Prop} (hgd : o.guard = none) (s x : Operand)
    (ho : o.op = .call { callee := .builtin .append, args := #[s, x], argTypes := #[25, 25] }) (base : Nat) (row : Option Nat)
    (v : Value) (n : Nat) (hs : a.eval s = v) (hown : Hid (∃ xs, w.ownsRow base 35 5 v n xs)) (hG : Hid (w0.grownBy w row)) (hv : Hid (v.ownBlock = row ∨ ∃ k, v.ownBlock = some k ∧ w0.heap.size ≤ k)) (hbase : base ≤ w.heap.size) (C : Array Value) (k : Nat) (tk : Tk) (hC : C = (tkCells k tk).toArray) (hx : a.eval x = .slice (some ⟨w.heap.size, 0, none⟩) 1 1)
    (h40 : n + 1 ≤ 1073741824)
    (h : ∀ v' w', Hid (∃ xs, w'.ownsRow base 35 5 v' (n + 1) xs) → Hid (w0.grownBy w' row) → Hid (v'.ownBlock = row ∨ ∃ k, v'.ownBlock = some k ∧ w0.heap.size ≤ k) → Hid (w.heap.size ≤ w'.heap.size) → wpList Tryd.prog ops Q rest (a.put o.dst v') w') : wpList Tryd.prog ops Q (o :: rest) a (w.alloc (.cells C 35)) := by
  subst hC
  obtain ⟨xs, hxs⟩ := hown.out
  obtain ⟨i0, hi, hz0, hz1, hz2⟩ := info_parts info35
  obtain ⟨v', w', hr, h2, h3, _, h5⟩ := run_append_own_at (P := Tryd.prog) (w.alloc (.cells (tkCells k tk).toArray 35)) base 25 o.type 35 i0 _ 5 48 Tryd.underlying25 hi hz0 hz1 hz2 rfl (by decide) v n xs (hxs.alloc _) ⟨w.heap.size, 0, none⟩ 1 1 (tkCells k tk) rfl
    (World.news_of_block (heap_alloc_new w _)) (tk_one k tk) (by unfold maxLen; omega) (by omega) (by simp; omega)
  refine wpList_plain hgd fun K hK => ?_
  unfold Oper.wp execOp
  simp only [ho, resolve, invoke, builtin, Sem.run_bind, Sem.run_pure, Result.andThen_ok, List.map_toArray, List.map_cons, List.map_nil, hs, hx, hr]
  have hsz : w.heap.size ≤ w'.heap.size := by have := h3.size; simp at this; omega
  refine hK _ _ (h v' w' ⟨_, h2⟩ ?_ ?_ hsz)
  · refine ⟨h3.os.trans hG.out.os, h3.tape.trans hG.out.tape, h3.output.trans hG.out.output, Nat.le_trans hG.out.size hsz, fun q hq hne => ?_⟩
    have hqw : q < w.heap.size := Nat.lt_of_lt_of_le hq hG.out.size
    rw [h3.block q (by simp; omega) (by
      rcases hv.out with e | ⟨z, e, hz⟩
      · rw [e]; exact hne
      · rw [e]; intro hh; injection hh with hh; omega), heap_alloc_old w _ hqw]
    exact hG.out.block q hq hne
  · rcases h5 with h5 | h5
    · show _ ∨ _
      rw [h5]; exact hv.out
    · right
      refine ⟨_, h5, ?_⟩
      have := hG.out.size
      simp
      omega
end Go.Proofs.YtlahcmhjnhangaaDoor
