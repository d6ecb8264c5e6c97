import Derived.Test.YtfghajokmmlijaaDoorBox
namespace Go.Proofs.YtfghajokmmlijaaDoor
open Go.RowKit

/-- An Ask in memory. -/
def AskAt (W : World) (B : Nat) (op kd k n : Int) (s : ByteArray) (k' n' : Int) (s' : ByteArray) (k2 n2 : Int) (s2 : ByteArray) : Prop :=
  W.cell? ⟨B, 0, none⟩ = some (.int .i64 op) ∧ W.cell? ⟨B, 1, none⟩ = some (.int .i64 kd) ∧ W.cell? ⟨B, 2, none⟩ = some (.int .i64 k) ∧ W.cell? ⟨B, 3, none⟩ = some (.int .i64 n) ∧ W.cell? ⟨B, 4, none⟩ = some (.string s) ∧ W.cell? ⟨B, 5, none⟩ = some (.int .i64 k') ∧ W.cell? ⟨B, 6, none⟩ = some (.int .i64 n') ∧ W.cell? ⟨B, 7, none⟩ = some (.string s') ∧ W.cell? ⟨B, 8, none⟩ = some (.int .i64 k2) ∧ W.cell? ⟨B, 9, none⟩ = some (.int .i64 n2) ∧ W.cell? ⟨B, 10, none⟩ = some (.string s2)
theorem AskAt.new (W : World) (op kd k n : Int) (s : ByteArray) (k' n' : Int) (s' : ByteArray) (k2 n2 : Int) (s2 : ByteArray) (t : TypeId) : AskAt (W.alloc (.cells #[.int .i64 op, .int .i64 kd, .int .i64 k, .int .i64 n, .string s, .int .i64 k', .int .i64 n', .string s', .int .i64 k2, .int .i64 n2, .string s2] t)) W.heap.size op kd k n s k' n' s' k2 n2 s2 := by
  have h := World.alloc_heap_new W (.cells #[.int .i64 op, .int .i64 kd, .int .i64 k, .int .i64 n, .string s, .int .i64 k', .int .i64 n', .string s', .int .i64 k2, .int .i64 n2, .string s2] t)
  refine ⟨?_, ?_, ?_, ?_, ?_, ?_, ?_, ?_, ?_, ?_, ?_⟩
  all_goals (unfold World.cell?; rw [h]; rfl)
theorem AskAt.below {W W' : World} {B D : Nat} {op kd k n : Int} {s : ByteArray} {k' n' : Int} {s' : ByteArray} {k2 n2 : Int} {s2 : ByteArray} (h : AskAt W B op kd k n s k' n' s' k2 n2 s2) (hb : Below D W W') (hB : B < D) : AskAt W' B op kd k n s k' n' s' k2 n2 s2 := by
  obtain ⟨h0, h1, h2, h3, h4, h5, h6, h7, h8, h9, h10⟩ := h
  exact ⟨(hb.cell (p := ⟨B, 0, none⟩) hB).trans h0, (hb.cell (p := ⟨B, 1, none⟩) hB).trans h1, (hb.cell (p := ⟨B, 2, none⟩) hB).trans h2, (hb.cell (p := ⟨B, 3, none⟩) hB).trans h3, (hb.cell (p := ⟨B, 4, none⟩) hB).trans h4, (hb.cell (p := ⟨B, 5, none⟩) hB).trans h5, (hb.cell (p := ⟨B, 6, none⟩) hB).trans h6, (hb.cell (p := ⟨B, 7, none⟩) hB).trans h7, (hb.cell (p := ⟨B, 8, none⟩) hB).trans h8, (hb.cell (p := ⟨B, 9, none⟩) hB).trans h9, (hb.cell (p := ⟨B, 10, none⟩) hB).trans h10⟩
theorem AskAt.alloc {W : World} {B : Nat} {op kd k n : Int} {s : ByteArray} {k' n' : Int} {s' : ByteArray} {k2 n2 : Int} {s2 : ByteArray} (h : AskAt W B op kd k n s k' n' s' k2 n2 s2) (o : Obj) : AskAt (W.alloc o) B op kd k n s k' n' s' k2 n2 s2 := by
  obtain ⟨h0, h1, h2, h3, h4, h5, h6, h7, h8, h9, h10⟩ := h
  exact ⟨cell_alloc_l o h0, cell_alloc_l o h1, cell_alloc_l o h2, cell_alloc_l o h3, cell_alloc_l o h4, cell_alloc_l o h5, cell_alloc_l o h6, cell_alloc_l o h7, cell_alloc_l o h8, cell_alloc_l o h9, cell_alloc_l o h10⟩

end Go.Proofs.YtfghajokmmlijaaDoor
