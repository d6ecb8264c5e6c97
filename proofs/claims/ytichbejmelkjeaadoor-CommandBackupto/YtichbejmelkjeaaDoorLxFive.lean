import Derived.Test.YtichbejmelkjeaaDoorLxTabs
namespace Go.Proofs.YtichbejmelkjeaaDoor.Lx
open Go.RowKit

theorem five_set {w : World} {B : Nat} {a b c d e : Value} (h : Five w B a b c d e) (y0 y1 y2 y3 y4 : Value) :
    Five (((((w.setCell ⟨B, 0, none⟩ y0).setCell ⟨B, 1, none⟩ y1).setCell ⟨B, 2, none⟩ y2).setCell ⟨B, 3, none⟩ y3).setCell ⟨B, 4, none⟩ y4) B y0 y1 y2 y3 y4 := by
  have ot : ∀ (W : World) (i j : Nat) (y : Value), i ≠ j → (W.setCell ⟨B, j, none⟩ y).cell? ⟨B, i, none⟩ = W.cell? ⟨B, i, none⟩ := fun W i j y hij => World.cell?_setCell_other _ _ _ _ (fun e => hij (by cases e; rfl))
  refine ⟨?_, ?_, ?_, ?_, ?_, ?_⟩
  · rw [ot _ 0 4 _ (by omega), ot _ 0 3 _ (by omega), ot _ 0 2 _ (by omega), ot _ 0 1 _ (by omega)]
    exact World.cell?_setCell_same' _ _ _ (by rw [h.c0]; rfl)
  · rw [ot _ 1 4 _ (by omega), ot _ 1 3 _ (by omega), ot _ 1 2 _ (by omega)]
    exact World.cell?_setCell_same' _ _ _ (by rw [ot _ 1 0 _ (by omega), h.c1]; rfl)
  · rw [ot _ 2 4 _ (by omega), ot _ 2 3 _ (by omega)]
    exact World.cell?_setCell_same' _ _ _ (by rw [ot _ 2 1 _ (by omega), ot _ 2 0 _ (by omega), h.c2]; rfl)
  · rw [ot _ 3 4 _ (by omega)]
    exact World.cell?_setCell_same' _ _ _ (by rw [ot _ 3 2 _ (by omega), ot _ 3 1 _ (by omega), ot _ 3 0 _ (by omega), h.c3]; rfl)
  · exact World.cell?_setCell_same' _ _ _ (by rw [ot _ 4 3 _ (by omega), ot _ 4 2 _ (by omega), ot _ 4 1 _ (by omega), ot _ 4 0 _ (by omega), h.c4]; rfl)
  · intro j hj
    simp only [World.frozen?_setCell]
    exact h.f j hj
theorem below_set5 {w0 w : World} {B : Nat} (h : Below w0.heap.size w0 w) (hB : w0.heap.size ≤ B) (y0 y1 y2 y3 y4 : Value) :
    Below w0.heap.size w0 (((((w.setCell ⟨B, 0, none⟩ y0).setCell ⟨B, 1, none⟩ y1).setCell ⟨B, 2, none⟩ y2).setCell ⟨B, 3, none⟩ y3).setCell ⟨B, 4, none⟩ y4) :=
  ((((h.setCell (p := ⟨B, 0, none⟩) hB _).setCell (p := ⟨B, 1, none⟩) hB _).setCell (p := ⟨B, 2, none⟩) hB _).setCell (p := ⟨B, 3, none⟩) hB _).setCell (p := ⟨B, 4, none⟩) hB _

theorem five_range {w : World} {B : Nat} {a b c d e : Value} (h : Five w B a b c d e) : w.rangeAt B 0 [a, b, c, d, e] := by
  intro j v hv
  match j, hv with
  | 0, hv => cases hv; exact h.c0
  | 1, hv => cases hv; exact h.c1
  | 2, hv => cases hv; exact h.c2
  | 3, hv => cases hv; exact h.c3
  | 4, hv => cases hv; exact h.c4
  | n + 5, hv => simp at hv

theorem ret5 {w : World} {B : Nat} {a b c d e x : Value} {tm : Array Value} (hf : Five w B a b c d e) (h4 : tm[4]?.getD undef = .pointer (some ⟨B, 0, none⟩)) (h5 : tm[5]?.getD undef = x) :
    (results Tryd.f59 tm).run Tryd.prog w = .ok (.tuple #[.agg #[a, b, c, d, e], x]) w := by
  obtain ⟨c0, c1, c2, c3, c4, _⟩ := hf
  simp [results, Tryd.results59, go_sem, h4, h5, c0, c1, c2, c3, c4]
end Go.Proofs.YtichbejmelkjeaaDoor.Lx
