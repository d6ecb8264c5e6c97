import Derived.Laws.IdiomStrings
import Derived.Lib.SmallJoins
import Derived.Test.YtdmiciblfbkndaaDoorA04
namespace Go.Proofs.YtdmiciblfbkndaaDoor.Lx
open Go.RowKit

theorem conv_own {w : World} {base : Nat} {v : Value} {n : Nat} {l : List UInt8} (h : w.ownsRow base 5 1 v n (bv l)) : (convert 75 9 v).run Tryd.prog w = .ok (.string ⟨l.toArray⟩) w := by
  have hn : n = l.length := by have := h.1; rw [bv_len] at this; omega
  rcases h.2 with ⟨rfl, h0⟩ | ⟨g, cap, cur, rfl, hb, hg, hnc, hcm, hcs, htake⟩
  · have hl : l = [] := List.eq_nil_of_length_eq_zero (by omega)
    subst hl
    exact run_convert_bytes_nil w 75 5 Tryd.underlying75 Tryd.underlying5 0 0 9 Tryd.underlying9
  · subst hn
    refine run_convert_bytes_back (P := Tryd.prog) w 75 9 5 ⟨g, 0, none⟩ cap l Tryd.underlying75 Tryd.underlying5 Tryd.underlying9 (fun j hj => ?_)
    exact h.cells (g := g) rfl j _ (by unfold bv; rw [List.getElem?_map, List.getElem?_eq_getElem hj]; rfl)



/-- One byte is appended; the world before and all that is owned is carried along. -/
theorem wpList_app1 {w0 w : World} {ops : Array Oper} {rest : List Oper} {o : Oper} {a : Act} {Q : Exit → Act → World → Prop} (hgd : o.guard = none) (s x : Operand)
    (ho : o.op = .call { callee := .builtin .append, args := #[s, x], argTypes := #[75, 75] })
    (v : Value) (n : Nat) (l : List UInt8) (hs : a.eval s = v) (hown : Hid (w.ownsRow w0.heap.size 5 1 v n (bv l))) (hB : Hid (Below w0.heap.size w0 w)) (c : UInt8) (hx : a.eval x = .slice (some ⟨w.heap.size, 0, none⟩) 1 1)
    (h40 : n + 1 ≤ 1099511627776)
    (h : ∀ v' w', Hid (w'.ownsRow w0.heap.size 5 1 v' (n + 1) (bv (l ++ [c]))) → Hid (Below w0.heap.size w0 w') → wpList Tryd.prog ops Q rest (a.put o.dst v') w') : wpList Tryd.prog ops Q (o :: rest) a (w.alloc (.cells #[.int .u8 (c.toNat : Int)] 5)) :=
  wpList_appB hgd s x ho w0.heap.size v n l hs (hown.out.alloc _) w.heap.size 1 1 [c] hx rfl (World.news_of_block (heap_alloc_new w _)) h40 (by have := hB.out.size; simp; omega)
    (fun v' w' h1 h2 => h v' w' h1 (hB.out.trans (Below.after_alloc h2 hB.out.size)))

theorem build1 (c : UInt8) (w : World) : ∃ w0, w0 = w.alloc (.cells #[.int .u8 (c.toNat : Int)] 5) ∧ w0.ownsRow w.heap.size 5 1 (.slice (some ⟨w.heap.size, 0, none⟩) 1 1) 1 (bv [c]) ∧ Below w.heap.size w w0 := by
  refine ⟨_, rfl, ⟨rfl, Or.inr ⟨w.heap.size, 1, _, rfl, Nat.le_refl _, heap_alloc_new w _, Nat.le_refl _, by unfold maxLen; omega, rfl, rfl⟩⟩, (Below.refl _ w).alloc (Nat.le_refl _) _⟩

end Go.Proofs.YtdmiciblfbkndaaDoor.Lx
