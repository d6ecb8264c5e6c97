import Derived.Test.YtdcioemjmmhbhaaDoorRdEl
namespace Go.Proofs.YtdcioemjmmhbhaaDoor
open Go.RowKit

def inR (n : Int) : Prop := -9223372036854775808 ≤ n ∧ n ≤ 9223372036854775807
/-- The last array while its elements are read. -/
structure Half (w : World) (p lim : Nat) (A : Hp) (k : Int) (els : List V) (j c : Nat) (F : Nat → Prop) (q : Option Addr) (g o : Nat) : Prop where
  heap : ∃ As rq rn rg ro av, HeapG w p lim As rq rn rg ro av F (usedS (absA As), c) ∧ As.length = A.length + 1 ∧ absA As = A ++ [(k, els.take j ++ List.replicate (els.length - j) (k, 0, e0))] ∧ ∃ y, As[A.length]? = some y ∧ y.q = q ∧ y.g = g ∧ y.o = o
theorem Half.same {w w' : World} {p lim : Nat} {A : Hp} {k : Int} {els : List V} {j c : Nat} {F : Nat → Prop} {q : Option Addr} {g o : Nat} (h : Half w p lim A k els j c F q g o) (hk : ∀ b, F b → w'.heap[b]? = w.heap[b]?) (hs : w.heap.size ≤ w'.heap.size) : Half w' p lim A k els j c F q g o := by
  obtain ⟨As, rq, rn, rg, ro, av, h1, h2⟩ := h.heap
  exact ⟨⟨As, rq, rn, rg, ro, av, h1.same hk hs, h2⟩⟩
theorem Half.flt {w : World} {p lim : Nat} {A : Hp} {k : Int} {els : List V} {j c : Nat} {F : Nat → Prop} {q : Option Addr} {g o : Nat} (h : Half w p lim A k els j c F q g o) : ∀ b, F b → b < w.heap.size := by
  obtain ⟨As, rq, rn, rg, ro, av, h1, h2⟩ := h.heap
  exact h1.flt
theorem Half.next {w w' : World} {p lim : Nat} {A : Hp} {k : Int} {els : List V} {j c : Nat} {F : Nat → Prop} {q : Option Addr} {g o : Nat} (h : Half w p lim A k els j c F q g o) (b : Below w.heap.size w w') : Half w' p lim A k els j c F q g o := h.same (fun x hx => b.block x (h.flt x hx)) b.size
theorem Half.kept {w w' : World} {p lim : Nat} {A : Hp} {k : Int} {els : List V} {j c : Nat} {F G : Nat → Prop} {q : Option Addr} {g o : Nat} (h : Half w p lim A k els j c F q g o) (b : Kp G w w') (hd : ∀ x, F x → ¬ G x) : Half w' p lim A k els j c F q g o := h.same (fun x hx => b.block x (h.flt x hx) (hd x hx)) b.size
theorem modify_last {α : Type} (l : List α) (x : α) (f : α → α) : (l ++ [x]).modify l.length f = l ++ [f x] := by
  induction l with
  | nil => rfl
  | cons a l ih => rw [List.cons_append, List.length_cons, List.modify_succ_cons, ih]; rfl
/-- Its next element. -/
theorem Half.put {w : World} {p lim : Nat} {A : Hp} {k : Int} {els : List V} {j c : Nat} {F : Nat → Prop} {q : Option Addr} {g o : Nat} (h : Half w p lim A k els j c F q g o) (hj : j < els.length) (hm : mayS els[j] k c = true) :
    (q = some ⟨g, o, none⟩ ∧ w.there g (o + j * 3) 3 ∧ F g) ∧ Half (w.setCells g (o + j * 3) (vc els[j])) p lim A k els (j + 1) c F q g o := by
  obtain ⟨As, rq, rn, rg, ro, av, h1, h2, h3, y, h4, rfl, rfl, rfl⟩ := h.heap
  have hA : A.length < As.length := by omega
  have hy : As[A.length] = y := by rw [List.getElem?_eq_getElem hA] at h4; exact Option.some.inj h4
  have hab : (absA As)[A.length]? = some (k, els.take j ++ List.replicate (els.length - j) (k, 0, e0)) := by rw [h3]; simp
  have hye : y.kind = k ∧ y.els = els.take j ++ List.replicate (els.length - j) (k, 0, e0) := by
    unfold absA at hab
    rw [List.getElem?_map, h4] at hab
    have := Option.some.inj hab
    exact ⟨congrArg Prod.fst this, congrArg Prod.snd this⟩
  have hyl : y.els.length = els.length := by rw [hye.2, List.length_append, List.length_take, List.length_replicate]; omega
  have hne : y.els ≠ [] := fun e => by rw [e] at hyl; simp at hyl; omega
  obtain ⟨e1, e2, e3, e4⟩ := h1.els y (List.mem_of_getElem? h4) hne
  refine ⟨⟨e1, e2.there _ _ (by omega), e4⟩, ?_⟩
  have hp := h1.put A.length j hA (by rw [hy]; omega) els[j] (by rw [hy, hye.1]; exact hm)
  have hset : y.els.set j els[j] = els.take (j + 1) ++ List.replicate (els.length - (j + 1)) (k, 0, e0) := by
    rw [hye.2, List.set_append_right _ _ (by rw [List.length_take]; omega), List.length_take, Nat.min_eq_left (by omega), Nat.sub_self, List.take_succ_eq_append_getElem hj]
    rw [show els.length - j = (els.length - (j + 1)) + 1 by omega, List.replicate_succ, List.set_cons_zero, List.append_assoc]
    rfl
  have hab2 : absA (As.set A.length { As[A.length] with els := As[A.length].els.set j els[j] }) = A ++ [(k, els.take (j + 1) ++ List.replicate (els.length - (j + 1)) (k, 0, e0))] := by
    rw [abs_put, h3, modify_last, ← hset, hye.2]
  have hu : usedS (absA (As.set A.length { As[A.length] with els := As[A.length].els.set j els[j] })) = usedS (absA As) := by
    apply used_congr
    unfold absA
    rw [List.map_map, List.map_map, map_set_same _ As A.length hA]
    simp
  refine ⟨As.set A.length { As[A.length] with els := As[A.length].els.set j els[j] }, rq, rn, rg, ro, av, ?_, by rw [List.length_set]; exact h2, hab2, ?_⟩
  · rw [hu, ← hy]
    exact hp
  · refine ⟨{ As[A.length] with els := As[A.length].els.set j els[j] }, by rw [List.getElem?_set]; simp [hA], ?_, ?_, ?_⟩ <;> simp only [hy]

theorem arB_app (a : Int × List V) (b : List UInt8) : arB a ++ b = numB a.1 1 ++ (numB (a.2.length : Int) 8 ++ (a.2.flatMap elB ++ b)) := by
  have e : numB a.1 1 = [byteOf a.1] := by simp [numB]
  unfold arB
  rw [e]
  simp
end Go.Proofs.YtdcioemjmmhbhaaDoor
