import Derived.Deep.AppendLies
import Derived.Laws.MakeOwn
import Derived.OwnWalk
import Derived.Below
import Derived.WalkSmall
import Derived.WalkMore
import Derived.Deep.MidRow
import Derived.Test.YtlocaalipjjnpaaDoorProg
namespace Go.Proofs.YtlocaalipjjnpaaDoor
open Go.RowKit

theorem info3 : (Tryd.prog.info? 3).map (fun i => (i.zero, i.size, i.bytes)) = some (some (.int .i64 0), 1, 8) := by kernel_rfl

def iv (l : List Int) : List Value := l.map fun x => Value.int .i64 x
theorem iv_app (a b : List Int) : iv (a ++ b) = iv a ++ iv b := List.map_append
theorem iv_len (a : List Int) : (iv a).length = a.length := List.length_map ..

theorem own_ge {w : World} {base : Nat} {e : TypeId} {size : Nat} {v : Value} {n : Nat} {xs : List Value} (h : w.ownsRow base e size v n xs) : ∀ k, v.ownBlock = some k → base ≤ k := by
  intro k hk
  rcases h.2 with ⟨rfl, _⟩ | ⟨g, cap, cur, rfl, hb, _⟩
  · cases hk
  · simp only [Value.ownBlock, Option.some.injEq] at hk; omega
theorem own_stays {w w' : World} {base : Nat} {e : TypeId} {size : Nat} {v : Value} {n : Nat} {xs : List Value} (h : w.ownsRow base e size v n xs) (hb : Below w.heap.size w w') : w'.ownsRow base e size v n xs :=
  h.kept ⟨hb.os, hb.tape, hb.output, hb.size, fun k hk _ => hb.block k hk⟩ (row := none) (by cases hv : v.ownBlock with | none => exact Or.inl rfl | some k => exact Or.inr (by simp))
/-- A row's form: nothing, or a slice from a block's beginning on. -/
theorem own_form {w : World} {base : Nat} {e : TypeId} {v : Value} {l : List Int} (h : w.ownsRow base e 1 v l.length (iv l)) :
    (v = .slice none 0 0 ∧ l = []) ∨ ∃ g cap, v = .slice (some ⟨g, 0, none⟩) l.length cap ∧ l.length ≤ cap ∧ ∀ j x, l[j]? = some x → w.cell? ⟨g, j, none⟩ = some (.int .i64 x) := by
  rcases h.2 with ⟨rfl, hn⟩ | ⟨g, cap, cur, hv, hb, hg, hnc, hcm, hcs, htake⟩
  · exact .inl ⟨rfl, List.length_eq_zero_iff.1 hn⟩
  · refine .inr ⟨g, cap, hv, hnc, fun j x hx => ?_⟩
    have := h.cells (g := g) (by rw [hv]; rfl) j (.int .i64 x) (by unfold iv; rw [List.getElem?_map, hx]; rfl)
    rw [show (⟨g, 0, none⟩ : Addr).add j = ⟨g, j, none⟩ by by_cases hj : j = 0 <;> simp [Addr.add, hj]] at this
    exact this

/-- A number is appended. -/
theorem wpList_appI {w0 w : World} {ops : Array Oper} {rest : List Oper} {o : Oper} {a : Act} {Q : Exit → Act → World → Prop} (hgd : o.guard = none) (s x : Operand)
    (ho : o.op = .call { callee := .builtin .append, args := #[s, x], argTypes := #[25, 25] })
    (v : Value) (l : List Int) (hs : a.eval s = v) (hown : Hid (w.ownsRow w0.heap.size 3 1 v l.length (iv l))) (hB : Hid (Below w0.heap.size w0 w)) (k : Int) (H : Nat) (hH : w.heap.size = H) (hx : a.eval x = .slice (some ⟨H, 0, none⟩) 1 1)
    (h40 : l.length + 1 ≤ 1073741824)
    (h : ∀ v' w', Hid (w'.ownsRow w0.heap.size 3 1 v' (l ++ [k]).length (iv (l ++ [k]))) → Hid (Below w0.heap.size w0 w') → wpList Tryd.prog ops Q rest (a.put o.dst v') w') : wpList Tryd.prog ops Q (o :: rest) a (w.alloc (.cells #[.int .i64 k] 3)) := by
  subst hH
  obtain ⟨i0, hi, hz0, hz1, hz2⟩ := info_parts info3
  have hsz := hB.out.size
  obtain ⟨v', w', hr, h2, h3, _⟩ := run_append_own (P := Tryd.prog) (w.alloc (.cells #[.int .i64 k] 3)) w0.heap.size 25 o.type 3 i0 _ 1 8 Tryd.underlying25 hi hz0 hz1 hz2 rfl (by decide) v l.length (iv l) (hown.out.alloc _) ⟨w.heap.size, 0, none⟩ 1 1 [.int .i64 k] rfl
    (World.news_of_block (heap_alloc_new w _)) (by intro u hu; rw [List.mem_singleton.1 hu]; rfl) (by unfold maxLen; omega) (by omega) (by simp; omega)
  refine wpList_plain hgd fun K hK => ?_
  unfold Oper.wp execOp
  simp only [ho, resolve, invoke, builtin, Sem.run_bind, Sem.run_pure, Result.andThen_ok, List.map_toArray, List.map_cons, List.map_nil, hs, hx, hr]
  refine hK _ _ (h v' w' ?_ ?_)
  · show w'.ownsRow w0.heap.size 3 1 v' (l ++ [k]).length (iv (l ++ [k]))
    rw [iv_app, List.length_append]
    exact h2
  · exact (hB.out.alloc hsz _).grown h3 (by simp; omega) (own_ge hown.out)

/-- A number is appended: the row's form told. -/
theorem wpList_appJ {w0 w : World} {ops : Array Oper} {rest : List Oper} {o : Oper} {a : Act} {Q : Exit → Act → World → Prop} (hgd : o.guard = none) (s x : Operand)
    (ho : o.op = .call { callee := .builtin .append, args := #[s, x], argTypes := #[25, 25] })
    (v : Value) (l : List Int) (n : Nat) (hn : Hid (l.length + 1 = n)) (hs : a.eval s = v) (hown : Hid (w.ownsRow w0.heap.size 3 1 v l.length (iv l))) (hB : Hid (Below w0.heap.size w0 w)) (k : Int) (H : Nat) (hH : w.heap.size = H) (hx : a.eval x = .slice (some ⟨H, 0, none⟩) 1 1)
    (h40 : n ≤ 1073741824)
    (h : ∀ g cap w', Hid (w'.ownsRow w0.heap.size 3 1 (.slice (some ⟨g, 0, none⟩) n cap) (l ++ [k]).length (iv (l ++ [k]))) → Hid (Below w0.heap.size w0 w') → wpList Tryd.prog ops Q rest (a.put o.dst (.slice (some ⟨g, 0, none⟩) n cap)) w') : wpList Tryd.prog ops Q (o :: rest) a (w.alloc (.cells #[.int .i64 k] 3)) := by
  refine wpList_appI hgd s x ho v l hs hown hB k H hH hx (by rw [hn.out]; exact h40) (fun v' w' ho2 hb2 => ?_)
  rcases own_form ho2.out with ⟨_, hnil⟩ | ⟨g2, cap2, rfl, _, _⟩
  · exact absurd hnil (by simp)
  · have e : (l ++ [k]).length = n := by rw [List.length_append]; exact hn.out
    rw [e] at ho2 ⊢
    exact h g2 cap2 w' (by rw [e]; exact ho2) hb2

end Go.Proofs.YtlocaalipjjnpaaDoor
