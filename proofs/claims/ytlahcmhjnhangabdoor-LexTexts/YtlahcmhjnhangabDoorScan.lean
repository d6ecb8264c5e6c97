import Derived.Test.YtlahcmhjnhangabDoorScanMath
import Derived.Deep.LoopGhost
import Derived.WalkMore
namespace Go.Proofs.YtlahcmhjnhangabDoor
open Go.RowKit

theorem info35 : (Tryd.prog.info? 24).map (fun i => (i.zero, i.size, i.bytes)) = some (some (.agg #[.int .i64 0, .int .i64 0, .int .i64 0, .string ⟨#[]⟩, .int .i64 0]), 5, 48) := by kernel_rfl

theorem tk_one (k : Nat) (x : Tk) : ∀ u ∈ tkCells k x, u.oneCell' = true := by
  intro u hu
  simp only [tkCells, List.mem_cons, List.not_mem_nil, or_false] at hu
  rcases hu with rfl | rfl | rfl | rfl | rfl <;> rfl

/-- A token is appended to the list. -/
theorem wpList_appT {w0 w : World} {ops : Array Oper} {rest : List Oper} {o : Oper} {a : Act} {Q : Exit → Act → World → Prop} (hgd : o.guard = none) (s x : Operand)
    (ho : o.op = .call { callee := .builtin .append, args := #[s, x], argTypes := #[33, 33] })
    (v : Value) (n : Nat) (l : List (Nat × Tk)) (hn : l.length = n) (hs : a.eval s = v) (hown : Hid (w.ownsRow w0.heap.size 24 5 v n (toksV l))) (hB : Hid (Below w0.heap.size w0 w)) (k : Nat) (tk : Tk) (C : Array Value) (hC : C = (tkCells k tk).toArray) (H : Nat) (hH : w.heap.size = H) (hx : a.eval x = .slice (some ⟨H, 0, none⟩) 1 1)
    (h40 : n + 1 ≤ 1073741824)
    (h : ∀ v' w', Hid (w'.ownsRow w0.heap.size 24 5 v' (n + 1) (toksV (l ++ [(k, tk)]))) → Hid (Below w0.heap.size w0 w') → Hid (∀ p : Addr, p.block < w.heap.size → some p.block ≠ v.ownBlock → w'.cell? p = w.cell? p) → wpList Tryd.prog ops Q rest (a.put o.dst v') w') : wpList Tryd.prog ops Q (o :: rest) a (w.alloc (.cells C 24)) := by
  subst hC hH
  obtain ⟨i0, hi, hz0, hz1, hz2⟩ := info_parts info35
  have hsz := hB.out.size
  obtain ⟨v', w', hr, h2, h3, _⟩ := run_append_own (P := Tryd.prog) (w.alloc (.cells (tkCells k tk).toArray 24)) w0.heap.size 33 o.type 24 i0 _ 5 48 Tryd.underlying33 hi hz0 hz1 hz2 rfl (by decide) v n (toksV l) (hown.out.alloc _) ⟨w.heap.size, 0, none⟩ 1 1 (tkCells k tk) rfl
    (World.news_of_block (heap_alloc_new w _)) (tk_one k tk) (by unfold maxLen; omega) (by omega) (by simp; omega)
  refine wpList_plain hgd fun K hK => ?_
  unfold Oper.wp execOp
  simp only [ho, resolve, invoke, builtin, Sem.run_bind, Sem.run_pure, Result.andThen_ok, List.map_toArray, List.map_cons, List.map_nil, hs, hx, hr]
  refine hK _ _ (h v' w' ?_ ?_ ?_)
  · show w'.ownsRow w0.heap.size 24 5 v' (n + 1) (toksV (l ++ [(k, tk)]))
    rw [toksV_app]
    have e : toksV [(k, tk)] = tkCells k tk := by simp [toksV]
    rw [e]
    exact h2
  · exact hB.out.trans (Below.after_alloc ((Below.refl _ _).grown h3 (by simp; omega) (own_ge hown.out)) hB.out.size)
  · intro p hp hne
    rw [h3.cell_far p (by simp; omega) hne, World.cell?_alloc_lt _ _ _ hp]

theorem own_lt {w : World} {base : Nat} {e : TypeId} {size : Nat} {v : Value} {n : Nat} {xs : List Value} (h : w.ownsRow base e size v n xs) : ∀ k, v.ownBlock = some k → k < w.heap.size := by
  intro k hk
  rcases h.2 with ⟨rfl, _⟩ | ⟨g, cap, cur, rfl, hb, hg, _⟩
  · cases hk
  · simp only [Value.ownBlock, Option.some.injEq] at hk
    subst hk
    rcases Nat.lt_or_ge g w.heap.size with hlt | hge
    · exact hlt
    · rw [Array.getElem?_eq_none hge] at hg; cases hg
theorem own_ne_new {w : World} {base : Nat} {e : TypeId} {size : Nat} {v : Value} {n : Nat} {xs : List Value} (h : w.ownsRow base e size v n xs) (B : Nat) (hB : w.heap.size ≤ B) : some B ≠ v.ownBlock := fun hh => by
  have := own_lt h B hh.symm
  omega

theorem own_base {w : World} {b b' : Nat} {e : TypeId} {size : Nat} {v : Value} {n : Nat} {xs : List Value} (h : w.ownsRow b e size v n xs) (hb : b' ≤ b) : w.ownsRow b' e size v n xs := by
  refine ⟨h.1, ?_⟩
  rcases h.2 with h | ⟨g, cap, cur, hv, hbg, rest⟩
  · exact Or.inl h
  · exact Or.inr ⟨g, cap, cur, hv, Nat.le_trans hb hbg, rest⟩

/-- What Scan answers. -/
def scanPost (w : World) (R : Scanned) (e : Ending) (w' : World) : Prop :=
  match R with
  | .inl (code, k) => e = .returned (.tuple #[.slice none 0 0, .agg #[.int .i64 (code : Int), .int .i64 (k : Int)]]) ∧ Below w.heap.size w w'
  | .inr l => ∃ v, e = .returned (.tuple #[v, .agg #[.int .i64 0, .int .i64 0]]) ∧ w'.ownsRow w.heap.size 24 5 v l.length (toksV l) ∧ Below w.heap.size w w'

/-- The two cells of a problem that is being made. -/
structure Two (w : World) (B : Nat) (a b : Value) : Prop where
  c0 : w.cell? ⟨B, 0, none⟩ = some a
  c1 : w.cell? ⟨B, 1, none⟩ = some b
  f : ∀ j, j < 2 → w.frozen? ⟨B, j, none⟩ = false
theorem two_new (w : World) (a b : Value) (t : TypeId) : Two (w.alloc (.cells #[a, b] t)) w.heap.size a b := by
  have h := heap_alloc_new w (.cells #[a, b] t)
  refine ⟨?_, ?_, ?_⟩
  all_goals first | (simp only [World.cell?, h]; rfl) | skip
  intro j hj
  simp only [World.frozen?, h]
  simp
theorem Two.below {w w' : World} {B C : Nat} {a b : Value} (h : Two w B a b) (hb : Below C w w') (hB : B < C) : Two w' B a b :=
  ⟨(hb.cell hB).trans h.c0, (hb.cell hB).trans h.c1, fun j hj => (hb.frozen hB).trans (h.f j hj)⟩
theorem two_set {w : World} {B : Nat} {a b : Value} (h : Two w B a b) (y0 y1 : Value) : Two ((w.setCell ⟨B, 0, none⟩ y0).setCell ⟨B, 1, none⟩ y1) B y0 y1 := by
  have ot : ∀ (W : World) (i j : Nat) (y : Value), i ≠ j → (W.setCell ⟨B, j, none⟩ y).cell? ⟨B, i, none⟩ = W.cell? ⟨B, i, none⟩ := fun W i j y hij => World.cell?_setCell_other _ _ _ _ (fun e => hij (by cases e; rfl))
  refine ⟨?_, ?_, ?_⟩
  · rw [ot _ 0 1 _ (by omega)]
    exact World.cell?_setCell_same' _ _ _ (by rw [h.c0]; rfl)
  · exact World.cell?_setCell_same' _ _ _ (by rw [ot _ 1 0 _ (by omega), h.c1]; rfl)
  · intro j hj
    simp only [World.frozen?_setCell]
    exact h.f j hj
theorem below_set2 {w0 w : World} {B : Nat} (h : Below w0.heap.size w0 w) (hB : w0.heap.size ≤ B) (y0 y1 : Value) : Below w0.heap.size w0 ((w.setCell ⟨B, 0, none⟩ y0).setCell ⟨B, 1, none⟩ y1) :=
  (h.setCell (p := ⟨B, 0, none⟩) hB _).setCell (p := ⟨B, 1, none⟩) hB _
theorem ret2 {w : World} {B : Nat} {a b x : Value} {tm : Array Value} (hf : Two w B a b) (h3 : tm[3]?.getD undef = .pointer (some ⟨B, 0, none⟩)) (h2 : tm[2]?.getD undef = x) :
    (results Tryd.f10 tm).run Tryd.prog w = .ok (.tuple #[x, .agg #[a, b]]) w := by
  obtain ⟨c0, c1, _⟩ := hf
  simp [results, Tryd.results10, go_sem, h3, h2, c0, c1]

theorem blank_not35 : blankB 35 = false := by decide
theorem own_stays {w w' : World} {base : Nat} {e : TypeId} {size : Nat} {v : Value} {n : Nat} {xs : List Value} (h : w.ownsRow base e size v n xs) (hb : Below w.heap.size w w') : w'.ownsRow base e size v n xs :=
  h.kept ⟨hb.os, hb.tape, hb.output, hb.size, fun k hk _ => hb.block k hk⟩ (row := none) (by cases hv : v.ownBlock with | none => exact Or.inl rfl | some k => exact Or.inr (by simp))

/-- A list of tokens, seen as a slice whose cells are known. -/
theorem toks_at {w : World} {base : Nat} {v : Value} {l : List (Nat × Tk)} (h : w.ownsRow base 24 5 v l.length (toksV l)) (hl : 0 < l.length) :
    ∃ g cap, v = .slice (some ⟨g, 0, none⟩) l.length cap ∧ l.length ≤ cap ∧ base ≤ g ∧ g < w.heap.size ∧ ∀ j u, (toksV l)[j]? = some u → w.cell? ⟨g, j, none⟩ = some u := by
  have hlt := own_lt h
  rcases h.2 with ⟨_, hn⟩ | ⟨g, cap, cur, rfl, hb, hg, hnc, hrest⟩
  · omega
  · refine ⟨g, cap, rfl, hnc, hb, hlt g rfl, fun j u hu => ?_⟩
    have := h.cells (g := g) rfl j u hu
    rwa [show (⟨g, 0, none⟩ : Addr).add j = ⟨g, j, none⟩ from by simp [Addr.add]; omega] at this

end Go.Proofs.YtlahcmhjnhangabDoor
