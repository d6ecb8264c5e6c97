import Derived.Test.YtekgnogjfggnmaaDoorKidsW
namespace Go.Proofs.YtekgnogjfggnmaaDoor
open Go.RowKit Go.Shelf

/-- A way within a tree: each one's next is its kid. -/
inductive Way (L : List Nd) : List Nat → Nat → Prop
  | root : Way L [0] 0
  | step {l : List Nat} {a κ : Nat} (h : Way L l a) (hk : Kid L a κ) (hl : κ < L.length) : Way L (l ++ [κ]) κ

theorem below_set2 {B : Nat} {A W : World} (h : Below B A W) (p : Addr) (v : Value) : Below B (A.setCell p v) (W.setCell p v) :=
  ⟨h.os, h.tape, h.output, by rw [size_set, size_set]; exact h.size, fun i hi => by
    show (W.heap.modify _ _)[i]? = (A.heap.modify _ _)[i]?
    rw [Array.getElem?_modify, Array.getElem?_modify, h.block i hi]⟩
theorem set_heap_ne (w : World) (A : Nat) (v : Value) {i : Nat} (h : i ≠ A) : (w.setCell ⟨A, 0, none⟩ v).heap[i]? = w.heap[i]? := by
  show (w.heap.modify _ _)[i]? = _
  rw [Array.getElem?_modify, if_neg (Ne.symm h)]
theorem row_heap {W W' : World} {base G n c : Nat} {e : TypeId} {size : Nat} {xs : List Value} (h : W.ownsRow base e size (.slice (some ⟨G, 0, none⟩) n c) n xs) (hh : W'.heap[G]? = W.heap[G]?) : W'.ownsRow base e size (.slice (some ⟨G, 0, none⟩) n c) n xs := by
  refine ⟨h.1, ?_⟩
  rcases h.2 with ⟨h0, _⟩ | ⟨g, cap, cur, hv, hb, hg, rest⟩
  · cases h0
  · cases hv
    exact .inr ⟨_, _, cur, rfl, hb, hh.trans hg, rest⟩
theorem row_at {W : World} {base G n c : Nat} {e : TypeId} {size : Nat} {xs : List Value} (h : W.ownsRow base e size (.slice (some ⟨G, 0, none⟩) n c) n xs) : base ≤ G ∧ ∃ cur f, W.heap[G]? = some (.cells cur e f) := by
  rcases h.2 with ⟨h0, _⟩ | ⟨g, cap, cur, hv, hb, hg, rest⟩
  · cases h0
  · cases hv
    exact ⟨hb, cur, _, hg⟩
theorem at_lt {W : World} {i : Nat} {o : Obj} (h : W.heap[i]? = some o) : i < W.heap.size := (Array.getElem?_eq_some_iff.1 h).1

/-- The world of a round: the row, the cell of 'at', the marks. -/
structure Mid (w2 : World) (l : List Nat) (A G c : Nat) (ds : List Nat) (q : Nat) (W : World) : Prop where
  bel : Below w2.heap.size w2 W
  row : W.ownsRow w2.heap.size 3 1 (.slice (some ⟨G, 0, none⟩) l.length c) l.length (iv (nI l))
  ga : G < A
  alt : A < W.heap.size
  cell : W.cell? ⟨A, 0, none⟩ = some (.int .i64 (q : Int))
  fro : W.frozen? ⟨A, 0, none⟩ = false
  mks : ∀ D ∈ ds, w2.heap.size ≤ D ∧ W.heap[D]? = some (.deferred (some []))
  nod : ds.Nodup

theorem cell_not {W : World} {A D : Nat} {v : Value} {x : Option (List Deferred)} (h : W.cell? ⟨A, 0, none⟩ = some v) (hD : W.heap[D]? = some (.deferred x)) : D ≠ A := fun e => by
  subst e
  simp [World.cell?, hD] at h

theorem Mid.stop {w2 W w3 W4 : World} {l ds : List Nat} {A G c q κ D : Nat} (h : Mid w2 l A G c ds q W) (hb3 : Below W.heap.size W w3) (hb4 : Below w3.heap.size (w3.setCell ⟨A, 0, none⟩ (.int .i64 (κ : Int))) W4)
    (hD : w3.heap.size ≤ D) (hDW : W4.heap[D]? = some (.deferred (some []))) : Mid w2 l A G c (D :: ds) κ W4 := by
  have z3 := hb3.size
  have z4 := hb4.size
  rw [size_set] at z4
  obtain ⟨hG, cur, f, hGc⟩ := row_at h.row
  have hGl := at_lt hGc
  have hga := h.ga
  have halt := h.alt
  have key : ∀ i, i < W.heap.size → i ≠ A → W4.heap[i]? = W.heap[i]? := fun i hi hn => (hb4.block i (by omega)).trans ((set_heap_ne _ _ _ hn).trans (hb3.block i hi))
  have c3 := (hb3.cell (p := ⟨A, 0, none⟩) halt).trans h.cell
  have f3 := (hb3.frozen (p := ⟨A, 0, none⟩) halt).trans h.fro
  refine ⟨?_, row_heap h.row (key G hGl (by omega)), hga, by omega, ?_, ?_, ?_, ?_⟩
  · refine (((h.bel.trans (hb3.mono h.bel.size)).setCell (p := ⟨A, 0, none⟩) (by show _ ≤ A; omega) (.int .i64 (κ : Int)))).trans (hb4.mono ?_)
    have := h.bel.size
    omega
  · exact (hb4.cell (p := ⟨A, 0, none⟩) (by show A < _; omega)).trans (World.cell?_setCell_same' _ _ _ (by rw [c3]; rfl))
  · exact (hb4.frozen (p := ⟨A, 0, none⟩) (by show A < _; omega)).trans (by rw [World.frozen?_setCell]; exact f3)
  · intro D' hm
    rcases List.mem_cons.1 hm with rfl | hm
    · exact ⟨by have := h.bel.size; omega, hDW⟩
    · obtain ⟨d1, d2⟩ := h.mks D' hm
      exact ⟨d1, (key D' (at_lt d2) (cell_not h.cell d2)).trans d2⟩
  · refine List.nodup_cons.2 ⟨fun hm => ?_, h.nod⟩
    have := at_lt (h.mks D hm).2
    omega

theorem Mid.grown {w2 W w1 : World} {l ds : List Nat} {A G c κ G' c' : Nat} (h : Mid w2 l A G c ds κ W)
    (hg : (W.alloc (.cells #[.int .i64 (κ : Int)] 3)).grownBy w1 (some G)) (ho : w1.ownsRow w2.heap.size 3 1 (.slice (some ⟨G', 0, none⟩) (l.length + 1) c') (l.length + 1) (iv (nI l) ++ [.int .i64 (κ : Int)])) :
    w1.cell? ⟨A, 0, none⟩ = some (.int .i64 (κ : Int)) ∧ Mid w2 (l ++ [κ]) w1.heap.size G' c' ds κ (w1.alloc (.cells #[.int .i64 (κ : Int)] 3)) := by
  obtain ⟨hG, cur, f, hGc⟩ := row_at h.row
  have hGl := at_lt hGc
  have hga := h.ga
  have halt := h.alt
  have zg := hg.size
  rw [World.size_alloc] at zg
  have key : ∀ i, i < W.heap.size → i ≠ G → w1.heap[i]? = W.heap[i]? := fun i hi hn => (hg.block i (by rw [World.size_alloc]; omega) (fun e => hn (Option.some.inj e))).trans (by have := ((Below.refl _ W).alloc (Nat.le_refl _) (.cells #[.int .i64 (κ : Int)] 3)).block i hi; exact this)
  have bel1 : Below w2.heap.size w2 w1 := (h.bel.alloc h.bel.size _).grown hg (by rw [World.size_alloc]; have := h.bel.size; omega) (fun k e => by cases e; exact hG)
  obtain ⟨hG', cur', f', hGc'⟩ := row_at ho
  have hGl' := at_lt hGc'
  have key2 : ∀ i, i < w1.heap.size → (w1.alloc (.cells #[.int .i64 (κ : Int)] 3)).heap[i]? = w1.heap[i]? := fun i hi => ((Below.refl _ w1).alloc (Nat.le_refl _) (.cells #[.int .i64 (κ : Int)] 3)).block i hi
  obtain ⟨n1, n2⟩ := new_cell w1 (.int .i64 (κ : Int)) 3
  refine ⟨(World.cell?_of_block (key A halt (by omega))).trans h.cell, ?_, ?_, hGl', by simp, n1, n2, ?_, h.nod⟩
  · exact bel1.alloc bel1.size _
  · rw [nI_snoc, List.length_append]
    exact row_heap ho (key2 G' hGl')
  · intro D hm
    obtain ⟨d1, d2⟩ := h.mks D hm
    have dl := at_lt d2
    have dn : D ≠ G := fun e => by subst e; rw [hGc] at d2; cases d2
    have := (key D dl dn).trans d2
    exact ⟨d1, (key2 D (at_lt this)).trans this⟩

/-- The marks of the ranges are taken, one after the other. -/
theorem leaves_marks {F : Fence} {n : Nat} {fn : Func} {tmps : Array Value} {R : Ending → World → Prop} (base : Nat) (J : World → Prop)
    (hJ : ∀ D W, base ≤ D → W.heap[D]? = some (.deferred (some [])) → J W → J (W.putObj D (.deferred none))) (hend : ∀ W, J W → LeavesIn F n Tryd.prog fn tmps R [] .returning W) :
    ∀ (ds : List Nat) (W : World), (∀ D ∈ ds, base ≤ D ∧ W.heap[D]? = some (.deferred (some []))) → ds.Nodup → J W →
      LeavesInM F n Tryd.prog fn tmps R (ds.map fun D => { target := .collected D, args := #[] }) .returning W
  | [], W, _, _, h => hend W h
  | D :: ds, W, hd, hn, h => by
    obtain ⟨n1, n2⟩ := List.nodup_cons.1 hn
    obtain ⟨d1, d2⟩ := hd D (List.mem_cons_self ..)
    refine ⟨by simp, .inl ⟨_, _, rfl, run_takeDeferred d2, ?_⟩⟩
    refine leaves_marks base J hJ hend ds _ (fun D' hm => ?_) n2 (hJ D W d1 d2 h)
    obtain ⟨e1, e2⟩ := hd D' (List.mem_cons_of_mem _ hm)
    exact ⟨e1, (World.putObj_heap_other (fun e => n1 (by subst e; exact hm))).trans e2⟩

end Go.Proofs.YtekgnogjfggnmaaDoor
