import Derived.Test.YtdcioemjmmhbhaaDoorTake
import Derived.Maps.AppendAt
namespace Go.Proofs.YtdcioemjmmhbhaaDoor
open Go.RowKit

theorem sets_app (b : Nat) : ∀ (xs ys : List Value) (o : Nat) (w : World), (w.setCells b o xs).setCells b (o + xs.length) ys = w.setCells b o (xs ++ ys)
  | [], _, _, _ => rfl
  | x :: xs, ys, o, w => by
    show ((w.setCell ⟨b, o, none⟩ x).setCells b (o + 1) xs).setCells b (o + (xs.length + 1)) ys = _
    rw [show o + (xs.length + 1) = o + 1 + xs.length by omega, sets_app b xs ys (o + 1)]
    rfl
theorem wpList_app {P : Program} (t e : TypeId) (z : Value) (size bytes : Nat) (ht : P.underlying t = some (.slice e)) (hinf : (P.info? e).map (fun i => (i.zero, i.size, i.bytes)) = some (some z, size, bytes)) (hzs : z.cells.size = size) (hsz : 0 < size) (hby : bytes ≤ 100)
    {w : World} {ops : Array Oper} {rest : List Oper} {o : Oper} {a : Act} {Q : Exit → Act → World → Prop} (hgd : o.guard = none) (s x : Operand)
    (ho : o.op = .call { callee := .builtin .append, args := #[s, x], argTypes := #[t, t] })
    (base : Nat) (v : Value) (n : Nat) (xs : List Value) (hs : a.eval s = v) (hown : w.ownsRow base e size v n xs) (C : Array Value) (hC : C.size = size) (h1 : ∀ u ∈ C.toList, u.oneCell' = true) (hx : a.eval x = .slice (some ⟨w.heap.size, 0, none⟩) 1 1)
    (h40 : n + 1 ≤ 1000000000) (hbase : base ≤ w.heap.size)
    (h : ∀ v' w', Hid (w'.ownsRow base e size v' (n + 1) (xs ++ C.toList)) → Hid ((w.alloc (.cells C e)).grownBy w' v.ownBlock ∧ (v'.ownBlock = v.ownBlock ∨ v'.ownBlock = some (w.heap.size + 1))) → wpList P ops Q rest (a.put o.dst v') w') : wpList P ops Q (o :: rest) a (w.alloc (.cells C e)) := by
  obtain ⟨i0, hi, hz0, hz1, hz2⟩ := info_parts hinf
  have ho2 := World.ownsRow.alloc hown (.cells C e)
  have hb : (n + 1) * bytes ≤ 140737488355328 := Nat.le_trans (Nat.mul_le_mul h40 hby) (by decide)
  obtain ⟨v', w', hr, h2, h3, _, h4⟩ := run_append_own_at (P := P) (w.alloc (.cells C e)) base t o.type e i0 z size bytes ht hi hz0 hz1 hz2 hzs hsz v n xs ho2 ⟨w.heap.size, 0, none⟩ 1 1 C.toList (by rw [Nat.one_mul]; simpa using hC)
    (fun j u hu => by rw [Addr.add_mid, Nat.zero_add]; simp only [World.cell?, heap_alloc_new w _]; simpa using hu) h1 (by unfold maxLen; omega) hb (by simp; omega)
  rw [World.size_alloc] at h4
  refine wpList_plain hgd fun K hK => ?_
  unfold Oper.wp execOp
  simp only [ho, resolve, invoke, builtin, Sem.run_bind, Sem.run_pure, Result.andThen_ok, List.map_toArray, List.map_cons, List.map_nil, hs, hx, hr]
  exact hK _ _ (h v' w' h2 ⟨h3, h4⟩)

theorem info82 : (Tryd.prog.info? 82).map (fun i => (i.zero, i.size, i.bytes)) = some (some (.agg #[.int .i64 0, .slice none 0 0]), 2, 32) := by kernel_rfl
theorem acs_app (a b : List Ar) : acs (a ++ b) = acs a ++ acs b := List.flatMap_append
theorem abs_app (a b : List Ar) : absA (a ++ b) = absA a ++ absA b := List.map_append
theorem may_mono {v : V} {k : Int} {n m : Nat} (h : mayS v k n = true) (hm : n ≤ m) : mayS v k m = true := by
  unfold mayS at h ⊢
  simp only [Bool.and_eq_true, Bool.or_eq_true, decide_eq_true_eq] at h ⊢
  refine ⟨h.1, ?_⟩
  rcases h.2 with q | q
  · exact .inl q
  · exact .inr (by omega)
theorem may_zero {k : Int} (h : 1 ≤ k ∧ k ≤ 4) (n : Nat) : mayS (k, 0, e0) k n = true := by
  have : k = 1 ∨ k = 2 ∨ k = 3 ∨ k = 4 := by omega
  unfold mayS okV
  simp only [e0_list]
  rcases this with rfl | rfl | rfl | rfl <;> first | rfl | decide

/-- Cells beside what the heap's arrays hold are written. -/
theorem HeapG.wrote {w : World} {p lim : Nat} {As : List Ar} {rq : Option Addr} {rn rg ro : Nat} {av : Value} {F : Nat → Prop} {u : Nat × Nat} (h : HeapG w p lim As rq rn rg ro av F u) (g o n : Nat) (vs : List Value) (hv : vs.length ≤ n * 3) (hb : 0 < n → Blk w g 37 (o + n * 3)) (hs : ∀ a ∈ As, a.els ≠ [] → 0 < n → a.g ≠ g ∨ a.o + a.els.length * 3 ≤ o) : HeapG (w.setCells g o vs) p lim As rq rn rg ro av F u := by
  rcases Nat.eq_zero_or_pos n with rfl | hn
  · rw [List.length_eq_zero_iff.1 (by omega : vs.length = 0)]
    exact h
  have hb := hb hn
  have hk : ∀ k, k ≠ g → (w.setCells g o vs).heap[k]? = w.heap[k]? := fun k hk => sets_heap hk _ _ _
  have hp : p ≠ g := h.blk.ne hb (by decide)
  have hc := fun o' => World.cell?_of_block (w := w) (w' := w.setCells g o vs) (a := ⟨p, o', none⟩) (hk p hp)
  exact {
    blk := h.blk.setCells _ _ _
    c0 := (hc 0).trans h.c0
    c1 := (hc 1).trans h.c1
    c2 := (hc 2).trans h.c2
    c3 := (hc 3).trans h.c3
    arrs := own_same h.arrs fun g' hg => hk g' (fun e => own_ne h.arrs hb (by decide) (e ▸ hg))
    els := fun a ha hne => by
      obtain ⟨h1, h2, h3, h4⟩ := h.els a ha hne
      refine ⟨h1, h2.setCells _ _ _, World.rangeAt_setCells_apart h3 _ _ _ ?_, h4⟩
      rw [vcs_len]
      rcases hs a ha hne hn with q | q
      · exact .inl q
      · exact .inr (.inl q)
    room := fun hn => by obtain ⟨h1, h2, h3⟩ := h.room hn; exact ⟨h1, h2.setCells _ _ _, h3⟩
    sep := h.sep
    sepr := h.sepr
    fp := h.fp
    fa := h.fa
    flt := fun g hg => by rw [sets_size]; exact h.flt g hg
    le := h.le
    top := h.top
    small := h.small
    ok := h.ok }

/-- Another array, with the count of cells as it was. -/
theorem HeapG.grow {w w3 : World} {p lim : Nat} {As : List Ar} {rq : Option Addr} {rn rg ro : Nat} {av v' : Value} {F : Nat → Prop} {u : Nat × Nat} (h : HeapG w p lim As rq rn rg ro av F u) (y : Ar) (C : Obj)
    (hy : y.els ≠ [] → y.q = some ⟨y.g, y.o, none⟩ ∧ Blk w y.g 37 (y.o + y.els.length * 3) ∧ w.rangeAt y.g y.o (vcs y.els) ∧ F y.g)
    (hs : ∀ a ∈ As, a.els ≠ [] → y.els ≠ [] → a.g ≠ y.g ∨ a.o + a.els.length * 3 ≤ y.o) (hr : y.els ≠ [] → 0 < rn → y.g ≠ rg ∨ y.o + y.els.length * 3 ≤ ro)
    (hle : usedS (absA (As ++ [y])) ≤ lim) (hok : (1 ≤ y.kind ∧ y.kind ≤ 4) ∧ ∀ v ∈ y.els, mayS v y.kind u.2 = true)
    (hown : w3.ownsRow 0 82 2 v' (As.length + 1) (acs As ++ ac y)) (hg : (w.alloc C).grownBy w3 av.ownBlock) :
    HeapG (w3.setCell ⟨p, 3, none⟩ v') p lim (As ++ [y]) rq rn rg ro v' (fun b => F b ∨ v'.ownBlock = some b) u := by
  have hp : av.ownBlock ≠ some p := own_ne h.arrs h.blk (by decide)
  have h3 : ∀ k, k < w.heap.size → av.ownBlock ≠ some k → w3.heap[k]? = w.heap[k]? := fun k hk hn => (hg.block k (by simp; omega) (fun e => hn e.symm)).trans (Below.heap_alloc w C k hk)
  have hp3 : w3.heap[p]? = w.heap[p]? := h3 p h.blk.lt hp
  have hpb := h.blk.same hp3
  have hc3 := fun o' => World.cell?_of_block (w := w) (w' := w3) (a := ⟨p, o', none⟩) hp3
  have ho : ∀ k, k ≠ p → (w3.setCell ⟨p, 3, none⟩ v').heap[k]? = w3.heap[k]? := fun k hk => set_heap (a := ⟨p, 3, none⟩) hk
  have hc : ∀ i, i ≠ 3 → (w3.setCell ⟨p, 3, none⟩ v').cell? ⟨p, i, none⟩ = w.cell? ⟨p, i, none⟩ := fun i h3 => by
    rw [World.cell?_setCell_other _ _ _ _ (fun e => h3 (by have := congrArg Addr.off e; simp at this; omega))]
    exact hc3 i
  have hvp : ∀ g, v'.ownBlock = some g → g ≠ p := fun g hg e => own_ne hown hpb (by decide) (e ▸ hg)
  have hel : ∀ {g n}, Blk w g 37 n → (w3.setCell ⟨p, 3, none⟩ v').heap[g]? = w.heap[g]? := fun {g n} hb => (ho g (hb.ne h.blk (by decide))).trans (h3 g hb.lt (own_ne h.arrs hb (by decide)))
  have hall : ∀ a ∈ As ++ [y], a.els ≠ [] → a.q = some ⟨a.g, a.o, none⟩ ∧ Blk w a.g 37 (a.o + a.els.length * 3) ∧ w.rangeAt a.g a.o (vcs a.els) ∧ F a.g := fun a ha => by
    rcases List.mem_append.1 ha with q | q
    · exact h.els a q
    · obtain rfl := List.mem_singleton.1 q
      exact hy
  have hsz : w.heap.size ≤ w3.heap.size := Nat.le_trans (by simp) hg.size
  exact {
    blk := hpb.setCell _ _
    c0 := (hc 0 (by decide)).trans h.c0
    c1 := (hc 1 (by decide)).trans h.c1
    c2 := (hc 2 (by decide)).trans h.c2
    c3 := World.cell?_setCell_same' _ _ _ (by rw [hc3 3, h.c3]; rfl)
    arrs := by
      rw [acs_app, List.length_append]
      refine own_same (w := w3) ?_ fun g hg => ho g (hvp g hg)
      simpa [acs] using hown
    els := fun a ha hne => by
      obtain ⟨h1, h2, h3, h4⟩ := hall a ha hne
      exact ⟨h1, h2.same (hel h2), range_same h3 (hel h2), .inl h4⟩
    room := fun hn => by obtain ⟨h1, h2, h3⟩ := h.room hn; exact ⟨h1, h2.same (hel h2), .inl h3⟩
    sep := by
      rw [List.pairwise_append]
      refine ⟨h.sep, List.pairwise_singleton _ _, fun a ha b hb => ?_⟩
      obtain rfl := List.mem_singleton.1 hb
      exact hs a ha
    sepr := fun a ha hne hn => by
      rcases List.mem_append.1 ha with q | q
      · exact h.sepr a q hne hn
      · obtain rfl := List.mem_singleton.1 q
        exact hr hne hn
    fp := .inl h.fp
    fa := fun g hg => .inr hg
    flt := fun g hg => by
      rw [set_size]
      rcases hg with q | q
      · exact Nat.lt_of_lt_of_le (h.flt g q) hsz
      · exact (own_blk hown g q).lt
    le := hle
    top := h.top
    small := h.small
    ok := fun a ha => by
      rcases List.mem_append.1 ha with q | q
      · exact h.ok a q
      · obtain rfl := List.mem_singleton.1 q
        exact hok }
theorem HeapG.setU {w : World} {p lim : Nat} {As : List Ar} {rq : Option Addr} {rn rg ro : Nat} {av : Value} {F : Nat → Prop} {u : Nat × Nat} (h : HeapG w p lim As rq rn rg ro av F u) (u' : Nat) : HeapG (w.setCell ⟨p, 1, none⟩ (.int .i64 (u' : Int))) p lim As rq rn rg ro av F (u', u.2) := by
  have ho : ∀ k, k ≠ p → (w.setCell ⟨p, 1, none⟩ (.int .i64 (u' : Int))).heap[k]? = w.heap[k]? := fun k hk => set_heap (a := ⟨p, 1, none⟩) hk
  have hc : ∀ i, i ≠ 1 → (w.setCell ⟨p, 1, none⟩ (.int .i64 (u' : Int))).cell? ⟨p, i, none⟩ = w.cell? ⟨p, i, none⟩ := fun i h1 => World.cell?_setCell_other _ _ _ _ (fun e => h1 (by have := congrArg Addr.off e; simp at this; omega))
  exact {
    blk := h.blk.setCell _ _
    c0 := (hc 0 (by decide)).trans h.c0
    c1 := World.cell?_setCell_same' _ _ _ (by rw [h.c1]; rfl)
    c2 := (hc 2 (by decide)).trans h.c2
    c3 := (hc 3 (by decide)).trans h.c3
    arrs := own_same h.arrs fun g hg => ho g ((own_blk h.arrs g hg).ne h.blk (by decide))
    els := fun a ha hne => by
      obtain ⟨h1, h2, h3, h4⟩ := h.els a ha hne
      exact ⟨h1, h2.setCell _ _, range_same h3 (ho _ (h2.ne h.blk (by decide))), h4⟩
    room := fun hn => by obtain ⟨h1, h2, h3⟩ := h.room hn; exact ⟨h1, h2.setCell _ _, h3⟩
    sep := h.sep
    sepr := h.sepr
    fp := h.fp
    fa := h.fa
    flt := fun g hg => by rw [set_size]; exact h.flt g hg
    le := h.le
    top := h.top
    small := h.small
    ok := h.ok }

/-- An array more. -/
theorem HeapG.made {w w3 : World} {p lim : Nat} {As : List Ar} {rq : Option Addr} {rn rg ro : Nat} {av v' : Value} {F : Nat → Prop} {c : Nat} (h : HeapG w p lim As rq rn rg ro av F (usedS (absA As), c)) (y : Ar) (C : Obj)
    (hy : y.els ≠ [] → y.q = some ⟨y.g, y.o, none⟩ ∧ Blk w y.g 37 (y.o + y.els.length * 3) ∧ w.rangeAt y.g y.o (vcs y.els) ∧ F y.g)
    (hs : ∀ a ∈ As, a.els ≠ [] → y.els ≠ [] → a.g ≠ y.g ∨ a.o + a.els.length * 3 ≤ y.o) (hr : y.els ≠ [] → 0 < rn → y.g ≠ rg ∨ y.o + y.els.length * 3 ≤ ro)
    (hk : 1 ≤ y.kind ∧ y.kind ≤ 4) (hok : ∀ v ∈ y.els, mayS v y.kind c = true) (hle : usedS (absA As) + (y.els.length + 1) ≤ lim)
    (hown : w3.ownsRow 0 82 2 v' (As.length + 1) (acs As ++ ac y)) (hg : (w.alloc C).grownBy w3 av.ownBlock) :
    HeapG ((w3.setCell ⟨p, 3, none⟩ v').setCell ⟨p, 1, none⟩ (.int .i64 ((usedS (absA As) + (y.els.length + 1) : Nat) : Int))) p lim (As ++ [y]) rq rn rg ro v' (fun b => F b ∨ v'.ownBlock = some b) (usedS (absA (As ++ [y])), c) := by
  have hu : usedS (absA (As ++ [y])) = usedS (absA As) + (y.els.length + 1) := by rw [abs_app, used_app]; rfl
  have q := (h.grow y C hy hs hr (by rw [hu]; exact hle) ⟨hk, hok⟩ hown hg).setU (usedS (absA As) + (y.els.length + 1))
  rw [hu]
  exact q
end Go.Proofs.YtdcioemjmmhbhaaDoor
