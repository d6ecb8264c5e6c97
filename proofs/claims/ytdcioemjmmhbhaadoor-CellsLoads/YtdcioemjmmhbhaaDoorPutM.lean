import Derived.Test.YtdcioemjmmhbhaaDoorJb
namespace Go.Proofs.YtdcioemjmmhbhaaDoor
open Go.RowKit

def putH (A : Hp) (v : V) (i : Int) (x : V) : Hp × Int :=
  if (placeH A v i).2 = 0 then (if mayS x (placeH A v i).1.1 A.length = false then (A, 7) else (A.modify (v.2.1.toNat - 1) fun a => (a.1, a.2.set i.toNat x), 0)) else (A, (placeH A v i).2)

theorem used_congr : ∀ {A B : Hp}, A.map (fun a => a.2.length) = B.map (fun a => a.2.length) → usedS A = usedS B
  | [], [], _ => rfl
  | [], _ :: _, h => by simp at h
  | _ :: _, [], h => by simp at h
  | a :: A, b :: B, h => by
    simp only [List.map_cons, List.cons.injEq] at h
    rw [usedS, usedS, h.1, used_congr h.2]
theorem map_set_same {α β : Type} (f : α → β) (l : List α) (j : Nat) (hj : j < l.length) (x : α) (h : f x = f l[j]) : (l.set j x).map f = l.map f := by
  rw [List.map_set, h]
  apply List.ext_getElem?
  intro i
  rw [List.getElem?_set]
  split
  · rename_i e
    subst e
    simp [hj]
  · rfl
theorem flatMap_set_same {α β : Type} (f : α → List β) (l : List α) (j : Nat) (hj : j < l.length) (x : α) (h : f x = f l[j]) : (l.set j x).flatMap f = l.flatMap f := by
  show ((l.set j x).map f).flatten = (l.map f).flatten
  rw [map_set_same f l j hj x h]

theorem abs_put (As : List Ar) (j m : Nat) (hj : j < As.length) (x : V) : absA (As.set j { As[j] with els := As[j].els.set m x }) = (absA As).modify j fun a => (a.1, a.2.set m x) := by
  unfold absA
  apply List.ext_getElem?
  intro i
  rw [List.getElem?_modify, List.getElem?_map, List.getElem?_map, List.getElem?_set]
  by_cases e : j = i
  · subst e
    simp [hj]
  · simp [e]

/-- An element is written. -/
theorem HeapG.put {w : World} {p lim : Nat} {As : List Ar} {rq : Option Addr} {rn rg ro : Nat} {av : Value} {F : Nat → Prop} {u : Nat × Nat} (h : HeapG w p lim As rq rn rg ro av F u) (j m : Nat) (hj : j < As.length) (hm : m < As[j].els.length) (x : V) (hx : mayS x As[j].kind u.2 = true) :
    HeapG (w.setCells As[j].g (As[j].o + m * 3) (vc x)) p lim (As.set j { As[j] with els := As[j].els.set m x }) rq rn rg ro av F u := by
  have hmem : As[j] ∈ As := List.getElem_mem hj
  have hne : As[j].els ≠ [] := fun q => by rw [q] at hm; simp at hm
  obtain ⟨e1, e2, e3, e4⟩ := h.els _ hmem hne
  have hp : p ≠ As[j].g := h.blk.ne e2 (by decide)
  have hav : ∀ g, av.ownBlock = some g → g ≠ As[j].g := fun g hg e => own_ne h.arrs e2 (by decide) (e ▸ hg)
  have hs : ∀ k, k ≠ As[j].g → (w.setCells As[j].g (As[j].o + m * 3) (vc x)).heap[k]? = w.heap[k]? := fun k hk => sets_heap hk _ _ _
  have hc := fun o => World.cell?_of_block (w := w) (w' := w.setCells As[j].g (As[j].o + m * 3) (vc x)) (a := ⟨p, o, none⟩) (hs p hp)
  have hgo : ∀ l (hl : l < As.length), ∃ els', (As.set j { As[j] with els := As[j].els.set m x })[l]'(by simpa using hl) = { As[l] with els := els' } ∧ els'.length = As[l].els.length ∧ (l ≠ j → els' = As[l].els) ∧ (l = j → els' = As[l].els.set m x) := fun l hl => by
    rw [List.getElem_set]
    by_cases e : j = l
    · subst e
      rw [if_pos rfl]
      exact ⟨_, rfl, by simp, fun q => absurd rfl q, fun _ => rfl⟩
    · rw [if_neg e]
      exact ⟨As[l].els, rfl, rfl, fun _ => rfl, fun q => absurd q.symm e⟩
  have hof : ∀ a ∈ As.set j { As[j] with els := As[j].els.set m x }, ∃ l, ∃ (hl : l < As.length), ∃ els', a = { As[l] with els := els' } ∧ els'.length = As[l].els.length ∧ (l ≠ j → els' = As[l].els) ∧ (l = j → els' = As[l].els.set m x) := fun a ha => by
    obtain ⟨l, hl, rfl⟩ := List.mem_iff_getElem.1 ha
    have hl' : l < As.length := by simpa using hl
    obtain ⟨els', q⟩ := hgo l hl'
    exact ⟨l, hl', els', q⟩
  have hnn : ∀ {a b : List V}, a.length = b.length → a ≠ [] → b ≠ [] := fun e q r => q (by rw [r] at e; exact List.length_eq_zero_iff.1 e)
  have hpw := List.pairwise_iff_getElem.1 h.sep
  exact {
    blk := h.blk.setCells _ _ _
    c0 := (hc 0).trans h.c0
    c1 := (hc 1).trans h.c1
    c2 := (hc 2).trans h.c2
    c3 := (hc 3).trans h.c3
    arrs := by
      have e : acs (As.set j { As[j] with els := As[j].els.set m x }) = acs As := flatMap_set_same ac As j hj _ (by simp [ac])
      rw [e, List.length_set]
      exact own_same h.arrs fun g hg => hs g (hav g hg)
    els := fun a ha hn => by
      obtain ⟨l, hl, els', rfl, q1, q2, q3⟩ := hof a ha
      simp only at hn ⊢
      obtain ⟨r1, r2, r3, r4⟩ := h.els As[l] (List.getElem_mem hl) (hnn q1 hn)
      refine ⟨r1, by rw [q1]; exact r2.setCells _ _ _, ?_, r4⟩
      by_cases e : l = j
      · subst e
        rw [q3 rfl]
        intro u y hy
        have hfs := flat_set vc 3 (fun _ => rfl) As[l].els m hm x u
        unfold vcs at hy
        rw [hfs] at hy
        split at hy
        · rename_i hu
          have := World.rangeAt_setCells_same w As[l].g (As[l].o + m * 3) (vc x) (e2.there _ _ (by show _ + 3 ≤ _; omega)) (u - m * 3) y hy
          rwa [show As[l].o + m * 3 + (u - m * 3) = As[l].o + u by omega] at this
        · rename_i hu
          rw [World.cell?_setCells_out _ _ _ _ _ (fun _ _ => by show As[l].o + u < As[l].o + m * 3 ∨ As[l].o + m * 3 + 3 ≤ As[l].o + u; omega)]
          exact r3 u y hy
      · rw [q2 e]
        refine World.rangeAt_setCells_apart r3 _ _ _ ?_
        rw [vcs_len]
        show _ ∨ _ ∨ As[j].o + m * 3 + 3 ≤ _
        rcases Nat.lt_or_gt_of_ne e with e | e
        · rcases hpw l j hl hj e (hnn q1 hn) hne with q | q
          · exact .inl q
          · exact .inr (.inl (by omega))
        · rcases hpw j l hj hl e hne (hnn q1 hn) with q | q
          · exact .inl (Ne.symm q)
          · exact .inr (.inr (by omega))
    room := fun hn => by obtain ⟨r1, r2, r3⟩ := h.room hn; exact ⟨r1, r2.setCells _ _ _, r3⟩
    sep := List.pairwise_iff_getElem.2 fun a b ha hb hab => by
      have ha' : a < As.length := by simpa using ha
      have hb' : b < As.length := by simpa using hb
      obtain ⟨ea, qa, pa, -⟩ := hgo a ha'
      obtain ⟨eb, qb, pb, -⟩ := hgo b hb'
      rw [qa, qb]
      intro na nb
      simp only at na nb ⊢
      rw [pa]
      exact hpw a b ha' hb' hab (hnn pa na) (hnn pb nb)
    sepr := fun a ha hn hr => by
      obtain ⟨l, hl, els', rfl, q1, -, -⟩ := hof a ha
      simp only at hn ⊢
      rw [q1]
      exact h.sepr As[l] (List.getElem_mem hl) (hnn q1 hn) hr
    fp := h.fp
    fa := h.fa
    flt := fun g hg => by rw [sets_size]; exact h.flt g hg
    le := by
      rw [used_congr (A := absA (As.set j _)) (B := absA As)]
      · exact h.le
      · unfold absA
        rw [List.map_map, List.map_map, map_set_same _ As j hj]
        simp
    top := h.top
    small := h.small
    ok := fun a ha => by
      obtain ⟨l, hl, els', rfl, q1, q2, q3⟩ := hof a ha
      obtain ⟨k1, k2⟩ := h.ok As[l] (List.getElem_mem hl)
      refine ⟨k1, fun y hy => ?_⟩
      simp only at hy ⊢
      by_cases e : l = j
      · subst e
        rw [q3 rfl] at hy
        rcases List.mem_or_eq_of_mem_set hy with hy | rfl
        · exact k2 y hy
        · exact hx
      · rw [q2 e] at hy
        exact k2 y hy }
theorem HeapAt.put {w : World} {p lim : Nat} {As : List Ar} {rq : Option Addr} {rn rg ro : Nat} {av : Value} {F : Nat → Prop} (h : HeapAt w p lim As rq rn rg ro av F) (j m : Nat) (hj : j < As.length) (hm : m < As[j].els.length) (x : V) (hx : mayS x As[j].kind As.length = true) :
    HeapAt (w.setCells As[j].g (As[j].o + m * 3) (vc x)) p lim (As.set j { As[j] with els := As[j].els.set m x }) rq rn rg ro av F := by
  have q := HeapG.put h j m hj hm x hx
  have e : usedS (absA (As.set j { As[j] with els := As[j].els.set m x })) = usedS (absA As) := by
    apply used_congr
    unfold absA
    rw [List.map_map, List.map_map, map_set_same _ As j hj]
    simp
  unfold HeapAt
  rw [e, List.length_set]
  exact q
end Go.Proofs.YtdcioemjmmhbhaaDoor
