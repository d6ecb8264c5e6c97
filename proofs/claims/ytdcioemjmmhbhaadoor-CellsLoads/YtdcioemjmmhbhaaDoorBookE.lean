import Derived.Test.YtdcioemjmmhbhaaDoorMakesF
namespace Go.Proofs.YtdcioemjmmhbhaaDoor
open Go.RowKit

theorem sets_self (g : Nat) {e : TypeId} {fz : Nat × Nat} : ∀ (vs : List Value) (o : Nat) (w : World) (cur : Array Value), w.heap[g]? = some (.cells cur e fz) → ∃ cur' : Array Value, (w.setCells g o vs).heap[g]? = some (.cells cur' e fz) ∧ cur'.size = cur.size
  | [], _, _, cur, h => ⟨cur, h, rfl⟩
  | v :: r, o, w, cur, h => by
    have h2 : (w.setCell ⟨g, o, none⟩ v).heap[g]? = some (.cells (cur.setIfInBounds o v) e fz) := by
      simp only [World.setCell, Array.getElem?_modify, h]
      simp
    obtain ⟨c, q1, q2⟩ := sets_self g r (o + 1) _ _ h2
    exact ⟨c, q1, by rw [q2]; simp⟩
theorem own_sets {w : World} {B : Nat} {e : TypeId} {sz : Nat} {g n cap : Nat} {xs : List Value} (h : w.ownsRow B e sz (.slice (some ⟨g, 0, none⟩) n cap) n xs) (o : Nat) (vs xs' : List Value) (hl : xs'.length = n * sz) (hx : ∀ j, j < n * sz → (w.setCells g o vs).cell? ⟨g, j, none⟩ = xs'[j]?) :
    (w.setCells g o vs).ownsRow B e sz (.slice (some ⟨g, 0, none⟩) n cap) n xs' := by
  rcases h.2 with ⟨q, _⟩ | ⟨g', cap', cur, hv, h1, h2, h3, h4, h5, h6⟩
  · cases q
  · cases hv
    obtain ⟨c, q1, q2⟩ := sets_self g vs o w cur h2
    refine ⟨hl, .inr ⟨g, cap, c, rfl, h1, q1, h3, h4, q2.trans h5, ?_⟩⟩
    apply List.ext_getElem?
    intro j
    rw [List.getElem?_take]
    split
    · rename_i hj
      have := hx j hj
      simp only [World.cell?, q1] at this
      simpa using this
    · rename_i hj
      rw [List.getElem?_eq_none (by omega)]

/-- An element of the book is written. -/
theorem BookAt.setE {w : World} {m p : Nat} {A : Hp} {Kd : List Int} {u : Nat} {kv lv : Value} {Ls : List Value} {G : Nat → Prop} (h : BookAt w m p A Kd u kv lv Ls G) (j N : Nat) (a : Int × List V) (x : V) (g cap : Nat) (hv : Ls[j]? = some (.slice (some ⟨g, 0, none⟩) a.2.length cap)) (ha : A[j]? = some a) (hN : N < a.2.length) :
    BookAt (w.setCells g (N * 3) (vc x)) m p (A.modify j fun a => (a.1, a.2.set N x)) Kd u kv lv Ls G := by
  have hel := h.el j _ a hv ha
  have hbk := own_blk hel g rfl
  have hs : ∀ k, k ≠ g → (w.setCells g (N * 3) (vc x)).heap[k]? = w.heap[k]? := fun k hk => sets_heap hk _ _ _
  have hp : m ≠ g := h.blk.ne hbk (by decide)
  have hc := fun o => World.cell?_of_block (w := w) (w' := w.setCells g (N * 3) (vc x)) (a := ⟨m, o, none⟩) (hs m hp)
  exact {
    blk := h.blk.setCells _ _ _
    c0 := (hc 0).trans h.c0
    c1 := (hc 1).trans h.c1
    c2 := (hc 2).trans h.c2
    c3 := (hc 3).trans h.c3
    ks := own_same h.ks fun k hk => hs k ((own_blk h.ks k hk).ne hbk (by decide))
    ls := by
      rw [List.length_modify]
      exact own_same h.ls fun k hk => hs k ((own_blk h.ls k hk).ne hbk (by decide))
    len := by rw [List.length_modify]; exact h.len
    el := fun i v b hiv hib => by
      rw [List.getElem?_modify] at hib
      by_cases e : j = i
      · subst e
        rw [ha] at hib
        have hib2 : (a.1, a.2.set N x) = b := by simpa using hib
        subst hib2
        rw [hv] at hiv
        cases hiv
        simp only [List.length_set]
        refine own_sets hel _ _ _ (by rw [vcs_len, List.length_set]) fun i hi => ?_
        have hfs := flat_set vc 3 (fun _ => rfl) a.2 N hN x i
        unfold vcs
        rw [hfs]
        split
        · rename_i hu
          obtain ⟨y, hy⟩ : ∃ y, (vc x)[i - N * 3]? = some y := ⟨_, List.getElem?_eq_getElem (show i - N * 3 < 3 by omega)⟩
          have := World.rangeAt_setCells_same w g (N * 3) (vc x) (hbk.there _ _ (by show _ + 3 ≤ _; omega)) (i - N * 3) y hy
          rw [show N * 3 + (i - N * 3) = i by omega] at this
          rw [this, hy]
        · rename_i hu
          rw [World.cell?_setCells_out _ _ _ _ _ (fun _ _ => by show i < N * 3 ∨ N * 3 + 3 ≤ i; omega)]
          obtain ⟨q, c2, e1, _, e2⟩ := own_slice hel
          cases e1
          obtain ⟨g2, e3, e4⟩ := e2 (by omega)
          cases e3
          obtain ⟨y, hy⟩ : ∃ y, (vcs a.2)[i]? = some y := ⟨_, List.getElem?_eq_getElem (by rw [vcs_len]; exact hi)⟩
          have := e4 i y hy
          rw [Nat.zero_add] at this
          rw [this]
          exact hy.symm
      · have hib' : A[i]? = some b := by simpa [e] using hib
        have hel2 := h.el i v b hiv hib'
        refine own_same hel2 fun k hk => hs k ?_
        rintro rfl
        have hi1 := (List.getElem?_eq_some_iff.1 hiv).1
        have hj1 := (List.getElem?_eq_some_iff.1 hv).1
        have e1 : Ls[i] = v := by rw [List.getElem?_eq_getElem hi1] at hiv; exact Option.some.inj hiv
        have e2 : Ls[j] = .slice (some ⟨k, 0, none⟩) a.2.length cap := by rw [List.getElem?_eq_getElem hj1] at hv; exact Option.some.inj hv
        have hpw := List.pairwise_iff_getElem.1 h.dis
        rcases Nat.lt_or_gt_of_ne e with q | q
        · have := hpw j i hj1 hi1 q k (by rw [e2]; rfl)
          rw [e1] at this
          exact this hk
        · have := hpw i j hi1 hj1 q k (by rw [e1]; exact hk)
          rw [e2] at this
          exact this rfl
    dis := h.dis
    gm := h.gm
    gk := h.gk
    gl := h.gl
    ge := h.ge
    glt := fun k hk => by rw [sets_size]; exact h.glt k hk }

theorem used_mod (A : Hp) (j N : Nat) (x : V) : usedS (A.modify j fun a => (a.1, a.2.set N x)) = usedS A := by
  apply used_congr
  apply List.ext_getElem?
  intro i
  rw [List.getElem?_map, List.getElem?_map, List.getElem?_modify]
  cases A[i]? with
  | none => simp
  | some a => by_cases e : j = i <;> simp [e]
theorem kinds_mod (A : Hp) (j N : Nat) (x : V) : (A.modify j fun a => (a.1, a.2.set N x)).map (·.1) = A.map (·.1) := by
  apply List.ext_getElem?
  intro i
  rw [List.getElem?_map, List.getElem?_map, List.getElem?_modify]
  cases A[i]? with
  | none => simp
  | some a => by_cases e : j = i <;> simp [e]

/-- Where the reference is none of an array that was made, nothing is put. -/
theorem put_no {A : Hp} {v : V} {i : Int} {x : V} (h : ¬ (v.1 = 4 ∧ v.2.2.toList = [] ∧ 1 ≤ v.2.1 ∧ v.2.1 < (A.length : Int) + 1)) : (putH A v i x).2 ≠ 0 ∧ (putH A v i x).1 = A := by
  have key : (placeH A v i).2 ≠ 0 := by
    unfold placeH findH
    cases hm : mayS v 4 A.length with
    | false => simp
    | true =>
      obtain ⟨r1, r2, r3, r4⟩ := may_ref hm
      by_cases hz : v.2.1 = 0
      · simp only [Bool.true_eq_false, ↓reduceIte, hz, true_and, List.length_nil, Int.natCast_zero]
        rw [if_pos (by omega)]
        decide
      · exact absurd ⟨r1, by rw [r4]; exact e0_list, by omega, by omega⟩ h
  unfold putH
  rw [if_neg key]
  exact ⟨key, rfl⟩
theorem put_yes {A : Hp} {v : V} {i : Int} {x : V} (h : v.1 = 4 ∧ v.2.2.toList = [] ∧ 1 ≤ v.2.1 ∧ v.2.1 < (A.length : Int) + 1) (a : Int × List V) (ha : A[v.2.1.toNat - 1]? = some a) :
    putH A v i x = if i < 0 ∨ (a.2.length : Int) ≤ i then (A, 2) else if mayS x a.1 A.length = false then (A, 7) else (A.modify (v.2.1.toNat - 1) fun a => (a.1, a.2.set i.toNat x), 0) := by
  obtain ⟨h1, h2, h3, h4⟩ := h
  have hm : mayS v 4 A.length = true := by
    unfold mayS okV
    rw [h1]
    simp [h2]
    omega
  have hf : findH A v = (a, 0) := by
    unfold findH
    rw [if_neg (by rw [hm]; decide), if_neg (by omega), List.getD_eq_getElem?_getD, ha]
    rfl
  unfold putH placeH
  rw [hf]
  simp only [true_and]
  by_cases hi : i < 0 ∨ (a.2.length : Int) ≤ i
  · rw [if_pos hi, if_pos hi]
    simp
  · rw [if_neg hi, if_neg hi]
    simp
end Go.Proofs.YtdcioemjmmhbhaaDoor
