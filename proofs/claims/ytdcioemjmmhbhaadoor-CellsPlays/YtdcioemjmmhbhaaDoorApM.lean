import Derived.Test.YtdcioemjmmhbhaaDoorArrs
import Derived.Test.YtdcioemjmmhbhaaDoorSign
import Derived.Test.YtdcioemjmmhbhaaDoorBookE
namespace Go.Proofs.YtdcioemjmmhbhaaDoor
open Go.RowKit

/-- An element of a list of its own is written. -/
theorem own_setV {w : World} {B g n cap : Nat} {l : List V} (hl : l.length = n) (h : w.ownsRow B 37 3 (.slice (some ⟨g, 0, none⟩) n cap) n (vcs l)) (N : Nat) (hN : N < n) (x : V) : (w.setCells g (N * 3) (vc x)).ownsRow B 37 3 (.slice (some ⟨g, 0, none⟩) n cap) n (vcs (l.set N x)) := by
  have hbk := own_blk h g rfl
  refine own_sets h _ _ _ (by rw [vcs_len, List.length_set, hl]) fun i hi => ?_
  have hfs := flat_set vc 3 (fun _ => rfl) l N (by omega) x i
  unfold vcs
  rw [hfs]
  split
  · rename_i hu
    obtain ⟨y, hy⟩ : ∃ y, (vc x)[i - N * 3]? = some y := ⟨_, List.getElem?_eq_getElem (show i - N * 3 < 3 by omega)⟩
    have := World.rangeAt_setCells_same w g (N * 3) (vc x) (hbk.there _ _ (by show _ + 3 ≤ _; omega)) (i - N * 3) y hy
    rw [show N * 3 + (i - N * 3) = i by omega] at this
    rw [this, hy]
  · rename_i hu
    rw [World.cell?_setCells_out _ _ _ _ _ (fun _ _ => by show i < N * 3 ∨ N * 3 + 3 ≤ i; omega)]
    have hc := h.cellAt (g := g) i hi
    exact hc

theorem Ans.put {w : World} {b : Nat} {Ls : List (List V)} {v : Value} {vs : List Value} (h : Ans w b Ls v vs) (i j g : Nat) (hi : i < Ls.length) (hj : j < Ls[i].length) (hv : vs[i]? = some (.slice (some ⟨g, 0, none⟩) Ls[i].length Ls[i].length)) (x : V) : Ans (w.setCells g (j * 3) (vc x)) b (Ls.set i (Ls[i].set j x)) v vs := by
  obtain ⟨q, h1, hel⟩ := h.own i hi
  rw [hv] at h1
  cases h1
  have hbk := own_blk hel g rfl
  have hs : ∀ k, k ≠ g → (w.setCells g (j * 3) (vc x)).heap[k]? = w.heap[k]? := fun k hk => sets_heap hk _ _ _
  refine ⟨by rw [List.length_set]; exact h.len, by rw [List.length_set]; exact own_same h.out fun k hk => hs k ((own_blk h.out k hk).ne hbk (by decide)), fun k hk => ?_, h.sep⟩
  have hk' : k < Ls.length := by rw [List.length_set] at hk; exact hk
  by_cases e : k = i
  · subst e
    rw [List.getElem_set_self]
    simp only [List.length_set]
    exact ⟨_, hv, own_setV rfl hel j hj x⟩
  · rw [List.getElem_set_ne (Ne.symm e)]
    obtain ⟨q', h1', h2'⟩ := h.own k hk'
    refine ⟨q', h1', own_same h2' fun k' hk2 => hs k' (fun e2 => ?_)⟩
    subst e2
    have hk3 : k < vs.length := by rw [h.len]; exact hk'
    have hi3 : i < vs.length := by rw [h.len]; exact hi
    have e1 : vs[k] = .slice q' Ls[k].length Ls[k].length := by rw [List.getElem?_eq_getElem hk3] at h1'; exact Option.some.inj h1'
    have e3 : vs[i] = .slice (some ⟨k', 0, none⟩) Ls[i].length Ls[i].length := by rw [List.getElem?_eq_getElem hi3] at hv; exact Option.some.inj hv
    have hp := List.pairwise_iff_getElem.1 h.sep
    rcases Nat.lt_or_gt_of_ne e with q | q
    · have := hp k i hk3 hi3 q
      rw [e1, e3] at this
      exact this k' hk2 rfl
    · have := hp i k hi3 hk3 q
      rw [e1, e3] at this
      exact this k' rfl hk2

/-- The marks of the first n places of the list k. -/
def mks (k n : Nat) : List V := (List.range n).map fun j => sgV k j
theorem mks_len (k n : Nat) : (mks k n).length = n := by simp [mks]
theorem mks_succ (k n : Nat) : mks k (n + 1) = mks k n ++ [sgV k n] := by simp [mks, List.range_succ]
theorem mks_at (k n j : Nat) (h : j < (mks k n).length) : (mks k n)[j] = sgV k j := by simp [mks]

/-- The lists up to i are marked, the next one up to j. -/
def Mkd (Ls C : List (List V)) (i j : Nat) : Prop := C.map List.length = Ls.map List.length ∧ ∀ k l (hk : k < C.length) (hl : l < C[k].length), (k < i ∨ (k = i ∧ l < j)) → C[k][l] = sgV k l
theorem Mkd.len {Ls C : List (List V)} {i j : Nat} (h : Mkd Ls C i j) : C.length = Ls.length := by have := congrArg List.length h.1; simpa using this
theorem Mkd.lenAt {Ls C : List (List V)} {i j : Nat} (h : Mkd Ls C i j) (k : Nat) (hk : k < Ls.length) : (C[k]'(by rw [h.len]; exact hk)).length = Ls[k].length := by
  have hk' : k < C.length := by rw [h.len]; exact hk
  have e : (C.map List.length)[k]? = (Ls.map List.length)[k]? := by rw [h.1]
  rw [List.getElem?_map, List.getElem?_map, List.getElem?_eq_getElem hk, List.getElem?_eq_getElem hk'] at e
  simpa using e
theorem Mkd.start (Ls : List (List V)) : Mkd Ls Ls 0 0 := ⟨rfl, fun k l hk hl h => by omega⟩
theorem Mkd.step {Ls C : List (List V)} {i j : Nat} (h : Mkd Ls C i j) (hi : i < C.length) : Mkd Ls (C.set i (C[i].set j (sgV i j))) i (j + 1) := by
  refine ⟨?_, fun k l hk hl hh => ?_⟩
  · rw [← h.1, List.map_set, List.length_set]
    apply List.ext_getElem?
    intro k
    rw [List.getElem?_set]
    split
    · rename_i e
      subst e
      rw [if_pos (by rw [List.length_map]; exact hi), List.getElem?_map, List.getElem?_eq_getElem hi]
      rfl
    · rfl
  · have hk' : k < C.length := by rw [List.length_set] at hk; exact hk
    by_cases e : i = k
    · subst e
      simp only [List.getElem_set_self] at hl ⊢
      rw [List.length_set] at hl
      rw [List.getElem_set]
      split
      · rename_i e2
        rw [e2]
      · exact h.2 i l hk' hl (by omega)
    · simp only [List.getElem_set_ne e] at hl ⊢
      exact h.2 k l hk' hl (by omega)
theorem Mkd.next {Ls C : List (List V)} {i j : Nat} (h : Mkd Ls C i j) (hj : ∀ hi : i < C.length, C[i].length ≤ j) : Mkd Ls C (i + 1) 0 := ⟨h.1, fun k l hk hl hh => h.2 k l hk hl (by
  by_cases e : k = i
  · subst e
    have := hj hk
    omega
  · omega)⟩
theorem Mkd.all {Ls C : List (List V)} (h : Mkd Ls C Ls.length 0) (k : Nat) (hk : k < C.length) : C[k] = mks k C[k].length := by
  apply List.ext_getElem
  · rw [mks_len]
  · intro l hl hl2
    rw [mks_at]
    exact h.2 k l hk hl (.inl (by rw [← h.len]; exact hk))

/-- The blocks of the lists. -/
def bkL (vs : List Value) (g : Nat) : Prop := ∃ (k : Nat) (x : Value), vs[k]? = some x ∧ x.ownBlock = some g
/-- The lists that were lengthened. -/
def Lng (w : World) (b : Nat) (ns : List Nat) (us : List Value) : Prop := ∀ (k : Nat) (u : Value) (n : Nat), us[k]? = some u → ns[k]? = some n → w.ownsRow b 37 3 u (n + 70) (vcs (mks k (n + 70)))
theorem Lng.next {w w' : World} {b : Nat} {ns : List Nat} {us : List Value} (h : Lng w b ns us) (hb : Below w.heap.size w w') : Lng w' b ns us := fun k u n h1 h2 => own_next (h k u n h1 h2) hb
theorem Lng.push {w w' : World} {b c : Nat} {ns : List Nat} {us : List Value} {u v : Value} {n : Nat} (h : Lng w b ns us) (hc : us.length = c) (hn : ns[c]? = some n) (hu : w.ownsRow b 37 3 u (n + 70) (vcs (mks c (n + 70)))) (ho : w.ownsRow b 59 1 v c us) (hg : w.grownBy w' v.ownBlock) : Lng w' b ns (us ++ [u]) := by
  have hkeep : ∀ {x : Value} {n : Nat} {xs : List Value}, w.ownsRow b 37 3 x n xs → w'.ownsRow b 37 3 x n xs := fun {x n xs} hx => own_same hx fun g hg' => hg.block g (hx.lt g hg').2 (fun e => own_ne ho (own_blk hx g hg') (by decide) e.symm)
  intro k x m h1 h2
  by_cases hk : k < us.length
  · rw [List.getElem?_append_left hk] at h1
    exact hkeep (h k x m h1 h2)
  · rw [List.getElem?_append_right (by omega)] at h1
    have hk2 : k - us.length = 0 := by
      have := (List.getElem?_eq_some_iff.1 h1).1
      simp at this
      omega
    rw [hk2] at h1
    simp only [List.getElem?_cons_zero, Option.some.injEq] at h1
    subst h1
    have : k = c := by omega
    subst this
    rw [hn] at h2
    cases h2
    exact hkeep hu
theorem Ans.at {w : World} {b O cap : Nat} {Ls C : List (List V)} {vs : List Value} {i j : Nat} (h : Ans w b C (.slice (some ⟨O, 0, none⟩) Ls.length cap) vs) (hM : Mkd Ls C i j) (k : Nat) (hk : k < Ls.length) : ∃ q, vs[k]? = some (.slice q Ls[k].length Ls[k].length) ∧ w.cell? ⟨O, k, none⟩ = some (.slice q Ls[k].length Ls[k].length) ∧ (0 < Ls[k].length → ∃ g, q = some ⟨g, 0, none⟩) ∧ w.ownsRow b 37 3 (.slice q Ls[k].length Ls[k].length) Ls[k].length (vcs (C[k]'(by rw [hM.len]; exact hk))) := by
  have hk' : k < C.length := by rw [hM.len]; exact hk
  obtain ⟨q, h1, h2⟩ := h.own k hk'
  have e := hM.lenAt k hk
  rw [e] at h1 h2
  refine ⟨q, h1, ?_, ?_, h2⟩
  · have ho := h.out
    rw [hM.len] at ho
    exact (ho.cellAt (g := O) k (by omega)).trans h1
  · intro h0
    obtain ⟨q', cp, e1, _, hr⟩ := own_slice h2
    cases e1
    obtain ⟨g, rfl, _⟩ := hr h0
    exact ⟨g, rfl⟩
theorem vc_one (x : V) : ∀ u ∈ vc x, u.oneCell' = true := fun u hu => vcs_one (l := [x]) u (by simpa [vcs] using hu)
end Go.Proofs.YtdcioemjmmhbhaaDoor
