import Derived.Test.YtekgnogjfggnmaaDoorSpineW
namespace Go.Proofs.YtekgnogjfggnmaaDoor
open Go.RowKit

theorem nth_of {K T R : List Nat} {x : Nat} (h : K = T ++ [x] ++ R) : K[T.length]? = some x := by rw [h]; simp

/-- Each beginning of the kids. -/
theorem kids_take {L : List Nd} (hT : Tr L) {n : Nat} (hn : n < L.length) : ∀ i, i ≤ (kidsN L n).length → KCh L n ((kidsN L n).take i)
  | 0, _ => by rw [List.take_zero]; exact KCh.nil hT hn
  | i + 1, h => by
    have ih := kids_take hT hn i (by omega)
    have hlt : posK L n ((kidsN L n).take i) < endOf L n := by
      apply Classical.byContradiction
      intro hc
      have := congrArg List.length (ih.done hT hn (by omega))
      rw [List.length_take] at this
      omega
    have hs := ih.snoc hT hn hlt
    have e : (kidsN L n)[i]? = some (posK L n ((kidsN L n).take i)) := by
      have hl : ((kidsN L n).take i).length = i := by rw [List.length_take]; omega
      have h1 := nth_of hs.eq
      rwa [hl] at h1
    rw [List.take_add_one, e]
    exact hs
theorem kids_nth {L : List Nd} (hT : Tr L) {n : Nat} (hn : n < L.length) {i : Nat} (h : i < (kidsN L n).length) : (kidsN L n)[i]? = some (posK L n ((kidsN L n).take i)) ∧ Kid L n (posK L n ((kidsN L n).take i)) ∧ posK L n ((kidsN L n).take (i + 1)) = posK L n ((kidsN L n).take i) + (sz L (posK L n ((kidsN L n).take i))).toNat := by
  have ih := kids_take hT hn i (by omega)
  obtain ⟨g1, g2⟩ := hT.good n hn
  have he : (endOf L n : Int) = n + sz L n := by unfold endOf; omega
  have hlt : posK L n ((kidsN L n).take i) < endOf L n := by
    apply Classical.byContradiction
    intro hc
    have := congrArg List.length (ih.done hT hn (by omega))
    rw [List.length_take] at this
    omega
  have hs := ih.snoc hT hn hlt
  have e : (kidsN L n)[i]? = some (posK L n ((kidsN L n).take i)) := by
    have hl : ((kidsN L n).take i).length = i := by rw [List.length_take]; omega
    have h1 := nth_of hs.eq
    rwa [hl] at h1
  refine ⟨e, ⟨ih.ch, by omega⟩, ?_⟩
  rw [List.take_add_one, e]
  exact posK_snoc ..
theorem kids_end {L : List Nd} (hT : Tr L) {n : Nat} (hn : n < L.length) : posK L n (kidsN L n) = endOf L n := by
  have h := kids_take hT hn (kidsN L n).length (Nat.le_refl _)
  rw [List.take_length] at h
  obtain ⟨g1, g2⟩ := hT.good n hn
  have h1 := h.le
  apply Classical.byContradiction
  intro hc
  have hs := h.snoc hT hn (by omega)
  have := congrArg List.length hs.eq
  simp at this

theorem kids_len {L : List Nd} (hT : Tr L) {n : Nat} (hn : n < L.length) : (kidsN L n).length ≤ L.length := by
  have h := kids_take hT hn (kidsN L n).length (Nat.le_refl _)
  rw [List.take_length] at h
  obtain ⟨g1, g2⟩ := hT.good n hn
  have he : (endOf L n : Int) = n + sz L n := by unfold endOf; omega
  have h1 := h.le
  have h2 := h.len
  omega
theorem Way.len {L : List Nd} {l : List Nat} {a : Nat} (h : Way L l a) : l.length ≤ a + 1 := by
  induction h with
  | root => simp
  | step h hk hl ih =>
    have := hk.ch.le
    rw [List.length_append, List.length_singleton]
    omega

/-- A way's parts. -/
theorem Way.parts {L : List Nd} (hT : Tr L) {l : List Nat} {a : Nat} (h : Way L l a) : a < L.length ∧ l[0]? = some 0 ∧ 1 ≤ l.length ∧ l[l.length - 1]? = some a ∧ (∀ (i x y : Nat), l[i]? = some x → l[i + 1]? = some y → par L y y = (x : Int)) ∧ ∀ (i x : Nat), l[i]? = some x → x < L.length := by
  induction h with
  | root =>
    refine ⟨hT.pos, rfl, by simp, rfl, fun i x y h1 h2 => ?_, fun i x h => ?_⟩
    · simp at h2
    · have : i = 0 := by have := (List.getElem?_eq_some_iff.1 h).1; simp at this; omega
      subst this
      simp at h
      subst h
      exact hT.pos
  | @step l a κ h hk hl ih =>
    obtain ⟨i1, i2, i3, i4, i5, i6⟩ := ih
    refine ⟨hl, ?_, by simp, ?_, fun i x y h1 h2 => ?_, fun i x hx => ?_⟩
    · rw [List.getElem?_append_left (by omega)]; exact i2
    · simp
    · have hil : i + 1 < (l ++ [κ]).length := (List.getElem?_eq_some_iff.1 h2).1
      rw [List.length_append, List.length_singleton] at hil
      rw [List.getElem?_append_left (by omega)] at h1
      by_cases e : i + 1 < l.length
      · rw [List.getElem?_append_left e] at h2
        exact i5 i x y h1 h2
      · obtain rfl : i = l.length - 1 := by omega
        rw [List.getElem?_append_right (by omega)] at h2
        rw [i4] at h1
        have e0 : l.length - 1 + 1 - l.length = 0 := by omega
        rw [e0] at h2
        simp at h1 h2
        subst h1 h2
        exact hk.par hT i1
    · have hil : i < (l ++ [κ]).length := (List.getElem?_eq_some_iff.1 hx).1
      rw [List.length_append, List.length_singleton] at hil
      by_cases e : i < l.length
      · rw [List.getElem?_append_left e] at hx
        exact i6 i x hx
      · rw [List.getElem?_append_right (by omega)] at hx
        have e0 : i - l.length = 0 := by omega
        rw [e0] at hx
        simp at hx
        subst hx
        exact hl

end Go.Proofs.YtekgnogjfggnmaaDoor
