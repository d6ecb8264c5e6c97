import Derived.Deep.RegionWith
import Derived.Lib.QuietBelow
import Derived.Test.YtlocaalipjjnpaaDoorN08
namespace Go.Proofs.YtlocaalipjjnpaaDoor.ApI
open Go.RowKit

/-- The marks of the first q places of the list i. -/
def sgs (i q : Nat) : List Value := (List.range q).map fun _ => Value.int .i64 (-1 - (i : Int))
theorem sgs_len (i q : Nat) : (sgs i q).length = q := by simp [sgs]
theorem sgs_at (i q j : Nat) (h : j < q) : (sgs i q)[j]? = some (.int .i64 (-1 - (i : Int))) := by simp [sgs, h]
theorem sgs_succ (i q : Nat) : sgs i (q + 1) = sgs i q ++ [.int .i64 (-1 - (i : Int))] := by simp [sgs, List.range_succ]
theorem sgs_take (i q p : Nat) (h : p ≤ q) : sgs i p = (sgs i q).take p := by
  apply List.ext_getElem?
  intro j
  by_cases hj : j < p
  · rw [List.getElem?_take_of_lt hj, sgs_at i p j hj, sgs_at i q j (by omega)]
  · rw [List.getElem?_eq_none (by rw [sgs_len]; omega), List.getElem?_eq_none (by rw [List.length_take, sgs_len]; omega)]

/-- The block of the lists themselves. -/
def OutB (W : World) (O m : Nat) (v : Nat → Value) : Prop := ∃ cur, W.heap[O]? = some (.cells cur 25 (0, 0)) ∧ ∀ k, k < m → cur[k]? = some (v k)
theorem OutB.cell {W : World} {O m : Nat} {v : Nat → Value} (h : OutB W O m v) (k : Nat) (hk : k < m) : W.cell? ⟨O, k, none⟩ = some (v k) := by
  obtain ⟨cur, hh, hc⟩ := h
  simp [World.cell?, hh, hc k hk]
theorem OutB.lt {W : World} {O m : Nat} {v : Nat → Value} (h : OutB W O m v) : O < W.heap.size := by
  obtain ⟨cur, hh, _⟩ := h
  exact (Array.getElem?_eq_some_iff.1 hh).1
theorem OutB.ne {W : World} {O m base n : Nat} {v : Nat → Value} {u : Value} {xs : List Value} (h : OutB W O m v) (k : W.ownsRow base 3 1 u n xs) : u.ownBlock ≠ some O := by
  obtain ⟨cur, hh, _⟩ := h
  rcases k.2 with ⟨rfl, _⟩ | ⟨g, cap, cur', rfl, _, hg, _⟩
  · simp [Value.ownBlock]
  · intro e
    have : g = O := by simpa [Value.ownBlock] using e
    subst this
    rw [hg] at hh
    simp at hh
theorem OutB.kept {W W' : World} {O m : Nat} {v : Nat → Value} {row : Option Nat} (h : OutB W O m v) (hg : W.grownBy W' row) (hne : row ≠ some O) : OutB W' O m v := by
  have hlt := h.lt
  obtain ⟨cur, hh, hc⟩ := h
  exact ⟨cur, (hg.block O hlt (fun e => hne e.symm)).trans hh, hc⟩
theorem OutB.stays {W W' : World} {O m : Nat} {v : Nat → Value} (h : OutB W O m v) (hb : Below W.heap.size W W') : OutB W' O m v :=
  h.kept (row := none) ⟨hb.os, hb.tape, hb.output, hb.size, fun k hk _ => hb.block k hk⟩ (by simp)

/-- The lists: each its own row; what each holds. -/
def Lists (W : World) (base O m : Nat) (v : Nat → Value) (n : Nat → Nat) (f : Nat → List Value) : Prop :=
  OutB W O m v ∧ ∀ k, k < m → W.ownsRow base 3 1 (v k) (n k) (f k)
theorem Lists.stays {W W' : World} {base O m : Nat} {v : Nat → Value} {n : Nat → Nat} {f : Nat → List Value} (h : Lists W base O m v n f) (hb : Below W.heap.size W W') : Lists W' base O m v n f :=
  ⟨h.1.stays hb, fun k hk => own_stays (h.2 k hk) hb⟩

/-- What the lists hold when the first i are marked, and j places of the next. -/
def Fm (n : Nat → Nat) (f0 : Nat → List Value) (i j k : Nat) : List Value := if k < i then sgs k (n k) else if k = i then sgs i j ++ (f0 i).drop j else f0 k

theorem grown_setCell (W : World) (g j : Nat) (u : Value) : W.grownBy (W.setCell ⟨g, j, none⟩ u) (some g) :=
  ⟨rfl, rfl, rfl, by simp, fun k _ hne => Below.heap_setCell W ⟨g, j, none⟩ u k (fun e => hne (by rw [e]))⟩

theorem Lists.store {W : World} {base O m : Nat} {v : Nat → Value} {n : Nat → Nat} {f0 : Nat → List Value} {i j g cap : Nat} (h : Lists W base O m v n (Fm n f0 i j)) (hi : i < m) (hj : j < n i) (hlen : (f0 i).length = n i)
    (hv : v i = .slice (some ⟨g, 0, none⟩) (n i) cap) (hd : ∀ a b, a < m → b < m → a ≠ b → (v a).ownBlock = none ∨ (v a).ownBlock ≠ (v b).ownBlock) :
    Lists (W.setCell ⟨g, j, none⟩ (.int .i64 (-1 - (i : Int)))) base O m v n (Fm n f0 i (j + 1)) := by
  have hg := grown_setCell W g j (.int .i64 (-1 - (i : Int)))
  have hoi := h.2 i hi
  have hbi : (v i).ownBlock = some g := by rw [hv]; rfl
  refine ⟨h.1.kept hg (by have := h.1.ne hoi; rw [hbi] at this; exact this), fun k hk => ?_⟩
  by_cases hki : k = i
  · subst hki
    rw [hv] at hoi ⊢
    have hs := hoi.stored j (.int .i64 (-1 - (k : Int)))
    have e : (Fm n f0 k j k).set j (.int .i64 (-1 - (k : Int))) = Fm n f0 k (j + 1) k := by
      unfold Fm
      simp only [Nat.lt_irrefl, if_false, if_true]
      rw [sgs_succ, List.set_append_right _ _ (by rw [sgs_len]; exact Nat.le_refl _), sgs_len, Nat.sub_self, List.append_assoc]
      congr 1
      rw [List.drop_eq_getElem_cons (by omega)]
      rfl
    rw [e] at hs
    exact hs.1
  · have e : Fm n f0 i (j + 1) k = Fm n f0 i j k := by
      unfold Fm
      by_cases h1 : k < i
      · rw [if_pos h1, if_pos h1]
      · rw [if_neg h1, if_neg h1, if_neg hki, if_neg hki]
    rw [e]
    refine own_kept (h.2 k hk) hg ?_
    rcases hd k i hk hi hki with h0 | h0
    · exact Or.inr h0
    · rw [hbi] at h0; exact Or.inl h0

theorem Fm_next {n : Nat → Nat} {f0 : Nat → List Value} {i : Nat} (hlen : (f0 i).length = n i) (k : Nat) : Fm n f0 i (n i) k = Fm n f0 (i + 1) 0 k := by
  unfold Fm
  by_cases h1 : k < i
  · rw [if_pos h1, if_pos (by omega)]
  · rw [if_neg h1]
    by_cases h2 : k = i
    · subst h2
      rw [if_pos rfl, if_pos (by omega), List.drop_of_length_le (by omega), List.append_nil]
    · rw [if_neg h2, if_neg (by omega)]
      by_cases h3 : k = i + 1
      · subst h3
        rw [if_pos rfl]
        simp [sgs]
      · rw [if_neg h3]

theorem own_form {W : World} {base n : Nat} {u : Value} {xs : List Value} (h : W.ownsRow base 3 1 u n xs) : ∃ ov cap, u = .slice ov n cap ∧ (0 < n → ∃ g, ov = some ⟨g, 0, none⟩) := by
  rcases h.2 with ⟨rfl, rfl⟩ | ⟨g, cap, _, rfl, _⟩
  · exact ⟨none, 0, rfl, fun h => absurd h (Nat.lt_irrefl _)⟩
  · exact ⟨_, cap, rfl, fun _ => ⟨g, rfl⟩⟩

theorem own_at {W : World} {base n g cap : Nat} {xs : List Value} (h : W.ownsRow base 3 1 (.slice (some ⟨g, 0, none⟩) n cap) n xs) (j : Nat) (hj : j < n) : (∃ x, W.cell? ⟨g, j, none⟩ = some x) ∧ W.frozen? ⟨g, j, none⟩ = false := by
  refine ⟨?_, h.frozenAt j⟩
  have hc := h.cellAt j (by omega)
  have hl : j < xs.length := by rw [h.1]; omega
  rw [List.getElem?_eq_getElem hl] at hc
  exact ⟨_, hc⟩

/-- The lengthened lists, as far as they are made. -/
def Longs (W : World) (base : Nat) (n : Nat → Nat) (us : List Value) : Prop := ∀ k u, us[k]? = some u → W.ownsRow base 3 1 u (n k + 70) (sgs k (n k + 70))
theorem Longs.stays {W W' : World} {base : Nat} {n : Nat → Nat} {us : List Value} (h : Longs W base n us) (hb : Below W.heap.size W W') : Longs W' base n us := fun k u hk => own_stays (h k u hk) hb

theorem own_types {W : World} {base b26 n m : Nat} {a u : Value} {xs ys : List Value} (h : W.ownsRow b26 25 1 a n xs) (k : W.ownsRow base 3 1 u m ys) : a.ownBlock ≠ u.ownBlock ∨ a.ownBlock = none := by
  rcases h.2 with ⟨rfl, _⟩ | ⟨g, cap, cur, rfl, _, hg, _⟩
  · exact Or.inr rfl
  · rcases k.2 with ⟨rfl, _⟩ | ⟨g', cap', cur', rfl, _, hg', _⟩
    · exact Or.inl (by simp [Value.ownBlock])
    · refine Or.inl (fun e => ?_)
      have : g = g' := by simpa [Value.ownBlock] using e
      subst this
      rw [hg] at hg'
      simp at hg'

theorem sg_head {i k p q : Nat} (_hi : i < 256) (_hk : k < 256) (hne : i ≠ k) (hp : 0 < p) (hq : 0 < q) : (sgs i p)[0]? ≠ (sgs k q)[0]? := by
  rw [sgs_at i p 0 hp, sgs_at k q 0 hq]
  intro e
  simp only [Option.some.injEq, Value.int.injEq, true_and] at e
  omega

/-- One element more on the list that is being lengthened: all others are as they were, and so is its own head. -/
theorem more_step {W W' : World} {base b26 O m i q : Nat} {v : Nat → Value} {n : Nat → Nat} {us : List Value} {s5 u u' : Value} (hm : m ≤ 200) (hi : i < m)
    (hL : Lists W base O m v n (fun k => sgs k (n k))) (hz : ∀ k, k < m → n k = 0 → v k = .slice none 0 0) (hG : Longs W base n us) (hus : us.length = i) (h26 : W.ownsRow b26 25 1 s5 i us)
    (hu : W.ownsRow base 3 1 u q (sgs i q)) (hq : n i ≤ q) (hq0 : q = 0 → u = .slice none 0 0)
    (hu' : W'.ownsRow base 3 1 u' (q + 1) (sgs i (q + 1))) (hg : W.grownBy W' u.ownBlock)
    (hcase : (∃ g cap, u = .slice (some ⟨g, 0, none⟩) q cap ∧ u' = .slice (some ⟨g, 0, none⟩) (q + 1) cap) ∨ (u'.ownBlock = some W.heap.size ∧ Below W.heap.size W W')) :
    Lists W' base O m v n (fun k => sgs k (n k)) ∧ Longs W' base n us ∧ W'.ownsRow b26 25 1 s5 i us := by
  rcases hcase with ⟨g, cap, rfl, rfl⟩ | ⟨_, hb⟩
  · have hq1 : 0 < q := by
      rcases Nat.eq_zero_or_pos q with h | h
      · have := hq0 h; simp at this
      · exact h
    refine ⟨⟨hL.1.kept hg (hL.1.ne hu), fun k hk => ?_⟩, fun k x hx => ?_, h26.kept hg ?_⟩
    · by_cases hki : k = i
      · subst hki
        rcases Nat.eq_zero_or_pos (n k) with h0 | h0
        · show W'.ownsRow base 3 1 (v k) (n k) (sgs k (n k))
          rw [hz k hk h0, h0]
          exact World.ownsRow_nil _ _ _ _
        · by_cases hbk : (v k).ownBlock = some g
          · have hv := hL.2 k hk
            obtain ⟨ov, cp, hvk, hgx⟩ := own_form hv
            obtain ⟨g', rfl⟩ := hgx h0
            rw [hvk] at hv hbk ⊢
            have : g' = g := by simpa [Value.ownBlock] using hbk
            subst this
            have hc := own_cap hv hu
            subst hc
            exact own_head hu' (by omega) (sgs_take k (q + 1) (n k) (by omega)) (sgs_len _ _)
          · exact own_kept (hL.2 k hk) hg (Or.inl hbk)
      · rcases Nat.eq_zero_or_pos (n k) with h0 | h0
        · show W'.ownsRow base 3 1 (v k) (n k) (sgs k (n k))
          rw [hz k hk h0, h0]
          exact World.ownsRow_nil _ _ _ _
        · exact own_kept (hL.2 k hk) hg (Or.inl (own_ne (hL.2 k hk) hu h0 hq1 (sg_head (by omega) (by omega) hki h0 hq1)))
    · have hkl : k < us.length := (List.getElem?_eq_some_iff.1 hx).1
      exact own_kept (hG k x hx) hg (Or.inl (own_ne (hG k x hx) hu (by omega) hq1 (sg_head (by omega) (by omega) (by omega) (by omega) hq1)))
    · rcases own_types h26 hu with h | h
      · exact Or.inr h
      · exact Or.inl h
  · exact ⟨hL.stays hb, hG.stays hb, own_stays h26 hb⟩

/-- The list of the lengthened lists is lengthened itself: they all are as they were. -/
theorem long_step {W W' : World} {base b26 O m c : Nat} {v : Nat → Value} {n : Nat → Nat} {us : List Value} {s5 u : Value} {q : Nat} {xs : List Value} (hL : Lists W base O m v n (fun k => sgs k (n k))) (hG : Longs W base n us) (h26 : W.ownsRow b26 25 1 s5 c us) (hO : O < b26)
    (hu : W.ownsRow base 3 1 u q xs) (hg : W.grownBy W' s5.ownBlock) : Lists W' base O m v n (fun k => sgs k (n k)) ∧ Longs W' base n us ∧ W'.ownsRow base 3 1 u q xs := by
  have hk : ∀ {x : Value} {p : Nat} {ys : List Value}, W.ownsRow base 3 1 x p ys → W'.ownsRow base 3 1 x p ys := by
    intro x p ys h
    refine own_kept h hg ?_
    rcases own_types h26 h with e | e
    · exact Or.inl (Ne.symm e)
    · rw [e]
      cases hx : x.ownBlock with
      | none => exact Or.inr rfl
      | some b => exact Or.inl (by simp)
  refine ⟨⟨hL.1.kept hg (fun e => ?_), fun k h => hk (hL.2 k h)⟩, fun k x hx => hk (hG k x hx), hk hu⟩
  have := (h26.lt O e).1
  omega

theorem Longs.push {W : World} {base : Nat} {n : Nat → Nat} {us : List Value} {u : Value} (h : Longs W base n us) (hu : W.ownsRow base 3 1 u (n us.length + 70) (sgs us.length (n us.length + 70))) : Longs W base n (us ++ [u]) := by
  intro k x hx
  by_cases hk : k < us.length
  · rw [List.getElem?_append_left hk] at hx
    exact h k x hx
  · rw [List.getElem?_append_right (by omega)] at hx
    have hk2 : k - us.length = 0 := by
      have := (List.getElem?_eq_some_iff.1 hx).1
      simp at this
      omega
    rw [hk2] at hx
    simp only [List.getElem?_cons_zero, Option.some.injEq] at hx
    subst hx
    have : k = us.length := by omega
    subst this
    exact hu

end Go.Proofs.YtlocaalipjjnpaaDoor.ApI
