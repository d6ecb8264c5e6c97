import Derived.Test.YtdcaonfnhdjibaaDoorVM1
import Derived.Test.YtdcaonfnhdjibaaDoorVWg
namespace Go.Proofs.YtdcaonfnhdjibaaDoor
open Go.RowKit

/-! The heap of places: its first one is the least, and nothing comes twice. -/
theorem swp_at {l : List Int} {i j : Nat} (hi : i < l.length) (hj : j < l.length) (k : Nat) : (swp l i j).getD k 0 = if k = j then l.getD i 0 else if k = i then l.getD j 0 else l.getD k 0 := by
  simp only [List.getD_eq_getElem?_getD]
  rw [swp_get hi hj k]
  split
  · rfl
  · split
    · rfl
    · rfl
theorem swp_perm {l : List Int} {i j : Nat} (hi : i < l.length) (hj : j < l.length) : (swp l i j).Perm l := by
  unfold swp
  have e1 : l.getD j 0 = l[j] := by rw [List.getD_eq_getElem?_getD, List.getElem?_eq_getElem hj]; rfl
  have e2 : l.getD i 0 = l[i] := by rw [List.getD_eq_getElem?_getD, List.getElem?_eq_getElem hi]; rfl
  rw [e1, e2]
  exact List.set_set_perm hi hj
theorem up_perm : ∀ n l j, j < l.length → (upS n l j).Perm l
  | 0, l, _, _ => List.Perm.refl l
  | n + 1, l, j, h => by
    rw [upS]
    split
    · exact List.Perm.refl l
    · have hp : (j - 1) / 2 < l.length := by omega
      exact (up_perm n _ _ (by rw [swp_len]; exact hp)).trans (swp_perm hp h)
theorem push_perm (l : List Int) (x : Int) : (pushH l x).Perm (x :: l) :=
  (up_perm _ _ _ (by simp)).trans (List.perm_append_singleton x l)
theorem down_perm : ∀ k l i n, n ≤ l.length → i < l.length → (downS k l i n).Perm l
  | 0, l, _, _, _, _ => List.Perm.refl l
  | k + 1, l, i, n, hn, hi => by
    rw [downS]
    split
    · exact List.Perm.refl l
    · rename_i h1
      obtain ⟨c1, c2⟩ := kid_lt (l := l) h1
      split
      · exact (down_perm k _ _ n (by rw [swp_len]; exact hn) (by rw [swp_len]; omega)).trans (swp_perm hi (by omega))
      · exact List.Perm.refl l
theorem pop_perm {l : List Int} (h : l ≠ []) : l.Perm ((popL l).getD (l.length - 1) 0 :: (popL l).take (l.length - 1)) := by
  have hl : 0 < l.length := List.length_pos_iff.2 h
  have h1 : (popL l).Perm l := (down_perm _ _ _ _ (by rw [swp_len]; omega) (by rw [swp_len]; exact hl)).trans (swp_perm hl (by omega))
  have h2 : popL l = (popL l).take (l.length - 1) ++ [(popL l).getD (l.length - 1) 0] := by
    have hp := pop_len l
    have e : (popL l).drop (l.length - 1) = [(popL l).getD (l.length - 1) 0] := by
      rw [List.drop_eq_getElem_cons (by rw [hp]; omega), List.drop_eq_nil_of_le (by rw [hp]; omega), List.getD_eq_getElem?_getD, List.getElem?_eq_getElem (by rw [hp]; omega)]
      rfl
    rw [← e, List.take_append_drop]
  refine h1.symm.trans ?_
  conv => lhs; rw [h2]
  exact List.perm_append_singleton _ _
/-- Every place but the first is no less than the one above it. -/
def Hp (l : List Int) (n : Nat) : Prop := ∀ i, 0 < i → i < n → l.getD ((i - 1) / 2) 0 ≤ l.getD i 0
theorem up_hp : ∀ n l j, j < l.length → j + 1 ≤ n → (∀ i, 0 < i → i < l.length → i ≠ j → l.getD ((i - 1) / 2) 0 ≤ l.getD i 0) → (0 < j → ∀ i, 0 < i → i < l.length → (i - 1) / 2 = j → l.getD ((j - 1) / 2) 0 ≤ l.getD i 0) → Hp (upS n l j) l.length
  | 0, l, j, _, h, _, _ => by omega
  | n + 1, l, j, hj, hn, h1, h2 => by
    rw [upS]
    split
    · rename_i h3
      intro i hi hil
      by_cases hij : i = j
      · subst hij
        rcases h3 with h3 | h3
        · omega
        · omega
      · exact h1 i hi hil hij
    · rename_i h3
      have hj0 : 0 < j := by omega
      have hlt : l.getD j 0 < l.getD ((j - 1) / 2) 0 := by
        rcases Int.lt_or_le (l.getD j 0) (l.getD ((j - 1) / 2) 0) with h | h
        · exact h
        · exact absurd (.inr (by omega)) h3
      obtain ⟨p, hp⟩ : ∃ p, (j - 1) / 2 = p := ⟨_, rfl⟩
      rw [hp] at hlt ⊢
      have hpj : p < j := by omega
      have hpl : p < l.length := by omega
      have S := swp_at hpl hj
      have := up_hp n (swp l p j) p (by rw [swp_len]; exact hpl) (by omega) (fun i hi hil hip => by
        rw [swp_len] at hil
        rw [S, S]
        by_cases e1 : i = j
        · subst e1
          rw [hp, if_neg (by omega), if_pos rfl, if_pos rfl]
          omega
        · rw [if_neg e1, if_neg hip]
          have h4 := h1 i hi hil e1
          by_cases e2 : (i - 1) / 2 = j
          · rw [if_pos e2]
            have := h2 hj0 i hi hil e2
            rw [hp] at this
            exact this
          · rw [if_neg e2]
            by_cases e3 : (i - 1) / 2 = p
            · rw [if_pos e3]
              rw [e3] at h4
              omega
            · rw [if_neg e3]
              exact h4) (fun hp0 i hi hil hip => by
        rw [swp_len] at hil
        rw [S, S, if_neg (by omega), if_neg (by omega)]
        have h5 := h1 p hp0 hpl (by omega)
        by_cases e1 : i = j
        · rw [if_pos e1]
          exact h5
        · rw [if_neg e1, if_neg (by omega)]
          have h4 := h1 i hi hil e1
          rw [hip] at h4
          omega)
      rw [swp_len] at this
      exact this
theorem push_hp {l : List Int} (h : Hp l l.length) (x : Int) : Hp (pushH l x) (pushH l x).length := by
  rw [push_len]
  have e : (l ++ [x]).length = l.length + 1 := by simp
  have := up_hp (l.length + 1) (l ++ [x]) l.length (by omega) (Nat.le_refl _) (fun i hi hil hij => by
    rw [e] at hil
    have := h i hi (by omega)
    simp only [List.getD_eq_getElem?_getD] at this ⊢
    rw [List.getElem?_append_left (by omega), List.getElem?_append_left (by omega)]
    exact this) (fun _ i _ hil hp => by rw [e] at hil; omega)
  rw [e] at this
  exact this
theorem kid_le {l : List Int} {i n k : Nat} (hk : 0 < k) (hkn : k < n) (hp : (k - 1) / 2 = i) : l.getD (kidS l i n) 0 ≤ l.getD k 0 := by
  have : k = 2 * i + 1 ∨ k = 2 * i + 2 := by omega
  unfold kidS
  split
  · rename_i h
    rcases this with rfl | rfl
    · omega
    · exact Int.le_refl _
  · rename_i h
    rcases this with rfl | rfl
    · exact Int.le_refl _
    · rcases Int.lt_or_le (l.getD (2 * i + 2) 0) (l.getD (2 * i + 1) 0) with h' | h'
      · exact absurd ⟨hkn, h'⟩ h
      · exact h'
theorem kid_par {l : List Int} {i n : Nat} : (kidS l i n - 1) / 2 = i := by
  unfold kidS
  split <;> omega
theorem down_hp : ∀ k l i n, n ≤ l.length → i < l.length → n ≤ k + i → (∀ j, 0 < j → j < n → (j - 1) / 2 ≠ i → l.getD ((j - 1) / 2) 0 ≤ l.getD j 0) → (0 < i → ∀ j, 0 < j → j < n → (j - 1) / 2 = i → l.getD ((i - 1) / 2) 0 ≤ l.getD j 0) → Hp (downS k l i n) n
  | 0, l, i, n, _, _, h, h1, _ => fun j hj hjn => h1 j hj hjn (by omega)
  | k + 1, l, i, n, hn, hi, hk, h1, h2 => by
    rw [downS]
    split
    · exact fun j hj hjn => h1 j hj hjn (by omega)
    · rename_i h3
      obtain ⟨c1, c2⟩ := kid_lt (l := l) h3
      have c3 : (kidS l i n - 1) / 2 = i := kid_par
      have c4 : ∀ j, 0 < j → j < n → (j - 1) / 2 = i → l.getD (kidS l i n) 0 ≤ l.getD j 0 := fun j a b d => kid_le a b d
      generalize kidS l i n = c at *
      split
      · rename_i hlt
        have S := swp_at hi (show c < l.length by omega)
        refine down_hp k (swp l i c) c n (by rw [swp_len]; exact hn) (by rw [swp_len]; omega) (by omega) (fun j hj hjn hjc => ?_) (fun _ j hj hjn hjc => ?_)
        · rw [S, S, if_neg hjc]
          by_cases e1 : (j - 1) / 2 = i
          · rw [if_pos e1]
            by_cases e2 : j = c
            · rw [if_pos e2]; omega
            · rw [if_neg e2, if_neg (by omega)]
              exact c4 j hj hjn e1
          · rw [if_neg e1]
            by_cases e2 : j = c
            · subst e2; exact absurd c3 e1
            · rw [if_neg e2]
              by_cases e3 : j = i
              · subst e3
                rw [if_pos rfl]
                exact h2 hj c (by omega) c1 c3
              · rw [if_neg e3]
                exact h1 j hj hjn e1
        · rw [S, S, c3, if_neg (by omega), if_pos rfl, if_neg (by omega), if_neg (by omega)]
          have := h1 j hj hjn (by omega)
          rw [hjc] at this
          exact this
      · rename_i hlt
        intro j hj hjn
        by_cases e1 : (j - 1) / 2 = i
        · rw [e1]
          have := c4 j hj hjn e1
          omega
        · exact h1 j hj hjn e1
theorem pop_hp {l : List Int} (h : Hp l l.length) (ho : l ≠ []) : Hp ((popL l).take (l.length - 1)) ((popL l).take (l.length - 1)).length := by
  have hl : 0 < l.length := List.length_pos_iff.2 ho
  have S := swp_at (l := l) hl (show l.length - 1 < l.length by omega)
  have h1 : Hp (popL l) (l.length - 1) := down_hp _ _ _ _ (by rw [swp_len]; omega) (by rw [swp_len]; exact hl) (by omega) (fun j hj hjn hp => by
    rw [S, S, if_neg (by omega), if_neg hp, if_neg (by omega), if_neg (by omega)]
    exact h j hj (by omega)) (fun h0 => by omega)
  have e : ((popL l).take (l.length - 1)).length = l.length - 1 := by rw [List.length_take, pop_len]; omega
  rw [e]
  intro i hi hin
  have := h1 i hi hin
  simp only [List.getD_eq_getElem?_getD] at this ⊢
  rw [List.getElem?_take_of_lt (by omega), List.getElem?_take_of_lt hin]
  exact this
theorem hp_least {l : List Int} (h : Hp l l.length) : ∀ (i : Nat), i < l.length → l.getD 0 0 ≤ l.getD i 0 := by
  intro i
  induction i using Nat.strongRecOn with
  | ind i ih =>
    intro hi
    rcases Nat.eq_zero_or_pos i with rfl | h0
    · exact Int.le_refl _
    · have := ih ((i - 1) / 2) (by omega) (by omega)
      have := h i h0 hi
      omega
theorem top_least {l : List Int} (h : Hp l l.length) (ho : l ≠ []) : ∀ y ∈ l, (popL l).getD (l.length - 1) 0 ≤ y := fun y hy => by
  obtain ⟨i, hi, rfl⟩ := List.getElem_of_mem hy
  have h1 : (popL l).getD (l.length - 1) 0 = l.getD 0 0 := by
    rw [List.getD_eq_getElem?_getD, pop_last ho, ← List.getD_eq_getElem?_getD]
  rw [h1]
  have := hp_least h i hi
  rw [List.getD_eq_getElem?_getD (i := i), List.getElem?_eq_getElem hi] at this
  exact this
end Go.Proofs.YtdcaonfnhdjibaaDoor
namespace Go.Proofs.YtdcaonfnhdjibaaDoor
open Go.RowKit

/-! The document's search takes the least place that is known and was not looked at: it is the heap's first. -/
structure RI (lo hi : Int) (st : Vst) (Lk : List Bool) : Prop where
  lo0 : 0 ≤ lo
  hi1 : hi ≤ (st.1.length : Int)
  ln : Lk.length = st.1.length
  hp : Hp st.2 st.2.length
  nd : st.2.Nodup
  op : ∀ y ∈ st.2, lo ≤ y ∧ y < hi
  iff : ∀ j : Nat, lo ≤ (j : Int) → (j : Int) < hi → ((st.1.getD j none ≠ none ∧ Lk.getD j false = false) ↔ (j : Int) ∈ st.2)
  lk : ∀ j : Nat, Lk.getD j false = true → st.1.getD j none ≠ none
theorem setB_getD (L : List Bool) (i j : Nat) (x : Bool) : (L.set i x).getD j false = if i = j ∧ i < L.length then x else L.getD j false := by
  rw [List.getD_eq_getElem?_getD, List.getD_eq_getElem?_getD, List.getElem?_set]
  by_cases h : i = j
  · subst h
    by_cases h2 : i < L.length
    · rw [if_pos rfl, if_pos h2, if_pos ⟨rfl, h2⟩]; rfl
    · rw [if_pos rfl, if_neg h2, if_neg (by simp [h2]), List.getElem?_eq_none (by omega)]
  · rw [if_neg h, if_neg (by simp [h])]
theorem RI.fw {lo hi : Int} {st st' : Vst} {Lk : List Bool} {s : List Int} {f : Int × Int} (h : RI lo hi st Lk) (hf : fwS lo hi s st f = .ok st') : RI lo hi st' Lk := by
  unfold fwS at hf
  split at hf
  · rename_i hr
    split at hf
    · rename_i hn
      cases hf
      have h0 := h.lo0
      have hl : f.1.toNat < st.1.length := by have := h.hi1; omega
      have hnl : Lk.getD f.1.toNat false = false := by
        cases hb : Lk.getD f.1.toNat false with
        | false => rfl
        | true => exact absurd hn (h.lk _ hb)
      have hni : f.1 ∉ st.2 := fun hm => by
        have := (h.iff f.1.toNat (by omega) (by omega)).2 (by rw [show ((f.1.toNat : Nat) : Int) = f.1 by omega]; exact hm)
        exact this.1 hn
      refine ⟨h.lo0, by rw [List.length_set]; exact h.hi1, by rw [List.length_set]; exact h.ln, push_hp h.hp f.1, (push_perm st.2 f.1).nodup_iff.2 (List.nodup_cons.2 ⟨hni, h.nd⟩), fun y hy => ?_, fun j hj1 hj2 => ?_, fun j hj => ?_⟩
      · rcases (push_mem _ _ y).1 hy with rfl | hy
        · exact hr
        · exact h.op y hy
      · rw [set_getD, push_mem]
        by_cases e : f.1.toNat = j
        · rw [if_pos ⟨e, hl⟩]
          subst e
          exact ⟨fun _ => .inl (by omega), fun _ => ⟨by simp, hnl⟩⟩
        · rw [if_neg (fun q => e q.1), h.iff j hj1 hj2]
          exact ⟨.inr, fun q => q.resolve_left (by omega)⟩
      · rw [set_getD]
        split
        · simp
        · exact h.lk j hj
    · split at hf
      · cases hf
      · split at hf
        · cases hf
        · cases hf; exact h
  · cases hf
theorem RI.fws {lo hi : Int} {Lk : List Bool} {s : List Int} : ∀ (l : List (Int × Int)) {st st' : Vst}, RI lo hi st Lk → fwsS lo hi s l st = .ok st' → RI lo hi st' Lk
  | [], st, st', h, e => by cases e; exact h
  | f :: r, st, st', h, e => by
    rw [fwsS] at e
    cases hf : fwS lo hi s st f with
    | error k => rw [hf] at e; cases e
    | ok st1 =>
      rw [hf] at e
      exact RI.fws r (h.fw hf) e
/-- The place that is looked at next. -/
abbrev topS (st : Vst) : Int := (popL st.2).getD (st.2.length - 1) 0
abbrev popS (st : Vst) : Vst := (st.1, (popL st.2).take (st.2.length - 1))
theorem RI.top {lo hi : Int} {st : Vst} {Lk : List Bool} (h : RI lo hi st Lk) (ho : st.2 ≠ []) : topS st ∈ st.2 ∧ lo ≤ topS st ∧ topS st < hi ∧ (st.1.getD (topS st).toNat none ≠ none ∧ Lk.getD (topS st).toNat false = false) := by
  have hm : topS st ∈ st.2 := (mem_pop ho _).2 (.inl rfl)
  obtain ⟨h1, h2⟩ := h.op _ hm
  have h0 := h.lo0
  refine ⟨hm, h1, h2, (h.iff (topS st).toNat (by omega) (by omega)).2 ?_⟩
  rw [show (((topS st).toNat : Nat) : Int) = topS st by omega]
  exact hm
theorem RI.pop {lo hi : Int} {st : Vst} {Lk : List Bool} (h : RI lo hi st Lk) (ho : st.2 ≠ []) : RI lo hi (popS st) (Lk.set (topS st).toNat true) := by
  obtain ⟨t1, t2, t3, t4, t5⟩ := h.top ho
  have h0 := h.lo0
  have hl : (topS st).toNat < Lk.length := by rw [h.ln]; have := h.hi1; omega
  have P := (pop_perm ho).nodup_iff.1 h.nd
  obtain ⟨p1, p2⟩ := List.nodup_cons.1 P
  refine ⟨h0, h.hi1, by rw [List.length_set]; exact h.ln, pop_hp h.hp ho, p2, fun y hy => h.op y ((mem_pop ho y).2 (.inr hy)), fun j hj1 hj2 => ?_, fun j hj => ?_⟩
  · show _ ↔ (j : Int) ∈ (popL st.2).take (st.2.length - 1)
    rw [setB_getD]
    by_cases e : (topS st).toNat = j
    · rw [if_pos ⟨e, hl⟩]
      have e2 : (popL st.2).getD (st.2.length - 1) 0 = (j : Int) := by
        show topS st = (j : Int)
        omega
      rw [e2] at p1
      exact ⟨fun q => (by have := q.2; simp at this), fun q => absurd q p1⟩
    · rw [if_neg (fun q => e q.1)]
      have := h.iff j hj1 hj2
      rw [mem_pop ho] at this
      rw [this]
      exact ⟨fun q => q.resolve_left (fun e' => e (by show (topS st).toNat = j; rw [show topS st = (j : Int) from e'.symm]; rfl)), .inr⟩
  · rw [setB_getD] at hj
    split at hj
    · rename_i q
      rw [← q.1]
      exact t4
    · exact h.lk j hj
/-- Looked at without a refusal. -/
theorem RI.lkd {c : Cd} {e : En} {hi : Int} {st st' : Vst} {Lk : List Bool} {at_ : Nat} (h : RI e.start hi st Lk) (hl : lkS c e hi at_ st = .ok st') : RI e.start hi st' Lk := by
  unfold lkS at hl
  split at hl
  · split at hl
    · cases hl
    · exact h.fws _ hl
  · cases hl
/-- The least one that is left. -/
theorem RI.left {lo hi : Int} {st : Vst} {Lk : List Bool} (h : RI lo hi st Lk) (i : Nat) (hi1 : lo ≤ (i : Int)) (hi2 : (i : Int) < hi) (hk : st.1.getD i none ≠ none) (hu : Lk.getD i false = false) (hb : ∀ j : Nat, lo ≤ (j : Int) → j < i → ¬ (st.1.getD j none ≠ none ∧ Lk.getD j false = false)) : st.2 ≠ [] ∧ topS st = (i : Int) := by
  have hm := (h.iff i hi1 hi2).1 ⟨hk, hu⟩
  have ho : st.2 ≠ [] := fun e => by rw [e] at hm; cases hm
  refine ⟨ho, ?_⟩
  have h1 := top_least h.hp ho _ hm
  obtain ⟨t1, t2, t3, t4⟩ := h.top ho
  have h0 := h.lo0
  have h2 : topS st ≤ (i : Int) := h1
  rcases Int.lt_or_le (topS st) (i : Int) with hlt | hge
  · exact absurd t4 (hb (topS st).toNat (by omega) (by omega))
  · omega
theorem RI.done {lo hi : Int} {st : Vst} {Lk : List Bool} (h : RI lo hi st Lk) (hb : ∀ j : Nat, lo ≤ (j : Int) → (j : Int) < hi → ¬ (st.1.getD j none ≠ none ∧ Lk.getD j false = false)) : st.2 = [] := by
  rcases hs : st.2 with _ | ⟨y, r⟩
  · rfl
  · have hy : y ∈ st.2 := by rw [hs]; exact List.mem_cons_self ..
    obtain ⟨h1, h2⟩ := h.op y hy
    have h0 := h.lo0
    exact absurd ((h.iff y.toNat (by omega) (by omega)).2 (by rw [show ((y.toNat : Nat) : Int) = y by omega]; exact hy)) (hb _ (by omega) (by omega))
/-- A function's first step. -/
theorem RI.start {c : Cd} {f : Nat} {K : Kn} {Lk : List Bool} (h : Pre c f K) (hc : CodeOk c) (hf : f < c.ens.length) (hn : Lk.length = K.length) (hlk : ∀ j : Nat, Lk.getD j false = true → K.getD j none ≠ none) :
    RI (enAt c.ens f).start (endS c f) (K.set (enAt c.ens f).start.toNat (some []), pushH [] (enAt c.ens f).start) (Lk.set (enAt c.ens f).start.toNat false) := by
  obtain ⟨p1, p2, p3⟩ := piece_ok hc hf
  have hl : ((enAt c.ens f).start).toNat < K.length := by rw [h.len]; omega
  refine ⟨p1, by rw [List.length_set, h.len]; exact p3, by rw [List.length_set, List.length_set]; exact hn, push_hp (l := []) (fun i _ hi => absurd hi (Nat.not_lt_zero i)) _, (push_perm [] _).nodup_iff.2 (by simp), fun y hy => ?_, fun j hj1 hj2 => ?_, fun j hj => ?_⟩
  · rcases (push_mem [] _ y).1 hy with rfl | hy
    · exact ⟨Int.le_refl _, p2⟩
    · cases hy
  · rw [set_getD, setB_getD, push_mem]
    by_cases e : ((enAt c.ens f).start).toNat = j
    · rw [if_pos ⟨e, hl⟩, if_pos ⟨e, by rw [hn]; exact hl⟩]
      exact ⟨fun _ => .inl (by omega), fun _ => ⟨by simp, rfl⟩⟩
    · rw [if_neg (fun q => e q.1), if_neg (fun q => e q.1), h.none_at hc hf j hj1]
      exact ⟨fun q => absurd rfl q.1, fun q => by
        rcases q with q | q
        · omega
        · cases q⟩
  · rw [setB_getD] at hj
    rw [set_getD]
    split at hj
    · cases hj
    · split
      · simp
      · exact hlk j hj
end Go.Proofs.YtdcaonfnhdjibaaDoor
namespace Go.Proofs.YtdcaonfnhdjibaaDoor
open Go.RowKit

/-! What the document's search knows, in memory. -/
abbrev Rk := Bool × Bool × Value
def rc (r : Rk) : List Value := [.bool r.1, .bool r.2.1, r.2.2]
abbrev rk0 : Rk := (false, false, .slice none 0 0)
structure RkM (W : World) (g : Nat) (K : Kn) (Lk : List Bool) (R : List Rk) : Prop where
  kl : R.length = K.length
  ll : R.length = Lk.length
  fl : Full W g 85 (R.flatMap rc)
  is : ∀ j, j < R.length → (R.getD j rk0).1 = (K.getD j none).isSome
  lk : ∀ j, j < R.length → (R.getD j rk0).2.1 = Lk.getD j false
  st : ∀ j, j < R.length → ∃ q cap, (R.getD j rk0).2.2 = .slice q (stkAt K j).length cap ∧ StQ W q cap (stkAt K j) ∧ ∀ a, q = some a → 0 < (stkAt K j).length → a.block ≠ g
theorem RkM.next {W W' : World} {g : Nat} {K : Kn} {Lk : List Bool} {R : List Rk} (h : RkM W g K Lk R) (k : Below W.heap.size W W') : RkM W' g K Lk R := ⟨h.kl, h.ll, h.fl.next k, h.is, h.lk, fun j hj => by
  obtain ⟨q, cap, e, hs, hn⟩ := h.st j hj
  exact ⟨q, cap, e, hs.next k, hn⟩⟩
theorem RkM.at_ {W : World} {g : Nat} {K : Kn} {Lk : List Bool} {R : List Rk} (h : RkM W g K Lk R) (j : Nat) (hj : j < R.length) : W.cell? ⟨g, j * 3, none⟩ = some (.bool (K.getD j none).isSome) ∧ W.cell? ⟨g, j * 3 + 1, none⟩ = some (.bool (Lk.getD j false)) ∧ W.cell? ⟨g, j * 3 + 2, none⟩ = some (R.getD j rk0).2.2 := by
  have e : R.getD j rk0 = R[j] := by rw [List.getD_eq_getElem?_getD, List.getElem?_eq_getElem hj]; rfl
  have key : ∀ t, t < 3 → (R.flatMap rc)[j * 3 + t]? = (rc (R.getD j rk0))[t]? := fun t ht => by
    rw [e]
    exact flat_at rc 3 (fun _ => rfl) R j t hj ht
  have c0 := (h.fl.cell (j * 3 + 0) (.bool (R.getD j rk0).1) ((key 0 (by omega)).trans rfl)).1
  have c1 := (h.fl.cell (j * 3 + 1) (.bool (R.getD j rk0).2.1) ((key 1 (by omega)).trans rfl)).1
  have c2 := (h.fl.cell (j * 3 + 2) (R.getD j rk0).2.2 ((key 2 (by omega)).trans rfl)).1
  rw [h.is j hj] at c0
  rw [h.lk j hj] at c1
  exact ⟨c0, c1, c2⟩
/-- What left answers. -/
def leftV (st : Vst) : Int := if st.2 = [] then -1 else topS st
section
variable {w : World} {B : Nat} {iq eq tq : Option Addr} {Es : List Em} {c : Cd} {g kc : Nat} {Lk : List Bool} {R : List Rk} {st : Vst}
set_option maxRecDepth 100000 in
set_option maxHeartbeats 4000000 in
theorem left_any (m : CodeM w B iq eq tq Es c) (hc : CodeOk c) (ia ea ta : Nat) (hB : B ≤ w.heap.size) (f : Nat) (hf : f < c.ens.length) (hR : RkM w g st.1 Lk R) (hn : R.length = c.ins.length) (hI : RI (enAt c.ens f).start (endS c f) st Lk) :
    Calls Tryd.prog 50 #[codeV iq eq tq ia ea ta c, .int .i64 (f : Int), .slice (some ⟨g, 0, none⟩) c.ins.length kc] w fun z w' => z = .returned (.int .i64 (leftV st)) ∧ Below w.heap.size w w' := by
  have HM : Hid (CodeM w B iq eq tq Es c ∧ CodeOk c ∧ B ≤ w.heap.size ∧ f < c.ens.length ∧ RkM w g st.1 Lk R ∧ R.length = c.ins.length ∧ RI (enAt c.ens f).start (endS c f) st Lk) := ⟨m, hc, hB, hf, hR, hn, hI⟩
  obtain ⟨V, HV⟩ : ∃ V, Hid (leftV st = V) := ⟨_, (rfl : leftV st = _)⟩
  rw [HV.out]
  obtain ⟨X, hX⟩ : ∃ X, w.alloc (.cells #[.slice iq c.ins.length ia, .slice eq c.ens.length ea, .slice tq c.txs.length ta, .int .i64 c.main] 26) = X := ⟨_, rfl⟩
  have B1 : Below w.heap.size w X := by rw [← hX]; exact (Below.refl _ w).alloc (Nat.le_refl _) _
  have F1 : Full X w.heap.size 26 [.slice iq c.ins.length ia, .slice eq c.ens.length ea, .slice tq c.txs.length ta, .int .i64 c.main] := by rw [← hX]; exact Full.new w _ _
  have HX : Hid (Full X w.heap.size 26 [.slice iq c.ins.length ia, .slice eq c.ens.length ea, .slice tq c.txs.length ta, .int .i64 c.main] ∧ Below w.heap.size w X) := ⟨F1, B1⟩
  obtain ⟨g2, o2, dq, dc, rfl, hg, hr, -⟩ := code_ent (m.below B1 hB) f hf
  obtain ⟨p1, p2, p3⟩ := piece_ok hc hf
  obtain ⟨lo, Hlo⟩ : ∃ lo : Nat, Hid ((enAt c.ens f).start = (lo : Int)) := ⟨(enAt c.ens f).start.toNat, (by omega : (enAt c.ens f).start = _)⟩
  obtain ⟨hi, Hhi⟩ : ∃ hi : Nat, Hid (endS c f = (hi : Int)) := ⟨(endS c f).toNat, (by omega : endS c f = _)⟩
  have r1 := hr 1 _ rfl
  rw [Hlo.out] at r1
  have hil := hc.il
  have hel := hc.el
  have hlh : lo ≤ hi := by have := Hlo.out; have := Hhi.out; omega
  have hhl : hi ≤ c.ins.length := by have := Hhi.out; omega
  have hh6 : hi ≤ 60000 := by omega
  have f0 : (0 : Int) ≤ (f : Int) := by omega
  have f1 : (f : Int) < (c.ens.length : Int) := by omega
  have x1 := (F1.cell 1 _ rfl).1
  unfold codeV
  clear m hc hB hf hR hn hI F1 B1 hr hg p1 p2 p3 hil hel
  go_enter Tryd.func50, Tryd.ntmps50
  go_wp2_with fail
  have HI0 : Hid (Below X.heap.size X X ∧ ∀ j : Nat, lo ≤ j → j < lo → ¬ (st.1.getD j none ≠ none ∧ Lk.getD j false = false)) := ⟨Below.refl _ _, fun j a b => by omega⟩
  clear x1 r1 hX
  go_loopw [7] (fun iv wr => ∃ (i : Nat), lo ≤ i ∧ i ≤ hi ∧ iv = .int .i64 (i : Int) ∧ Hid (Below X.heap.size X wr ∧ ∀ j : Nat, lo ≤ j → j < i → ¬ (st.1.getD j none ≠ none ∧ Lk.getD j false = false))) (fun iv _ => hi - (intOf iv).toNat)
  case atStart => exact ⟨lo, Nat.le_refl _, hlh, rfl, HI0⟩
  case round =>
    obtain ⟨i, hi1, hi2, rfl, HI⟩ := hrel
    clear HI0
    have F2 := HX.out.1.next HI.out.1
    have x0 := (F2.cell 0 _ rfl).1
    have x1 := (F2.cell 1 _ rfl).1
    have x2 := (F2.cell 2 _ rfl).1
    have x3 := (F2.cell 3 _ rfl).1
    have bw := below2 HX.out.2 HI.out.1
    have cL := last_any (HM.out.1.below bw HM.out.2.2.1) HM.out.2.1 ia ea ta (Nat.le_trans HM.out.2.2.1 bw.size) f HM.out.2.2.2.1
    rw [Hhi.out] at cL
    unfold codeV at cL
    clear F2 bw
    go_wp2_with fail
    refine cL.mono ?_
    rintro z W2 ⟨rfl, b2⟩
    have HJ : Hid (Below X.heap.size X W2 ∧ Below w.heap.size w W2) := ⟨below2 HI.out.1 b2, below2 HX.out.2 (below2 HI.out.1 b2)⟩
    clear cL b2 x0 x1 x2 x3
    by_cases hlt : i < hi
    · have hiL : i < R.length := by rw [HM.out.2.2.2.2.2.1]; omega
      obtain ⟨y0, y1, -⟩ := (HM.out.2.2.2.2.1.next HJ.out.2).at_ i hiL
      have a0 : (0 : Int) ≤ (i : Int) := by omega
      have a1 : (i : Int) < (c.ins.length : Int) := by omega
      have a2 : (i : Int) < (hi : Int) := by omega
      obtain ⟨ki, Hki⟩ : ∃ k, Hid ((st.1.getD i none).isSome = k) := ⟨_, (rfl : (st.1.getD i none).isSome = _)⟩
      obtain ⟨li, Hli⟩ : ∃ k, Hid (Lk.getD i false = k) := ⟨_, (rfl : Lk.getD i false = _)⟩
      rw [Hki.out] at y0
      rw [Hli.out] at y1
      cases ki with
      | false =>
        have HN : Hid (Below X.heap.size X W2 ∧ ∀ j : Nat, lo ≤ j → j < i + 1 → ¬ (st.1.getD j none ≠ none ∧ Lk.getD j false = false)) := ⟨HJ.out.1, fun j a b => by
          by_cases e : j = i
          · subst e
            intro q
            have := Hki.out
            cases hk : st.1.getD j none with
            | none => exact q.1 hk
            | some s => rw [hk] at this; cases this
          · exact HI.out.2 j a (by omega)⟩
        go_wp2
        exact ⟨⟨i + 1, by omega, by omega, by go_num, HN⟩, by simp [intOf]; omega⟩
      | true =>
        cases li with
        | true =>
          have HN : Hid (Below X.heap.size X W2 ∧ ∀ j : Nat, lo ≤ j → j < i + 1 → ¬ (st.1.getD j none ≠ none ∧ Lk.getD j false = false)) := ⟨HJ.out.1, fun j a b => by
            by_cases e : j = i
            · subst e
              intro q
              have := Hli.out
              rw [q.2] at this
              cases this
            · exact HI.out.2 j a (by omega)⟩
          go_wp2
          exact ⟨⟨i + 1, by omega, by omega, by go_num, HN⟩, by simp [intOf]; omega⟩
        | false =>
          have HN : Hid (V = (i : Int)) := by
            have hk : st.1.getD i none ≠ none := fun e => by have := Hki.out; rw [e] at this; cases this
            obtain ⟨h1, h2⟩ := HM.out.2.2.2.2.2.2.left i (by rw [Hlo.out]; omega) (by rw [Hhi.out]; omega) hk Hli.out (fun j a b => HI.out.2 j (by rw [Hlo.out] at a; omega) b)
            show V = _
            rw [← HV.out, leftV, if_neg h1]
            exact h2
          go_wp2
          go_ret
          exact ⟨by rw [HN.out]; rfl, HJ.out.2⟩
    · obtain rfl : hi = i := by omega
      have a2 : ¬ ((hi : Int) < (hi : Int)) := by omega
      have HN : Hid (V = -1) := by
        have := HM.out.2.2.2.2.2.2.done (fun j a b => HI.out.2 j (by rw [Hlo.out] at a; omega) (by rw [Hhi.out] at b; omega))
        show V = _
        rw [← HV.out, leftV, if_pos this]
      go_wp2
      go_ret
      exact ⟨by rw [HN.out]; rfl, HJ.out.2⟩
end
end Go.Proofs.YtdcaonfnhdjibaaDoor
namespace Go.Proofs.YtdcaonfnhdjibaaDoor
open Go.RowKit

/-! What the document's search writes. -/
theorem rc_set (v : Value) (t : Nat) (ht : t < 3) (r' : Rk) : ∀ (R : List Rk) (i : Nat), i < R.length → rc r' = (rc (R.getD i rk0)).set t v → (R.flatMap rc).set (i * 3 + t) v = (R.set i r').flatMap rc
  | [], i, h, _ => absurd h (Nat.not_lt_zero i)
  | x :: R, 0, _, e => by
    show ((rc x ++ R.flatMap rc)).set (0 * 3 + t) v = rc r' ++ R.flatMap rc
    rw [Nat.zero_mul, Nat.zero_add, List.set_append_left _ _ (by show t < 3; exact ht), e]
    rfl
  | x :: R, i + 1, h, e => by
    show ((rc x ++ R.flatMap rc)).set ((i + 1) * 3 + t) v = rc x ++ (R.set i r').flatMap rc
    rw [List.set_append_right _ _ (by show 3 ≤ _; omega), show (i + 1) * 3 + t - (rc x).length = i * 3 + t from (by show (i + 1) * 3 + t - 3 = _; omega), rc_set v t ht r' R i (Nat.lt_of_succ_lt_succ h) e]
theorem Full.setK {W : World} {g k : Nat} {t : TypeId} {vs : List Value} (h : Full W g t vs) (v : Value) : Full (W.setCell ⟨g, k, none⟩ v) g t (vs.set k v) := by
  show (W.setCell ⟨g, k, none⟩ v).heap[g]? = _
  rw [set_blk h v, Array.set!_eq_setIfInBounds, List.setIfInBounds_toArray]
theorem StQ.other {W : World} {q : Option Addr} {cap g k : Nat} {s : List Int} {v : Value} (h : StQ W q cap s) (hn : ∀ a, q = some a → 0 < s.length → a.block ≠ g) : StQ (W.setCell ⟨g, k, none⟩ v) q cap s := ⟨h.le, h.nl, fun a ha h0 => by
  obtain ⟨g', o, e, h1, h2⟩ := h.sm a ha h0
  have hne := hn a ha h0
  subst e
  have hb : Below 0 W (W.setCell ⟨g, k, none⟩ v) := (Below.refl 0 W).setCell (p := ⟨g, k, none⟩) (Nat.zero_le _) v
  exact ⟨g', o, rfl, Nat.lt_of_lt_of_le h1 hb.size, range_same h2 (set_heap (a := ⟨g, k, none⟩) hne)⟩⟩
theorem rk_get {R : List Rk} {i j : Nat} {r : Rk} : (R.set i r).getD j rk0 = if i = j ∧ i < R.length then r else R.getD j rk0 := by
  rw [List.getD_eq_getElem?_getD, List.getD_eq_getElem?_getD, List.getElem?_set]
  by_cases h : i = j
  · subst h
    by_cases h2 : i < R.length
    · rw [if_pos rfl, if_pos h2, if_pos ⟨rfl, h2⟩]; rfl
    · rw [if_pos rfl, if_neg h2, if_neg (by simp [h2]), List.getElem?_eq_none (by omega)]
  · rw [if_neg h, if_neg (by simp [h])]
section
variable {W : World} {g : Nat} {K : Kn} {Lk : List Bool} {R : List Rk}
theorem RkM.looked (h : RkM W g K Lk R) (i : Nat) (hi : i < R.length) : ∃ R', RkM (W.setCell ⟨g, i * 3 + 1, none⟩ (.bool true)) g K (Lk.set i true) R' ∧ R'.length = R.length := by
  refine ⟨R.set i ((R.getD i rk0).1, true, (R.getD i rk0).2.2), ⟨by rw [List.length_set]; exact h.kl, by rw [List.length_set, List.length_set]; exact h.ll, ?_, fun j hj => ?_, fun j hj => ?_, fun j hj => ?_⟩, List.length_set ..⟩
  · have := h.fl.setK (k := i * 3 + 1) (.bool true)
    rw [rc_set (.bool true) 1 (by omega) ((R.getD i rk0).1, true, (R.getD i rk0).2.2) R i hi rfl] at this
    exact this
  · rw [List.length_set] at hj
    rw [rk_get]
    split
    · rename_i q; rw [← q.1]; exact h.is i hi
    · exact h.is j hj
  · rw [List.length_set] at hj
    rw [rk_get, setB_getD]
    by_cases e : i = j
    · rw [if_pos ⟨e, hi⟩, if_pos ⟨e, by rw [← h.ll]; exact hi⟩]
    · rw [if_neg (fun q => e q.1), if_neg (fun q => e q.1)]
      exact h.lk j hj
  · rw [List.length_set] at hj
    have e : ((R.set i ((R.getD i rk0).1, true, (R.getD i rk0).2.2)).getD j rk0).2.2 = (R.getD j rk0).2.2 := by
      rw [rk_get]
      split
      · rename_i q; rw [← q.1]
      · rfl
    rw [e]
    obtain ⟨q, cap, e1, hs, hn⟩ := h.st j hj
    exact ⟨q, cap, e1, hs.other hn, hn⟩
theorem RkM.put (h : RkM W g K Lk R) (j : Nat) (hj : j < R.length) {q : Option Addr} {cap : Nat} {s : List Int} (hs : StQ W q cap s) (hn : ∀ a, q = some a → 0 < s.length → a.block ≠ g) : ∃ R', RkM ((W.setCell ⟨g, j * 3, none⟩ (.bool true)).setCell ⟨g, j * 3 + 2, none⟩ (.slice q s.length cap)) g (K.set j (some s)) Lk R' ∧ R'.length = R.length := by
  have hjK : j < K.length := by rw [← h.kl]; exact hj
  refine ⟨R.set j (true, (R.getD j rk0).2.1, .slice q s.length cap), ⟨by rw [List.length_set, List.length_set]; exact h.kl, by rw [List.length_set]; exact h.ll, ?_, fun i hi => ?_, fun i hi => ?_, fun i hi => ?_⟩, List.length_set ..⟩
  · have h1 := h.fl.setK (k := j * 3 + 0) (.bool true)
    rw [rc_set (.bool true) 0 (by omega) (true, (R.getD j rk0).2.1, (R.getD j rk0).2.2) R j hj rfl] at h1
    have h2 := h1.setK (k := j * 3 + 2) (.slice q s.length cap)
    rw [rc_set (.slice q s.length cap) 2 (by omega) (true, (R.getD j rk0).2.1, .slice q s.length cap) _ j (by rw [List.length_set]; exact hj) (by rw [rk_get, if_pos ⟨rfl, hj⟩]; rfl), List.set_set] at h2
    exact h2
  · rw [List.length_set] at hi
    rw [rk_get, set_getD]
    by_cases e : j = i
    · rw [if_pos ⟨e, hj⟩, if_pos ⟨e, hjK⟩]; rfl
    · rw [if_neg (fun q => e q.1), if_neg (fun q => e q.1)]
      exact h.is i hi
  · rw [List.length_set] at hi
    rw [rk_get]
    split
    · rename_i q; rw [← q.1]; exact h.lk j hj
    · exact h.lk i hi
  · rw [List.length_set] at hi
    rw [rk_get]
    by_cases e : j = i
    · have e2 : stkAt (K.set j (some s)) i = s := by unfold stkAt; rw [set_getD, if_pos ⟨e, hjK⟩]; rfl
      rw [if_pos ⟨e, hj⟩, e2]
      exact ⟨q, cap, rfl, (hs.other hn).other hn, hn⟩
    · have e2 : stkAt (K.set j (some s)) i = stkAt K i := by unfold stkAt; rw [set_getD, if_neg (fun q => e q.1)]
      rw [if_neg (fun q => e q.1), e2]
      obtain ⟨q', cap', e1, hs', hn'⟩ := h.st i hi
      exact ⟨q', cap', e1, (hs'.other hn').other hn', hn'⟩
end
end Go.Proofs.YtdcaonfnhdjibaaDoor
