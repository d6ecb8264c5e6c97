import Derived.Test.YtdcaonfnhdjibaaDoorVOw
namespace Go.Proofs.YtdcaonfnhdjibaaDoor
open Go.RowKit

/-! What an instruction does to a stack of sorts (the topmost last). -/
abbrev Ex := Except Int (List Int)
def tkS (n : Nat) (s : List Int) (k : List Int → List Int → Ex) : Ex := if s.length < n then .error 141 else k (s.take (s.length - n)) (s.drop (s.length - n))
def wtS (b : Bool) (k : Ex) : Ex := if b then k else .error 142
def gvS (v : Int) (s : List Int) : Ex := if s.length = 400 then .error 141 else .ok (s ++ [v])
def tjS (l s : List Int) (k : List Int → Ex) : Ex := tkS l.length s fun r t => wtS (decide (t = l)) (k r)
def hasL (s : Int) : Bool := decide (4 < s) || s == 3
def eltS (s : Int) : Int := if s = 3 then 1 else s - 4
def opnd (op s : Int) : Bool := if op = 8 ∨ op = 9 then true else if 4 ≤ op ∧ op ≤ 7 then s == 1 else s == 1 || s == 3
def namedS (c : Cd) (e : En) (x : In) : Bool :=
  if x.1 = 3 then decide (x.2.1 < (c.txs.length : Int))
  else if x.1 = 4 ∨ x.1 = 5 then decide (x.2.1 < (e.sorts.length : Int))
  else if x.1 = 22 then decide (x.2.2 < (e.sorts.length : Int))
  else if x.1 = 11 then decide (x.2.1 < (c.ens.length : Int))
  else true
def effS (c : Cd) (e : En) (x : In) (s : List Int) : Ex :=
  if x.1 = 1 ∨ x.1 = 20 then gvS 1 s
  else if x.1 = 2 then gvS 2 s
  else if x.1 = 3 then gvS 3 s
  else if x.1 = 4 then gvS (e.sorts.getD x.2.1.toNat 0) s
  else if x.1 = 5 then tjS [e.sorts.getD x.2.1.toNat 0] s .ok
  else if x.1 = 6 then tkS 1 s fun r _ => .ok r
  else if x.1 = 7 then tjS [if x.2.1 = 2 then 2 else 1] s (gvS (if x.2.1 = 2 then 2 else 1))
  else if x.1 = 8 then tkS 2 s fun r t => wtS (decide (t.getD 0 0 = t.getD 1 0) && opnd x.2.1 (t.getD 0 0)) (gvS (if x.2.1 ≤ 7 then t.getD 0 0 else 2) r)
  else if x.1 = 10 then tjS [2] s .ok
  else if x.1 = 11 then tjS ((enAt c.ens x.2.1.toNat).sorts.take (enAt c.ens x.2.1.toNat).params.toNat) s fun r => if (enAt c.ens x.2.1.toNat).result = 0 then .ok r else gvS (enAt c.ens x.2.1.toNat).result r
  else if x.1 = 12 then tjS [e.result] s .ok
  else if x.1 = 13 then wtS (decide (e.result = 0)) (.ok s)
  else if x.1 = 14 then tjS [1] s (gvS (x.2.1 + 4))
  else if x.1 = 15 then tkS 2 s fun r t => wtS (hasL (t.getD 0 0) && decide (t.getD 1 0 = 1)) (gvS (eltS (t.getD 0 0)) r)
  else if x.1 = 16 then tkS 3 s fun r t => wtS (decide (4 < t.getD 0 0) && decide (t.getD 1 0 = 1) && decide (t.getD 2 0 = eltS (t.getD 0 0))) (.ok r)
  else if x.1 = 17 then tkS 1 s fun r t => wtS (hasL (t.getD 0 0)) (gvS 1 r)
  else if x.1 = 18 then tkS 1 s fun r t => wtS (!decide (4 < t.getD 0 0)) (gvS 3 r)
  else if x.1 = 19 then tkS x.2.1.toNat s fun r t => wtS (t.all fun v => !decide (4 < v)) (.ok r)
  else if x.1 = 23 then tkS 1 s fun r t => gvS (t.getD 0 0) r
  else .ok s
/-- What may come next, and the error where that is outside. -/
def flS (x : In) (at_ : Nat) : List (Int × Int) :=
  if x.1 = 12 ∨ x.1 = 13 then [] else if x.1 = 9 then [(x.2.1, 140)] else if x.1 = 10 then [((at_ : Int) + 1, 144), (x.2.1, 140)] else [((at_ : Int) + 1, 144)]

/-! The heap of places. -/
def swp (l : List Int) (i j : Nat) : List Int := (l.set i (l.getD j 0)).set j (l.getD i 0)
def upS : Nat → List Int → Nat → List Int
  | 0, l, _ => l
  | n + 1, l, j => if j = 0 ∨ ¬ (l.getD j 0 < l.getD ((j - 1) / 2) 0) then l else upS n (swp l ((j - 1) / 2) j) ((j - 1) / 2)
def pushH (l : List Int) (x : Int) : List Int := upS (l.length + 1) (l ++ [x]) l.length
def kidS (l : List Int) (i n : Nat) : Nat := if 2 * i + 2 < n ∧ l.getD (2 * i + 2) 0 < l.getD (2 * i + 1) 0 then 2 * i + 2 else 2 * i + 1
def downS : Nat → List Int → Nat → Nat → List Int
  | 0, l, _, _ => l
  | k + 1, l, i, n => if n ≤ 2 * i + 1 then l else if l.getD (kidS l i n) 0 < l.getD i 0 then downS k (swp l i (kidS l i n)) (kidS l i n) n else l
def popL (l : List Int) : List Int := downS l.length (swp l 0 (l.length - 1)) 0 (l.length - 1)
theorem swp_len (l : List Int) (i j : Nat) : (swp l i j).length = l.length := by simp [swp]
theorem swp_get {l : List Int} {i j : Nat} (hi : i < l.length) (hj : j < l.length) (k : Nat) : (swp l i j)[k]? = if k = j then l[i]? else if k = i then l[j]? else l[k]? := by
  unfold swp
  rw [List.getElem?_set, List.getElem?_set, List.length_set]
  by_cases h1 : j = k
  · subst h1
    rw [if_pos rfl, if_pos rfl, if_pos hj, List.getD_eq_getElem?_getD, List.getElem?_eq_getElem hi]; rfl
  · rw [if_neg h1, if_neg (Ne.symm h1)]
    by_cases h2 : i = k
    · subst h2
      rw [if_pos rfl, if_pos rfl, if_pos hi, List.getD_eq_getElem?_getD, List.getElem?_eq_getElem hj]; rfl
    · rw [if_neg h2, if_neg (Ne.symm h2)]
theorem swp_mem {l : List Int} {i j : Nat} (hi : i < l.length) (hj : j < l.length) (y : Int) : y ∈ swp l i j ↔ y ∈ l := by
  rw [List.mem_iff_getElem?, List.mem_iff_getElem?]
  constructor
  · rintro ⟨k, h⟩
    rw [swp_get hi hj] at h
    split at h
    · exact ⟨_, h⟩
    · split at h
      · exact ⟨_, h⟩
      · exact ⟨_, h⟩
  · rintro ⟨k, h⟩
    by_cases h1 : k = i
    · exact ⟨j, by rw [swp_get hi hj, if_pos rfl, ← h1]; exact h⟩
    · by_cases h2 : k = j
      · refine ⟨i, ?_⟩
        rw [swp_get hi hj]
        by_cases h3 : i = j
        · rw [if_pos h3, h3, ← h2]; exact h
        · rw [if_neg h3, if_pos rfl, ← h2]; exact h
      · exact ⟨k, by rw [swp_get hi hj, if_neg h2, if_neg h1]; exact h⟩
theorem upS_len : ∀ n l j, (upS n l j).length = l.length
  | 0, _, _ => rfl
  | n + 1, l, j => by
    rw [upS]
    split
    · rfl
    · rw [upS_len, swp_len]
theorem upS_mem : ∀ n l j, j < l.length → ∀ y, y ∈ upS n l j ↔ y ∈ l
  | 0, _, _, _, _ => Iff.rfl
  | n + 1, l, j, h, y => by
    rw [upS]
    split
    · exact Iff.rfl
    · rw [upS_mem n _ _ (by rw [swp_len]; omega), swp_mem (by omega) h]
theorem push_len (l : List Int) (x : Int) : (pushH l x).length = l.length + 1 := by unfold pushH; rw [upS_len]; simp
theorem push_mem (l : List Int) (x y : Int) : y ∈ pushH l x ↔ y = x ∨ y ∈ l := by
  unfold pushH
  rw [upS_mem _ _ _ (by simp), List.mem_append, List.mem_singleton, or_comm]
theorem kid_lt {l : List Int} {i n : Nat} (h : ¬ n ≤ 2 * i + 1) : kidS l i n < n ∧ i < kidS l i n := by
  unfold kidS
  split
  · omega
  · omega
theorem downS_len : ∀ k l i n, (downS k l i n).length = l.length
  | 0, _, _, _ => rfl
  | k + 1, l, i, n => by
    rw [downS]
    split
    · rfl
    · split
      · rw [downS_len, swp_len]
      · rfl
theorem downS_last : ∀ k l i n, n < l.length → (downS k l i n)[n]? = l[n]?
  | 0, _, _, _, _ => rfl
  | k + 1, l, i, n, hn => by
    rw [downS]
    split
    · rfl
    · rename_i h
      split
      · obtain ⟨h1, h2⟩ := kid_lt (l := l) h
        rw [downS_last k _ _ n (by rw [swp_len]; exact hn), swp_get (by omega) (by omega), if_neg (by omega), if_neg (by omega)]
      · rfl
theorem downS_mem : ∀ k l i n, n ≤ l.length → ∀ y, y ∈ downS k l i n ↔ y ∈ l
  | 0, _, _, _, _, _ => Iff.rfl
  | k + 1, l, i, n, hn, y => by
    rw [downS]
    split
    · exact Iff.rfl
    · rename_i h
      obtain ⟨h1, h2⟩ := kid_lt (l := l) h
      split
      · rw [downS_mem k _ _ _ (by rw [swp_len]; exact hn), swp_mem (by omega) (by omega)]
      · exact Iff.rfl
theorem pop_len (l : List Int) : (popL l).length = l.length := by unfold popL; rw [downS_len, swp_len]
theorem pop_last {l : List Int} (h : l ≠ []) : (popL l)[l.length - 1]? = l[0]? := by
  have hl : 0 < l.length := List.length_pos_iff.2 h
  unfold popL
  rw [downS_last _ _ _ _ (by rw [swp_len]; omega), swp_get hl (by omega), if_pos rfl]
theorem mem_pop {l : List Int} (h : l ≠ []) (y : Int) : y ∈ l ↔ y = (popL l).getD (l.length - 1) 0 ∨ y ∈ (popL l).take (l.length - 1) := by
  have hl : 0 < l.length := List.length_pos_iff.2 h
  have e : y ∈ popL l ↔ y ∈ l := by
    unfold popL
    rw [downS_mem _ _ _ _ (by rw [swp_len]; omega), swp_mem hl (by omega)]
  rw [← e]
  have hlt : l.length - 1 < (popL l).length := by rw [pop_len]; omega
  have hd : popL l = (popL l).take (l.length - 1) ++ [(popL l).getD (l.length - 1) 0] := by
    conv => lhs; rw [← List.take_append_drop (l.length - 1) (popL l)]
    congr 1
    rw [List.drop_eq_getElem_cons hlt, List.drop_eq_nil_of_le (by rw [pop_len]; omega), List.getD_eq_getElem?_getD, List.getElem?_eq_getElem hlt]
    rfl
  conv => lhs; rw [hd]
  rw [List.mem_append, List.mem_singleton, or_comm]

/-! The search. -/
abbrev Kn := List (Option (List Int))
abbrev Vst := Kn × List Int
def fwS (lo hi : Int) (s : List Int) (st : Vst) (f : Int × Int) : Except Int Vst :=
  if lo ≤ f.1 ∧ f.1 < hi then
    match st.1.getD f.1.toNat none with
    | none => .ok (st.1.set f.1.toNat (some s), pushH st.2 f.1)
    | some k => if k.length ≠ s.length then .error 141 else if k ≠ s then .error 142 else .ok st
  else .error f.2
def fwsS (lo hi : Int) (s : List Int) : List (Int × Int) → Vst → Except Int Vst
  | [], st => .ok st
  | f :: r, st => match fwS lo hi s st f with
    | .error k => .error k
    | .ok st' => fwsS lo hi s r st'
def insAt (c : Cd) (i : Nat) : In := c.ins.getD i (0, 0, 0)
def stkAt (K : Kn) (i : Nat) : List Int := (K.getD i none).getD []
def lkS (c : Cd) (e : En) (hi : Int) (at_ : Nat) (st : Vst) : Except Int Vst :=
  if namedS c e (insAt c at_) then
    match effS c e (insAt c at_) (stkAt st.1 at_) with
    | .error k => .error k
    | .ok s => fwsS e.start hi s (flS (insAt c at_) at_) st
  else .error 143
def pieceS (c : Cd) (e : En) (hi : Int) : Nat → Vst → Except (Int × Int) Kn
  | 0, st => .ok st.1
  | n + 1, st => if st.2 = [] then .ok st.1 else
    match lkS c e hi ((popL st.2).getD (st.2.length - 1) 0).toNat (st.1, (popL st.2).take (st.2.length - 1)) with
    | .error k => .error (k, (popL st.2).getD (st.2.length - 1) 0)
    | .ok st' => pieceS c e hi n st'
def endS (c : Cd) (f : Nat) : Int := if f + 1 < c.ens.length then (enAt c.ens (f + 1)).start else (c.ins.length : Int)
/-- A function's piece, from what is known of those before. -/
def fnS (c : Cd) (f : Nat) (K : Kn) : Except (Int × Int) Kn := pieceS c (enAt c.ens f) (endS c f) (c.ins.length + 1) (K.set (enAt c.ens f).start.toNat (some []), pushH [] (enAt c.ens f).start)
/-- The functions from the f-th on, n of them. -/
def fnsS (c : Cd) : Nat → Nat → Kn → Except (Int × Int) Kn
  | _, 0, K => .ok K
  | f, n + 1, K => match fnS c f K with
    | .error k => .error k
    | .ok K' => fnsS c (f + 1) n K'
/-- What survey answers: what is known of each instruction, or the refusal. -/
def surS (c : Cd) : Except (Int × Int) Kn :=
  if validS c ≠ 0 then .error (validS c, 0)
  else if 0 < (enAt c.ens c.main.toNat).params ∨ (enAt c.ens c.main.toNat).result ≠ 0 then .error (142, (enAt c.ens c.main.toNat).start)
  else fnsS c 0 c.ens.length (List.replicate c.ins.length none)
end Go.Proofs.YtdcaonfnhdjibaaDoor
