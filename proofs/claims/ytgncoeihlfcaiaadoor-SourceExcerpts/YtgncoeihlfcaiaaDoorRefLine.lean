import Derived.Laws.DeepStrings4
import Derived.Test.YtgncoeihlfcaiaaDoorRefOff
namespace Go.Proofs.YtgncoeihlfcaiaaDoor
open Go.RowKit Go.Shelf

theorem keeps_of_below {W W' : World} (h : Below W.heap.size W W') : KeepsOthers W W' :=
  ⟨h.size, fun k _ hk _ => (h.block k (Array.getElem?_eq_some_iff.1 hk).1).trans hk⟩

/-- What Line answers, off the rows that have yet to come. -/
def lineL (n : Int) : List (Nat × ByteArray) → ByteArray × Int
  | [] => (⟨#[]⟩, 10)
  | x :: r => if (x.1 : Int) = n then (x.2, 0) else lineL n r

/-- The bytes up to the next byte 10. -/
def upto (l : List UInt8) : List UInt8 := l.takeWhile (fun c => c != 10)

theorem upto_take : ∀ (m : Nat) (l : List UInt8), m ≤ l.length → (∀ j, j < m → l[j]? ≠ some 10) → (m = l.length ∨ l[m]? = some 10) → upto l = l.take m
  | 0, [], _, _, _ => rfl
  | 0, c :: t, _, _, h => by
    rcases h with h | h
    · simp at h
    · simp only [List.getElem?_cons_zero, Option.some.injEq] at h
      simp [upto, h]
  | m + 1, [], h, _, _ => by simp at h
  | m + 1, c :: t, hm, hn, h => by
    have hc : c ≠ 10 := fun e => hn 0 (by omega) (by simp [e])
    have ih := upto_take m t (by simpa using hm) (fun j hj => by simpa using hn (j + 1) (by omega)) (by simpa using h)
    unfold upto at *
    rw [List.takeWhile_cons_of_pos (by simpa using hc), ih, List.take_succ_cons]

theorem upto_none {l : List UInt8} (h : ∀ x ∈ l, x ≠ 10) : upto l = l := by
  have e := upto_take l.length l (Nat.le_refl _) (fun j _ hj => h 10 (List.mem_of_getElem? hj) rfl) (Or.inl rfl)
  rw [e, List.take_length]

theorem upto_cut {a : List UInt8} (b : List UInt8) (h : ∀ x ∈ a, x ≠ 10) : upto (a ++ 10 :: b) = a := by
  unfold upto
  rw [List.takeWhile_append_of_pos (by intro x hx; simpa using h x hx)]
  simp

theorem lineL_spec (n : Int) (l : List UInt8) : ∀ (k : Nat),
    (∃ i, i ≤ l.length ∧ isAt n 1 k l i ∧ lineL n (Src.rows k (Src.lns l)) = (⟨(upto (l.drop i)).toArray⟩, 0)) ∨
    ((∀ i, i ≤ l.length → ¬ isAt n 1 k l i) ∧ lineL n (Src.rows k (Src.lns l)) = (⟨#[]⟩, 10)) := by
  refine Src.lineInd (P := fun l => ∀ (k : Nat),
    (∃ i, i ≤ l.length ∧ isAt n 1 k l i ∧ lineL n (Src.rows k (Src.lns l)) = (⟨(upto (l.drop i)).toArray⟩, 0)) ∨
    ((∀ i, i ≤ l.length → ¬ isAt n 1 k l i) ∧ lineL n (Src.rows k (Src.lns l)) = (⟨#[]⟩, 10))) ?_ ?_ l.length l (Nat.le_refl _)
  · intro l h k
    rw [Src.lns_none h]
    show (∃ i, _ ∧ _ ∧ (if (k : Int) = n then ((⟨l.toArray⟩ : ByteArray), 0) else (⟨#[]⟩, 10)) = _) ∨ (_ ∧ (if (k : Int) = n then ((⟨l.toArray⟩ : ByteArray), 0) else (⟨#[]⟩, 10)) = _)
    by_cases hk : (k : Int) = n
    · rw [if_pos hk]
      exact Or.inl ⟨0, Nat.zero_le _, ⟨hk, rfl⟩, by rw [List.drop_zero, upto_none h]⟩
    · rw [if_neg hk]
      refine Or.inr ⟨fun i hi hh => hk ?_, rfl⟩
      have := hh.1
      rw [plf_take_n _ h i hi] at this
      exact this
  · intro a b h ih k
    have hla : (a ++ 10 :: b).length = a.length + 1 + b.length := by simp; omega
    have hbt : ∀ j, (isAt n 1 k (a ++ 10 :: b) (a.length + 1 + j) ↔ isAt n 1 (k + 1) b j) := by
      intro j
      unfold isAt
      rw [plf_take_b b _ h j]
    rw [Src.lns_cut b h, hla]
    show (∃ i, _ ∧ _ ∧ (if (k : Int) = n then ((⟨a.toArray⟩ : ByteArray), 0) else lineL n (Src.rows (k + 1) (Src.lns b))) = _) ∨ (_ ∧ (if (k : Int) = n then ((⟨a.toArray⟩ : ByteArray), 0) else lineL n (Src.rows (k + 1) (Src.lns b))) = _)
    by_cases hk : (k : Int) = n
    · rw [if_pos hk]
      exact Or.inl ⟨0, Nat.zero_le _, ⟨hk, rfl⟩, by rw [List.drop_zero, upto_cut b h]⟩
    · rw [if_neg hk]
      rcases ih (k + 1) with ⟨j, hj, hh, ho⟩ | ⟨hn, ho⟩
      · refine Or.inl ⟨a.length + 1 + j, by omega, (hbt j).2 hh, ?_⟩
        have e : (a ++ 10 :: b).drop (a.length + 1 + j) = b.drop j := by
          rw [List.drop_append, List.drop_of_length_le (by omega), List.nil_append, show a.length + 1 + j - a.length = j + 1 from by omega, List.drop_succ_cons]
        rw [ho, e]
      · refine Or.inr ⟨fun i hi hh => ?_, ho⟩
        by_cases hi' : i ≤ a.length
        · have := hh.1
          rw [plf_take_a b _ h i hi'] at this
          exact hk this
        · have e : i = a.length + 1 + (i - a.length - 1) := by omega
          rw [e] at hh
          exact hn _ (by omega) ((hbt _).1 hh)

/-- What a line is: the bytes from the one offset of its first column up to the next byte 10, or none. -/
def LineIs (l : List UInt8) (n : Int) (b : ByteArray) (e : Int) : Prop :=
  (∃ i, i ≤ l.length ∧ ((Src.pl (l.take i)).1 : Int) = n ∧ ((Src.pl (l.take i)).2 : Int) = 1 ∧ b = ⟨(upto (l.drop i)).toArray⟩ ∧ e = 0) ∨
  ((∀ i, i ≤ l.length → ¬ (((Src.pl (l.take i)).1 : Int) = n ∧ ((Src.pl (l.take i)).2 : Int) = 1)) ∧ b = ⟨#[]⟩ ∧ e = 10)

theorem LineIs.unique {l : List UInt8} {n : Int} {b c : ByteArray} {e f : Int} (h : LineIs l n b e) (k : LineIs l n c f) : b = c ∧ e = f := by
  rcases h with ⟨i, hi, h1, h2, rfl, rfl⟩ | ⟨hn, rfl, rfl⟩
  · rcases k with ⟨j, hj, k1, k2, rfl, rfl⟩ | ⟨kn, _, _⟩
    · have := pl_inj l i j hi hj (by omega) (by omega)
      subst this; exact ⟨rfl, rfl⟩
    · exact absurd ⟨h1, h2⟩ (kn i hi)
  · rcases k with ⟨j, hj, k1, k2, _, _⟩ | ⟨_, rfl, rfl⟩
    · exact absurd ⟨k1, k2⟩ (hn j hj)
    · exact ⟨rfl, rfl⟩

theorem lineL_is (l : List UInt8) (n : Int) : LineIs l n (lineL n (Src.rows 1 (Src.lns l))).1 (lineL n (Src.rows 1 (Src.lns l))).2 := by
  rcases lineL_spec n l 1 with ⟨i, hi, ⟨h1, h2⟩, ho⟩ | ⟨hn, ho⟩
  · rw [ho]
    exact Or.inl ⟨i, hi, h1, h2, rfl, rfl⟩
  · rw [ho]
    exact Or.inr ⟨fun i hi hh => hn i hi hh, rfl, rfl⟩

theorem roffset_is (s : ByteArray) (line col a f : Int) (w : World) (hs : s.size ≤ 140737488355328) (h : Hid (OffIs s.data.toList line col a f)) :
    Calls Tryd.prog 25 #[.string s, .agg #[.int .i64 line, .int .i64 col]] w fun e w' => e = .returned (.tuple #[.int .i64 a, .int .i64 f]) ∧ Below w.heap.size w w' := by
  refine (roffset_any s line col w hs).mono ?_
  rintro e w' ⟨a', f', rfl, ho, hb⟩
  obtain ⟨e1, e2⟩ := ho.unique h.out
  subst e1 e2
  exact ⟨rfl, hb⟩

theorem size_at (s : ByteArray) (j : Nat) (h : j < s.size) : s.data.toList[j]? = some s[j] := by
  rw [List.getElem?_eq_getElem (by rw [← Lib.size_eq]; exact h)]; rfl

theorem ret_str {a b : ByteArray} (h : a = b) : Ending.returned (.tuple #[.string a, .int .i64 0]) = .returned (.tuple #[.string b, .int .i64 0]) := by rw [h]
theorem cut_eq {s : ByteArray} {i m : Nat} (h : upto (s.data.toList.drop i) = (s.data.toList.drop i).take m) : s.extract i (i + m) = ⟨(upto (s.data.toList.drop i)).toArray⟩ := by
  rw [Lib.extract_eq, h, show i + m - i = m from by omega]

set_option maxRecDepth 100000 in
set_option maxHeartbeats 2000000 in
theorem rline_miss (s : ByteArray) (n : Int) (w : World) (hs : s.size ≤ 140737488355328) (hm : Hid (OffIs s.data.toList n 1 0 10)) :
    Calls Tryd.prog 16 #[.string s, .int .i64 n] w fun e w' => e = .returned (.tuple #[.string ⟨#[]⟩, .int .i64 10]) ∧ Below w.heap.size w w' := by
  go_enter Tryd.func16, Tryd.ntmps16
  go_wp2_with (go_at_call 25; refine (roffset_is s n 1 0 10 _ hs hm).mono ?_; rintro e w1 ⟨rfl, hb⟩)
  go_ret2
  exact ⟨rfl, hb⟩

set_option maxRecDepth 100000 in
set_option maxHeartbeats 2000000 in
theorem rline_hit (s : ByteArray) (n : Int) (i : Nat) (w : World) (hs : s.size ≤ 140737488355328) (hi : i ≤ s.size) (hm : Hid (OffIs s.data.toList n 1 i 0)) :
    Calls Tryd.prog 16 #[.string s, .int .i64 n] w fun e w' => e = .returned (.tuple #[.string ⟨(upto (s.data.toList.drop i)).toArray⟩, .int .i64 0]) ∧ Below w.heap.size w w' := by
  go_enter Tryd.func16, Tryd.ntmps16
  go_wp2_with (go_at_call 25; refine (roffset_is s n 1 i 0 _ hs hm).mono ?_; rintro e w1 ⟨rfl, hb⟩)
  go_loop [8] (fun t => ∃ m : Nat, i + m ≤ s.size ∧ t = .int .i64 ((i + m : Nat) : Int) ∧ Hid (∀ j, j < m → s.data.toList[i + j]? ≠ some 10)) (fun t => s.size - (intOf t).toNat)
  case atStart => exact ⟨0, by omega, rfl, fun j hj => absurd hj (Nat.not_lt_zero _)⟩
  case round =>
    obtain ⟨m, hm1, rfl, hh⟩ := hrel
    have hb' := hb
    by_cases hlt : i + m < s.size
    · by_cases hc : s[i + m] = 10
      · have HE : Hid (upto (s.data.toList.drop i) = (s.data.toList.drop i).take m) := upto_take m _ (by rw [List.length_drop, ← Lib.size_eq]; omega) (fun j hj => by rw [List.getElem?_drop]; exact hh.out j hj) (Or.inr (by rw [List.getElem?_drop, size_at s _ hlt, hc]))
        go_wp2
        go_ret2
        exact ⟨ret_str (cut_eq HE.out), hb⟩
      · have b1 := byte_ten hc
        go_wp2
        go_round
        case rel =>
          refine ⟨m + 1, by omega, by go_num, fun j hj => ?_⟩
          by_cases hjm : j = m
          · subst hjm
            rw [size_at s _ hlt]
            simpa using hc
          · exact hh.out j (by omega)
        case measure => simp [intOf]; omega
    · have HE : Hid (upto (s.data.toList.drop i) = (s.data.toList.drop i).take m) := upto_take m _ (by rw [List.length_drop, ← Lib.size_eq]; omega) (fun j hj => by rw [List.getElem?_drop]; exact hh.out j hj) (Or.inl (by rw [List.length_drop, ← Lib.size_eq]; omega))
      go_wp2
      go_ret2
      exact ⟨ret_str (cut_eq HE.out), hb⟩

theorem rline_is (s : ByteArray) (n : Int) (b : ByteArray) (f : Int) (w : World) (hs : s.size ≤ 140737488355328) (h : Hid (LineIs s.data.toList n b f)) :
    Calls Tryd.prog 16 #[.string s, .int .i64 n] w fun e w' => e = .returned (.tuple #[.string b, .int .i64 f]) ∧ Below w.heap.size w w' := by
  rcases h.out with ⟨i, hi, h1, h2, rfl, rfl⟩ | ⟨hn, rfl, rfl⟩
  · exact rline_hit s n i w hs (by rw [Lib.size_eq]; exact hi) (Or.inl ⟨i, hi, h1, h2, rfl, rfl⟩)
  · exact rline_miss s n w hs (Or.inr ⟨hn, rfl, rfl⟩)

theorem lineL_at : ∀ (ls : List (List UInt8)) (k0 k : Nat) (h : k < ls.length), lineL ((k0 + k : Nat) : Int) (Src.rows k0 ls) = (⟨(ls[k]).toArray⟩, 0)
  | l :: r, k0, 0, _ => by
    show (if (k0 : Int) = ((k0 + 0 : Nat) : Int) then _ else _) = _
    rw [if_pos (by omega)]
    rfl
  | l :: r, k0, k + 1, h => by
    show (if (k0 : Int) = ((k0 + (k + 1) : Nat) : Int) then _ else lineL _ (Src.rows (k0 + 1) r)) = _
    rw [if_neg (by omega), show k0 + (k + 1) = (k0 + 1) + k from by omega]
    exact lineL_at r (k0 + 1) k (by simpa using h)
  | [], _, _, h => by simp at h

theorem lineL_out (n : Int) : ∀ (ls : List (List UInt8)) (k0 : Nat), (n < k0 ∨ (k0 : Int) + ls.length ≤ n) → lineL n (Src.rows k0 ls) = (⟨#[]⟩, 10)
  | [], _, _ => rfl
  | l :: r, k0, h => by
    simp only [List.length_cons] at h
    show (if (k0 : Int) = n then _ else lineL n (Src.rows (k0 + 1) r)) = _
    rw [if_neg (by omega)]
    exact lineL_out n r (k0 + 1) (by omega)

theorem grown_of_below {W W' : World} (h : Below W.heap.size W W') (row : Option Nat) : W.grownBy W' row := ⟨h.os, h.tape, h.output, h.size, fun k hk _ => h.block k hk⟩

end Go.Proofs.YtgncoeihlfcaiaaDoor
