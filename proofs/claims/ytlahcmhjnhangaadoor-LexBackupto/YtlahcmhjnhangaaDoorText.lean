import Derived.Lib.ItoaLen
import Derived.BigGuard
import Derived.BigCall
import Derived.Test.YtlahcmhjnhangaaDoorAsW
import Derived.Test.YtlahcmhjnhangaaDoorScanMath
namespace Go.Proofs.YtlahcmhjnhangaaDoor
open Go.RowKit Go.Shelf

/-- Is the text as a whole the token that is asked for? -/
def tokM (k : Int) (s : ByteArray) (n : Int) (wr : ByteArray) : Bool :=
  match tokS wr.data.toList with
  | .inl _ => false
  | .inr x => decide ((x.kind : Int) = k ∧ x.len = wr.size ∧ x.text = s.data.toList ∧ x.int = n)
/-- What Text answers. -/
def txS (k : Int) (s : ByteArray) (n : Int) : ByteArray × Int :=
  if k = 0 then (⟨#[]⟩, if s.size = 0 ∧ n = 0 then 0 else 1)
  else if (wrS k s n).size = 0 then (⟨#[]⟩, 1) else if tokM k s n (wrS k s n) = true then (wrS k s n, 0) else (⟨#[]⟩, 1)

theorem toL_inj {a b : ByteArray} (h : a.toList = b.toList) : a = b := by
  rw [toL, toL] at h
  exact ByteArray.ext (Array.toList_inj.1 h)
theorem nil_size {s : ByteArray} : s.toList = [] ↔ s.size = 0 := by rw [toL, Lib.size_eq, List.length_eq_zero_iff]

set_option maxRecDepth 100000 in
set_option maxHeartbeats 1000000 in
theorem text_end (a z n : Int) (s : ByteArray) (w : World) :
    Calls Tryd.prog 17 #[.agg #[.int .i64 0, .int .i64 a, .int .i64 z, .string s, .int .i64 n]] w fun e w' => e = .returned (.tuple #[.string ⟨#[]⟩, .int .i64 (txS 0 s n).2]) ∧ Below w.heap.size w w' := by
  obtain ⟨x, hx⟩ : ∃ x : Int, Hid (x = (txS 0 s n).2) := ⟨_, rfl⟩
  rw [← hx.out]
  go_enter Tryd.func17, Tryd.ntmps17
  go_wp2
  · have h1 : s.toList = [] := by assumption
    have h2 : (n != 0) = true := by assumption
    obtain rfl : x = 1 := by rw [hx.out]; show (if s.size = 0 ∧ n = 0 then (0 : Int) else 1) = 1; rw [if_neg]; rintro ⟨_, h3⟩; simp [h3] at h2
    exact bodyPost_ret (by simp [results, Tryd.results17, go_sem]) rfl ⟨rfl, (Below.refl _ w).alloc (Nat.le_refl _) _⟩
  · have h1 : s.toList = [] := by assumption
    have h2 : (n != 0) = false := by assumption
    obtain rfl : x = 0 := by rw [hx.out]; show (if s.size = 0 ∧ n = 0 then (0 : Int) else 1) = 0; rw [if_pos]; exact ⟨nil_size.1 h1, by simpa using h2⟩
    exact bodyPost_ret (by simp [results, Tryd.results17, go_sem]) rfl ⟨rfl, (Below.refl _ w).alloc (Nat.le_refl _) _⟩
  · have h1 : ¬ s.toList = [] := by assumption
    obtain rfl : x = 1 := by rw [hx.out]; show (if s.size = 0 ∧ n = 0 then (0 : Int) else 1) = 1; rw [if_neg]; rintro ⟨h3, _⟩; exact h1 (nil_size.2 h3)
    exact bodyPost_ret (by simp [results, Tryd.results17, go_sem]) rfl ⟨rfl, (Below.refl _ w).alloc (Nat.le_refl _) _⟩

set_option maxRecDepth 100000 in
set_option maxHeartbeats 1000000 in
theorem text_no (k a z n : Int) (s : ByteArray) (w : World) (hk : (k == 0) = false) (wr : ByteArray) (hwr : Hid (wrS k s n = wr)) (h0 : -9223372036854775808 ≤ n) (h1 : n ≤ 9223372036854775807) (ht : Hid (Tab10 w)) (hz : (wr.toList == []) = true) :
    Calls Tryd.prog 17 #[.agg #[.int .i64 k, .int .i64 a, .int .i64 z, .string s, .int .i64 n]] w fun e w' => e = .returned (.tuple #[.string ⟨#[]⟩, .int .i64 1]) ∧ Below w.heap.size w w' := by
  have HB0 : Hid (Below w.heap.size w (w.alloc (.cells #[.int .i64 k, .int .i64 a, .int .i64 z, .string s, .int .i64 n] 35))) := (Below.refl _ w).alloc (Nat.le_refl _) _
  have HA : Hid (Calls Tryd.prog 26 #[.agg #[.int .i64 k, .int .i64 a, .int .i64 z, .string s, .int .i64 n]] (w.alloc (.cells #[.int .i64 k, .int .i64 a, .int .i64 z, .string s, .int .i64 n] 35)) fun e w' => e = .returned (.string wr) ∧ Below (w.alloc (.cells #[.int .i64 k, .int .i64 a, .int .i64 z, .string s, .int .i64 n] 35)).heap.size (w.alloc (.cells #[.int .i64 k, .int .i64 a, .int .i64 z, .string s, .int .i64 n] 35)) w') := by
    have h := asW_any k a z n s _ h0 h1 (ht.out.next HB0.out)
    rw [hwr.out] at h
    exact h
  go_enter Tryd.func17, Tryd.ntmps17
  go_wp2_with (first
    | (go_at_call 26; refine HA.out.mono ?_; rintro e w2 ⟨rfl, hb2⟩)
    | go_in)
  exact bodyPost_ret (by simp [results, Tryd.results17, go_sem]) rfl ⟨rfl, HB0.out.trans (hb2.mono HB0.out.size)⟩

set_option maxRecDepth 100000 in
set_option maxHeartbeats 4000000 in
theorem text_tok (k a z n : Int) (s : ByteArray) (w : World) (hk : (k == 0) = false) (wr : ByteArray) (hwr : Hid (wrS k s n = wr)) (h0 : -9223372036854775808 ≤ n) (h1 : n ≤ 9223372036854775807) (ht : Hid (Tab10 w)) (hT : Hid (Tabs w)) (hz : (wr.toList == []) = false) (hws : wr.size ≤ 140737488355328)
    (a0 a1 a2 a4 x : Int) (a3 : ByteArray) (hr : Hid (resV 0 (tokS wr.data.toList) = .tuple #[.agg #[.int .i64 a0, .int .i64 a1, .int .i64 a2, .string a3, .int .i64 a4], .int .i64 x])) :
    Calls Tryd.prog 17 #[.agg #[.int .i64 k, .int .i64 a, .int .i64 z, .string s, .int .i64 n]] w fun e w' => e = .returned (if x = 0 ∧ a0 = k ∧ a1 = 0 ∧ a2 = (wr.size : Int) ∧ a3 = s ∧ a4 = n then .tuple #[.string wr, .int .i64 0] else .tuple #[.string ⟨#[]⟩, .int .i64 1]) ∧ Below w.heap.size w w' := by
  have HB0 : Hid (Below w.heap.size w (w.alloc (.cells #[.int .i64 k, .int .i64 a, .int .i64 z, .string s, .int .i64 n] 35))) := (Below.refl _ w).alloc (Nat.le_refl _) _
  have F0 : Hid (Five (w.alloc (.cells #[.int .i64 k, .int .i64 a, .int .i64 z, .string s, .int .i64 n] 35)) w.heap.size (.int .i64 k) (.int .i64 a) (.int .i64 z) (.string s) (.int .i64 n)) := five_new w _ _ _ _ _ 35
  have hw0 : w.heap.size < (w.alloc (.cells #[.int .i64 k, .int .i64 a, .int .i64 z, .string s, .int .i64 n] 35)).heap.size := World.block_lt_of_cell? _ _ F0.out.c0
  have HA : Hid (Calls Tryd.prog 26 #[.agg #[.int .i64 k, .int .i64 a, .int .i64 z, .string s, .int .i64 n]] (w.alloc (.cells #[.int .i64 k, .int .i64 a, .int .i64 z, .string s, .int .i64 n] 35)) fun e w' => e = .returned (.string wr) ∧ Below (w.alloc (.cells #[.int .i64 k, .int .i64 a, .int .i64 z, .string s, .int .i64 n] 35)).heap.size (w.alloc (.cells #[.int .i64 k, .int .i64 a, .int .i64 z, .string s, .int .i64 n] 35)) w') := by
    have h := asW_any k a z n s _ h0 h1 (ht.out.next HB0.out)
    rw [hwr.out] at h
    exact h
  have HK : Hid (∀ W, Tabs W → Calls Tryd.prog 24 #[.string wr, .int .i64 0] W fun e w' => e = .returned (.tuple #[.agg #[.int .i64 a0, .int .i64 a1, .int .i64 a2, .string a3, .int .i64 a4], .int .i64 x]) ∧ Below W.heap.size W w') := by
    intro W hW
    have hp : 0 < wr.size := by
      rcases Nat.eq_zero_or_pos wr.size with h | h
      · rw [nil_size.2 h] at hz; cases hz
      · exact h
    have h := tokAt_any wr 0 W hws hp hW
    rw [List.drop_zero, hr.out] at h
    exact h
  have HT0 : Hid (Tabs (w.alloc (.cells #[.int .i64 k, .int .i64 a, .int .i64 z, .string s, .int .i64 n] 35))) := hT.out.next HB0.out
  obtain ⟨R, hR⟩ : ∃ R, Hid (R = if x = 0 ∧ a0 = k ∧ a1 = 0 ∧ a2 = (wr.size : Int) ∧ a3 = s ∧ a4 = n then Value.tuple #[.string wr, .int .i64 0] else .tuple #[.string ⟨#[]⟩, .int .i64 1]) := ⟨_, rfl⟩
  rw [← hR.out]
  go_enter Tryd.func17, Tryd.ntmps17
  go_wp2_with (first
    | (go_at_call 26; refine HA.out.mono ?_; rintro e w2 ⟨rfl, hb2⟩; obtain ⟨c0, c1, c2, c3, c4, f⟩ := F0.out.below hb2 hw0; clear f)
    | (go_at_call 24; have HT2 : Hid (Tabs (w2.alloc (.cells #[.int .i64 k, .int .i64 0, .int .i64 (wr.size : Int), .string s, .int .i64 n] 35))) := (HT0.out.next hb2).next ((Below.refl _ w2).alloc (Nat.le_refl _) _); refine (HK.out _ HT2.out).mono ?_; rintro e w3 ⟨rfl, hb3⟩; have F3 : Hid (Five (w3.alloc (.cells #[.int .i64 a0, .int .i64 a1, .int .i64 a2, .string a3, .int .i64 a4] 35)) w2.heap.size _ _ _ _ _) := ((five_new w2 (.int .i64 k) (.int .i64 0) (.int .i64 (wr.size : Int)) (.string s) (.int .i64 n) 35).below hb3 (by simp)).below ((Below.refl w3.heap.size w3).alloc (Nat.le_refl _) _) (Nat.lt_of_lt_of_le (by simp) hb3.size); obtain ⟨d0, d1, d2, d3, d4, f3⟩ := F3.out; clear f3)
    | (go_at_call 27; refine (clone_any wr _ (by omega)).mono ?_; rintro e w4 ⟨rfl, hb4⟩)
    | go_in)
  · have hc : x = 0 ∧ a0 = k ∧ a1 = 0 ∧ a2 = (wr.size : Int) ∧ a3 = s ∧ a4 = n := ⟨by assumption, by assumption, by assumption, by assumption, toL_inj (by assumption), by assumption⟩
    have hR2 := hR.out
    rw [if_pos hc] at hR2
    subst hR2
    have hb5 := ((HB0.out.trans (hb2.mono HB0.out.size)).alloc (HB0.out.trans (hb2.mono HB0.out.size)).size (.cells #[.int .i64 k, .int .i64 0, .int .i64 (wr.size : Int), .string s, .int .i64 n] 35))
    have hb6 := hb5.trans (hb3.mono hb5.size)
    exact bodyPost_ret (by simp [results, Tryd.results17, go_sem]) rfl ⟨rfl, (hb6.alloc hb6.size _).trans (hb4.mono (hb6.alloc hb6.size _).size)⟩
  all_goals (
    have hc : ¬ (x = 0 ∧ a0 = k ∧ a1 = 0 ∧ a2 = (wr.size : Int) ∧ a3 = s ∧ a4 = n) := by
      rintro ⟨q1, q2, q3, q4, q5, q6⟩
      subst q5
      first | contradiction | omega
    have hR2 := hR.out
    rw [if_neg hc] at hR2
    subst hR2
    have hb5 := ((HB0.out.trans (hb2.mono HB0.out.size)).alloc (HB0.out.trans (hb2.mono HB0.out.size)).size (.cells #[.int .i64 k, .int .i64 0, .int .i64 (wr.size : Int), .string s, .int .i64 n] 35))
    have hb6 := hb5.trans (hb3.mono hb5.size)
    exact bodyPost_ret (by simp [results, Tryd.results17, go_sem]) rfl ⟨rfl, hb6.alloc hb6.size _⟩)

theorem wr_size (k : Int) (s : ByteArray) (n : Int) (h0 : -9223372036854775808 ≤ n) (h1 : n ≤ 9223372036854775807) (hs : s.size ≤ 140737488355328) : (wrS k s n).size ≤ 140737488355328 := by
  unfold wrS
  split
  · exact hs
  · split
    · rw [Lib.size_eq]
      have := Lib.itoa_length_le n (by omega) (by omega)
      simp only
      omega
    · split
      · rename_i h
        rw [Lib.size_eq]
        have := pcs_len s.data.toList
        have h2 := h.2
        rw [Lib.size_eq] at h2
        simp only [qt]
        simp
        omega
      · simp [ByteArray.size]

theorem text_any (k a z n : Int) (s : ByteArray) (w : World) (h0 : -9223372036854775808 ≤ n) (h1 : n ≤ 9223372036854775807) (hs : s.size ≤ 140737488355328) (ht : Tab10 w) (hT : Tabs w) :
    Calls Tryd.prog 17 #[.agg #[.int .i64 k, .int .i64 a, .int .i64 z, .string s, .int .i64 n]] w fun e w' => e = .returned (.tuple #[.string (txS k s n).1, .int .i64 (txS k s n).2]) ∧ Below w.heap.size w w' := by
  by_cases hk : k = 0
  · subst hk
    exact text_end a z n s w
  · have hkf : (k == 0) = false := by simpa using hk
    unfold txS
    rw [if_neg hk]
    by_cases hz : (wrS k s n).size = 0
    · rw [if_pos hz]
      exact text_no k a z n s w hkf _ rfl h0 h1 ht (by rw [nil_size.2 hz]; rfl)
    · rw [if_neg hz]
      have hzf : ((wrS k s n).toList == []) = false := by
        rw [beq_eq_false_iff_ne]
        exact fun h => hz (nil_size.1 h)
      have hsz := wr_size k s n h0 h1 hs
      unfold tokM
      cases hr : tokS (wrS k s n).data.toList with
      | inl e =>
        refine (text_tok k a z n s w hkf _ rfl h0 h1 ht hT hzf hsz 0 0 0 0 e ⟨#[]⟩ (by rw [hr]; rfl)).mono ?_
        rintro e' w' ⟨rfl, hb⟩
        have := tok_err hr
        rw [if_neg (by omega)]
        exact ⟨rfl, hb⟩
      | inr x =>
        refine (text_tok k a z n s w hkf _ rfl h0 h1 ht hT hzf hsz x.kind 0 (x.len : Int) x.int 0 ⟨x.text.toArray⟩ (by show _ = _; rw [hr]; simp [resV, tkCells])).mono ?_
        rintro e' w' ⟨rfl, hb⟩
        refine ⟨?_, hb⟩
        by_cases hc : ((x.kind : Int) = k ∧ x.len = (wrS k s n).size ∧ x.text = s.data.toList ∧ x.int = n)
        · rw [if_pos ⟨rfl, hc.1, rfl, by rw [hc.2.1], by rw [hc.2.2.1], hc.2.2.2⟩, if_pos (by simpa using hc)]
        · rw [if_neg, if_neg (by simpa using hc)]
          rintro ⟨_, q1, _, q2, q3, q4⟩
          exact hc ⟨q1, by omega, by rw [← q3], q4⟩
end Go.Proofs.YtlahcmhjnhangaaDoor
