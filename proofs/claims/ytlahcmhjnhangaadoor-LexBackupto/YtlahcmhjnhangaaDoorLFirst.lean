import Derived.Test.YtlahcmhjnhangaaDoorOne
import Derived.Deep.CutRange
import Derived.BigGuard
import Derived.BigCall
import Derived.Test.YtlahcmhjnhangaaDoorFirstMath
namespace Go.Proofs.YtlahcmhjnhangaaDoor
open Go.RowKit

/-- Scan of a text in which something is wrong. -/
theorem scan_no (t : ByteArray) (ht : t.size ≤ 4194304) (e k : Nat) (h : scanS (t.size + 1) 0 t.data.toList = .inl (e, k)) :
    Hid (∀ w, Tabs w → Calls Tryd.prog 14 #[.string t] w fun x w' => x = .returned (.tuple #[.slice none 0 0, .agg #[.int .i64 (e : Int), .int .i64 (k : Int)]]) ∧ Below w.heap.size w w') := by
  intro w hT
  have := scan_any t w ht hT
  rw [h] at this
  exact this
/-- Scan of a text in which nothing is wrong. -/
theorem scan_yes (t : ByteArray) (ht : t.size ≤ 4194304) (toks : List (Nat × Tk)) (h : scanS (t.size + 1) 0 t.data.toList = .inr toks) :
    Hid (∀ w, Tabs w → Calls Tryd.prog 14 #[.string t] w fun x w' => ∃ v, x = .returned (.tuple #[v, .agg #[.int .i64 0, .int .i64 0]]) ∧ w'.ownsRow w.heap.size 35 5 v toks.length (toksV toks) ∧ Below w.heap.size w w') := by
  intro w hT
  have := scan_any t w ht hT
  rw [h] at this
  exact this
theorem scan_over (t : ByteArray) (ht : 4194304 < t.size) :
    Hid (∀ w, Calls Tryd.prog 14 #[.string t] w fun x w' => x = .returned (.tuple #[.slice none 0 0, .agg #[.int .i64 2, .int .i64 4194304]]) ∧ Below w.heap.size w w') := fun w => scan_big t w ht

set_option maxRecDepth 100000 in
set_option maxHeartbeats 4000000 in
theorem lexFirst_any (t : ByteArray) (w : World) (hT : Tabs w) :
    Calls Tryd.prog 4 #[.string t] w fun e w' => e = .returned (.bool true) ∧ Below w.heap.size w w' := by
  have H1 : Hid (Calls Tryd.prog 13 #[] w fun e w' => e = .returned (.bool true) ∧ Below w.heap.size w w') := one_any w hT
  have HT : Hid (Tabs w) := hT
  clear hT
  by_cases hz : 4194304 < t.size
  · have HC := scan_over t hz
    have hz' : (4194304 : Int) < (t.size : Int) := by omega
    go_enter Tryd.func4, Tryd.ntmps4
    go_wp2_with (first
      | (go_at_call 13; refine H1.out.mono ?_; rintro e w1 ⟨rfl, hb1⟩)
      | (go_at_call 14; refine (HC.out w1).mono ?_; rintro e w2 ⟨rfl, hb2⟩)
      | go_in)
    go_ret
    exact ⟨rfl, (hb1.trans (hb2.mono hb1.size)).alloc (Nat.le_trans hb1.size hb2.size) _⟩
  · have ht : t.size ≤ 4194304 := by omega
    cases hr : scanS (t.size + 1) 0 t.data.toList with
    | inr toks =>
      have HC := scan_yes t ht toks hr
      have hne := scan_some _ _ _ _ hr
      have hlen : 0 < toks.length := List.length_pos_iff.2 hne
      clear hr hne hz
      go_enter Tryd.func4, Tryd.ntmps4
      go_wp2_with (first
        | (go_at_call 13; refine H1.out.mono ?_; rintro e w1 ⟨rfl, hb1⟩)
        | (go_at_call 14; refine (HC.out w1 (HT.out.next hb1)).mono ?_; rintro e w2 ⟨v, rfl, ho, hb2⟩; obtain ⟨sa, cap, rfl⟩ := own_slice ho; clear ho)
        | go_in)
      go_ret
      exact ⟨rfl, (hb1.trans (hb2.mono hb1.size)).alloc (Nat.le_trans hb1.size hb2.size) _⟩
    | inl p =>
      obtain ⟨e, k⟩ := p
      have hsz := Lib.size_eq t
      obtain ⟨m, hm0, hm, c, r, hd, hb, h35, hk, toks, htk, hst⟩ := scan_err _ _ _ _ _ (by rw [← hsz]; omega) hr
      obtain rfl : k = m := by omega
      rw [← hsz] at hm
      have HC1 := scan_no t ht e k hr
      have e1 : (t.extract 0 k).data.toList = t.data.toList.take k := by rw [Lib.extract_data, List.drop_zero, Nat.sub_zero]
      have s1 : (t.extract 0 k).size = k := by rw [Lib.size_eq, e1, List.length_take, ← hsz]; omega
      have e2 : (t.extract k t.size).data.toList = t.data.toList.drop k := by rw [Lib.extract_data, List.take_of_length_le (by rw [List.length_drop, ← hsz]; omega)]
      have s2 : (t.extract k t.size).size = t.size - k := by rw [Lib.size_eq, e2, List.length_drop, ← hsz]
      obtain ⟨toks2, hne2, hs2⟩ : ∃ toks2, toks2 ≠ [] ∧ scanS ((t.extract 0 k).size + 1) 0 (t.extract 0 k).data.toList = .inr toks2 := by
        cases hq : scanS ((t.extract 0 k).size + 1) 0 (t.extract 0 k).data.toList with
        | inr l => exact ⟨l, scan_some _ _ _ _ hq, rfl⟩
        | inl p =>
          exfalso
          have hq2 := scan_more _ (t.size + 1) _ _ (by rw [← Lib.size_eq]; omega) (by rw [s1]; omega) hq
          rw [e1, hst] at hq2
          cases hq2
      have HC2 := scan_yes (t.extract 0 k) (by omega) toks2 hs2
      have HC3 := scan_no (t.extract k t.size) (by omega) e 0 (by rw [e2, hd]; exact scan_bad _ _ _ _ _ hb h35 hk)
      have hlen : 0 < toks2.length := List.length_pos_iff.2 hne2
      have hl0 : ((toks2.length : Int) == 0) = false := by rw [beq_eq_false_iff_ne]; omega
      have herr := tok_err hk
      have he0 : ((e : Int) == 0) = false := by rw [beq_eq_false_iff_ne]; omega
      have he2 : ((e : Int) == 2) = false := by rw [beq_eq_false_iff_ne]; omega
      have q1 : ¬ (k : Int) < 0 := by omega
      have q2 : ¬ (t.size : Int) ≤ (k : Int) := by omega
      have q3 : ¬ (e : Int) < 20 := by omega
      have q4 : ¬ (23 : Int) < (e : Int) := by omega
      have q5 : (k : Int) ≤ (t.size : Int) := by omega
      have q6 : (0 : Int) ≤ (k : Int) := by omega
      obtain ⟨T1, hT1⟩ : ∃ T1, t.extract 0 k = T1 := ⟨_, rfl⟩
      obtain ⟨T2, hT2⟩ : ∃ T2, t.extract k t.size = T2 := ⟨_, rfl⟩
      rw [hT1] at HC2
      rw [hT2] at HC3
      clear hr hd hb h35 hk htk hst e1 e2 s1 s2 hs2 hne2 hm0 hsz hz herr
      go_enter Tryd.func4, Tryd.ntmps4
      go_upto_region 8 with (first
        | (go_at_call 13; refine H1.out.mono ?_; rintro e w1 ⟨rfl, hb1⟩)
        | (go_at_call 14; refine (HC1.out w1 (HT.out.next hb1)).mono ?_; rintro e w2 ⟨rfl, hb2⟩)
        | go_in)
      clear HC1 H1
      have HT2 : Hid (Tabs (w2.alloc (.cells #[.int .i64 (e : Int), .int .i64 (k : Int)] 28))) := ((HT.out.next hb1).next hb2).next ((Below.refl _ w2).alloc (Nat.le_refl _) _)
      have F2 : Hid (Two (w2.alloc (.cells #[.int .i64 (e : Int), .int .i64 (k : Int)] 28)) w2.heap.size (.int .i64 (e : Int)) (.int .i64 (k : Int))) := two_new w2 _ _ 28
      have hl2 : w2.heap.size < (w2.alloc (.cells #[.int .i64 (e : Int), .int .i64 (k : Int)] 28)).heap.size := World.block_lt_of_cell? _ _ F2.out.c0
      have HB2 : Hid (Below w.heap.size w (w2.alloc (.cells #[.int .i64 (e : Int), .int .i64 (k : Int)] 28))) := (hb1.trans (hb2.mono hb1.size)).alloc (Nat.le_trans hb1.size hb2.size) _
      clear hb1 hb2 HT
      go_upto_region 13 with (first
        | (go_at_call 14; refine (HC2.out _ HT2.out).mono ?_; rintro x w3 ⟨v, rfl, ho, hb3⟩; obtain ⟨sa, cap, rfl⟩ := own_slice ho; clear ho; obtain ⟨c0, c1, _⟩ := F2.out.below hb3 hl2; have hl3 : w2.heap.size < w3.heap.size := Nat.lt_of_lt_of_le hl2 hb3.size)
        | go_in)
      have HT3 : Hid (Tabs (w3.alloc (.cells #[.int .i64 0, .int .i64 0] 28))) := (HT2.out.next hb3).next ((Below.refl _ w3).alloc (Nat.le_refl _) _)
      have hl4 : w3.heap.size < (w3.alloc (.cells #[.int .i64 0, .int .i64 0] 28)).heap.size := World.block_lt_of_cell? _ _ (two_new w3 (.int .i64 0) (.int .i64 0) 28).c0
      have HB3 : Hid (Below w.heap.size w (w3.alloc (.cells #[.int .i64 0, .int .i64 0] 28))) := (HB2.out.trans (hb3.mono HB2.out.size)).alloc (Nat.le_trans HB2.out.size hb3.size) _
      have F3 : Hid (Two w3 w2.heap.size (.int .i64 (e : Int)) (.int .i64 (k : Int))) := F2.out.below hb3 hl2
      clear HC2 HT2 HB2 hb3
      go_wp2_with (first
        | (go_at_call 14; refine (HC3.out _ HT3.out).mono ?_; rintro x w4 ⟨rfl, hb4⟩; obtain ⟨d0, d1, _⟩ := (F3.out.below ((Below.refl _ w3).alloc (Nat.le_refl _) _) hl3).below hb4 (Nat.lt_trans hl3 hl4); have hl5 : w2.heap.size < w4.heap.size := Nat.lt_of_lt_of_le (Nat.lt_trans hl3 hl4) hb4.size)
        | go_in)
      go_ret
      exact ⟨rfl, (HB3.out.trans (hb4.mono HB3.out.size)).alloc (Nat.le_trans HB3.out.size hb4.size) _⟩
end Go.Proofs.YtlahcmhjnhangaaDoor
