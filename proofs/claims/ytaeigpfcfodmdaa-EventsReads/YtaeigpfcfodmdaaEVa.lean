import Derived.Test.YtaeigpfcfodmdaaEMb
namespace Go.Proofs.Ytaeigpfcfodmdaa
open Go.RowKit

abbrev e0 : ByteArray := ⟨#[]⟩
theorem e0_list : e0.toList = [] := by simp [e0, ByteArray.toList_eq]
theorem eq_e0 {s : ByteArray} (h : s.toList = []) : s = e0 := by
  rw [ByteArray.toList_eq] at h
  exact ByteArray.ext (Array.ext' h)
/-- Which values may be. -/
def okV (k n : Int) (s : ByteArray) : Bool :=
  if k = 0 then n == 0 && s.toList == [] else if k = 1 then s.toList == [] else if k = 2 then (n == 0 || n == 1) && s.toList == []
  else if k = 3 then n == 0 && decide (s.size ≤ 256) else if k = 4 then decide (0 ≤ n) && s.toList == [] else false
/-- A yield's value. -/
def mcS (has : Bool) (k n : Int) (s : ByteArray) : Bool := if has then !(k == 0) && okV k n s else (k == 0 && n == 0) && s.toList == []
/-- A kind with a value or without one. -/
def fitS (k : Int) (b : Bool) : Bool := if k = 7 ∨ k = 8 then b else if k = 6 then true else if 1 ≤ k ∧ k ≤ 5 then !b else false
theorem eqlV (k n : Int) (s : ByteArray) (k' n' : Int) (s' : ByteArray) : ∀ w : World,
    (binOp BinOp.eql 31 (.agg #[.int .i64 k, .int .i64 n, .string s]) (.agg #[.int .i64 k', .int .i64 n', .string s'])).run Try.prog w = .ok (.bool ((k == k' && n == n') && s.toList == s'.toList)) w := by
  intro w
  cases h1 : (k == k') with
  | false => simp [go_sem, h1]
  | true =>
    cases h2 : (n == n') with
    | false => simp [go_sem, h1, h2]
    | true =>
      cases h3 : (s.toList == s'.toList) with
      | false => simp [go_sem, h1, h2, h3]
      | true => simp [go_sem, h1, h2, h3]

set_option maxRecDepth 100000 in
set_option maxHeartbeats 1000000 in
theorem rvalid_any (k n : Int) (s : ByteArray) (w : World) (hs : s.size ≤ 9223372036854775807) : Calls Try.prog 9 #[.agg #[.int .i64 k, .int .i64 n, .string s]] w fun e w' => e = .returned (.bool (okV k n s)) ∧ Below w.heap.size w w' := by
  have B1 : Below w.heap.size w (w.alloc (.cells #[.int .i64 k, .int .i64 n, .string s] 31)) := (Below.refl _ w).alloc (Nat.le_refl _) _
  by_cases h0 : k = 0
  · subst h0
    rw [show okV 0 n s = (n == 0 && s.toList == []) from rfl]
    by_cases n0 : n = 0
    · subst n0
      go_enter Try.func9, Try.ntmps9
      go_wp2
      go_ret
      exact ⟨by simp, B1⟩
    · have nb : (n == 0) = false := by simp [n0]
      go_enter Try.func9, Try.ntmps9
      go_wp2
      go_ret
      exact ⟨by simp [n0], B1⟩
  by_cases h1 : k = 1
  · subst h1
    rw [show okV 1 n s = (s.toList == []) from rfl]
    go_enter Try.func9, Try.ntmps9
    go_wp2
    go_ret
    exact ⟨by simp, B1⟩
  by_cases h2 : k = 2
  · subst h2
    rw [show okV 2 n s = ((n == 0 || n == 1) && s.toList == []) from rfl]
    by_cases hs0 : s.toList = []
    · obtain rfl := eq_e0 hs0
      by_cases n0 : n = 0
      · subst n0
        go_enter Try.func9, Try.ntmps9
        go_wp2
        go_ret
        exact ⟨by simp, B1⟩
      · have nb : (n == 0) = false := by simp [n0]
        go_enter Try.func9, Try.ntmps9
        go_wp2
        go_ret
        exact ⟨by simp [n0], B1⟩
    · have sb : (s.toList == []) = false := by simp [hs0]
      have sb2 : s.toList.isEmpty = false := by simp [hs0]
      go_enter Try.func9, Try.ntmps9
      go_wp2
      go_ret
      exact ⟨by simp [hs0], B1⟩
  by_cases h3 : k = 3
  · subst h3
    rw [show okV 3 n s = (n == 0 && decide (s.size ≤ 256)) from rfl]
    by_cases n0 : n = 0
    · subst n0
      go_enter Try.func9, Try.ntmps9
      go_wp2
      go_ret
      exact ⟨by simp; omega, B1⟩
    · have nb : (n == 0) = false := by simp [n0]
      go_enter Try.func9, Try.ntmps9
      go_wp2
      go_ret
      exact ⟨by simp [n0], B1⟩
  by_cases h4 : k = 4
  · subst h4
    rw [show okV 4 n s = (decide (0 ≤ n) && s.toList == []) from rfl]
    by_cases hs0 : s.toList = []
    · obtain rfl := eq_e0 hs0
      go_enter Try.func9, Try.ntmps9
      go_wp2
      go_ret
      exact ⟨by simp, B1⟩
    · have sb : (s.toList == []) = false := by simp [hs0]
      have sb2 : s.toList.isEmpty = false := by simp [hs0]
      go_enter Try.func9, Try.ntmps9
      go_wp2
      go_ret
      exact ⟨by simp [hs0], B1⟩
  have hk : okV k n s = false := by unfold okV; rw [if_neg h0, if_neg h1, if_neg h2, if_neg h3, if_neg h4]
  rw [hk]
  go_enter Try.func9, Try.ntmps9
  go_wp2
  go_ret
  exact ⟨rfl, B1⟩

set_option maxRecDepth 100000 in
set_option maxHeartbeats 1000000 in
theorem fits_any (k : Int) (b : Bool) (w : World) : Calls Try.prog 6 #[.int .i64 k, .bool b] w fun e w' => e = .returned (.bool (fitS k b)) ∧ w' = w := by
  obtain ⟨R, HR⟩ : ∃ R, Hid (fitS k b = R) := ⟨_, (rfl : fitS k b = _)⟩
  rw [HR.out]
  by_cases h1 : k = 7 ∨ k = 8
  · have HE : Hid (b = R) := by show _ = R; rw [← HR.out]; unfold fitS; rw [if_pos h1]
    clear HR
    rcases h1 with rfl | rfl
    all_goals
      go_enter Try.func6, Try.ntmps6
      go_wp2
      go_ret
      exact ⟨by rw [← HE.out]; rfl, rfl⟩
  by_cases h2 : k = 6
  · have HE : Hid (true = R) := by show _ = R; rw [← HR.out]; unfold fitS; rw [if_neg h1, if_pos h2]
    clear HR h1
    subst h2
    go_enter Try.func6, Try.ntmps6
    go_wp2
    go_ret
    exact ⟨by rw [← HE.out]; rfl, rfl⟩
  by_cases h3 : 1 ≤ k ∧ k ≤ 5
  · have HE : Hid ((!b) = R) := by show _ = R; rw [← HR.out]; unfold fitS; rw [if_neg h1, if_neg h2, if_pos h3]
    have h4 : k = 1 ∨ k = 2 ∨ k = 3 ∨ k = 4 ∨ k = 5 := by omega
    clear HR h1 h2 h3
    rcases h4 with rfl | rfl | rfl | rfl | rfl
    all_goals
      go_enter Try.func6, Try.ntmps6
      go_wp2
      go_ret
      exact ⟨by rw [← HE.out]; rfl, rfl⟩
  have HE : Hid (false = R) := by show _ = R; rw [← HR.out]; unfold fitS; rw [if_neg h1, if_neg h2, if_neg h3]
  have e1 : (k == 1) = false := by rw [beq_eq_false_iff_ne]; omega
  have e2 : (k == 2) = false := by rw [beq_eq_false_iff_ne]; omega
  have e3 : (k == 3) = false := by rw [beq_eq_false_iff_ne]; omega
  have e4 : (k == 4) = false := by rw [beq_eq_false_iff_ne]; omega
  have e5 : (k == 5) = false := by rw [beq_eq_false_iff_ne]; omega
  have e6 : (k == 6) = false := by rw [beq_eq_false_iff_ne]; exact h2
  have e7 : (k == 7) = false := by rw [beq_eq_false_iff_ne]; omega
  have e8 : (k == 8) = false := by rw [beq_eq_false_iff_ne]; omega
  clear HR h1 h2 h3
  go_enter Try.func6, Try.ntmps6
  go_wp2
  go_ret
  exact ⟨by rw [← HE.out]; rfl, rfl⟩
set_option maxRecDepth 100000 in
set_option maxHeartbeats 2000000 in
theorem mayCome_any (hk : Int) (has : Bool) (k n : Int) (s : ByteArray) (w : World) (hs : s.size ≤ 9223372036854775807) : Calls Try.prog 7 #[.agg #[.int .i64 hk, .bool has, .int .i64 k, .int .i64 n, .string s]] w fun e w' => e = .returned (.bool (mcS has k n s)) ∧ Below w.heap.size w w' := by
  obtain ⟨X, hX⟩ : ∃ X, w.alloc (.cells #[.int .i64 hk, .bool has, .int .i64 k, .int .i64 n, .string s] 38) = X := ⟨_, rfl⟩
  have B1 : Below w.heap.size w X := by rw [← hX]; exact (Below.refl _ w).alloc (Nat.le_refl _) _
  have F1 : Full X w.heap.size 38 [.int .i64 hk, .bool has, .int .i64 k, .int .i64 n, .string s] := by rw [← hX]; exact Full.new w _ _
  have x1 := (F1.cell 1 _ rfl).1
  have x2 := (F1.cell 2 _ rfl).1
  have x3 := (F1.cell 3 _ rfl).1
  have x4 := (F1.cell 4 _ rfl).1
  have zX : X.heap.size = w.heap.size + 1 := by rw [← hX]; simp
  obtain ⟨Y, hY⟩ : ∃ Y, X.alloc (.cells #[.int .i64 k, .int .i64 n, .string s] 31) = Y := ⟨_, rfl⟩
  have bY : Below X.heap.size X Y := by rw [← hY]; exact (Below.refl _ X).alloc (Nat.le_refl _) _
  have F2 : Full Y (w.heap.size + 1) 31 [.int .i64 k, .int .i64 n, .string s] := by
    have : Full Y X.heap.size 31 [.int .i64 k, .int .i64 n, .string s] := by rw [← hY]; exact Full.new X _ _
    rw [zX] at this
    exact this
  have HB1 : Hid (Below w.heap.size w X ∧ Below w.heap.size w Y) := ⟨B1, below2 B1 bY⟩
  have y0 := (F2.cell 0 _ rfl).1
  have y1 := (F2.cell 1 _ rfl).1
  have y2 := (F2.cell 2 _ rfl).1
  clear B1 bY F1 F2
  cases has with
  | false =>
    have he := eqlV k n s 0 0 e0
    rw [e0_list] at he
    have HE : Hid (mcS false k n s = ((k == 0 && n == 0) && s.toList == [])) := rfl
    rw [HE.out]
    clear y0 y1 y2 hY zX
    go_enter Try.func7, Try.ntmps7
    go_wp2
    go_ret
    exact ⟨by first | rfl | simp, HB1.out.1⟩
  | true =>
    by_cases h1 : k = 1
    · subst h1
      have HE : Hid (mcS true 1 n s = (s.toList == [])) := by show (!((1 : Int) == 0) && okV 1 n s) = _; rw [show okV 1 n s = (s.toList == []) from rfl]; rfl
      rw [HE.out]
      go_enter Try.func7, Try.ntmps7
      go_wp2
      go_ret
      exact ⟨by first | rfl | simp, HB1.out.2⟩
    by_cases h2 : k = 2
    · subst h2
      have HE : Hid (mcS true 2 n s = ((n == 0 || n == 1) && s.toList == [])) := by show (!((2 : Int) == 0) && okV 2 n s) = _; rw [show okV 2 n s = ((n == 0 || n == 1) && s.toList == []) from rfl]; rfl
      rw [HE.out]
      by_cases n0 : n = 0
      · subst n0
        go_enter Try.func7, Try.ntmps7
        go_wp2
        go_ret
        exact ⟨by simp, HB1.out.2⟩
      have nb : (n == 0) = false := by simp [n0]
      by_cases n1 : n = 1
      · subst n1
        go_enter Try.func7, Try.ntmps7
        go_wp2
        go_ret
        exact ⟨by simp, HB1.out.2⟩
      · have nb1 : (n == 1) = false := by simp [n1]
        go_enter Try.func7, Try.ntmps7
        go_wp2
        go_ret
        exact ⟨by simp [n0, n1], HB1.out.2⟩
    by_cases h3 : k = 3
    · subst h3
      have HE : Hid (mcS true 3 n s = (n == 0 && decide (s.size ≤ 256))) := by show (!((3 : Int) == 0) && okV 3 n s) = _; rw [show okV 3 n s = (n == 0 && decide (s.size ≤ 256)) from rfl]; rfl
      rw [HE.out]
      by_cases n0 : n = 0
      · subst n0
        go_enter Try.func7, Try.ntmps7
        go_wp2
        go_ret
        exact ⟨by first | rfl | (simp; omega), HB1.out.2⟩
      · have nb : (n == 0) = false := by simp [n0]
        go_enter Try.func7, Try.ntmps7
        go_wp2
        go_ret
        exact ⟨by simp [n0], HB1.out.2⟩
    by_cases h4 : k = 4
    · subst h4
      have HE : Hid (mcS true 4 n s = (decide (0 ≤ n) && s.toList == [])) := by show (!((4 : Int) == 0) && okV 4 n s) = _; rw [show okV 4 n s = (decide (0 ≤ n) && s.toList == []) from rfl]; rfl
      rw [HE.out]
      by_cases n0 : 0 ≤ n
      · go_enter Try.func7, Try.ntmps7
        go_wp2
        go_ret
        exact ⟨by simp [n0], HB1.out.2⟩
      · go_enter Try.func7, Try.ntmps7
        go_wp2
        go_ret
        exact ⟨by rw [decide_eq_false (show ¬ (0 : Int) ≤ n by omega)]; rfl, HB1.out.2⟩
    have HE : Hid (mcS true k n s = false) := by
      show (!(k == 0) && okV k n s) = false
      unfold okV
      by_cases h0 : k = 0
      · subst h0; rfl
      · rw [if_neg h0, if_neg h1, if_neg h2, if_neg h3, if_neg h4, Bool.and_false]
    rw [HE.out]
    have e1 : (k == 1) = false := by rw [beq_eq_false_iff_ne]; exact h1
    have e2 : (k == 2) = false := by rw [beq_eq_false_iff_ne]; exact h2
    have e3 : (k == 3) = false := by rw [beq_eq_false_iff_ne]; exact h3
    have e4 : (k == 4) = false := by rw [beq_eq_false_iff_ne]; exact h4
    clear h1 h2 h3 h4
    go_enter Try.func7, Try.ntmps7
    go_wp2
    go_ret
    exact ⟨rfl, HB1.out.2⟩
end Go.Proofs.Ytaeigpfcfodmdaa
