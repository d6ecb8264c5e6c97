import Derived.Test.YtdcaonfnhdjibaaDoorVW1
namespace Go.Proofs.YtdcaonfnhdjibaaDoor
open Go.RowKit

/-! Of the reference: of, operator. -/
set_option maxRecDepth 100000 in
set_option maxHeartbeats 4000000 in
theorem of_any (w : World) (s t : Int) : Calls Tryd.prog 34 #[.int .i64 s, .int .i64 t] w fun z w' => z = .returned (.bool (ofR s t)) ∧ w' = w := by
  obtain ⟨R, HR⟩ : ∃ R, Hid (ofR s t = R) := ⟨_, (rfl : ofR s t = _)⟩
  rw [HR.out]
  have HN : Hid ((if t = -1 then true else if t = -2 then decide (5 ≤ s) else if t = -3 then decide (1 ≤ s) && decide (s ≤ 3) else if t = -4 then false else s == t) = R) := HR.out
  clear HR
  by_cases h1 : t = -1
  · subst h1
    go_enter Tryd.func34, Tryd.ntmps34
    go_wp2
    go_ret
    exact ⟨by rw [← HN.out]; rfl, rfl⟩
  by_cases h2 : t = -2
  · subst h2
    have HE : Hid (decide (5 ≤ s) = R) := HN.out
    clear HN h1
    go_enter Tryd.func34, Tryd.ntmps34
    go_wp2
    go_ret
    exact ⟨by rw [← HE.out]; rfl, rfl⟩
  by_cases h3 : t = -3
  · subst h3
    have HE : Hid ((decide (1 ≤ s) && decide (s ≤ 3)) = R) := HN.out
    clear HN h1 h2
    by_cases q : 1 ≤ s
    · have HQ : Hid (decide (s ≤ 3) = R) := by show _ = R; rw [← HE.out, decide_eq_true q, Bool.true_and]
      clear HE
      go_enter Tryd.func34, Tryd.ntmps34
      go_wp2
      go_ret
      exact ⟨by rw [← HQ.out]; rfl, rfl⟩
    · have HQ : Hid (false = R) := by show _ = R; rw [← HE.out, decide_eq_false q, Bool.false_and]
      clear HE
      go_enter Tryd.func34, Tryd.ntmps34
      go_wp2
      go_ret
      exact ⟨by rw [← HQ.out]; rfl, rfl⟩
  by_cases h4 : t = -4
  · subst h4
    have HE : Hid (false = R) := HN.out
    clear HN h1 h2 h3
    go_enter Tryd.func34, Tryd.ntmps34
    go_wp2
    go_ret
    exact ⟨by rw [← HE.out]; rfl, rfl⟩
  have e1 : (t == -1) = false := by rw [beq_eq_false_iff_ne]; exact h1
  have e2 : (t == -2) = false := by rw [beq_eq_false_iff_ne]; exact h2
  have e3 : (t == -3) = false := by rw [beq_eq_false_iff_ne]; exact h3
  have e4 : (t == -4) = false := by rw [beq_eq_false_iff_ne]; exact h4
  have HE : Hid ((s == t) = R) := by show _ = R; rw [← HN.out, if_neg h1, if_neg h2, if_neg h3, if_neg h4]
  clear HN h1 h2 h3 h4
  go_enter Tryd.func34, Tryd.ntmps34
  go_wp2
  go_ret
  exact ⟨by rw [← HE.out]; rfl, rfl⟩
set_option maxRecDepth 100000 in
set_option maxHeartbeats 4000000 in
theorem operator_any (w : World) (op s : Int) : Calls Tryd.prog 47 #[.int .i64 op, .int .i64 s] w fun z w' => z = .returned (.tuple #[.bool (opR op s).1, .int .i64 (opR op s).2]) ∧ w' = w := by
  obtain ⟨R, HR⟩ : ∃ R, Hid (opR op s = R) := ⟨_, (rfl : opR op s = _)⟩
  rw [HR.out]
  have HN : Hid ((if op = 3 then (s == 1 || s == 3, s) else if 4 ≤ op ∧ op ≤ 7 then (s == 1, s) else if op = 8 ∨ op = 9 then (true, 2) else (s == 1 || s == 3, 2)) = R) := HR.out
  clear HR
  obtain ⟨b1, hb1⟩ : ∃ b1, (s == 1) = b1 := ⟨_, rfl⟩
  obtain ⟨b3, hb3⟩ : ∃ b3, (s == 3) = b3 := ⟨_, rfl⟩
  rw [hb1, hb3] at HN
  by_cases h1 : op = 3
  · subst h1
    have HE : Hid ((b1 || b3, s) = R) := HN.out
    clear HN
    obtain rfl := HE.out
    clear HE
    cases b1
    · go_enter Tryd.func47, Tryd.ntmps47
      go_wp2
      exact bodyPost_ret (v := .tuple #[.bool b3, .int .i64 s]) (by simp [results, Tryd.results47, go_sem]) rfl ⟨rfl, rfl⟩
    · go_enter Tryd.func47, Tryd.ntmps47
      go_wp2
      exact bodyPost_ret (v := .tuple #[.bool true, .int .i64 s]) (by simp [results, Tryd.results47, go_sem]) rfl ⟨rfl, rfl⟩
  by_cases h2 : 4 ≤ op ∧ op ≤ 7
  · have HE : Hid ((b1, s) = R) := by show _ = R; rw [← HN.out, if_neg h1, if_pos h2]
    have e1 : (op == 3) = false := by rw [beq_eq_false_iff_ne]; exact h1
    obtain ⟨e2, e3⟩ := h2
    clear HN h1
    obtain rfl := HE.out
    clear HE
    go_enter Tryd.func47, Tryd.ntmps47
    go_wp2
    exact bodyPost_ret (v := .tuple #[.bool b1, .int .i64 s]) (by simp [results, Tryd.results47, go_sem]) rfl ⟨rfl, rfl⟩
  have e1 : (op == 3) = false := by rw [beq_eq_false_iff_ne]; exact h1
  by_cases h3 : op = 8 ∨ op = 9
  · have HE : Hid ((true, 2) = R) := by show _ = R; rw [← HN.out, if_neg h1, if_neg h2, if_pos h3]
    clear HN h1 h2 e1
    obtain rfl := HE.out
    clear HE
    rcases h3 with rfl | rfl
    all_goals
      go_enter Tryd.func47, Tryd.ntmps47
      go_wp2
      exact bodyPost_ret (v := .tuple #[.bool true, .int .i64 2]) (by simp [results, Tryd.results47, go_sem]) rfl ⟨rfl, rfl⟩
  have HE : Hid ((b1 || b3, 2) = R) := by show _ = R; rw [← HN.out, if_neg h1, if_neg h2, if_neg h3]
  have e8 : (op == 8) = false := by rw [beq_eq_false_iff_ne]; exact fun h => h3 (.inl h)
  have e9 : (op == 9) = false := by rw [beq_eq_false_iff_ne]; exact fun h => h3 (.inr h)
  clear HN h1 h3
  by_cases h4 : 4 ≤ op
  · have h7 : ¬ (op ≤ 7) := fun h => h2 ⟨h4, h⟩
    clear h2
    obtain rfl := HE.out
    clear HE
    cases b1
    · go_enter Tryd.func47, Tryd.ntmps47
      go_wp2
      exact bodyPost_ret (v := .tuple #[.bool b3, .int .i64 2]) (by simp [results, Tryd.results47, go_sem]) rfl ⟨rfl, rfl⟩
    · go_enter Tryd.func47, Tryd.ntmps47
      go_wp2
      exact bodyPost_ret (v := .tuple #[.bool true, .int .i64 2]) (by simp [results, Tryd.results47, go_sem]) rfl ⟨rfl, rfl⟩
  · clear h2
    obtain rfl := HE.out
    clear HE
    cases b1
    · go_enter Tryd.func47, Tryd.ntmps47
      go_wp2
      exact bodyPost_ret (v := .tuple #[.bool b3, .int .i64 2]) (by simp [results, Tryd.results47, go_sem]) rfl ⟨rfl, rfl⟩
    · go_enter Tryd.func47, Tryd.ntmps47
      go_wp2
      exact bodyPost_ret (v := .tuple #[.bool true, .int .i64 2]) (by simp [results, Tryd.results47, go_sem]) rfl ⟨rfl, rfl⟩
end Go.Proofs.YtdcaonfnhdjibaaDoor
