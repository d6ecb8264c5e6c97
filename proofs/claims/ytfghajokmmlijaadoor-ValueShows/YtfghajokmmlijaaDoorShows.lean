import Derived.Test.YtfghajokmmlijaaDoorSMath
import Derived.Test.YtfghajokmmlijaaDoorHelp
import Derived.Test.YtfghajokmmlijaaDoorAskAt
namespace Go.Proofs.YtfghajokmmlijaaDoor
open Go.RowKit

set_option maxRecDepth 100000 in
set_option maxHeartbeats 4000000 in
theorem shows_core (op kd k n : Int) (s : ByteArray) (k' n' : Int) (s' : ByteArray) (k2 n2 : Int) (s2 : ByteArray) (w : World) (A B0 S : ByteArray) (va vb eb : Bool) (ht : Tab10 w)
    (HA : Hid (∀ W : World, Tab10 W → Calls Tryd.prog 6 #[.agg #[.int .i64 k, .int .i64 n, .string s]] W fun e w' => e = .returned (.string A) ∧ Below W.heap.size W w'))
    (HB : Hid (∀ W : World, Tab10 W → Calls Tryd.prog 6 #[.agg #[.int .i64 k', .int .i64 n', .string s']] W fun e w' => e = .returned (.string B0) ∧ Below W.heap.size W w'))
    (VA : Hid (∀ W : World, Calls Tryd.prog 7 #[.agg #[.int .i64 k, .int .i64 n, .string s]] W fun e w' => e = .returned (.bool va) ∧ Below W.heap.size W w'))
    (VB : Hid (∀ W : World, Calls Tryd.prog 7 #[.agg #[.int .i64 k', .int .i64 n', .string s']] W fun e w' => e = .returned (.bool vb) ∧ Below W.heap.size W w'))
    (HS : Hid (∀ W : World, Tab10 W → Calls Tryd.prog 8 #[.agg #[.int .i64 k, .int .i64 n, .string s]] W fun e w' => e = .returned (.string S) ∧ Below W.heap.size W w'))
    (qa : (A.toList == [63]) = !va) (qb : (B0.toList == [63]) = !vb) (qe : va = true → vb = true → (A.toList == B0.toList) = eb ∧ ((k == k' && n == n') && s.toList == s'.toList) = eb)
    (hz : A.size ≤ 9223372036854775807) (hby : Hid (∀ (i : Nat) (h : i < A.size), 32 ≤ (A[i]).toNat ∧ (A[i]).toNat ≤ 126)) (hza : Hid (A.size ≤ 10000 ∧ s.size ≤ 9223372036854775807))
    (hfin : Hid ((va = false → S = e0) ∧ (va = true → ((k = 1 ∨ k = 2) → S = A ∧ A.toList ≠ []) ∧ (k = 3 → S = s ∧ s.size ≤ 256 ∧ s.size + 2 ≤ A.size) ∧ (¬ (k = 1 ∨ k = 2) → k ≠ 3 → S = e0)))) :
    Calls Tryd.prog 3 #[.agg #[.int .i64 op, .int .i64 kd, .int .i64 k, .int .i64 n, .string s, .int .i64 k', .int .i64 n', .string s', .int .i64 k2, .int .i64 n2, .string s2]] w fun e w' => e = .returned (.bool true) ∧ Below w.heap.size w w' := by
  have m := AskAt.new w op kd k n s k' n' s' k2 n2 s2 27
  have B : Below w.heap.size w (w.alloc (.cells #[.int .i64 op, .int .i64 kd, .int .i64 k, .int .i64 n, .string s, .int .i64 k', .int .i64 n', .string s', .int .i64 k2, .int .i64 n2, .string s2] 27)) := (Below.refl _ w).alloc (Nat.le_refl _) _
  have l : w.heap.size < (w.alloc (.cells #[.int .i64 op, .int .i64 kd, .int .i64 k, .int .i64 n, .string s, .int .i64 k', .int .i64 n', .string s', .int .i64 k2, .int .i64 n2, .string s2] 27)).heap.size := by simp
  have T : Tab10 (w.alloc (.cells #[.int .i64 op, .int .i64 kd, .int .i64 k, .int .i64 n, .string s, .int .i64 k', .int .i64 n', .string s', .int .i64 k2, .int .i64 n2, .string s2] 27)) := ht.next B
  have Q1 : Hid ((A.toList == [63]) = !va) := qa
  have Q2 : Hid ((B0.toList == [63]) = !vb) := qb
  have Q3 : Hid (va = true → vb = true → (A.toList == B0.toList) = eb ∧ ((k == k' && n == n') && s.toList == s'.toList) = eb) := qe
  clear qa qb qe ht
  go_enter Tryd.func3, Tryd.ntmps3
  go_wp2_with fail
  refine (works_any _).mono ?_
  rintro e w1 ⟨rfl, hb⟩
  replace m := m.below hb l
  replace T := T.next hb
  replace l := Nat.lt_of_lt_of_le l hb.size
  replace B := B.trans (hb.mono B.size)
  clear hb
  obtain ⟨x0, x1, x2, x3, x4, x5, x6, x7, x8, x9, x10⟩ := id m
  go_wp2_with fail
  refine (HA.out _ T).mono ?_
  rintro e w2 ⟨rfl, hb⟩
  replace m := m.below hb l
  replace T := T.next hb
  replace l := Nat.lt_of_lt_of_le l hb.size
  replace B := B.trans (hb.mono B.size)
  clear hb
  clear x0 x1 x2 x3 x4 x5 x6 x7 x8 x9 x10
  obtain ⟨x0, x1, x2, x3, x4, x5, x6, x7, x8, x9, x10⟩ := id m
  go_wp2_with fail
  refine (HB.out _ T).mono ?_
  rintro e w3 ⟨rfl, hb⟩
  replace m := m.below hb l
  replace T := T.next hb
  replace l := Nat.lt_of_lt_of_le l hb.size
  replace B := B.trans (hb.mono B.size)
  clear hb
  clear x0 x1 x2 x3 x4 x5 x6 x7 x8 x9 x10
  obtain ⟨x0, x1, x2, x3, x4, x5, x6, x7, x8, x9, x10⟩ := id m
  go_wp2_with fail
  refine (VA.out _).mono ?_
  rintro e w4 ⟨rfl, hb⟩
  replace m := m.below hb l
  replace T := T.next hb
  replace l := Nat.lt_of_lt_of_le l hb.size
  replace B := B.trans (hb.mono B.size)
  clear hb
  clear x0 x1 x2 x3 x4 x5 x6 x7 x8 x9 x10
  obtain ⟨x0, x1, x2, x3, x4, x5, x6, x7, x8, x9, x10⟩ := id m
  go_wp2_with fail
  refine (VB.out _).mono ?_
  rintro e w5 ⟨rfl, hb⟩
  replace m := m.below hb l
  replace T := T.next hb
  replace l := Nat.lt_of_lt_of_le l hb.size
  replace B := B.trans (hb.mono B.size)
  clear hb
  clear x0 x1 x2 x3 x4 x5 x6 x7 x8 x9 x10
  obtain ⟨x0, x1, x2, x3, x4, x5, x6, x7, x8, x9, x10⟩ := id m
  go_upto_region 7 with fail
  clear HA HB VA VB
  go_cut [48, 3, 4, 5, 6] from 109 (fun u v3 v4 v5 v6 wx => u = .bool false ∧ v3 = .string A ∧ v4 = .string B0 ∧ v5 = .bool va ∧ v6 = .bool vb ∧ Hid (AskAt wx w.heap.size op kd k n s k' n' s' k2 n2 s2 ∧ Below w.heap.size w wx ∧ w.heap.size < wx.heap.size ∧ Tab10 wx))
  case first =>
    have HH : Hid (AskAt w5 w.heap.size op kd k n s k' n' s' k2 n2 s2 ∧ Below w.heap.size w w5 ∧ w.heap.size < w5.heap.size ∧ Tab10 w5) := ⟨m, B, l, T⟩
    have q1 := Q1.out
    have q2 := Q2.out
    cases va with
    | false =>
      clear Q3
      cases vb with
      | false =>
        go_wp2
        go_meet
        case rel => exact ⟨rfl, rfl, rfl, rfl, rfl, HH⟩
      | true =>
        go_wp2
        go_meet
        case rel => exact ⟨rfl, rfl, rfl, rfl, rfl, HH⟩
    | true =>
      cases vb with
      | false =>
        clear Q3
        go_wp2
        go_meet
        case rel => exact ⟨rfl, rfl, rfl, rfl, rfl, HH⟩
      | true =>
        obtain ⟨q3, q4⟩ := Q3.out rfl rfl
        have q5 : ∀ W : World, (binOp BinOp.eql 25 (.agg #[.int .i64 k, .int .i64 n, .string s]) (.agg #[.int .i64 k', .int .i64 n', .string s'])).run Tryd.prog W = .ok (.bool eb) W := fun W => by rw [eqlV, q4]
        clear q4 Q3
        go_wp2
        go_meet
        case rel => exact ⟨rfl, rfl, rfl, rfl, rfl, HH⟩
  case rest =>
  clear m B l T
  clear x0 x1 x2 x3 x4 x5 x6 x7 x8 x9 x10
  obtain ⟨rfl, rfl, rfl, rfl, rfl, HC⟩ := hcut
  obtain ⟨m, B, l, T⟩ := HC.out
  clear HC Q1 Q2 Q3
  go_wp2_with fail
  go_loopw [7] (fun i wr => ∃ j : Nat, j ≤ A.size ∧ i = .int .i64 (j : Int) ∧ wr = wc) (fun i _ => A.size - (intOf i).toNat)
  case atStart => exact ⟨0, Nat.zero_le _, rfl, rfl⟩
  case round =>
    obtain ⟨j, hj, rfl, rfl⟩ := hrel
    by_cases hlt : j < A.size
    · obtain ⟨b1, b2⟩ := hby.out j hlt
      have b3 : ¬ (((A[j]).toNat : Int) < 32) := by omega
      have b4 : ¬ (126 < ((A[j]).toNat : Int)) := by omega
      clear b1 b2 m B l T
      go_wp2
      exact ⟨⟨j + 1, by omega, by go_num, by first | rfl | trivial⟩, by simp [intOf]; omega⟩
    have hnl : ¬ ((j : Int) < (A.size : Int)) := by omega
    clear hby hlt
    obtain ⟨x0, x1, x2, x3, x4, x5, x6, x7, x8, x9, x10⟩ := id m
    cases va with
    | false =>
      obtain rfl := hfin.out.1 rfl
      go_wp2_with fail
      refine (HS.out _ T).mono ?_
      rintro e w6 ⟨rfl, hb⟩
      replace B := B.trans (hb.mono B.size)
      go_wp2
      go_ret
      exact ⟨rfl, B⟩
    | true =>
      obtain ⟨f1, f2, f3⟩ := hfin.out.2 rfl
      clear hfin
      by_cases h1 : k = 1
      · subst h1
        obtain ⟨rfl, hne⟩ := f1 (by simp)
        have hne2 : (S.toList == []) = false := by simp [hne]
        have hne3 : S.toList.isEmpty = false := by simp [hne]
        clear f1 f2 f3 hne
        go_wp2_with fail
        refine (HS.out _ T).mono ?_
        rintro e w6 ⟨rfl, hb⟩
        replace B := B.trans (hb.mono B.size)
        go_wp2
        go_ret
        exact ⟨by simp, B⟩
      by_cases h2 : k = 2
      · subst h2
        obtain ⟨rfl, hne⟩ := f1 (by simp)
        have hne2 : (S.toList == []) = false := by simp [hne]
        have hne3 : S.toList.isEmpty = false := by simp [hne]
        clear f1 f2 f3 hne
        go_wp2_with fail
        refine (HS.out _ T).mono ?_
        rintro e w6 ⟨rfl, hb⟩
        replace B := B.trans (hb.mono B.size)
        go_wp2
        go_ret
        exact ⟨by simp, B⟩
      by_cases h3 : k = 3
      · subst h3
        obtain ⟨rfl, hs256, hlen⟩ := f2 rfl
        have hl2 : ((S.size : Int) + 2) ≤ (A.size : Int) := by omega
        clear f1 f2 f3
        go_wp2_with fail
        have y2 := cell_regrown x2
        have y3 := cell_regrown x3
        have y4 := cell_regrown x4
        have d1 : ∀ d os, Calls Tryd.prog 8 #[.agg #[.int .i64 3, .int .i64 n, .string S]] (Sort.grow (redrawn wr d) os) fun e w'' => e = .returned (.string S) ∧ ∃ p : Regrown, w'' = Sort.grow (redrawn wr p.d) p.os := fun d os => Calls.regrown_of (HS.out _ (T.next (below_regrown wr d os)))
        refine wp_region_quiet_below (by kernel_rfl) (by kernel_rfl) ?_
        repeat (first | go_big_quiet_step (with_reducible exact d1 _ _) | quiet_step (with_reducible exact d1 _ _))
        refine wpQuiet_nil ?_
        intro _ hw'
        obtain ⟨⟨dq, osq⟩, hw''⟩ := hw'
        subst hw''
        have hY := below_regrown wr dq osq
        change Exit.then _ _ Exit.normal _ (Sort.grow (redrawn wr dq) osq)
        generalize Sort.grow (redrawn wr dq) osq = Y at hY ⊢
        replace B := B.trans (hY.mono B.size)
        go_wp2
        go_ret
        exact ⟨rfl, B⟩
      obtain rfl := f3 (by omega) h3
      clear f1 f2 f3
      go_wp2_with fail
      refine (HS.out _ T).mono ?_
      rintro e w6 ⟨rfl, hb⟩
      replace B := B.trans (hb.mono B.size)
      go_wp2
      go_ret
      exact ⟨rfl, B⟩
end Go.Proofs.YtfghajokmmlijaaDoor
