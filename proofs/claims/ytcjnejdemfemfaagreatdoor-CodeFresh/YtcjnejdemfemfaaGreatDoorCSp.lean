import Derived.Test.YtcjnejdemfemfaaGreatDoorCS2
namespace Go.Proofs.YtcjnejdemfemfaaGreatDoor
open Go.RowKit

theorem idx_line : ∀ l : Bs, (Lib.indexByte l 10 = -1 ∧ lineOf l = l ∧ restOf l = []) ∨ ∃ i : Nat, Lib.indexByte l 10 = (i : Int) ∧ i < l.length ∧ lineOf l = l.take i ∧ restOf l = l.drop (i + 1)
  | [] => .inl ⟨rfl, rfl, rfl⟩
  | c :: r => by
    by_cases hc : c = 10
    · subst hc
      exact .inr ⟨0, rfl, by simp, rfl, rfl⟩
    · have h1 : (c == 10) = false := beq_eq_false_iff_ne.2 hc
      have h2 : (c != 10) = true := by simp [bne, h1]
      have e1 : lineOf (c :: r) = c :: lineOf r := by unfold lineOf; rw [List.takeWhile_cons]; simp only [h2, if_true]
      have e2 : restOf (c :: r) = restOf r := by unfold restOf; rw [List.dropWhile_cons]; simp only [h2, if_true]
      rcases idx_line r with ⟨a, b, d⟩ | ⟨i, a, b, d, e⟩
      · refine .inl ⟨?_, by rw [e1, b], by rw [e2, d]⟩
        simp only [Lib.indexByte, h1, a]
        rfl
      · refine .inr ⟨i + 1, ?_, by simp; omega, by rw [e1, d]; rfl, by rw [e2, e]; rfl⟩
        simp only [Lib.indexByte, h1, a]
        have : ((i : Int) == -1) = false := by rw [beq_eq_false_iff_ne]; omega
        rw [this]
        simp
theorem wdLen_pos (c : UInt8) (r : Bs) (h1 : ¬ (c = 32 ∨ c = 9)) (h2 : ¬ c = 35) : 0 < wdLen (c :: r) := by
  unfold wdLen
  by_cases h34 : c = 34
  · have : qlS (c :: r) = 1 + qeS r := by unfold qlS; simp only [h34, if_pos]
    omega
  · have : qlS (c :: r) = 0 := by unfold qlS; simp only; rw [if_neg h34]
    rw [this, List.drop_zero, List.takeWhile_cons_of_pos]
    · simp
    · have a : (c == 32) = false := beq_eq_false_iff_ne.2 fun e => h1 (.inl e)
      have b : (c == 9) = false := beq_eq_false_iff_ne.2 fun e => h1 (.inr e)
      have d : (c == 35) = false := beq_eq_false_iff_ne.2 h2
      simp [isSep, a, b, d]
theorem wdsF_len : ∀ (f k : Nat) (l : Bs), (wdsF f k l).length ≤ 255 - k
  | 0, _, _ => by simp [wdsF]
  | f + 1, k, [] => by simp [wdsF]
  | f + 1, k, c :: r => by
    rw [wdsF]
    split
    · simp
    split
    · exact wdsF_len f k r
    split
    · simp
    · have := wdsF_len f (k + 1) ((c :: r).drop (wdLen (c :: r)))
      rw [List.length_cons]
      omega
theorem wdsF_mem : ∀ (f k : Nat) (l : Bs), ∀ x ∈ wdsF f k l, x ≠ [] ∧ x.length ≤ l.length
  | 0, _, _, x, hx => by simp [wdsF] at hx
  | f + 1, k, [], x, hx => by simp [wdsF] at hx
  | f + 1, k, c :: r, x, hx => by
    rw [wdsF] at hx
    split at hx
    · cases hx
    split at hx
    · have := wdsF_mem f k r x hx
      exact ⟨this.1, by rw [List.length_cons]; omega⟩
    split at hx
    · cases hx
    · rename_i h0 h1 h2
      rcases List.mem_cons.1 hx with rfl | hx
      · have hp := wdLen_pos c r h1 h2
        refine ⟨?_, by rw [List.length_take]; omega⟩
        intro e
        have := congrArg List.length e
        rw [List.length_take, List.length_cons] at this
        simp at this
        omega
      · have := wdsF_mem f (k + 1) _ x hx
        refine ⟨this.1, Nat.le_trans this.2 ?_⟩
        rw [List.length_drop]
        omega
theorem wds_of_own {w w' : World} {q : Option Addr} {cap : Nat} {l : Bs} (hl : l.length ≤ 281474976710656) (h : w'.ownsRow w.heap.size 9 1 (.slice q (wdsS l).length cap) (wdsS l).length (wV (wdsS l))) : Wds w' w'.heap.size q (wdsS l).length cap (wdsS l) := by
  obtain ⟨q', c', hv, hle, -⟩ := own_slice h
  obtain rfl := (Value.slice.inj hv).2.2
  refine ⟨rfl, hle, row_of_own h, fun x hx => ?_, ?_⟩
  · have := (wdsF_mem _ _ _ x hx).2
    omega
  · have := wdsF_len (l.length + 1) 0 l
    exact Nat.le_trans this (by decide)
set_option maxRecDepth 100000 in
set_option maxHeartbeats 1000000 in
theorem cutL_any (s : ByteArray) (hs : s.size ≤ 4611686018427387904) (w : World) : Calls Tryz.prog 52 #[.string s, .string ⟨#[10]⟩] w fun e w' => ∃ f : Bool, e = .returned (.tuple #[.string (YtcjnejdemfemfaaGreatDoor.bk (lineOf (lt s))), .string (YtcjnejdemfemfaaGreatDoor.bk (restOf (lt s))), .bool f]) ∧ Below w.heap.size w w' := by
  have hi := Tryz.stringslite_Index_one s 10 w
  have hz := lt_len s
  rcases idx_line (lt s) with ⟨a, b, d⟩ | ⟨i, a, b, d, e⟩
  · rw [b, d]
    have a' : Lib.indexByte s.data.toList 10 = -1 := a
    rw [a'] at hi
    have e1 : YtcjnejdemfemfaaGreatDoor.bk (lt s) = s := bk_all s
    rw [e1]
    clear a a' b d hz
    go_enter Tryz.func52, Tryz.ntmps52
    go_wp2_with (first
      | (go_at_call 70; refine hi.mono ?_; rintro e w1 ⟨rfl, hw1⟩; subst hw1)
      | go_in)
    exact bodyPost_ret (v := .tuple #[.string s, .string e0, .bool false]) (by simp [results, Tryz.results52, go_sem]) rfl ⟨false, rfl, Below.refl _ _⟩
  · have a' : Lib.indexByte s.data.toList 10 = (i : Int) := a
    rw [a'] at hi
    have hb : i < s.size := by omega
    have c1 := cut_mid s 0 i
    have c2 := cut_lt s (i + 1)
    rw [List.drop_zero, Nat.sub_zero, ← d] at c1
    rw [← e] at c2
    rw [← c1, ← c2]
    have k0 : (0 : Int) ≤ (i : Int) := by omega
    have k1 : (i : Int) ≤ (s.size : Int) := by omega
    have k2 : (i : Int) + 1 ≤ (s.size : Int) := by omega
    have k3 : (i : Int) + 1 ≤ 9223372036854775807 := by omega
    clear a a' b d e c1 c2 hz
    go_enter Tryz.func52, Tryz.ntmps52
    go_wp2_with (first
      | (go_at_call 70; refine hi.mono ?_; rintro e w1 ⟨rfl, hw1⟩; subst hw1)
      | go_in)
    refine wp_region_quiet_below (by kernel_rfl) (by kernel_rfl) ?_
    repeat (first | go_big_quiet_step (first | fail) | quiet_step (first | fail))
    refine wpQuiet_nil ?_
    intro _ hw'
    obtain ⟨⟨dq, osq⟩, hw''⟩ := hw'
    subst hw''
    have hY := below_regrown w1 dq osq
    change Exit.then _ _ Exit.normal _ (Sort.grow (redrawn w1 dq) osq)
    generalize Sort.grow (redrawn w1 dq) osq = Y at hY ⊢
    go_wp2
    exact bodyPost_ret (v := .tuple #[.string (s.extract 0 i), .string (s.extract (i + 1) s.size), .bool true]) (by simp [results, Tryz.results52, go_sem]) rfl ⟨true, rfl, hY⟩
set_option maxRecDepth 100000 in
set_option maxHeartbeats 1000000 in
theorem cut_any (s : ByteArray) (hs : s.size ≤ 4611686018427387904) (w : World) : Calls Tryz.prog 26 #[.string s, .string ⟨#[10]⟩] w fun e w' => ∃ f : Bool, e = .returned (.tuple #[.string (YtcjnejdemfemfaaGreatDoor.bk (lineOf (lt s))), .string (YtcjnejdemfemfaaGreatDoor.bk (restOf (lt s))), .bool f]) ∧ Below w.heap.size w w' := by
  have hi := cutL_any s hs w
  generalize YtcjnejdemfemfaaGreatDoor.bk (lineOf (lt s)) = x at *
  generalize YtcjnejdemfemfaaGreatDoor.bk (restOf (lt s)) = y at *
  go_enter Tryz.func26, Tryz.ntmps26
  go_wp2_with (first
    | (go_at_call 52; refine hi.mono ?_; rintro e w1 ⟨f, rfl, hw1⟩)
    | go_in)
  exact bodyPost_ret (v := .tuple #[.string x, .string y, .bool f]) (by simp [results, Tryz.results26, go_sem]) rfl ⟨f, rfl, hw1⟩
theorem count_any (s : ByteArray) (w : World) : Calls Tryz.prog 30 #[.string s, .string ⟨#[10]⟩] w fun e w' => e = .returned (.int .i64 (((lt s).count 10 : Nat) : Int)) ∧ w' = w := Tryz.strings_Count_one s 10 w
theorem rest_len (l : Bs) (h : l ≠ []) : (restOf l).length + 1 ≤ l.length := by
  have := List.length_pos_iff.2 h
  rcases idx_line l with ⟨a, b, d⟩ | ⟨i, a, b, d, e⟩
  · rw [d, List.length_nil]; omega
  · rw [e, List.length_drop]; omega
theorem line_len (l : Bs) : (lineOf l).length ≤ l.length := by
  rcases idx_line l with ⟨a, b, d⟩ | ⟨i, a, b, d, e⟩
  · rw [b]; exact Nat.le_refl _
  · rw [d, List.length_take]; omega
end Go.Proofs.YtcjnejdemfemfaaGreatDoor

