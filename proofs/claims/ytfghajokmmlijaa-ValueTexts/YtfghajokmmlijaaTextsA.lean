import Derived.Test.YtfghajokmmlijaaOrder
import Derived.Test.YtfghajokmmlijaaWith
namespace Go.Proofs.Ytfghajokmmlijaa
open Go.RowKit
theorem byte_l (a b : ByteArray) (j : Nat) (h : j < a.size) : (((a ++ b).data.toList.getD j 0).toNat : Int) = ((a[j]).toNat : Int) := by
  have h1 : (a ++ b).data.toList.getD j 0 = a[j] := by
    rw [ByteArray.data_append, Array.toList_append, List.getD_eq_getElem?_getD, List.getElem?_append_left (by rw [Array.length_toList]; exact h), List.getElem?_eq_getElem (by rw [Array.length_toList]; exact h)]
    rfl
  rw [h1]
theorem byte_r (a b : ByteArray) (t : Nat) (h : t < b.size) : (((a ++ b).data.toList.getD (a.size + t) 0).toNat : Int) = ((b[t]).toNat : Int) := by
  have h1 : (a ++ b).data.toList.getD (a.size + t) 0 = b[t] := by
    have hl : a.data.toList.length = a.size := by rw [Array.length_toList]; rfl
    rw [ByteArray.data_append, Array.toList_append, List.getD_eq_getElem?_getD, List.getElem?_append_right (by omega), hl, Nat.add_sub_cancel_left, List.getElem?_eq_getElem (by rw [Array.length_toList]; exact h)]
    rfl
  rw [h1]
theorem ix_run (a : ByteArray) (j : Nat) (h : j < a.size) : ∀ w : World, (Instr.index 9 (.string a) (.int .i64 (j : Int))).run Try.prog w = .ok (.int .u8 ((a[j]).toNat : Int)) w := by
  intro w
  have h1 : (j : Int) < (a.size : Int) := by omega
  simp [Instr.index, asIntOf, go_sem, h]
theorem lt_put3 {W : World} {a B : Nat} {k n : Int} {s : ByteArray} (h : a < W.heap.size) : a < (put3 W B k n s).heap.size := by unfold put3; simpa using h

set_option maxRecDepth 100000 in
set_option maxHeartbeats 4000000 in
theorem texts_long (op kd k n : Int) (s : ByteArray) (k' n' : Int) (s' : ByteArray) (k2 n2 : Int) (s2 : ByteArray) (w : World) (hs : s.size ≤ 9223372036854775807) (hs' : s'.size ≤ 9223372036854775807) (hs2 : s2.size ≤ 9223372036854775807) (a b c : ByteArray) (ha : cutS s = a) (hb0 : cutS s' = b) (hc : cutS s2 = c) (hab : 256 < a.size + b.size) :
    Calls Try.prog 3 #[.agg #[.int .i64 op, .int .i64 kd, .int .i64 k, .int .i64 n, .string s, .int .i64 k', .int .i64 n', .string s', .int .i64 k2, .int .i64 n2, .string s2]] w fun e w' => e = .returned (.bool true) ∧ Below w.heap.size w w' := by
  have za : a.size ≤ 256 := by rw [← ha]; exact cut_size s
  have zb0 : b.size ≤ 256 := by rw [← hb0]; exact cut_size s'
  have zc : c.size ≤ 256 := by rw [← hc]; exact cut_size s2
  have Ca : Hid (∀ W : World, Calls Try.prog 8 #[.string s] W fun e w' => e = .returned (.string a) ∧ w' = W) := fun W => by have h := cut_any s W hs; rw [ha] at h; exact h
  have Cb : Hid (∀ W : World, Calls Try.prog 8 #[.string s'] W fun e w' => e = .returned (.string b) ∧ w' = W) := fun W => by have h := cut_any s' W hs'; rw [hb0] at h; exact h
  have Cc : Hid (∀ W : World, Calls Try.prog 8 #[.string s2] W fun e w' => e = .returned (.string c) ∧ w' = W) := fun W => by have h := cut_any s2 W hs2; rw [hc] at h; exact h
  clear ha hb0 hc hs hs' hs2
  have m := AskAt.new w op kd k n s k' n' s' k2 n2 s2 27
  have B : Below w.heap.size w (w.alloc (.cells #[.int .i64 op, .int .i64 kd, .int .i64 k, .int .i64 n, .string s, .int .i64 k', .int .i64 n', .string s', .int .i64 k2, .int .i64 n2, .string s2] 27)) := (Below.refl _ w).alloc (Nat.le_refl _) _
  have l : w.heap.size < (w.alloc (.cells #[.int .i64 op, .int .i64 kd, .int .i64 k, .int .i64 n, .string s, .int .i64 k', .int .i64 n', .string s', .int .i64 k2, .int .i64 n2, .string s2] 27)).heap.size := by simp
  have C1 : Hid (∀ W : World, Calls Try.prog 9 #[.int .i64 3, .agg #[.int .i64 3, .int .i64 0, .string a], .agg #[.int .i64 3, .int .i64 0, .string b]] W fun e w' => e = .returned (.tuple #[.agg #[.int .i64 0, .int .i64 0, .string e0], .int .i64 6]) ∧ Below W.heap.size W w') := fun W => by have h := binary_any 3 3 0 a 3 0 b W (by omega) (by omega); rw [binText _ _ _ za zb0, show textsS 3 a b = (0, 0, e0, 6) by unfold textsS; rw [if_pos rfl, if_pos hab]] at h; exact h
  go_enter Try.func3, Try.ntmps3
  go_wp2_with fail
  refine (works_any _).mono ?_
  rintro e w1 ⟨rfl, hb⟩
  replace m := m.below hb l
  replace l := Nat.lt_of_lt_of_le l hb.size
  replace B := B.trans (hb.mono B.size)
  clear hb
  obtain ⟨x0, x1, x2, x3, x4, x5, x6, x7, x8, x9, x10⟩ := id m
  go_wp2_with fail
  refine (Ca.out _).mono ?_
  rintro e _ ⟨rfl, rfl⟩
  go_wp2_with fail
  refine (Cb.out _).mono ?_
  rintro e _ ⟨rfl, rfl⟩
  go_wp2_with fail
  refine (Cc.out _).mono ?_
  rintro e _ ⟨rfl, rfl⟩
  go_wp2_with fail
  clear x0 x1 x2 x3 x4 x5 x6 x7 x8 x9 x10
  refine (text_any a _).mono ?_
  rintro e v1 ⟨rfl, hb⟩
  replace m := m.below hb l
  replace l := Nat.lt_of_lt_of_le l hb.size
  replace B := B.trans (hb.mono B.size)
  clear hb
  go_wp2_with fail
  refine (text_any b _).mono ?_
  rintro e v2 ⟨rfl, hb⟩
  replace m := m.below hb l
  replace l := Nat.lt_of_lt_of_le l hb.size
  replace B := B.trans (hb.mono B.size)
  clear hb
  go_wp2_with fail
  refine (C1.out _).mono ?_
  rintro e v3 ⟨rfl, hb⟩
  replace m := m.below hb l
  replace l := Nat.lt_of_lt_of_le l hb.size
  replace B := B.trans (hb.mono B.size)
  clear hb
  replace B := B.alloc B.size (.cells #[.int .i64 0, .int .i64 0, .string e0] 25)
  have q1 := eqSame 0 0 e0
  have hi : (256 : Int) < (a.size : Int) + b.size := by omega
  go_wp2
  go_ret
  exact ⟨rfl, B⟩
end Go.Proofs.Ytfghajokmmlijaa
