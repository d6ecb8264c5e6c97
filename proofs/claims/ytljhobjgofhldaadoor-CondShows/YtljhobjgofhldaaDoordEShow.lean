import Derived.Test.YtljhobjgofhldaaDoordEStr
import Derived.Test.YtljhobjgofhldaaDoordEBelow
namespace Go.Proofs.YtljhobjgofhldaaDoor
open Go.RowKit Go.Shelf

theorem arr_size (l : List UInt8) : (⟨l.toArray⟩ : ByteArray).size = l.length := rfl
theorem arr_app (a b : List UInt8) : (⟨a.toArray⟩ : ByteArray) ++ ⟨b.toArray⟩ = ⟨(a ++ b).toArray⟩ := by
  apply ByteArray.ext
  rw [ByteArray.data_append]
  simp

set_option maxRecDepth 100000 in
set_option maxHeartbeats 2000000 in
theorem rshow_text (n : Int) (s : ByteArray) (w : World) (hz : s.size ≤ 256) (ht : Tab10 w) (Z : ByteArray) (hZ : Hid (Z = ⟨(Lx.qt s.data.toList).toArray⟩))
    (cv : ∀ W : World, Calls Tryd.prog 12 #[.agg #[.int .i64 3, .int .i64 n, .string s]] W fun e w' => e = .returned (.bool true) ∧ Below W.heap.size W w') :
    Calls Tryd.prog 13 #[.agg #[.int .i64 3, .int .i64 n, .string s]] w fun e w' => e = .returned (.string Z) ∧ Below w.heap.size w w' := by
  have B1 : Below w.heap.size w (w.alloc (.cells #[.int .i64 3, .int .i64 n, .string s] 26)) := (Below.refl _ w).alloc (Nat.le_refl _) _
  have m0 := Box3.new w 3 n s 26
  go_enter Tryd.func13, Tryd.ntmps13
  go_wp2_with fail
  refine (cv _).mono ?_
  rintro e w1 ⟨rfl, hb⟩
  have m := m0.below hb (by simp)
  have B := B1.trans (hb.mono B1.size)
  have l : w.heap.size < w1.heap.size := Nat.lt_of_lt_of_le (by simp) hb.size
  have T : Tab10 w1 := ht.next B
  clear hb
  obtain ⟨⟨⟨x0, f0⟩, ⟨x1, f1⟩⟩, x2, f2⟩ := id m
  clear T ht
  go_wp2_with fail
  go_loopw [3, 4] (fun v i wr => ∃ (j : Nat) (A : ByteArray), j ≤ s.size ∧ v = .string A ∧ i = .int .i64 (j : Int) ∧ A.size ≤ 1 + 4 * j ∧ Hid (A = ⟨(34 :: Lx.pcs (s.data.toList.take j)).toArray⟩) ∧ Hid (Box3 wr w.heap.size 3 n s ∧ Below w.heap.size w wr ∧ w.heap.size < wr.heap.size)) (fun _ i _ => s.size - (intOf i).toNat)
  case atStart => exact ⟨0, _, Nat.zero_le _, rfl, rfl, by decide, rfl, ⟨m, B, l⟩⟩
  case round =>
    clear m B l x0 x1 x2 f0 f1 f2 m0 B1 cv
    obtain ⟨j, A, hj, rfl, rfl, hA, HA, HM⟩ := hrel
    obtain ⟨m, B, l⟩ := HM.out
    clear HM
    obtain ⟨⟨⟨x0, f0⟩, ⟨x1, f1⟩⟩, x2, f2⟩ := id m
    have HS : Hid (s.size = s.data.toList.length) := Lib.size_eq s
    by_cases hlt : j < s.size
    · have hst := Lx.pcs_step s.data.toList j (by rw [← HS.out]; exact hlt)
      have cp := fun W : World => Lx.piece_any (s[j]) W
      have hpl := Lx.pc_len (s[j])
      obtain ⟨P, hP⟩ : ∃ P : ByteArray, (⟨(Lx.pc (s[j])).toArray⟩ : ByteArray) = P := ⟨_, rfl⟩
      have hPs : P.size ≤ 4 := by rw [← hP]; exact hpl
      rw [hP] at cp
      have HN : Hid (A ++ P = ⟨(34 :: Lx.pcs (s.data.toList.take (j + 1))).toArray⟩) := by
        show _ = _
        rw [HA.out, ← hP, arr_app, hst]
        rfl
      have hix := ix_run s j hlt
      have CP : Hid (∀ W : World, Calls Tryd.prog 20 #[.int .u8 ((s[j]).toNat : Int)] W fun e w' => e = .returned (.string P) ∧ Below W.heap.size W w') := cp
      clear cp hP hpl hst HA
      have hji : (j : Int) < (s.size : Int) := by omega
      go_wp2_with fail
      refine (CP.out _).mono ?_
      rintro e w2 ⟨rfl, hb⟩
      have HM : Hid (Box3 w2 w.heap.size 3 n s ∧ Below w.heap.size w w2 ∧ w.heap.size < w2.heap.size) := ⟨m.below hb l, B.trans (hb.mono B.size), Nat.lt_of_lt_of_le l hb.size⟩
      clear hb m B l x0 x1 x2 f0 f1 f2
      go_wp2
      exact ⟨⟨j + 1, A ++ P, by omega, rfl, by go_num, by rw [ByteArray.size_append]; omega, HN, HM⟩, by simp [intOf]; omega⟩
    · obtain rfl : j = s.size := by omega
      have HN : Hid (A ++ (⟨#[34]⟩ : ByteArray) = Z) := by
        show _ = _
        rw [hZ.out, HA.out, show (⟨#[34]⟩ : ByteArray) = ⟨([34] : List UInt8).toArray⟩ from rfl, arr_app, HS.out, List.take_length]
        rfl
      have hji : ¬ ((s.size : Int) < (s.size : Int)) := by omega
      clear HA
      go_wp2
      go_ret
      exact ⟨by rw [← HN.out]; rfl, B⟩

set_option maxRecDepth 100000 in
set_option maxHeartbeats 2000000 in
theorem rshow_any (k n : Int) (s : ByteArray) (w : World) (hs : s.size ≤ 9223372036854775807) (hn : -9223372036854775808 ≤ n ∧ n ≤ 9223372036854775807) (ht : Tab10 w) :
    Calls Tryd.prog 13 #[.agg #[.int .i64 k, .int .i64 n, .string s]] w fun e w' => e = .returned (.string (showS k n s)) ∧ Below w.heap.size w w' := by
  have B1 : Below w.heap.size w (w.alloc (.cells #[.int .i64 k, .int .i64 n, .string s] 26)) := (Below.refl _ w).alloc (Nat.le_refl _) _
  have m0 := Box3.new w k n s 26
  have cv := fun W : World => rvalid_any k n s W hs
  cases hv : okV k n s with
  | false =>
    rw [hv] at cv
    rw [show showS k n s = ⟨#[63]⟩ by unfold showS; rw [hv]; rfl]
    go_enter Tryd.func13, Tryd.ntmps13
    go_wp2_with fail
    refine (cv _).mono ?_
    rintro e w1 ⟨rfl, hb⟩
    have m := m0.below hb (by simp)
    have B := B1.trans (hb.mono B1.size)
    have l : w.heap.size < w1.heap.size := Nat.lt_of_lt_of_le (by simp) hb.size
    have T : Tab10 w1 := ht.next B
    clear hb
    obtain ⟨⟨⟨x0, f0⟩, ⟨x1, f1⟩⟩, x2, f2⟩ := id m
    go_wp2
    go_ret
    exact ⟨rfl, B⟩
  | true =>
  rw [hv] at cv
  have hz := str_size hv
  rw [show showS k n s = (if k = 3 then ⟨(Lx.qt s.data.toList).toArray⟩ else if k = 4 then (⟨#[35]⟩ : ByteArray) ++ ⟨(Lib.itoa n).toArray⟩ else if k = 0 then ⟨#[45]⟩ else strS k n s) by unfold showS; rw [if_pos hv]]
  by_cases h3 : k = 3
  · subst h3
    rw [if_pos rfl]
    exact rshow_text n s w hz ht _ rfl cv
  rw [if_neg h3]
  by_cases h4 : k = 4
  · subst h4
    rw [if_pos rfl]
    have cf := fun (W : World) (hT : Tab10 W) => fmt_any n W hn hT
    have hI : (⟨(Lib.itoa n).toArray⟩ : ByteArray).size ≤ 21 := by rw [show (⟨(Lib.itoa n).toArray⟩ : ByteArray).size = (Lib.itoa n).length from rfl]; exact Lib.itoa_length_le n hn.1 hn.2
    generalize (⟨(Lib.itoa n).toArray⟩ : ByteArray) = I at cf hI ⊢
    go_enter Tryd.func13, Tryd.ntmps13
    go_wp2_with fail
    refine (cv _).mono ?_
    rintro e w1 ⟨rfl, hb⟩
    have m := m0.below hb (by simp)
    have B := B1.trans (hb.mono B1.size)
    have l : w.heap.size < w1.heap.size := Nat.lt_of_lt_of_le (by simp) hb.size
    have T : Tab10 w1 := ht.next B
    clear hb
    obtain ⟨⟨⟨x0, f0⟩, ⟨x1, f1⟩⟩, x2, f2⟩ := id m
    go_wp2_with fail
    refine (cf _ T).mono ?_
    rintro e w2 ⟨rfl, hb2⟩
    go_wp2
    go_ret
    exact ⟨rfl, B.trans (hb2.mono B.size)⟩
  rw [if_neg h4]
  by_cases h0 : k = 0
  · subst h0
    rw [if_pos rfl]
    go_enter Tryd.func13, Tryd.ntmps13
    go_wp2_with fail
    refine (cv _).mono ?_
    rintro e w1 ⟨rfl, hb⟩
    have m := m0.below hb (by simp)
    have B := B1.trans (hb.mono B1.size)
    have l : w.heap.size < w1.heap.size := Nat.lt_of_lt_of_le (by simp) hb.size
    have T : Tab10 w1 := ht.next B
    clear hb
    obtain ⟨⟨⟨x0, f0⟩, ⟨x1, f1⟩⟩, x2, f2⟩ := id m
    go_wp2
    go_ret
    exact ⟨rfl, B⟩
  rw [if_neg h0]
  go_enter Tryd.func13, Tryd.ntmps13
  go_wp2_with fail
  refine (cv _).mono ?_
  rintro e w1 ⟨rfl, hb⟩
  have m := m0.below hb (by simp)
  have B := B1.trans (hb.mono B1.size)
  have l : w.heap.size < w1.heap.size := Nat.lt_of_lt_of_le (by simp) hb.size
  have T : Tab10 w1 := ht.next B
  clear hb
  obtain ⟨⟨⟨x0, f0⟩, ⟨x1, f1⟩⟩, x2, f2⟩ := id m
  go_wp2_with fail
  refine (rstr_any k n s _ hs hn T).mono ?_
  rintro e w2 ⟨rfl, hb2⟩
  go_wp2
  go_ret
  exact ⟨rfl, B.trans (hb2.mono B.size)⟩
end Go.Proofs.YtljhobjgofhldaaDoor
