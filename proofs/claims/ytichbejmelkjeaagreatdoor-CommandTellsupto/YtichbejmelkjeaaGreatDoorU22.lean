import Derived.BigQuiet
import Derived.Test.YtichbejmelkjeaaGreatDoorU21
import Derived.Test.YtichbejmelkjeaaGreatDoorU16
import Derived.Test.YtichbejmelkjeaaGreatDoorU10
namespace Go.Proofs.YtichbejmelkjeaaGreatDoor.Vs
open Go.RowKit Go.Shelf

theorem isS_eq (k n : Int) (s : ByteArray) (K : Int) : isS k n s K = (decide (k = K) && okV k n s) := by
  unfold isS
  by_cases h : k = K <;> simp [h]
theorem tB_true : (⟨(Lib.formatBool true).toArray⟩ : ByteArray) = ⟨#[116, 114, 117, 101]⟩ := by decide +kernel
theorem tB_false : (⟨(Lib.formatBool false).toArray⟩ : ByteArray) = ⟨#[102, 97, 108, 115, 101]⟩ := by decide +kernel

set_option maxRecDepth 100000 in
set_option maxHeartbeats 2000000 in
theorem rstr_any (k n : Int) (s : ByteArray) (w : World) (hs : s.size ≤ 9223372036854775807) (hn : -9223372036854775808 ≤ n ∧ n ≤ 9223372036854775807) (ht : Tab10 w) :
    Calls Tryz.prog 40 #[.agg #[.int .i64 k, .int .i64 n, .string s]] w fun e w' => e = .returned (.string (strS k n s)) ∧ Below w.heap.size w w' := by
  have B1 : Below w.heap.size w (w.alloc (.cells #[.int .i64 k, .int .i64 n, .string s] 25)) := (Below.refl _ w).alloc (Nat.le_refl _) _
  have m0 := Box3.new w k n s 25
  have c1 := fun W : World => operand_any k n s 1 W hs
  have c2 := fun W : World => operand_any k n s 2 W hs
  have c3 := fun W : World => operand_any k n s 3 W hs
  rw [isS_eq] at c1 c2 c3
  cases hv : okV k n s with
  | false =>
    rw [hv, Bool.and_false] at c1 c2 c3
    rw [show strS k n s = e0 by unfold strS; rw [hv]; rfl]
    go_enter Tryz.func40, Tryz.ntmps40
    go_wp2_with fail
    refine (c1 _).mono ?_
    rintro e w1 ⟨rfl, hb⟩
    have m := m0.below hb (by simp)
    have B := B1.trans (hb.mono B1.size)
    have l : w.heap.size < w1.heap.size := Nat.lt_of_lt_of_le (by simp) hb.size
    clear hb
    obtain ⟨⟨⟨x0, f0⟩, ⟨x1, f1⟩⟩, x2, f2⟩ := id m
    go_wp2_with fail
    refine (c2 _).mono ?_
    rintro e w2 ⟨rfl, hb⟩
    replace m := m.below hb l
    replace B := B.trans (hb.mono B.size)
    replace l := Nat.lt_of_lt_of_le l hb.size
    clear hb x0 x1 x2 f0 f1 f2
    obtain ⟨⟨⟨x0, f0⟩, ⟨x1, f1⟩⟩, x2, f2⟩ := id m
    go_wp2_with fail
    refine (c2 _).mono ?_
    rintro e w3 ⟨rfl, hb⟩
    replace m := m.below hb l
    replace B := B.trans (hb.mono B.size)
    replace l := Nat.lt_of_lt_of_le l hb.size
    clear hb x0 x1 x2 f0 f1 f2
    obtain ⟨⟨⟨x0, f0⟩, ⟨x1, f1⟩⟩, x2, f2⟩ := id m
    go_wp2_with fail
    refine (c3 _).mono ?_
    rintro e w4 ⟨rfl, hb⟩
    replace m := m.below hb l
    replace B := B.trans (hb.mono B.size)
    replace l := Nat.lt_of_lt_of_le l hb.size
    clear hb x0 x1 x2 f0 f1 f2
    obtain ⟨⟨⟨x0, f0⟩, ⟨x1, f1⟩⟩, x2, f2⟩ := id m
    go_wp2
    go_ret
    exact ⟨rfl, B⟩
  | true =>
  rw [hv, Bool.and_true] at c1 c2 c3
  rw [show strS k n s = (if k = 1 then ⟨(Lib.itoa n).toArray⟩ else if k = 2 then ⟨(Lib.formatBool (n == 1)).toArray⟩ else if k = 3 then s else e0) by unfold strS; rw [if_pos hv]]
  by_cases h1 : k = 1
  · subst h1
    rw [if_pos rfl]
    rw [decide_eq_true rfl] at c1
    go_enter Tryz.func40, Tryz.ntmps40
    go_wp2_with fail
    refine (c1 _).mono ?_
    rintro e w1 ⟨rfl, hb⟩
    have m := m0.below hb (by simp)
    have B := B1.trans (hb.mono B1.size)
    have l : w.heap.size < w1.heap.size := Nat.lt_of_lt_of_le (by simp) hb.size
    clear hb
    obtain ⟨⟨⟨x0, f0⟩, ⟨x1, f1⟩⟩, x2, f2⟩ := id m
    go_wp2_with fail
    refine (fmt_any n _ hn (ht.next B)).mono ?_
    rintro e w2 ⟨rfl, hb2⟩
    go_wp2
    go_ret
    exact ⟨rfl, B.trans (hb2.mono B.size)⟩
  rw [if_neg h1]
  rw [decide_eq_false h1] at c1
  by_cases h2 : k = 2
  · subst h2
    rw [if_pos rfl]
    rw [decide_eq_true rfl] at c2
    by_cases n1 : n = 1
    · subst n1
      rw [show ((1 : Int) == 1) = true from rfl, tB_true]
      go_enter Tryz.func40, Tryz.ntmps40
      go_wp2_with fail
      refine (c1 _).mono ?_
      rintro e w1 ⟨rfl, hb⟩
      have m := m0.below hb (by simp)
      have B := B1.trans (hb.mono B1.size)
      have l : w.heap.size < w1.heap.size := Nat.lt_of_lt_of_le (by simp) hb.size
      clear hb
      obtain ⟨⟨⟨x0, f0⟩, ⟨x1, f1⟩⟩, x2, f2⟩ := id m
      go_wp2_with fail
      refine (c2 _).mono ?_
      rintro e w2 ⟨rfl, hb⟩
      replace m := m.below hb l
      replace B := B.trans (hb.mono B.size)
      replace l := Nat.lt_of_lt_of_le l hb.size
      clear hb x0 x1 x2 f0 f1 f2
      obtain ⟨⟨⟨x0, f0⟩, ⟨x1, f1⟩⟩, x2, f2⟩ := id m
      go_wp2
      go_ret
      exact ⟨rfl, B⟩
    · have nb : (n == 1) = false := by simp [n1]
      rw [nb, tB_false]
      go_enter Tryz.func40, Tryz.ntmps40
      go_wp2_with fail
      refine (c1 _).mono ?_
      rintro e w1 ⟨rfl, hb⟩
      have m := m0.below hb (by simp)
      have B := B1.trans (hb.mono B1.size)
      have l : w.heap.size < w1.heap.size := Nat.lt_of_lt_of_le (by simp) hb.size
      clear hb
      obtain ⟨⟨⟨x0, f0⟩, ⟨x1, f1⟩⟩, x2, f2⟩ := id m
      go_wp2_with fail
      refine (c2 _).mono ?_
      rintro e w2 ⟨rfl, hb⟩
      replace m := m.below hb l
      replace B := B.trans (hb.mono B.size)
      replace l := Nat.lt_of_lt_of_le l hb.size
      clear hb x0 x1 x2 f0 f1 f2
      obtain ⟨⟨⟨x0, f0⟩, ⟨x1, f1⟩⟩, x2, f2⟩ := id m
      go_wp2_with fail
      refine (c2 _).mono ?_
      rintro e w3 ⟨rfl, hb⟩
      replace m := m.below hb l
      replace B := B.trans (hb.mono B.size)
      replace l := Nat.lt_of_lt_of_le l hb.size
      clear hb x0 x1 x2 f0 f1 f2
      obtain ⟨⟨⟨x0, f0⟩, ⟨x1, f1⟩⟩, x2, f2⟩ := id m
      go_wp2
      go_ret
      exact ⟨rfl, B⟩
  rw [if_neg h2]
  rw [decide_eq_false h2] at c2
  by_cases h3 : k = 3
  · subst h3
    rw [if_pos rfl]
    rw [decide_eq_true rfl] at c3
    go_enter Tryz.func40, Tryz.ntmps40
    go_wp2_with fail
    refine (c1 _).mono ?_
    rintro e w1 ⟨rfl, hb⟩
    have m := m0.below hb (by simp)
    have B := B1.trans (hb.mono B1.size)
    have l : w.heap.size < w1.heap.size := Nat.lt_of_lt_of_le (by simp) hb.size
    clear hb
    obtain ⟨⟨⟨x0, f0⟩, ⟨x1, f1⟩⟩, x2, f2⟩ := id m
    go_wp2_with fail
    refine (c2 _).mono ?_
    rintro e w2 ⟨rfl, hb⟩
    replace m := m.below hb l
    replace B := B.trans (hb.mono B.size)
    replace l := Nat.lt_of_lt_of_le l hb.size
    clear hb x0 x1 x2 f0 f1 f2
    obtain ⟨⟨⟨x0, f0⟩, ⟨x1, f1⟩⟩, x2, f2⟩ := id m
    go_wp2_with fail
    refine (c2 _).mono ?_
    rintro e w3 ⟨rfl, hb⟩
    replace m := m.below hb l
    replace B := B.trans (hb.mono B.size)
    replace l := Nat.lt_of_lt_of_le l hb.size
    clear hb x0 x1 x2 f0 f1 f2
    obtain ⟨⟨⟨x0, f0⟩, ⟨x1, f1⟩⟩, x2, f2⟩ := id m
    go_wp2_with fail
    refine (c3 _).mono ?_
    rintro e w4 ⟨rfl, hb⟩
    replace m := m.below hb l
    replace B := B.trans (hb.mono B.size)
    replace l := Nat.lt_of_lt_of_le l hb.size
    clear hb x0 x1 x2 f0 f1 f2
    obtain ⟨⟨⟨x0, f0⟩, ⟨x1, f1⟩⟩, x2, f2⟩ := id m
    go_wp2
    go_ret
    exact ⟨rfl, B⟩
  rw [if_neg h3]
  rw [decide_eq_false h3] at c3
  go_enter Tryz.func40, Tryz.ntmps40
  go_wp2_with fail
  refine (c1 _).mono ?_
  rintro e w1 ⟨rfl, hb⟩
  have m := m0.below hb (by simp)
  have B := B1.trans (hb.mono B1.size)
  have l : w.heap.size < w1.heap.size := Nat.lt_of_lt_of_le (by simp) hb.size
  clear hb
  obtain ⟨⟨⟨x0, f0⟩, ⟨x1, f1⟩⟩, x2, f2⟩ := id m
  go_wp2_with fail
  refine (c2 _).mono ?_
  rintro e w2 ⟨rfl, hb⟩
  replace m := m.below hb l
  replace B := B.trans (hb.mono B.size)
  replace l := Nat.lt_of_lt_of_le l hb.size
  clear hb x0 x1 x2 f0 f1 f2
  obtain ⟨⟨⟨x0, f0⟩, ⟨x1, f1⟩⟩, x2, f2⟩ := id m
  go_wp2_with fail
  refine (c2 _).mono ?_
  rintro e w3 ⟨rfl, hb⟩
  replace m := m.below hb l
  replace B := B.trans (hb.mono B.size)
  replace l := Nat.lt_of_lt_of_le l hb.size
  clear hb x0 x1 x2 f0 f1 f2
  obtain ⟨⟨⟨x0, f0⟩, ⟨x1, f1⟩⟩, x2, f2⟩ := id m
  go_wp2_with fail
  refine (c3 _).mono ?_
  rintro e w4 ⟨rfl, hb⟩
  replace m := m.below hb l
  replace B := B.trans (hb.mono B.size)
  replace l := Nat.lt_of_lt_of_le l hb.size
  clear hb x0 x1 x2 f0 f1 f2
  obtain ⟨⟨⟨x0, f0⟩, ⟨x1, f1⟩⟩, x2, f2⟩ := id m
  go_wp2
  go_ret
  exact ⟨rfl, B⟩

namespace Lx
theorem conv1 (c : UInt8) (w : World) : (convert 62 9 (.slice (some ⟨w.heap.size, 0, none⟩) 1 1)).run Tryz.prog (w.alloc (.cells #[.int .u8 (c.toNat : Int)] 5)) = .ok (.string ⟨#[c]⟩) (w.alloc (.cells #[.int .u8 (c.toNat : Int)] 5)) := by
  obtain ⟨w0, rfl, ho, _⟩ := build1 c w
  exact conv_own ho
set_option maxRecDepth 100000 in
theorem sl_run (k : Nat) (hk : k < 16) : ∀ w : World, (Instr.slice 9 (.string ⟨#[48, 49, 50, 51, 52, 53, 54, 55, 56, 57, 97, 98, 99, 100, 101, 102]⟩) (some (.int .u8 (k : Int))) (some (.int .u8 ((k : Int) + 1))) none).run Tryz.prog w = .ok (.string ⟨#[hx k]⟩) w := by
  have h : k = 0 ∨ k = 1 ∨ k = 2 ∨ k = 3 ∨ k = 4 ∨ k = 5 ∨ k = 6 ∨ k = 7 ∨ k = 8 ∨ k = 9 ∨ k = 10 ∨ k = 11 ∨ k = 12 ∨ k = 13 ∨ k = 14 ∨ k = 15 := by omega
  rcases h with rfl | rfl | rfl | rfl | rfl | rfl | rfl | rfl | rfl | rfl | rfl | rfl | rfl | rfl | rfl | rfl
  all_goals exact fun w => by kernel_rfl

set_option maxRecDepth 100000 in
set_option maxHeartbeats 2000000 in
theorem piece_any (c : UInt8) (w : World) : Calls Tryz.prog 39 #[.int .u8 (c.toNat : Int)] w fun e w' => e = .returned (.string ⟨(pc c).toArray⟩) ∧ Below w.heap.size w w' := by
  have hc := UInt8.toNat_lt c
  have B1 : Below w.heap.size w (w.alloc (.cells #[.int .u8 (c.toNat : Int)] 5)) := (Below.refl _ w).alloc (Nat.le_refl _) _
  have hcv := conv1 c w
  by_cases h1 : c = 10
  · subst h1
    rw [show pc 10 = [92, 110] from rfl]
    clear hcv B1
    go_enter Tryz.func39, Tryz.ntmps39
    go_wp2
    go_ret
    exact ⟨rfl, Below.refl _ _⟩
  have b1 : ((c.toNat : Int) == 10) = false := by
    rw [beq_eq_false_iff_ne]
    intro e
    exact h1 (UInt8.toNat_inj.1 (by show c.toNat = 10; omega))
  by_cases h2 : c = 34 ∨ c = 92
  · rw [show pc c = [92, c] by unfold pc; rw [if_neg h1, if_pos h2]]
    rcases h2 with rfl | rfl
    · rw [show ((((34 : UInt8)).toNat : Nat) : Int) = 34 from rfl] at hcv B1
      clear h1 b1
      go_enter Tryz.func39, Tryz.ntmps39
      go_wp2
      go_ret
      exact ⟨rfl, B1⟩
    · rw [show ((((92 : UInt8)).toNat : Nat) : Int) = 92 from rfl] at hcv B1
      clear h1 b1
      go_enter Tryz.func39, Tryz.ntmps39
      go_wp2
      go_ret
      exact ⟨rfl, B1⟩
  have b2 : ((c.toNat : Int) == 34) = false := by
    rw [beq_eq_false_iff_ne]
    intro e
    exact h2 (Or.inl (UInt8.toNat_inj.1 (by show c.toNat = 34; omega)))
  have b3 : ((c.toNat : Int) == 92) = false := by
    rw [beq_eq_false_iff_ne]
    intro e
    exact h2 (Or.inr (UInt8.toNat_inj.1 (by show c.toNat = 92; omega)))
  by_cases h3 : 32 ≤ c.toNat ∧ c.toNat ≤ 126
  · rw [show pc c = [c] by unfold pc; rw [if_neg h1, if_neg h2, if_pos h3]]
    have g1 : (32 : Int) ≤ (c.toNat : Int) := by omega
    have g2 : (c.toNat : Int) ≤ 126 := by omega
    clear h1 h2 h3
    go_enter Tryz.func39, Tryz.ntmps39
    go_wp2
    go_ret
    exact ⟨rfl, B1⟩
  · rw [show pc c = [92, 120, hx (c.toNat / 16), hx (c.toNat % 16)] by unfold pc; rw [if_neg h1, if_neg h2, if_neg h3]]
    have s1 := sl_run (c.toNat / 16) (by omega)
    have s2 := sl_run (c.toNat % 16) (by omega)
    rw [show ((c.toNat / 16 : Nat) : Int) = (c.toNat : Int) / 16 from by omega] at s1
    rw [show ((c.toNat % 16 : Nat) : Int) = (c.toNat : Int) % 16 from by omega] at s2
    have ho2 : ¬ (32 : Int) ≤ (c.toNat : Int) ∨ ((32 : Int) ≤ (c.toNat : Int) ∧ ¬ (c.toNat : Int) ≤ 126) := by omega
    generalize hx (c.toNat / 16) = u at s1 ⊢
    generalize hx (c.toNat % 16) = v at s2 ⊢
    clear h1 h2 h3 hcv B1
    rcases ho2 with g1 | ⟨g1, g2⟩
    all_goals
      go_enter Tryz.func39, Tryz.ntmps39
      go_wp2_with fail
      refine wp_region_quiet_below (by kernel_rfl) (by kernel_rfl) ?_
      repeat (first | go_big_quiet_step (fail) | quiet_step (fail))
      refine wpQuiet_nil ?_
      intro _ hw'
      obtain ⟨⟨dq, osq⟩, hw''⟩ := hw'
      subst hw''
      have hY := below_regrown w dq osq
      change Exit.then _ _ Exit.normal _ (Sort.grow (redrawn w dq) osq)
      generalize Sort.grow (redrawn w dq) osq = Y at hY ⊢
      go_wp2
      go_ret
      exact ⟨rfl, hY⟩
end Lx
end Go.Proofs.YtichbejmelkjeaaGreatDoor.Vs

namespace Go.Proofs.YtichbejmelkjeaaGreatDoor.Vs
open Go.RowKit Go.Shelf

theorem arr_size (l : List UInt8) : (⟨l.toArray⟩ : ByteArray).size = l.length := rfl
theorem arr_app (a b : List UInt8) : (⟨a.toArray⟩ : ByteArray) ++ ⟨b.toArray⟩ = ⟨(a ++ b).toArray⟩ := by
  apply ByteArray.ext
  rw [ByteArray.data_append]
  simp

set_option maxRecDepth 100000 in
set_option maxHeartbeats 2000000 in
theorem rshow_text (n : Int) (s : ByteArray) (w : World) (hz : s.size ≤ 256) (ht : Tab10 w) (Z : ByteArray) (hZ : Hid (Z = ⟨(Lx.qt s.data.toList).toArray⟩))
    (cv : ∀ W : World, Calls Tryz.prog 38 #[.agg #[.int .i64 3, .int .i64 n, .string s]] W fun e w' => e = .returned (.bool true) ∧ Below W.heap.size W w') :
    Calls Tryz.prog 19 #[.agg #[.int .i64 3, .int .i64 n, .string s]] w fun e w' => e = .returned (.string Z) ∧ Below w.heap.size w w' := by
  have B1 : Below w.heap.size w (w.alloc (.cells #[.int .i64 3, .int .i64 n, .string s] 25)) := (Below.refl _ w).alloc (Nat.le_refl _) _
  have m0 := Box3.new w 3 n s 25
  go_enter Tryz.func19, Tryz.ntmps19
  go_wp2_with fail
  refine (cv _).mono ?_
  rintro e w1 ⟨rfl, hb⟩
  have m := m0.below hb (by simp)
  have B := B1.trans (hb.mono B1.size)
  have l : w.heap.size < w1.heap.size := Nat.lt_of_lt_of_le (by simp) hb.size
  have T : Tab10 w1 := ht.next B
  clear hb
  obtain ⟨⟨⟨x0, f0⟩, ⟨x1, f1⟩⟩, x2, f2⟩ := id m
  clear T ht
  go_wp2_with fail
  go_loopw [3, 4] (fun v i wr => ∃ (j : Nat) (A : ByteArray), j ≤ s.size ∧ v = .string A ∧ i = .int .i64 (j : Int) ∧ A.size ≤ 1 + 4 * j ∧ Hid (A = ⟨(34 :: Lx.pcs (s.data.toList.take j)).toArray⟩) ∧ Hid (Box3 wr w.heap.size 3 n s ∧ Below w.heap.size w wr ∧ w.heap.size < wr.heap.size)) (fun _ i _ => s.size - (intOf i).toNat)
  case atStart => exact ⟨0, _, Nat.zero_le _, rfl, rfl, by decide, rfl, ⟨m, B, l⟩⟩
  case round =>
    clear m B l x0 x1 x2 f0 f1 f2 m0 B1 cv
    obtain ⟨j, A, hj, rfl, rfl, hA, HA, HM⟩ := hrel
    obtain ⟨m, B, l⟩ := HM.out
    clear HM
    obtain ⟨⟨⟨x0, f0⟩, ⟨x1, f1⟩⟩, x2, f2⟩ := id m
    have HS : Hid (s.size = s.data.toList.length) := Lib.size_eq s
    by_cases hlt : j < s.size
    · have hst := Lx.pcs_step s.data.toList j (by rw [← HS.out]; exact hlt)
      have cp := fun W : World => Lx.piece_any (s[j]) W
      have hpl := Lx.pc_len (s[j])
      obtain ⟨P, hP⟩ : ∃ P : ByteArray, (⟨(Lx.pc (s[j])).toArray⟩ : ByteArray) = P := ⟨_, rfl⟩
      have hPs : P.size ≤ 4 := by rw [← hP]; exact hpl
      rw [hP] at cp
      have HN : Hid (A ++ P = ⟨(34 :: Lx.pcs (s.data.toList.take (j + 1))).toArray⟩) := by
        show _ = _
        rw [HA.out, ← hP, arr_app, hst]
        rfl
      have hix := ix_run s j hlt
      have CP : Hid (∀ W : World, Calls Tryz.prog 39 #[.int .u8 ((s[j]).toNat : Int)] W fun e w' => e = .returned (.string P) ∧ Below W.heap.size W w') := cp
      clear cp hP hpl hst HA
      have hji : (j : Int) < (s.size : Int) := by omega
      go_wp2_with fail
      refine (CP.out _).mono ?_
      rintro e w2 ⟨rfl, hb⟩
      have HM : Hid (Box3 w2 w.heap.size 3 n s ∧ Below w.heap.size w w2 ∧ w.heap.size < w2.heap.size) := ⟨m.below hb l, B.trans (hb.mono B.size), Nat.lt_of_lt_of_le l hb.size⟩
      clear hb m B l x0 x1 x2 f0 f1 f2
      go_wp2
      exact ⟨⟨j + 1, A ++ P, by omega, rfl, by go_num, by rw [ByteArray.size_append]; omega, HN, HM⟩, by simp [intOf]; omega⟩
    · obtain rfl : j = s.size := by omega
      have HN : Hid (A ++ (⟨#[34]⟩ : ByteArray) = Z) := by
        show _ = _
        rw [hZ.out, HA.out, show (⟨#[34]⟩ : ByteArray) = ⟨([34] : List UInt8).toArray⟩ from rfl, arr_app, HS.out, List.take_length]
        rfl
      have hji : ¬ ((s.size : Int) < (s.size : Int)) := by omega
      clear HA
      go_wp2
      go_ret
      exact ⟨by rw [← HN.out]; rfl, B⟩

set_option maxRecDepth 100000 in
set_option maxHeartbeats 2000000 in
theorem rshow_any (k n : Int) (s : ByteArray) (w : World) (hs : s.size ≤ 9223372036854775807) (hn : -9223372036854775808 ≤ n ∧ n ≤ 9223372036854775807) (ht : Tab10 w) :
    Calls Tryz.prog 19 #[.agg #[.int .i64 k, .int .i64 n, .string s]] w fun e w' => e = .returned (.string (showS k n s)) ∧ Below w.heap.size w w' := by
  have B1 : Below w.heap.size w (w.alloc (.cells #[.int .i64 k, .int .i64 n, .string s] 25)) := (Below.refl _ w).alloc (Nat.le_refl _) _
  have m0 := Box3.new w k n s 25
  have cv := fun W : World => rvalid_any k n s W hs
  cases hv : okV k n s with
  | false =>
    rw [hv] at cv
    rw [show showS k n s = ⟨#[63]⟩ by unfold showS; rw [hv]; rfl]
    go_enter Tryz.func19, Tryz.ntmps19
    go_wp2_with fail
    refine (cv _).mono ?_
    rintro e w1 ⟨rfl, hb⟩
    have m := m0.below hb (by simp)
    have B := B1.trans (hb.mono B1.size)
    have l : w.heap.size < w1.heap.size := Nat.lt_of_lt_of_le (by simp) hb.size
    have T : Tab10 w1 := ht.next B
    clear hb
    obtain ⟨⟨⟨x0, f0⟩, ⟨x1, f1⟩⟩, x2, f2⟩ := id m
    go_wp2
    go_ret
    exact ⟨rfl, B⟩
  | true =>
  rw [hv] at cv
  have hz := str_size hv
  rw [show showS k n s = (if k = 3 then ⟨(Lx.qt s.data.toList).toArray⟩ else if k = 4 then (⟨#[35]⟩ : ByteArray) ++ ⟨(Lib.itoa n).toArray⟩ else if k = 0 then ⟨#[45]⟩ else strS k n s) by unfold showS; rw [if_pos hv]]
  by_cases h3 : k = 3
  · subst h3
    rw [if_pos rfl]
    exact rshow_text n s w hz ht _ rfl cv
  rw [if_neg h3]
  by_cases h4 : k = 4
  · subst h4
    rw [if_pos rfl]
    have cf := fun (W : World) (hT : Tab10 W) => fmt_any n W hn hT
    have hI : (⟨(Lib.itoa n).toArray⟩ : ByteArray).size ≤ 21 := by rw [show (⟨(Lib.itoa n).toArray⟩ : ByteArray).size = (Lib.itoa n).length from rfl]; exact Lib.itoa_length_le n hn.1 hn.2
    generalize (⟨(Lib.itoa n).toArray⟩ : ByteArray) = I at cf hI ⊢
    go_enter Tryz.func19, Tryz.ntmps19
    go_wp2_with fail
    refine (cv _).mono ?_
    rintro e w1 ⟨rfl, hb⟩
    have m := m0.below hb (by simp)
    have B := B1.trans (hb.mono B1.size)
    have l : w.heap.size < w1.heap.size := Nat.lt_of_lt_of_le (by simp) hb.size
    have T : Tab10 w1 := ht.next B
    clear hb
    obtain ⟨⟨⟨x0, f0⟩, ⟨x1, f1⟩⟩, x2, f2⟩ := id m
    go_wp2_with fail
    refine (cf _ T).mono ?_
    rintro e w2 ⟨rfl, hb2⟩
    go_wp2
    go_ret
    exact ⟨rfl, B.trans (hb2.mono B.size)⟩
  rw [if_neg h4]
  by_cases h0 : k = 0
  · subst h0
    rw [if_pos rfl]
    go_enter Tryz.func19, Tryz.ntmps19
    go_wp2_with fail
    refine (cv _).mono ?_
    rintro e w1 ⟨rfl, hb⟩
    have m := m0.below hb (by simp)
    have B := B1.trans (hb.mono B1.size)
    have l : w.heap.size < w1.heap.size := Nat.lt_of_lt_of_le (by simp) hb.size
    have T : Tab10 w1 := ht.next B
    clear hb
    obtain ⟨⟨⟨x0, f0⟩, ⟨x1, f1⟩⟩, x2, f2⟩ := id m
    go_wp2
    go_ret
    exact ⟨rfl, B⟩
  rw [if_neg h0]
  go_enter Tryz.func19, Tryz.ntmps19
  go_wp2_with fail
  refine (cv _).mono ?_
  rintro e w1 ⟨rfl, hb⟩
  have m := m0.below hb (by simp)
  have B := B1.trans (hb.mono B1.size)
  have l : w.heap.size < w1.heap.size := Nat.lt_of_lt_of_le (by simp) hb.size
  have T : Tab10 w1 := ht.next B
  clear hb
  obtain ⟨⟨⟨x0, f0⟩, ⟨x1, f1⟩⟩, x2, f2⟩ := id m
  go_wp2_with fail
  refine (rstr_any k n s _ hs hn T).mono ?_
  rintro e w2 ⟨rfl, hb2⟩
  go_wp2
  go_ret
  exact ⟨rfl, B.trans (hb2.mono B.size)⟩
end Go.Proofs.YtichbejmelkjeaaGreatDoor.Vs
