import Derived.BigGuard
import Derived.BigCall
import Derived.Deep.CutRange
import Derived.Test.YtichbejmelkjeaaGreatDoorP12
import Derived.Test.YtichbejmelkjeaaGreatDoorP13
import Derived.Test.YtichbejmelkjeaaGreatDoorP09
import Derived.Test.YtichbejmelkjeaaGreatDoorP10
namespace Go.Proofs.YtichbejmelkjeaaGreatDoor.Lx
open Go.RowKit

theorem refBlank_any (c : UInt8) (w : World) : Calls Tryz.prog 101 #[.int .u8 (c.toNat : Int)] w fun e w' => e = .returned (.bool (blankB c)) ∧ w = w' := by
  have hc := UInt8.toNat_lt c
  unfold blankB
  generalize (c.toNat : Int) = n
  go_enter Tryz.func101, Tryz.ntmps101
  go_wp2
  all_goals go_ret
  all_goals (refine ⟨?_, rfl⟩; simp_all)
  all_goals (generalize (n == 9) = a; generalize (n == 10) = b; generalize (n == 13) = c; generalize (n == 32) = d; cases a <;> cases b <;> cases c <;> cases d <;> rfl)

set_option maxRecDepth 100000 in
set_option maxHeartbeats 2000000 in
theorem refGap_any (t : ByteArray) (k : Nat) (w : World) (ht : t.size ≤ 140737488355328) (hk : k ≤ t.size) :
    Calls Tryz.prog 90 #[.string t, .int .i64 (k : Int)] w fun e w' => e = .returned (.int .i64 ((k + gpS false (t.data.toList.drop k) : Nat) : Int)) ∧ w = w' := by
  obtain ⟨R, hR⟩ : ∃ R, k + gpS false (t.data.toList.drop k) = R := ⟨_, rfl⟩
  rw [hR]
  have HR : Hid (k + gpS false (t.data.toList.drop k) = R) := hR
  clear hR
  go_enter Tryz.func90, Tryz.ntmps90
  go_wp2
  go_loop [1, 5] (fun i b => ∃ (j : Nat) (q : Bool), j ≤ t.size ∧ i = .int .i64 (j : Int) ∧ b = .bool q ∧ Hid (j + gpS q (t.data.toList.drop j) = R)) (fun i _ => t.size - (intOf i).toNat)
  case atStart => exact ⟨k, false, hk, rfl, rfl, HR⟩
  case round =>
    clear HR
    obtain ⟨j, q, hj, rfl, rfl, hx⟩ := hrel
    by_cases hlt : j < t.size
    · obtain ⟨c, hc⟩ : ∃ c, t[j]'hlt = c := ⟨_, rfl⟩
      have hdr := drop_at t j hlt
      rw [hc] at hdr
      have hx' := hx.out
      rw [hdr] at hx'
      clear hx hdr
      have HB : Hid (∀ (w : World), Calls Tryz.prog 101 #[.int .u8 (c.toNat : Int)] w fun e w' => e = .returned (.bool (blankB c)) ∧ w = w') := fun w => refBlank_any c w
      cases q with
      | true =>
        simp only [gpS] at hx'
        by_cases h10 : c = 10
        · subst h10
          rw [if_pos rfl] at hx'
          have HX : Hid (j + 1 + gpS false (t.data.toList.drop (j + 1)) = R) := by show _ = _; omega
          clear hx'
          go_wp2
          exact ⟨⟨j + 1, false, by omega, by go_num, rfl, HX⟩, by simp [intOf]; omega⟩
        · rw [if_neg h10] at hx'
          have b10 := u8ne (n := 10) (by omega) h10
          have HX : Hid (j + 1 + gpS true (t.data.toList.drop (j + 1)) = R) := by show _ = _; omega
          clear hx' h10
          go_wp2
          exact ⟨⟨j + 1, true, by omega, by go_num, rfl, HX⟩, by simp [intOf]; omega⟩
      | false =>
        simp only [gpS] at hx'
        by_cases h35 : c = 35
        · subst h35
          rw [if_pos rfl] at hx'
          have HX : Hid (j + 1 + gpS true (t.data.toList.drop (j + 1)) = R) := by show _ = _; omega
          clear hx'
          go_wp2
          exact ⟨⟨j + 1, true, by omega, by go_num, rfl, HX⟩, by simp [intOf]; omega⟩
        · rw [if_neg h35] at hx'
          have b35 := u8ne (n := 35) (by omega) h35
          by_cases hb : blankB c = true
          · rw [if_pos hb] at hx'
            rw [hb] at HB
            have HX : Hid (j + 1 + gpS false (t.data.toList.drop (j + 1)) = R) := by show _ = _; omega
            clear hx' h35 hb
            go_wp2_with (first
              | (go_at_call 101; refine (HB.out _).mono ?_; rintro e w2 ⟨rfl, hw2⟩; subst hw2)
              | go_in)
            exact ⟨⟨j + 1, false, by omega, by go_num, rfl, HX⟩, by simp [intOf]; omega⟩
          · rw [if_neg hb] at hx'
            rw [show blankB c = false from by simpa using hb] at HB
            have HX : Hid (R = j) := by show _ = _; omega
            clear hx' h35 hb
            go_wp2_with (first
              | (go_at_call 101; refine (HB.out _).mono ?_; rintro e w2 ⟨rfl, hw2⟩; subst hw2)
              | go_in)
            go_ret
            exact ⟨by rw [HX.out]; rfl, rfl⟩
    · obtain rfl : j = t.size := by omega
      have HX : Hid (R = t.size) := by
        have := hx.out
        rw [List.drop_eq_nil_of_le (by rw [← Lib.size_eq]; omega)] at this
        show _ = _
        cases q <;> simp [gpS] at this <;> omega
      clear hx
      go_wp2
      go_ret
      exact ⟨by rw [HX.out]; rfl, rfl⟩

end Go.Proofs.YtichbejmelkjeaaGreatDoor.Lx

namespace Go.Proofs.YtichbejmelkjeaaGreatDoor.Lx
open Go.RowKit

theorem refLetter_any (c : UInt8) (w : World) : Calls Tryz.prog 102 #[.int .u8 (c.toNat : Int)] w fun e w' => e = .returned (.bool (letterB c)) ∧ w = w' := by
  have hc := UInt8.toNat_lt c
  unfold letterB
  go_enter Tryz.func102, Tryz.ntmps102
  go_wp2
  all_goals go_ret
  all_goals (refine ⟨?_, rfl⟩; simp_all; try omega)
theorem refDigit_any (c : UInt8) (w : World) : Calls Tryz.prog 104 #[.int .u8 (c.toNat : Int)] w fun e w' => e = .returned (.bool (digitB c)) ∧ w = w' := by
  have hc := UInt8.toNat_lt c
  unfold digitB
  go_enter Tryz.func104, Tryz.ntmps104
  go_wp2
  all_goals go_ret
  all_goals (refine ⟨?_, rfl⟩; simp_all; try omega)
theorem refInner_any (c : UInt8) (w : World) : Calls Tryz.prog 114 #[.int .u8 (c.toNat : Int)] w fun e w' => e = .returned (.bool (innerB c)) ∧ w = w' := by
  have hc := UInt8.toNat_lt c
  unfold innerB
  go_enter Tryz.func114, Tryz.ntmps114
  go_wp2_with (first
    | (go_at_call 102; refine (refLetter_any c _).mono ?_; rintro e w1 ⟨rfl, rfl⟩)
    | (go_at_call 104; refine (refDigit_any c _).mono ?_; rintro e w1 ⟨rfl, rfl⟩)
    | go_in)
  all_goals go_ret
  all_goals (refine ⟨?_, rfl⟩; simp_all)

theorem nib_digit_all : ∀ n : Fin 256, 48 ≤ n.val → n.val ≤ 57 → Lib.indexByte hexs.data.toList (UInt8.ofNat n.val) = ((n.val : Nat) : Int) - 48 := by decide +kernel
theorem nib_hex_all : ∀ n : Fin 256, 97 ≤ n.val → n.val ≤ 102 → Lib.indexByte hexs.data.toList (UInt8.ofNat n.val) = ((n.val : Nat) : Int) - 87 := by decide +kernel
theorem nib_no_all : ∀ n : Fin 256, ¬ (48 ≤ n.val ∧ n.val ≤ 57) → ¬ (97 ≤ n.val ∧ n.val ≤ 102) → Lib.indexByte hexs.data.toList (UInt8.ofNat n.val) = -1 := by decide +kernel
theorem u8_of (c : UInt8) : UInt8.ofNat c.toNat = c := by simp

set_option maxHeartbeats 1000000 in
theorem nibble_any (c : UInt8) (w : World) : Calls Tryz.prog 121 #[.int .u8 (c.toNat : Int)] w fun e w' => e = .returned (.int .i64 (Lib.indexByte hexs.data.toList c)) ∧ w = w' := by
  have hc := UInt8.toNat_lt c
  have HD : Hid (∀ (w : World), Calls Tryz.prog 104 #[.int .u8 (c.toNat : Int)] w fun e w' => e = .returned (.bool (digitB c)) ∧ w = w') := fun w => refDigit_any c w
  by_cases h1 : 48 ≤ c.toNat ∧ c.toNat ≤ 57
  · have e := nib_digit_all ⟨c.toNat, hc⟩ h1.1 h1.2
    simp only [u8_of] at e
    rw [e]
    rw [show digitB c = true from by simp [digitB]; omega] at HD
    obtain ⟨h2, h3⟩ := h1
    have q1 : (48 : Int) ≤ (c.toNat : Int) := by omega
    have q2 : (c.toNat : Int) ≤ 57 := by omega
    clear e
    go_enter Tryz.func121, Tryz.ntmps121
    go_wp2_with (first
      | (go_at_call 104; refine (HD.out _).mono ?_; rintro e w1 ⟨rfl, rfl⟩)
      | go_in)
    go_ret
    exact ⟨by go_num, rfl⟩
  · rw [show digitB c = false from by simp [digitB]; omega] at HD
    by_cases h2 : 97 ≤ c.toNat ∧ c.toNat ≤ 102
    · have e := nib_hex_all ⟨c.toNat, hc⟩ h2.1 h2.2
      simp only [u8_of] at e
      rw [e]
      have q1 : (97 : Int) ≤ (c.toNat : Int) := by omega
      have q2 : (c.toNat : Int) ≤ 102 := by omega
      clear e h1 h2
      go_enter Tryz.func121, Tryz.ntmps121
      go_wp2_with (first
        | (go_at_call 104; refine (HD.out _).mono ?_; rintro e w1 ⟨rfl, rfl⟩)
        | go_in)
      go_ret
      exact ⟨by go_num, rfl⟩
    · have e := nib_no_all ⟨c.toNat, hc⟩ h1 h2
      simp only [u8_of] at e
      rw [e]
      have q : ¬ (97 : Int) ≤ (c.toNat : Int) ∨ ((97 : Int) ≤ (c.toNat : Int) ∧ ¬ (c.toNat : Int) ≤ 102) := by omega
      clear e h1 h2
      rcases q with q1 | ⟨q1, q2⟩
      all_goals
        go_enter Tryz.func121, Tryz.ntmps121
        go_wp2_with (first
          | (go_at_call 104; refine (HD.out _).mono ?_; rintro e w1 ⟨rfl, rfl⟩)
          | go_in)
        go_ret
        exact ⟨rfl, rfl⟩
end Go.Proofs.YtichbejmelkjeaaGreatDoor.Lx

namespace Go.Proofs.YtichbejmelkjeaaGreatDoor.Lx
open Go.RowKit

/-- What the reference's calls find in its tables. -/
structure RTabs (w : World) : Prop where
  kw : ∀ j, j < 20 → w.cell? ⟨13, j, none⟩ = some (.string (kws.getD j ByteArray.empty))
  sz : 15 < w.heap.size
  sg : ∀ j, j < 25 → w.cell? ⟨11, j, none⟩ = some (.string (sgs.getD j ByteArray.empty))
theorem RTabs.size {w : World} (h : RTabs w) : 15 < w.heap.size := h.sz
theorem RTabs.below {w w' : World} {B : Nat} (h : RTabs w) (hb : Below B w w') (hB : 15 < B) : RTabs w' :=
  ⟨fun j hj => (hb.cell (p := ⟨13, j, none⟩) (by show 13 < B; omega)).trans (h.kw j hj), Nat.lt_of_lt_of_le h.sz hb.size, fun j hj => (hb.cell (p := ⟨11, j, none⟩) (by show 11 < B; omega)).trans (h.sg j hj)⟩
theorem RTabs.next {w w' : World} (h : RTabs w) (hb : Below w.heap.size w w') : RTabs w' := h.below hb h.size

set_option maxRecDepth 100000 in
set_option maxHeartbeats 400000 in
theorem refKeyword_r (s : ByteArray) (w : World) (hc : ∀ j, j < 20 → w.cell? ⟨13, j, none⟩ = some (.string (kws.getD j ByteArray.empty))) :
    Calls Tryz.prog 115 #[.string s] w fun e w' => e = .returned (.bool (kw s)) ∧ w' = w := by
  have HC : Hid (∀ j, j < 20 → w.cell? ⟨13, j, none⟩ = some (.string (kws.getD j ByteArray.empty))) := hc
  clear hc
  go_enter Tryz.func115, Tryz.ntmps115
  go_wp2
  go_loop [3] (fun i => ∃ k : Nat, k ≤ 20 ∧ i = .int .i64 (k : Int) ∧ Hid (∀ j, j < k → ((kws.getD j ByteArray.empty).data.toList == s.data.toList) = false)) (fun i => 20 - (intOf i).toNat)
  case atStart => exact ⟨0, by omega, rfl, fun j hj => by omega⟩
  case round =>
    obtain ⟨k, hk, rfl, hn⟩ := hrel
    by_cases hlt : k < 20
    · have hi := HC.out k hlt
      obtain ⟨x, hx⟩ : ∃ x, x = kws.getD k ByteArray.empty := ⟨_, rfl⟩
      rw [← hx] at hi
      have HX : Hid (x = kws.getD k ByteArray.empty) := hx
      clear hx
      go_wp2
      · have h1 : (x.toList == s.toList) = true := by assumption
        have hk1 : kw s = true := kw_some k hlt (by rw [← HX.out]; exact toL_eq' h1)
        rw [hk1]
        go_ret
        exact ⟨rfl, rfl⟩
      · have h1 : (x.toList == s.toList) = false := by assumption
        refine ⟨⟨k + 1, by omega, by go_num, fun j hj => ?_⟩, by simp [intOf]; omega⟩
        by_cases hjk : j < k
        · exact hn.out j hjk
        · obtain rfl : j = k := by omega
          rw [← HX.out]
          exact toL_ne' h1
    · obtain rfl : k = 20 := by omega
      have hk1 : kw s = false := kw_none hn.out
      have HK : Hid (kw s = false) := hk1
      clear hk1
      go_wp2
      rw [HK.out]
      go_ret
      exact ⟨rfl, rfl⟩
set_option maxRecDepth 100000 in
set_option maxHeartbeats 2000000 in
theorem refWord_any (t : ByteArray) (k : Nat) (w : World) (ht : t.size ≤ 140737488355328) (hk : k < t.size) (hT : RTabs w) :
    Calls Tryz.prog 103 #[.string t, .int .i64 (k : Int)] w fun e w' => e = .returned (resV k (wordS (t.data.toList.drop k))) ∧ Below w.heap.size w w' := by
  have HT : Hid (RTabs w) := hT
  clear hT
  have H5 := five_new w (.int .i64 0) (.int .i64 0) (.int .i64 0) (.string ⟨#[]⟩) (.int .i64 0) 113
  have H5' : Hid (Five (w.alloc (.cells #[.int .i64 0, .int .i64 0, .int .i64 0, .string ⟨#[]⟩, .int .i64 0] 113)) w.heap.size (.int .i64 0) (.int .i64 0) (.int .i64 0) (.string ⟨#[]⟩) (.int .i64 0)) := H5
  clear H5
  have HB0 : Hid (Below w.heap.size w (w.alloc (.cells #[.int .i64 0, .int .i64 0, .int .i64 0, .string ⟨#[]⟩, .int .i64 0] 113))) := (Below.refl _ w).alloc (Nat.le_refl _) _
  go_enter Tryz.func103, Tryz.ntmps103
  go_wp2
  generalize hw1 : w.alloc (.cells #[.int .i64 0, .int .i64 0, .int .i64 0, .string ⟨#[]⟩, .int .i64 0] 113) = w1 at *
  go_loop [6] (fun i => ∃ j : Nat, k ≤ j ∧ j ≤ t.size ∧ i = .int .i64 (j : Int) ∧ Hid ((t.data.toList.drop k).takeWhile innerB = (t.data.toList.drop k).take (j - k) ++ (t.data.toList.drop j).takeWhile innerB)) (fun i => t.size - (intOf i).toNat)
  case atStart => exact ⟨k, Nat.le_refl _, by omega, rfl, by simp [Hid]⟩
  case round =>
    obtain ⟨j, hkj, hj, rfl, htw⟩ := hrel
    clear hw1
    by_cases hp : ∃ h : j < t.size, innerB (t[j]'h) = true
    · obtain ⟨hlt, hp⟩ := hp
      have hst := tw_step innerB t.data.toList k j hkj (by rw [← Lib.size_eq]; exact hlt) (by rw [byte_at t j hlt]; exact hp) htw.out
      have HST : Hid ((t.data.toList.drop k).takeWhile innerB = (t.data.toList.drop k).take (j + 1 - k) ++ (t.data.toList.drop (j + 1)).takeWhile innerB) := hst
      clear hst htw
      obtain ⟨c, hc⟩ : ∃ c, t[j]'hlt = c := ⟨_, rfl⟩
      rw [hc] at hp
      have HW := refInner_any c w1
      rw [hp] at HW
      have HW' : Hid (Calls Tryz.prog 114 #[.int .u8 (c.toNat : Int)] w1 fun e w' => e = .returned (.bool true) ∧ w1 = w') := HW
      clear HW hp
      go_wp2_with (first
        | (go_at_call 114; refine HW'.out.mono ?_; rintro e _ ⟨rfl, rfl⟩)
        | go_in)
      exact ⟨⟨j + 1, by omega, by omega, by go_num, HST⟩, by simp [intOf]; omega⟩
    · have htk := tw_stop innerB t.data.toList k j (fun h => by
        have h' : j < t.size := by rw [Lib.size_eq]; exact h
        rw [byte_at t j h']
        cases hb : innerB (t[j]'h') with
        | true => exact absurd ⟨h', hb⟩ hp
        | false => rfl) htw.out
      obtain ⟨S, hS⟩ : ∃ S, t.extract k j = S := ⟨_, rfl⟩
      have hSd : S.data.toList = (t.data.toList.drop k).takeWhile innerB := by rw [← hS, Lib.extract_data, htk]
      have hSl : k + S.size = j := by
        rw [Lib.size_eq, ← hS, Lib.extract_data, List.length_take, List.length_drop, ← Lib.size_eq]
        omega
      have hSt : (⟨((t.data.toList.drop k).takeWhile innerB).toArray⟩ : ByteArray) = S := by rw [← hSd]
      have hwS : wordS (t.data.toList.drop k) = if kw S = true then .inr ⟨4, S.size, S.data.toList, 0⟩ else if 24 < S.size then .inl 23 else .inr ⟨1, S.size, S.data.toList, 0⟩ := by
        unfold wordS
        simp only [hSt, Lib.size_eq S, hSd]
      have HS : Hid (wordS (t.data.toList.drop k) = if kw S = true then .inr ⟨4, S.size, S.data.toList, 0⟩ else if 24 < S.size then .inl 23 else .inr ⟨1, S.size, S.data.toList, 0⟩) := hwS
      have HSl : Hid (k + S.size = j) := hSl
      clear hSd hSt hwS htk htw hSl
      have k0 : (0 : Int) ≤ ↑k := by omega
      have k1 : (k : Int) ≤ ↑j := by omega
      have j1 : (j : Int) ≤ ↑t.size := by omega
      have hcond : t.size = j ∨ ∃ h : j < t.size, Hid (innerB (t[j]'h) = false) := by
        by_cases h : j < t.size
        · right
          refine ⟨h, ?_⟩
          cases hb : innerB (t[j]'h) with
          | true => exact absurd ⟨h, hb⟩ hp
          | false => rfl
        · left; omega
      have HW : Hid (∀ (c : UInt8) (w : World), Calls Tryz.prog 114 #[.int .u8 (c.toNat : Int)] w fun e w' => e = .returned (.bool (innerB c)) ∧ w = w') := refInner_any
      clear hp
      have hb1 : w.heap.size < w1.heap.size := World.block_lt_of_cell? w1 _ H5'.out.c0
      have HTa : Hid (RTabs (w1.alloc (.cells #[.int .i64 1, .int .i64 (k : Int), .int .i64 (j : Int), .string S, .int .i64 0] 113))) := (HT.out.next HB0.out).next ((Below.refl _ w1).alloc (Nat.le_refl _) _)
      have HK : Hid (Calls Tryz.prog 115 #[.string S] (w1.alloc (.cells #[.int .i64 1, .int .i64 (k : Int), .int .i64 (j : Int), .string S, .int .i64 0] 113)) fun e w' => e = .returned (.bool (kw S)) ∧ w' = w1.alloc (.cells #[.int .i64 1, .int .i64 (k : Int), .int .i64 (j : Int), .string S, .int .i64 0] 113)) := refKeyword_r S _ HTa.out.kw
      obtain ⟨c0, c1, c2, c3, c4, f⟩ := H5'.out
      have f0 := f 0 (by omega)
      have f1 := f 1 (by omega)
      have f2 := f 2 (by omega)
      have f3 := f 3 (by omega)
      have f4 := f 4 (by omega)
      clear f
      have hjk : (j : Int) - (k : Int) = (S.size : Int) := by have := HSl.out; omega
      by_cases hq : kw S = true
      · rw [if_pos hq] at HS
        rw [hq] at HK
        clear hq
        have HR : Hid (resV k (wordS (t.data.toList.drop k)) = .tuple #[.agg #[.int .i64 4, .int .i64 (k : Int), .int .i64 (j : Int), .string S, .int .i64 0], .int .i64 0]) := by
          rw [HS.out]
          simp only [resV, tkCells, ← HSl.out]
          rfl
        clear HS HSl hjk
        rcases hcond with hend | ⟨hlt, hin⟩
        · go_wp2_with (first
            | (go_at_call 115; refine HK.out.mono ?_; rintro e w2 ⟨rfl, hw2⟩; subst hw2)
            | go_in)
          exact bodyPost_ret (ret5 ((five_set H5'.out _ _ _ _ _).below ((Below.refl _ _).alloc (Nat.le_refl _) _) (World.block_lt_of_cell? _ _ (five_set H5'.out _ _ _ _ _).c0)) rfl rfl) rfl ⟨congrArg Ending.returned HR.out.symm, (below_set5 HB0.out (Nat.le_refl _) _ _ _ _ _).alloc (below_set5 HB0.out (Nat.le_refl _) _ _ _ _ _).size _⟩
        · go_wp2_with (first
            | (go_at_call 114; refine (HW.out _ _).mono ?_; rintro e w2 ⟨rfl, hw2⟩; subst hw2; rw [hin.out])
            | (go_at_call 115; refine HK.out.mono ?_; rintro e w2 ⟨rfl, hw2⟩; subst hw2)
            | go_in)
          exact bodyPost_ret (ret5 ((five_set H5'.out _ _ _ _ _).below ((Below.refl _ _).alloc (Nat.le_refl _) _) (World.block_lt_of_cell? _ _ (five_set H5'.out _ _ _ _ _).c0)) rfl rfl) rfl ⟨congrArg Ending.returned HR.out.symm, (below_set5 HB0.out (Nat.le_refl _) _ _ _ _ _).alloc (below_set5 HB0.out (Nat.le_refl _) _ _ _ _ _).size _⟩
      · rw [if_neg hq] at HS
        rw [show kw S = false from by simpa using hq] at HK
        clear hq
        by_cases hz : 24 < S.size
        · rw [if_pos hz] at HS
          have HR : Hid (resV k (wordS (t.data.toList.drop k)) = .tuple #[.agg #[.int .i64 0, .int .i64 0, .int .i64 0, .string ⟨#[]⟩, .int .i64 0], .int .i64 23]) := by
            rw [HS.out]
            rfl
          have hz' : (24 : Int) < (S.size : Int) := by omega
          clear HS HSl
          rcases hcond with hend | ⟨hlt, hin⟩
          · go_wp2_with (first
              | (go_at_call 115; refine HK.out.mono ?_; rintro e w2 ⟨rfl, hw2⟩; subst hw2)
              | go_in)
            exact bodyPost_ret (ret5 ((five_set H5'.out _ _ _ _ _).below ((Below.refl _ _).alloc (Nat.le_refl _) _) (World.block_lt_of_cell? _ _ (five_set H5'.out _ _ _ _ _).c0)) rfl rfl) rfl ⟨congrArg Ending.returned HR.out.symm, (below_set5 HB0.out (Nat.le_refl _) _ _ _ _ _).alloc (below_set5 HB0.out (Nat.le_refl _) _ _ _ _ _).size _⟩
          · go_wp2_with (first
              | (go_at_call 114; refine (HW.out _ _).mono ?_; rintro e w2 ⟨rfl, hw2⟩; subst hw2; rw [hin.out])
              | (go_at_call 115; refine HK.out.mono ?_; rintro e w2 ⟨rfl, hw2⟩; subst hw2)
              | go_in)
            exact bodyPost_ret (ret5 ((five_set H5'.out _ _ _ _ _).below ((Below.refl _ _).alloc (Nat.le_refl _) _) (World.block_lt_of_cell? _ _ (five_set H5'.out _ _ _ _ _).c0)) rfl rfl) rfl ⟨congrArg Ending.returned HR.out.symm, (below_set5 HB0.out (Nat.le_refl _) _ _ _ _ _).alloc (below_set5 HB0.out (Nat.le_refl _) _ _ _ _ _).size _⟩
        · rw [if_neg hz] at HS
          have hz' : ¬ (24 : Int) < (S.size : Int) := by omega
          have HR : Hid (resV k (wordS (t.data.toList.drop k)) = .tuple #[.agg #[.int .i64 1, .int .i64 (k : Int), .int .i64 (j : Int), .string S, .int .i64 0], .int .i64 0]) := by
            rw [HS.out]
            simp only [resV, tkCells, ← HSl.out]
            rfl
          clear HS HSl
          rcases hcond with hend | ⟨hlt, hin⟩
          · go_wp2_with (first
              | (go_at_call 115; refine HK.out.mono ?_; rintro e w2 ⟨rfl, hw2⟩; subst hw2)
              | go_in)
            exact bodyPost_ret (ret5 ((five_set H5'.out _ _ _ _ _).below ((Below.refl _ _).alloc (Nat.le_refl _) _) (World.block_lt_of_cell? _ _ (five_set H5'.out _ _ _ _ _).c0)) rfl rfl) rfl ⟨congrArg Ending.returned HR.out.symm, (below_set5 HB0.out (Nat.le_refl _) _ _ _ _ _).alloc (below_set5 HB0.out (Nat.le_refl _) _ _ _ _ _).size _⟩
          · go_wp2_with (first
              | (go_at_call 114; refine (HW.out _ _).mono ?_; rintro e w2 ⟨rfl, hw2⟩; subst hw2; rw [hin.out])
              | (go_at_call 115; refine HK.out.mono ?_; rintro e w2 ⟨rfl, hw2⟩; subst hw2)
              | go_in)
            exact bodyPost_ret (ret5 ((five_set H5'.out _ _ _ _ _).below ((Below.refl _ _).alloc (Nat.le_refl _) _) (World.block_lt_of_cell? _ _ (five_set H5'.out _ _ _ _ _).c0)) rfl rfl) rfl ⟨congrArg Ending.returned HR.out.symm, (below_set5 HB0.out (Nat.le_refl _) _ _ _ _ _).alloc (below_set5 HB0.out (Nat.le_refl _) _ _ _ _ _).size _⟩
end Go.Proofs.YtichbejmelkjeaaGreatDoor.Lx

namespace Go.Proofs.YtichbejmelkjeaaGreatDoor.Lx
open Go.RowKit

theorem tw_le_dv (L : List UInt8) (k j : Nat) (h : (L.drop k).takeWhile digitB = (L.drop k).take (j - k) ++ (L.drop j).takeWhile digitB) (acc : Nat) (ha : dv 0 ((L.drop k).take (j - k)) = acc) (m : Nat) (hm : m ≤ dv acc ((L.drop j).takeWhile digitB)) : m ≤ dv 0 ((L.drop k).takeWhile digitB) := by
  rw [h, dv_app, ha]
  exact hm

set_option maxRecDepth 100000 in
set_option maxHeartbeats 4000000 in
theorem refNum_any (t : ByteArray) (k : Nat) (w : World) (ht : t.size ≤ 140737488355328) (hk : k < t.size) (hd0 : digitB (t[k]'hk) = true) :
    Calls Tryz.prog 105 #[.string t, .int .i64 (k : Int)] w fun e w' => e = .returned (resV k (numS (t.data.toList.drop k))) ∧ Below w.heap.size w w' := by
  have HD0 : Hid (digitB (t[k]'hk) = true) := hd0
  clear hd0
  have H5 := five_new w (.int .i64 0) (.int .i64 0) (.int .i64 0) (.string ⟨#[]⟩) (.int .i64 0) 113
  have H5' : Hid (Five (w.alloc (.cells #[.int .i64 0, .int .i64 0, .int .i64 0, .string ⟨#[]⟩, .int .i64 0] 113)) w.heap.size (.int .i64 0) (.int .i64 0) (.int .i64 0) (.string ⟨#[]⟩) (.int .i64 0)) := H5
  clear H5
  have HB0 : Hid (Below w.heap.size w (w.alloc (.cells #[.int .i64 0, .int .i64 0, .int .i64 0, .string ⟨#[]⟩, .int .i64 0] 113))) := (Below.refl _ w).alloc (Nat.le_refl _) _
  go_enter Tryz.func105, Tryz.ntmps105
  go_wp2
  generalize hw1 : w.alloc (.cells #[.int .i64 0, .int .i64 0, .int .i64 0, .string ⟨#[]⟩, .int .i64 0] 113) = w1 at *
  clear hw1
  go_loop [6, 7] (fun i n => ∃ j acc : Nat, k ≤ j ∧ j ≤ t.size ∧ i = .int .i64 (j : Int) ∧ n = .int .i64 (acc : Int) ∧ acc ≤ 9223372036854775807 ∧ Hid ((t.data.toList.drop k).takeWhile digitB = (t.data.toList.drop k).take (j - k) ++ (t.data.toList.drop j).takeWhile digitB) ∧ Hid (dv 0 ((t.data.toList.drop k).take (j - k)) = acc)) (fun i _ => t.size - (intOf i).toNat)
  case atStart => exact ⟨k, 0, Nat.le_refl _, by omega, rfl, rfl, by omega, by simp [Hid], by simp [Hid, dv_nil]⟩
  case round =>
    obtain ⟨j, acc, hkj, hj, rfl, rfl, hacc, htw, hdv⟩ := hrel
    obtain ⟨c0, c1, c2, c3, c4, f⟩ := H5'.out
    have f0 := f 0 (by omega)
    have f1 := f 1 (by omega)
    have f2 := f 2 (by omega)
    have f3 := f 3 (by omega)
    have f4 := f 4 (by omega)
    clear f
    by_cases hp : ∃ h : j < t.size, digitB (t[j]'h) = true
    · obtain ⟨hlt, hp⟩ := hp
      have hst := tw_step digitB t.data.toList k j hkj (by rw [← Lib.size_eq]; exact hlt) (by rw [byte_at' t j hlt]; exact hp) htw.out
      have HST : Hid ((t.data.toList.drop k).takeWhile digitB = (t.data.toList.drop k).take (j + 1 - k) ++ (t.data.toList.drop (j + 1)).takeWhile digitB) := hst
      obtain ⟨c, hc⟩ : ∃ c, t[j]'hlt = c := ⟨_, rfl⟩
      rw [hc] at hp
      have hsn : (t.data.toList.drop k).take (j + 1 - k) = (t.data.toList.drop k).take (j - k) ++ [c] := by
        rw [show j + 1 - k = (j - k) + 1 from by omega, List.take_succ_eq_append_getElem (by rw [List.length_drop, ← Lib.size_eq]; omega), List.getElem_drop]
        congr 2
        have e : k + (j - k) = j := by omega
        simp only [e]
        rw [byte_at' t j hlt, hc]
      have hdn : dv 0 ((t.data.toList.drop k).take (j + 1 - k)) = acc * 10 + (c.toNat - 48) := by rw [hsn, dv_snoc, hdv.out]
      have hcd : 48 ≤ c.toNat ∧ c.toNat ≤ 57 := by
        have := hp
        simp [digitB] at this
        omega
      have HW := refDigit_any c w1
      rw [hp] at HW
      have HW' : Hid (Calls Tryz.prog 104 #[.int .u8 (c.toNat : Int)] w1 fun e w' => e = .returned (.bool true) ∧ w1 = w') := HW
      have q1 : (48 : Int) ≤ (c.toNat : Int) := by omega
      have q2 : (c.toNat : Int) ≤ 57 := by omega
      by_cases hov : 9223372036854775807 < acc * 10 + (c.toNat - 48)
      · have hbig : numS (t.data.toList.drop k) = .inl 21 := num_big _ (tw_le_dv _ k (j + 1) hst _ hdn _ (Nat.le_trans (by omega) (dv_le _ _)))
        have HR : Hid (resV k (numS (t.data.toList.drop k)) = .tuple #[.agg #[.int .i64 0, .int .i64 0, .int .i64 0, .string ⟨#[]⟩, .int .i64 0], .int .i64 21]) := by
          rw [hbig]
          rfl
        have hgt : (9223372036854775807 - ((c.toNat : Int) - 48)) / 10 < (acc : Int) := by omega
        clear HW hp hst HST hsn hdn hcd hbig htw hdv hov
        go_wp2_with (first
          | (go_at_call 104; refine HW'.out.mono ?_; rintro e _ ⟨rfl, rfl⟩)
          | go_in)
        exact bodyPost_ret (ret5 (five_set H5'.out _ _ _ _ _) rfl rfl) rfl ⟨congrArg Ending.returned HR.out.symm, below_set5 HB0.out (Nat.le_refl _) _ _ _ _ _⟩
      · have hgt : ¬ (9223372036854775807 - ((c.toNat : Int) - 48)) / 10 < (acc : Int) := by omega
        have hno : 10 * (acc : Int) + ((c.toNat : Int) - 48) ≤ 9223372036854775807 := by omega
        have HDN : Hid (dv 0 ((t.data.toList.drop k).take (j + 1 - k)) = acc * 10 + (c.toNat - 48)) := hdn
        clear HW hp hst hsn hdn htw hdv c0 c1 c2 c3 c4 f0 f1 f2 f3 f4
        go_wp2_with (first
          | (go_at_call 104; refine HW'.out.mono ?_; rintro e _ ⟨rfl, rfl⟩)
          | go_in)
        exact ⟨⟨j + 1, acc * 10 + (c.toNat - 48), by omega, by omega, by go_num, by (first | go_num | (congr 1; omega)), by omega, HST, HDN⟩, by simp [intOf]; omega⟩
    · have htk := tw_stop digitB t.data.toList k j (fun h => by
        have h' : j < t.size := by rw [Lib.size_eq]; exact h
        rw [byte_at' t j h']
        cases hb : digitB (t[j]'h') with
        | true => exact absurd ⟨h', hb⟩ hp
        | false => rfl) htw.out
      have hjk : k < j := by
        rcases Nat.lt_or_ge k j with h | h
        · exact h
        · obtain rfl : k = j := by omega
          exact absurd ⟨hk, HD0.out⟩ hp
      have hlenD : ((t.data.toList.drop k).takeWhile digitB).length = j - k := by
        rw [htk, List.length_take, List.length_drop, ← Lib.size_eq]
        omega
      have hne : (t.data.toList.drop k).takeWhile digitB ≠ [] := fun e => by rw [e] at hlenD; simp at hlenD; omega
      have hdvD : dv 0 ((t.data.toList.drop k).takeWhile digitB) = acc := by rw [htk]; exact hdv.out
      have hsm := num_small (t.data.toList.drop k) hne (by rw [hdvD]; omega)
      rw [hdvD, hlenD, List.drop_drop, show k + (j - k) = j from by omega] at hsm
      have hhead : ((t.data.toList.drop k).takeWhile digitB).head? = some (t[k]'hk) := by
        rw [drop_at t k hk, List.takeWhile_cons, if_pos HD0.out]
        rfl
      rw [hhead] at hsm
      obtain ⟨ck, hck⟩ : ∃ ck, t[k]'hk = ck := ⟨_, rfl⟩
      rw [hck] at hsm
      clear htw hdv htk hlenD hne hdvD hhead
      have HDg : Hid (∀ (c : UInt8) (w : World), Calls Tryz.prog 104 #[.int .u8 (c.toNat : Int)] w fun e w' => e = .returned (.bool (digitB c)) ∧ w = w') := refDigit_any
      have HWg : Hid (∀ (c : UInt8) (w : World), Calls Tryz.prog 114 #[.int .u8 (c.toNat : Int)] w fun e w' => e = .returned (.bool (innerB c)) ∧ w = w') := refInner_any
      have hcond : (t.size = j ∧ (t.data.toList.drop j).head?.any innerB = false) ∨ ∃ h : j < t.size, Hid (digitB (t[j]'h) = false) ∧ (t.data.toList.drop j).head?.any innerB = innerB (t[j]'h) := by
        by_cases h : j < t.size
        · right
          refine ⟨h, ?_, by rw [drop_at t j h]; rfl⟩
          cases hb : digitB (t[j]'h) with
          | true => exact absurd ⟨h, hb⟩ hp
          | false => rfl
        · left
          exact ⟨by omega, by rw [List.drop_eq_nil_of_le (by rw [← Lib.size_eq]; omega)]; rfl⟩
      clear hp
      have k0 : (0 : Int) ≤ (k : Int) := by omega
      have k1 : (k : Int) < (t.size : Int) := by omega
      by_cases h1 : 1 < j - k ∧ some ck = some (48 : UInt8)
      · rw [if_pos h1] at hsm
        have HR : Hid (resV k (numS (t.data.toList.drop k)) = .tuple #[.agg #[.int .i64 0, .int .i64 0, .int .i64 0, .string ⟨#[]⟩, .int .i64 0], .int .i64 21]) := by
          rw [hsm]
          rfl
        have e48 : ck = 48 := Option.some.inj h1.2
        subst e48
        have z1 : (1 : Int) < (j : Int) - (k : Int) := by omega
        clear hsm h1
        rcases hcond with ⟨hend, _⟩ | ⟨hlt, hin, _⟩
        · go_wp2
          exact bodyPost_ret (ret5 (five_set H5'.out _ _ _ _ _) rfl rfl) rfl ⟨congrArg Ending.returned HR.out.symm, below_set5 HB0.out (Nat.le_refl _) _ _ _ _ _⟩
        · go_wp2_with (first
            | (go_at_call 104; refine (HDg.out _ _).mono ?_; rintro e w2 ⟨rfl, hw2⟩; subst hw2; rw [hin.out])
            | go_in)
          exact bodyPost_ret (ret5 (five_set H5'.out _ _ _ _ _) rfl rfl) rfl ⟨congrArg Ending.returned HR.out.symm, below_set5 HB0.out (Nat.le_refl _) _ _ _ _ _⟩
      · rw [if_neg h1] at hsm
        have hfirst : ¬ (1 : Int) < (j : Int) - (k : Int) ∨ ((1 : Int) < (j : Int) - (k : Int) ∧ ((ck.toNat : Int) == 48) = false) := by
          by_cases hz : 1 < j - k
          · right
            refine ⟨by omega, ?_⟩
            rw [beq_eq_false_iff_ne]
            intro e
            exact h1 ⟨hz, by congr 1; exact UInt8.toNat_inj.1 (by show ck.toNat = 48; omega)⟩
          · left; omega
        clear h1
        rcases hcond with ⟨hend, hh⟩ | ⟨hlt, hin, hh⟩
        · rw [hh, if_neg (by simp)] at hsm
          have HR : Hid (resV k (numS (t.data.toList.drop k)) = .tuple #[.agg #[.int .i64 2, .int .i64 (k : Int), .int .i64 (j : Int), .string ⟨#[]⟩, .int .i64 (acc : Int)], .int .i64 0]) := by
            rw [hsm]
            simp only [resV, tkCells]
            rw [show (k : Int) + ((j - k : Nat) : Int) = (j : Int) from by omega]
            rfl
          clear hsm hh
          rcases hfirst with z1 | ⟨z1, z2⟩
          all_goals
            go_wp2
            exact bodyPost_ret (ret5 (five_set H5'.out _ _ _ _ _) rfl rfl) rfl ⟨congrArg Ending.returned HR.out.symm, below_set5 HB0.out (Nat.le_refl _) _ _ _ _ _⟩
        · rw [hh] at hsm
          by_cases hn : innerB (t[j]'hlt) = true
          · rw [if_pos hn] at hsm
            have HR : Hid (resV k (numS (t.data.toList.drop k)) = .tuple #[.agg #[.int .i64 0, .int .i64 0, .int .i64 0, .string ⟨#[]⟩, .int .i64 0], .int .i64 21]) := by
              rw [hsm]
              rfl
            have hnx : Hid (innerB (t[j]'hlt) = true) := hn
            clear hsm hh hn
            rcases hfirst with z1 | ⟨z1, z2⟩
            all_goals
              go_wp2_with (first
                | (go_at_call 104; refine (HDg.out _ _).mono ?_; rintro e w2 ⟨rfl, hw2⟩; subst hw2; rw [hin.out])
                | (go_at_call 114; refine (HWg.out _ _).mono ?_; rintro e w2 ⟨rfl, hw2⟩; subst hw2; rw [hnx.out])
                | go_in)
              exact bodyPost_ret (ret5 (five_set H5'.out _ _ _ _ _) rfl rfl) rfl ⟨congrArg Ending.returned HR.out.symm, below_set5 HB0.out (Nat.le_refl _) _ _ _ _ _⟩
          · have hn2 : innerB (t[j]'hlt) = false := by simpa using hn
            rw [if_neg hn] at hsm
            have HR : Hid (resV k (numS (t.data.toList.drop k)) = .tuple #[.agg #[.int .i64 2, .int .i64 (k : Int), .int .i64 (j : Int), .string ⟨#[]⟩, .int .i64 (acc : Int)], .int .i64 0]) := by
              rw [hsm]
              simp only [resV, tkCells]
              rw [show (k : Int) + ((j - k : Nat) : Int) = (j : Int) from by omega]
              rfl
            have hnx : Hid (innerB (t[j]'hlt) = false) := hn2
            clear hsm hh hn hn2
            rcases hfirst with z1 | ⟨z1, z2⟩
            all_goals
              go_wp2_with (first
                | (go_at_call 104; refine (HDg.out _ _).mono ?_; rintro e w2 ⟨rfl, hw2⟩; subst hw2; rw [hin.out])
                | (go_at_call 114; refine (HWg.out _ _).mono ?_; rintro e w2 ⟨rfl, hw2⟩; subst hw2; rw [hnx.out])
                | go_in)
              exact bodyPost_ret (ret5 (five_set H5'.out _ _ _ _ _) rfl rfl) rfl ⟨congrArg Ending.returned HR.out.symm, below_set5 HB0.out (Nat.le_refl _) _ _ _ _ _⟩
end Go.Proofs.YtichbejmelkjeaaGreatDoor.Lx

namespace Go.Proofs.YtichbejmelkjeaaGreatDoor.Lx
open Go.RowKit

def pcW (x : UInt8 × Nat) : Value := .tuple #[.int .i64 (x.2 : Int), .int .u8 (x.1.toNat : Int)]

theorem mul_add_all : ∀ m n : Fin 16, (16 * ((m.val : Nat) : Int) + ((n.val : Nat) : Int)) % 256 = (((UInt8.ofNat (16 * m.val + n.val)).toNat : Nat) : Int) := by decide +kernel
theorem mul_add_at (x y : Int) (hx : 0 ≤ x) (hx1 : x < 16) (hy : 0 ≤ y) (hy1 : y < 16) : (16 * x + y) % 256 = ((UInt8.ofNat (16 * x.toNat + y.toNat)).toNat : Int) := by
  have h := mul_add_all ⟨x.toNat, by omega⟩ ⟨y.toNat, by omega⟩
  rw [show ((x.toNat : Nat) : Int) = x from by omega, show ((y.toNat : Nat) : Int) = y from by omega] at h
  exact h

section
variable (t : ByteArray) (j : Nat) (w : World) (ht : t.size ≤ 140737488355328) (hlt : j < t.size)
include ht hlt

set_option maxRecDepth 100000 in
set_option maxHeartbeats 2000000 in
theorem rp_plain (c : UInt8) (hc : t[j]'hlt = c) (h92 : c ≠ 92) (h34 : c ≠ 34) (hp : plainB c = true) :
    Calls Tryz.prog 116 #[.string t, .int .i64 (j : Int)] w fun e w' => e = .returned (pcW (c, 1)) ∧ Below w.heap.size w w' := by
  have b1 := u8ne (n := 92) (by omega) h92
  have b2 := u8ne (n := 34) (by omega) h34
  have hp2 : 32 ≤ (c.toNat : Int) ∧ (c.toNat : Int) ≤ 126 := by simpa [plainB] using hp
  have g1 : ¬ (c.toNat : Int) < 32 := by omega
  have g2 : ¬ (126 : Int) < (c.toNat : Int) := by omega
  have i0 : (j : Int) < (t.size : Int) := by omega
  have i1 : (0 : Int) ≤ (j : Int) := by omega
  have l1 : ¬ (t.size : Int) - (j : Int) < 1 := by omega
  clear h92 h34 hp hp2
  go_enter Tryz.func116, Tryz.ntmps116
  go_wp2
  go_region
  all_goals go_wp2
  all_goals go_ret2
  all_goals exact ⟨rfl, (Below.refl _ w).drew⟩

set_option maxRecDepth 100000 in
set_option maxHeartbeats 2000000 in
theorem rp_bad (c : UInt8) (hc : t[j]'hlt = c) (hp : plainB c = false) :
    Calls Tryz.prog 116 #[.string t, .int .i64 (j : Int)] w fun e w' => e = .returned (pcW (0, 0)) ∧ Below w.heap.size w w' := by
  have hp2 : (c.toNat : Int) < 32 ∨ (¬ (c.toNat : Int) < 32 ∧ (126 : Int) < (c.toNat : Int)) := by
    have : ¬ (32 ≤ (c.toNat : Int) ∧ (c.toNat : Int) ≤ 126) := by
      intro h
      have : plainB c = true := by simp [plainB]; omega
      rw [hp] at this
      cases this
    omega
  have i0 : (j : Int) < (t.size : Int) := by omega
  have i1 : (0 : Int) ≤ (j : Int) := by omega
  have l1 : ¬ (t.size : Int) - (j : Int) < 1 := by omega
  clear hp
  rcases hp2 with g1 | ⟨g1, g2⟩
  all_goals
    go_enter Tryz.func116, Tryz.ntmps116
    go_wp2
    go_ret2
    exact ⟨rfl, Below.refl _ w⟩

set_option maxRecDepth 100000 in
set_option maxHeartbeats 2000000 in
theorem rp_short (hc : t[j]'hlt = 92) (h1 : t.size = j + 1) :
    Calls Tryz.prog 116 #[.string t, .int .i64 (j : Int)] w fun e w' => e = .returned (pcW (0, 0)) ∧ Below w.heap.size w w' := by
  have i0 : (j : Int) < (t.size : Int) := by omega
  have i1 : (0 : Int) ≤ (j : Int) := by omega
  have l1 : ¬ (t.size : Int) - (j : Int) < 1 := by omega
  have l2 : (t.size : Int) - (j : Int) < 2 := by omega
  clear h1
  go_enter Tryz.func116, Tryz.ntmps116
  go_wp2
  go_ret2
  exact ⟨rfl, Below.refl _ w⟩

set_option maxRecDepth 100000 in
set_option maxHeartbeats 2000000 in
theorem rp_two (d : UInt8) (hl : j + 1 < t.size) (hc : t[j]'hlt = 92) (hd : t[j + 1]'hl = d) :
    (d = 110 → Calls Tryz.prog 116 #[.string t, .int .i64 (j : Int)] w fun e w' => e = .returned (pcW (10, 2)) ∧ Below w.heap.size w w') ∧
    ((d = 34 ∨ d = 92) → Calls Tryz.prog 116 #[.string t, .int .i64 (j : Int)] w fun e w' => e = .returned (pcW (d, 2)) ∧ Below w.heap.size w w') ∧
    ((d ≠ 110 ∧ d ≠ 34 ∧ d ≠ 92 ∧ d ≠ 120) ∨ (d = 120 ∧ t.size < j + 4) → Calls Tryz.prog 116 #[.string t, .int .i64 (j : Int)] w fun e w' => e = .returned (pcW (0, 0)) ∧ Below w.heap.size w w') := by
  have i0 : (j : Int) < (t.size : Int) := by omega
  have i1 : (0 : Int) ≤ (j : Int) := by omega
  have i2 : (j : Int) + 1 < (t.size : Int) := by omega
  have l1 : ¬ (t.size : Int) - (j : Int) < 1 := by omega
  have l2 : ¬ (t.size : Int) - (j : Int) < 2 := by omega
  refine ⟨?_, ?_, ?_⟩
  · intro h
    subst h
    go_enter Tryz.func116, Tryz.ntmps116
    go_wp2
    go_ret2
    exact ⟨rfl, Below.refl _ w⟩
  · intro h
    rcases h with rfl | rfl
    all_goals
      go_enter Tryz.func116, Tryz.ntmps116
      go_wp2
      go_region
      all_goals go_wp2
      all_goals go_ret2
      all_goals exact ⟨rfl, (Below.refl _ w).drew⟩
  · intro h
    rcases h with ⟨h1, h2, h3, h4⟩ | ⟨rfl, h5⟩
    · have b1 := u8ne (n := 110) (by omega) h1
      have b2 := u8ne (n := 34) (by omega) h2
      have b3 := u8ne (n := 92) (by omega) h3
      have b4 := u8ne (n := 120) (by omega) h4
      clear h1 h2 h3 h4
      go_enter Tryz.func116, Tryz.ntmps116
      go_wp2
      go_ret2
      exact ⟨rfl, Below.refl _ w⟩
    · have l4 : (t.size : Int) - (j : Int) < 4 := by omega
      go_enter Tryz.func116, Tryz.ntmps116
      go_wp2
      go_ret2
      exact ⟨rfl, Below.refl _ w⟩

end
end Go.Proofs.YtichbejmelkjeaaGreatDoor.Lx

namespace Go.Proofs.YtichbejmelkjeaaGreatDoor.Lx
open Go.RowKit

section
variable (t : ByteArray) (j : Nat) (w : World) (ht : t.size ≤ 140737488355328) (hlt : j < t.size)
include ht hlt

set_option maxRecDepth 100000 in
set_option maxHeartbeats 2000000 in
theorem rp_hex (a b : UInt8) (hl : j + 3 < t.size) (hc : t[j]'hlt = 92) (hd : t[j + 1]'(by omega) = 120) (ha : t[j + 2]'(by omega) = a) (hb : t[j + 3]'hl = b) (x y : Int) (hx : Lib.indexByte hexs.data.toList a = x) (hy : Lib.indexByte hexs.data.toList b = y) (hx1 : x < 16) (hy1 : y < 16) (hx0 : -1 ≤ x) (hy0 : -1 ≤ y) :
    Calls Tryz.prog 116 #[.string t, .int .i64 (j : Int)] w fun e w' => e = .returned (pcW (if 0 ≤ x ∧ 0 ≤ y then (UInt8.ofNat (16 * x.toNat + y.toNat), 4) else (0, 0))) ∧ Below w.heap.size w w' := by
  have HX : Hid (∀ w, Calls Tryz.prog 121 #[.int .u8 (a.toNat : Int)] w fun e w' => e = .returned (.int .i64 x) ∧ w = w') := fun w => by
    have h := nibble_any a w
    rw [hx] at h
    exact h
  have HY : Hid (∀ w, Calls Tryz.prog 121 #[.int .u8 (b.toNat : Int)] w fun e w' => e = .returned (.int .i64 y) ∧ w = w') := fun w => by
    have h := nibble_any b w
    rw [hy] at h
    exact h
  have z1 : j + 1 < t.size := by omega
  have z2 : j + 2 < t.size := by omega
  have i0 : (j : Int) < (t.size : Int) := by omega
  have i1 : (0 : Int) ≤ (j : Int) := by omega
  have i2 : (j : Int) + 1 < (t.size : Int) := by omega
  have i3 : (j : Int) + 2 < (t.size : Int) := by omega
  have i4 : (j : Int) + 3 < (t.size : Int) := by omega
  have l1 : ¬ (t.size : Int) - (j : Int) < 1 := by omega
  have l2 : ¬ (t.size : Int) - (j : Int) < 2 := by omega
  have l4 : ¬ (t.size : Int) - (j : Int) < 4 := by omega
  clear hx hy
  obtain ⟨na, hna⟩ : ∃ na : Int, (a.toNat : Int) = na := ⟨_, rfl⟩
  obtain ⟨nb, hnb⟩ : ∃ nb : Int, (b.toNat : Int) = nb := ⟨_, rfl⟩
  rw [hna] at HX
  rw [hnb] at HY
  by_cases hok : 0 ≤ x ∧ 0 ≤ y
  · rw [if_pos hok]
    obtain ⟨o1, o2⟩ := hok
    have HE : Hid ((16 * x + y) % 256 = ((UInt8.ofNat (16 * x.toNat + y.toNat)).toNat : Int)) := mul_add_at x y o1 hx1 o2 hy1
    go_enter Tryz.func116, Tryz.ntmps116
    go_upto_region 18 with (first
      | (go_at_call 121; refine (HX.out _).mono ?_; rintro e w2 ⟨rfl, hw⟩; subst hw)
      | go_in)
    go_wp2_with (first
      | (go_at_call 121; refine (HY.out _).mono ?_; rintro e w2 ⟨rfl, hw⟩; subst hw)
      | go_in)
    refine bodyPost_ret (v := .tuple #[.int .i64 4, .int .u8 (16 * x + y)]) (by simp [results, Tryz.results116, go_sem]) rfl ⟨?_, Below.refl _ _⟩
    rw [show 16 * x + y = (16 * x + y) % 256 from by omega, HE.out]
    rfl
  · rw [if_neg hok]
    have hno : ¬ 0 ≤ x ∨ (0 ≤ x ∧ ¬ 0 ≤ y) := by omega
    clear hok
    rcases hno with o1 | ⟨o1, o2⟩
    all_goals
      go_enter Tryz.func116, Tryz.ntmps116
      go_upto_region 18 with (first
        | (go_at_call 121; refine (HX.out _).mono ?_; rintro e w2 ⟨rfl, hw⟩; subst hw)
        | go_in)
      go_wp2_with (first
        | (go_at_call 121; refine (HY.out _).mono ?_; rintro e w2 ⟨rfl, hw⟩; subst hw)
        | go_in)
      go_ret2
      exact ⟨rfl, Below.refl _ _⟩

theorem refPiece_any (h34 : t[j]'hlt ≠ 34) : Calls Tryz.prog 116 #[.string t, .int .i64 (j : Int)] w fun e w' => e = .returned (pcW (pcS (t.data.toList.drop j))) ∧ Below w.heap.size w w' := by
  have hdr := drop_at t j hlt
  obtain ⟨c, hc⟩ : ∃ c, t[j]'hlt = c := ⟨_, rfl⟩
  rw [hc] at hdr h34
  rw [hdr]
  by_cases h92 : c = 92
  · subst h92
    by_cases h1 : t.size = j + 1
    · rw [List.drop_eq_nil_of_le (by rw [← Lib.size_eq]; omega)]
      exact rp_short t j w ht hlt hc h1
    · have hl : j + 1 < t.size := by omega
      obtain ⟨d, hd⟩ : ∃ d, t[j + 1]'hl = d := ⟨_, rfl⟩
      have hdr1 := drop_at t (j + 1) hl
      rw [hd] at hdr1
      rw [hdr1]
      obtain ⟨r1, r2, r3⟩ := rp_two t j w ht hlt d hl hc hd
      simp only [pcS]
      rw [if_neg (by simp)]
      by_cases d1 : d = 110
      · rw [if_pos d1]; exact r1 d1
      · rw [if_neg d1]
        by_cases d2 : d = 34 ∨ d = 92
        · rw [if_pos d2]; exact r2 d2
        · rw [if_neg d2]
          by_cases d3 : d = 120
          · rw [if_pos d3]
            subst d3
            by_cases h4 : j + 3 < t.size
            · obtain ⟨a, ha⟩ : ∃ a, t[j + 2]'(by omega) = a := ⟨_, rfl⟩
              obtain ⟨b, hb⟩ : ∃ b, t[j + 3]'h4 = b := ⟨_, rfl⟩
              have e2 := drop_at t (j + 2) (by omega)
              have e3 := drop_at t (j + 3) h4
              rw [ha] at e2
              rw [hb] at e3
              rw [show j + 1 + 1 = j + 2 from rfl, e2, show j + 2 + 1 = j + 3 from rfl, e3]
              exact rp_hex t j w ht hlt a b h4 hc hd ha hb _ _ rfl rfl (hex_lt a) (hex_lt b) (Lib.indexByte_ge _ _) (Lib.indexByte_ge _ _)
            · have hlen : (t.data.toList.drop (j + 1 + 1)).length < 2 := by rw [List.length_drop, ← Lib.size_eq]; omega
              have h0 := r3 (Or.inr ⟨rfl, by omega⟩)
              generalize t.data.toList.drop (j + 1 + 1) = l at hlen ⊢
              match l, hlen with
              | [], _ => exact h0
              | [_], _ => exact h0
          · rw [if_neg d3]
            exact r3 (Or.inl ⟨d1, fun e => d2 (Or.inl e), fun e => d2 (Or.inr e), d3⟩)
  · simp only [pcS]
    rw [if_pos h92]
    by_cases hp : plainB c = true
    · rw [if_pos hp]; exact rp_plain t j w ht hlt c hc h92 h34 hp
    · rw [if_neg hp]; exact rp_bad t j w ht hlt c hc (by simpa using hp)
end
end Go.Proofs.YtichbejmelkjeaaGreatDoor.Lx

namespace Go.Proofs.YtichbejmelkjeaaGreatDoor.Lx
open Go.RowKit

/-- Pieces up to the closing quote, however many. -/
def txtR : Nat → Nat → List UInt8 → List UInt8 → Option (Nat × List UInt8)
  | 0, _, _, _ => none
  | _ + 1, _, _, [] => none
  | f + 1, n, v, c :: r =>
    if c = 34 then some (n + 1, v)
    else if (pcS (c :: r)).2 = 0 then none
    else txtR f (n + (pcS (c :: r)).2) (v ++ [(pcS (c :: r)).1]) ((c :: r).drop (pcS (c :: r)).2)
def finR : Option (Nat × List UInt8) → TkR
  | none => .inl 22
  | some (m, W) => if 200 < W.length then .inl 22 else .inr ⟨3, m, W, 0⟩

theorem lenR (f : Nat) : ∀ (n : Nat) (V l : List UInt8) (m : Nat) (W : List UInt8), txtR f n V l = some (m, W) → V.length ≤ W.length := by
  induction f with
  | zero => intro n V l m W h; cases h
  | succ f ih =>
    intro n V l m W h
    match l with
    | [] => cases h
    | c :: r =>
      unfold txtR at h
      split at h
      · cases h; exact Nat.le_refl _
      · split at h
        · cases h
        · have := ih _ _ _ _ _ h
          rw [List.length_append] at this
          omega
theorem txt_R (f : Nat) : ∀ (n : Nat) (V l : List UInt8), V.length ≤ 200 → txtS f n V l = finR (txtR f n V l) := by
  induction f with
  | zero => intro n V l _; rfl
  | succ f ih =>
    intro n V l hV
    match l with
    | [] => rfl
    | c :: r =>
      unfold txtS txtR
      by_cases hc : c = 34
      · rw [if_pos hc, if_pos hc]
        simp only [finR]
        rw [if_neg (by omega)]
      · rw [if_neg hc, if_neg hc]
        by_cases h0 : (pcS (c :: r)).2 = 0
        · rw [if_pos (Or.inl h0), if_pos h0]; rfl
        · rw [if_neg h0]
          by_cases h2 : V.length = 200
          · rw [if_pos (Or.inr h2)]
            cases hz : txtR f (n + (pcS (c :: r)).2) (V ++ [(pcS (c :: r)).1]) ((c :: r).drop (pcS (c :: r)).2) with
            | none => rfl
            | some p =>
              obtain ⟨m, W⟩ := p
              have := lenR _ _ _ _ _ _ hz
              rw [List.length_append] at this
              simp only [finR]
              rw [if_pos (by simp at this; omega)]
          · rw [if_neg (fun h => h.elim h0 h2)]
            exact ih _ _ _ (by rw [List.length_append]; simp; omega)

theorem build0 (w : World) : (w.alloc (.cells #[] 5)).ownsRow (w.alloc (.cells #[] 5)).heap.size.pred 5 1 (.slice (some ⟨w.heap.size, 0, none⟩) 0 0) 0 (bv []) := by
  refine ⟨rfl, Or.inr ⟨w.heap.size, 0, #[], rfl, ?_, heap_alloc_new w _, Nat.le_refl _, by unfold maxLen; omega, rfl, rfl⟩⟩
  simp

set_option maxRecDepth 100000 in
set_option maxHeartbeats 4000000 in
theorem refQuoted_any (t : ByteArray) (k : Nat) (w : World) (ht : t.size ≤ 4194304) (hk : k < t.size) :
    Calls Tryz.prog 106 #[.string t, .int .i64 (k : Int)] w fun e w' => e = .returned (resV k (txtS ((t.data.toList.drop (k + 1)).length + 1) 1 [] (t.data.toList.drop (k + 1)))) ∧ Below w.heap.size w w' := by
  rw [txt_R _ _ _ _ (by simp)]
  obtain ⟨R, hR⟩ : ∃ R, txtR ((t.data.toList.drop (k + 1)).length + 1) 1 [] (t.data.toList.drop (k + 1)) = R := ⟨_, rfl⟩
  rw [hR]
  have HR0 : Hid (txtR ((t.data.toList.drop (k + 1)).length + 1) 1 [] (t.data.toList.drop (k + 1)) = R) := hR
  clear hR
  have H5 := five_new w (.int .i64 0) (.int .i64 0) (.int .i64 0) (.string ⟨#[]⟩) (.int .i64 0) 113
  have H5' : Hid (Five (w.alloc (.cells #[.int .i64 0, .int .i64 0, .int .i64 0, .string ⟨#[]⟩, .int .i64 0] 113)) w.heap.size (.int .i64 0) (.int .i64 0) (.int .i64 0) (.string ⟨#[]⟩) (.int .i64 0)) := H5
  clear H5
  have HB0 : Hid (Below w.heap.size w (w.alloc (.cells #[.int .i64 0, .int .i64 0, .int .i64 0, .string ⟨#[]⟩, .int .i64 0] 113))) := (Below.refl _ w).alloc (Nat.le_refl _) _
  go_enter Tryz.func106, Tryz.ntmps106
  go_wp2
  generalize hw1 : w.alloc (.cells #[.int .i64 0, .int .i64 0, .int .i64 0, .string ⟨#[]⟩, .int .i64 0] 113) = w1 at *
  have hws : Hid (w.heap.size + 1 = w1.heap.size) := by
    show w.heap.size + 1 = w1.heap.size
    rw [← hw1]
    simp
  clear hw1
  have hb1 : w.heap.size < w1.heap.size := World.block_lt_of_cell? w1 _ H5'.out.c0
  go_loopw [6, 7] (fun i v wr => ∃ (f j : Nat) (V : List UInt8), k + 1 ≤ j ∧ j ≤ t.size ∧ i = .int .i64 (j : Int) ∧ t.size - j < f ∧ V.length ≤ j ∧ Hid (txtR f (j - k) V (t.data.toList.drop j) = R) ∧ Hid (wr.ownsRow w1.heap.size 5 1 v V.length (bv V)) ∧ Hid (Below w1.heap.size w1 wr)) (fun i _ _ => t.size - (intOf i).toNat)
  case atStart =>
    refine ⟨(t.data.toList.drop (k + 1)).length + 1, k + 1, [], Nat.le_refl _, by omega, by go_num, ?_, by simp, ?_, ?_, (Below.refl _ _).alloc (Nat.le_refl _) _⟩
    · rw [List.length_drop, ← Lib.size_eq]; omega
    · rw [show k + 1 - k = 1 from by omega]; exact HR0.out
    · have := build0 w1
      simp only [World.size_alloc, Nat.pred_succ] at this
      rw [hws.out]
      exact this
  case round =>
    clear HR0
    obtain ⟨f, j, V, hkj, hj, rfl, hf, hV, hx, ho, hB⟩ := hrel
    obtain ⟨sa, cap, rfl⟩ := own_slice ho.out
    have HF : Hid (Five wr w.heap.size (.int .i64 0) (.int .i64 0) (.int .i64 0) (.string ⟨#[]⟩) (.int .i64 0)) := H5'.out.below hB.out hb1
    have j0 : (0 : Int) ≤ (j : Int) := by omega
    have j1 : (j : Int) ≤ (t.size : Int) := by omega
    by_cases hlt : j < t.size
    · obtain ⟨f, rfl⟩ : ∃ g, f = g + 1 := ⟨f - 1, by omega⟩
      obtain ⟨c, hc⟩ : ∃ c, t[j]'hlt = c := ⟨_, rfl⟩
      have hdr := drop_at t j hlt
      rw [hc] at hdr
      have hjn : ¬ (t.size : Int) ≤ (j : Int) := by omega
      by_cases hq : c = 34
      · subst hq
        have hRe : R = some (j - k + 1, V) := by
          rw [← hx.out, hdr]
          unfold txtR
          rw [if_pos rfl]
        have hcv := conv_own ho.out
        obtain ⟨c0, c1, c2, c3, c4, f'⟩ := HF.out
        have f0 := f' 0 (by omega)
        have f1 := f' 1 (by omega)
        have f2 := f' 2 (by omega)
        have f3 := f' 3 (by omega)
        have f4 := f' 4 (by omega)
        by_cases h200 : 200 < V.length
        · have HRv : Hid (resV k (finR R) = .tuple #[.agg #[.int .i64 0, .int .i64 0, .int .i64 0, .string ⟨#[]⟩, .int .i64 0], .int .i64 22]) := by
            show resV k (finR R) = _
            rw [hRe]
            simp only [finR]
            rw [if_pos h200]
            rfl
          have h200' : (200 : Int) < (V.length : Int) := by omega
          clear f' hdr hx ho hRe hcv h200
          go_wp2
          exact bodyPost_ret (ret5 (five_set HF.out _ _ _ _ _) rfl rfl) rfl ⟨congrArg Ending.returned HRv.out.symm, below_set5 (HB0.out.trans (hB.out.mono (by omega))) (Nat.le_refl _) _ _ _ _ _⟩
        · have HRv : Hid (resV k (finR R) = .tuple #[.agg #[.int .i64 3, .int .i64 (k : Int), .int .i64 ((j : Int) + 1), .string ⟨V.toArray⟩, .int .i64 0], .int .i64 0]) := by
            show resV k (finR R) = _
            rw [hRe]
            simp only [finR]
            rw [if_neg h200]
            simp only [resV, tkCells]
            rw [show ((k : Int) + ((j - k + 1 : Nat) : Int)) = (j : Int) + 1 from by omega]
            rfl
          have h200' : ¬ (200 : Int) < (V.length : Int) := by omega
          clear f' hdr hx ho hRe h200
          go_wp2
          exact bodyPost_ret (ret5 (five_set HF.out _ _ _ _ _) rfl rfl) rfl ⟨congrArg Ending.returned HRv.out.symm, below_set5 (HB0.out.trans (hB.out.mono (by omega))) (Nat.le_refl _) _ _ _ _ _⟩
      · have b34 := u8ne (n := 34) (by omega) hq
        have HP := refPiece_any t j wr (by omega) hlt (by rw [hc]; exact hq)
        have hle := pcS_le (t.data.toList.drop j)
        rw [List.length_drop, ← Lib.size_eq] at hle
        have hbad : (pcS (t.data.toList.drop j)).2 = 0 → R = none := by
          intro h
          rw [← hx.out, hdr]
          unfold txtR
          rw [if_neg hq, if_pos (by rw [← hdr]; exact h)]
        have hgood : (pcS (t.data.toList.drop j)).2 ≠ 0 → txtR f (j - k + (pcS (t.data.toList.drop j)).2) (V ++ [(pcS (t.data.toList.drop j)).1]) (t.data.toList.drop (j + (pcS (t.data.toList.drop j)).2)) = R := by
          intro h
          rw [← hx.out, ← List.drop_drop]
          conv => rhs; rw [hdr]; unfold txtR
          rw [if_neg hq, if_neg (by rw [← hdr]; exact h), ← hdr]
        clear hdr hx hq
        generalize pcS (t.data.toList.drop j) = P at HP hle hbad hgood
        obtain ⟨b, m⟩ := P
        simp only at hle hbad hgood
        have HP' : Hid (Calls Tryz.prog 116 #[.string t, .int .i64 (j : Int)] wr fun e w' => e = .returned (.tuple #[.int .i64 (m : Int), .int .u8 (b.toNat : Int)]) ∧ Below wr.heap.size wr w') := HP
        have HG : Hid (m ≠ 0 → txtR f (j - k + m) (V ++ [b]) (t.data.toList.drop (j + m)) = R) := hgood
        have HBd : Hid (m = 0 → R = none) := hbad
        clear HP hgood hbad
        by_cases hm : m = 0
        · have HRv : Hid (resV k (finR R) = .tuple #[.agg #[.int .i64 0, .int .i64 0, .int .i64 0, .string ⟨#[]⟩, .int .i64 0], .int .i64 22]) := by
            show resV k (finR R) = _
            rw [HBd.out hm]
            rfl
          subst hm
          clear HG HBd
          go_wp2_with (first
            | (go_at_call 116; refine HP'.out.mono ?_; rintro e w2 ⟨rfl, hb2⟩; have F3 : Hid (Five w2 w.heap.size _ _ _ _ _) := HF.out.below hb2 (Nat.lt_of_lt_of_le hb1 hB.out.size); obtain ⟨c0, c1, c2, c3, c4, f'⟩ := F3.out; have f0 := f' 0 (by omega); have f1 := f' 1 (by omega); have f2 := f' 2 (by omega); have f3 := f' 3 (by omega); have f4 := f' 4 (by omega); clear f')
            | go_in)
          exact bodyPost_ret (ret5 (five_set F3.out _ _ _ _ _) rfl rfl) rfl ⟨congrArg Ending.returned HRv.out.symm, below_set5 ((HB0.out.trans (hB.out.mono (by omega))).trans (hb2.mono (by have := hB.out.size; omega))) (Nat.le_refl _) _ _ _ _ _⟩
        · have HG2 : Hid (txtR f (j + m - k) (V ++ [b]) (t.data.toList.drop (j + m)) = R) := by
            show txtR f (j + m - k) (V ++ [b]) (t.data.toList.drop (j + m)) = R
            rw [show j + m - k = j - k + m from by omega]
            exact HG.out hm
          have q1 : ((m : Int) == 0) = false := by rw [beq_eq_false_iff_ne]; omega
          clear HG HBd
          go_wp2_with (first
            | (go_at_call 116; refine HP'.out.mono ?_; rintro e w2 ⟨rfl, hb2⟩; have ho2 : Hid (w2.ownsRow w1.heap.size 5 1 (.slice sa V.length cap) V.length (bv V)) := own_stays ho.out hb2; have hB2 : Hid (Below w1.heap.size w1 w2) := hB.out.trans (hb2.mono hB.out.size))
            | (at_builtin; refine wpList_app1 (w0 := w1) (by rfl) _ _ (by rfl) _ V.length V (by rfl) ho2 hB2 b (by rfl) (by omega) ?_; intro v3 w3 ho3 hb3)
            | go_in)
          exact ⟨⟨f, j + m, V ++ [b], by omega, by omega, by go_num, by omega, by simp; omega, HG2, by rw [List.length_append]; exact ho3, hb3⟩, by simp [intOf]; omega⟩
    · obtain rfl : j = t.size := by omega
      have HRv : Hid (resV k (finR R) = .tuple #[.agg #[.int .i64 0, .int .i64 0, .int .i64 0, .string ⟨#[]⟩, .int .i64 0], .int .i64 22]) := by
        show resV k (finR R) = _
        rw [← hx.out, List.drop_eq_nil_of_le (by rw [← Lib.size_eq]; omega)]
        cases f <;> rfl
      obtain ⟨c0, c1, c2, c3, c4, f'⟩ := HF.out
      have f0 := f' 0 (by omega)
      have f1 := f' 1 (by omega)
      have f2 := f' 2 (by omega)
      have f3 := f' 3 (by omega)
      have f4 := f' 4 (by omega)
      clear f' hx
      go_wp2
      exact bodyPost_ret (ret5 (five_set HF.out _ _ _ _ _) rfl rfl) rfl ⟨congrArg Ending.returned HRv.out.symm, below_set5 (HB0.out.trans (hB.out.mono (by omega))) (Nat.le_refl _) _ _ _ _ _⟩
end Go.Proofs.YtichbejmelkjeaaGreatDoor.Lx
