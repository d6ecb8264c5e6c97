import Derived.BigGuard
import Derived.BigCall
import Derived.Deep.CutRange
import Derived.Test.YtichbejmelkjeaaGreatDoorU17
import Derived.Test.YtichbejmelkjeaaGreatDoorU18
import Derived.Test.YtichbejmelkjeaaGreatDoorU14
namespace Go.Proofs.YtichbejmelkjeaaGreatDoor.Lx
open Go.RowKit

theorem refBlank_any (c : UInt8) (w : World) : Calls Tryz.prog 101 #[.int .u8 (c.toNat : Int)] w fun e w' => e = .returned (.bool (blankB c)) ∧ w = w' := by
  have hc := UInt8.toNat_lt c
  unfold blankB
  generalize (c.toNat : Int) = n
  go_enter Tryz.func101, Tryz.ntmps101
  go_wp2
  all_goals go_ret
  all_goals (refine ⟨?_, rfl⟩; simp_all)
  all_goals (generalize (n == 9) = a; generalize (n == 10) = b; generalize (n == 13) = c; generalize (n == 32) = d; cases a <;> cases b <;> cases c <;> cases d <;> rfl)

set_option maxRecDepth 100000 in
set_option maxHeartbeats 2000000 in
theorem refGap_any (t : ByteArray) (k : Nat) (w : World) (ht : t.size ≤ 140737488355328) (hk : k ≤ t.size) :
    Calls Tryz.prog 90 #[.string t, .int .i64 (k : Int)] w fun e w' => e = .returned (.int .i64 ((k + gpS false (t.data.toList.drop k) : Nat) : Int)) ∧ w = w' := by
  obtain ⟨R, hR⟩ : ∃ R, k + gpS false (t.data.toList.drop k) = R := ⟨_, rfl⟩
  rw [hR]
  have HR : Hid (k + gpS false (t.data.toList.drop k) = R) := hR
  clear hR
  go_enter Tryz.func90, Tryz.ntmps90
  go_wp2
  go_loop [1, 5] (fun i b => ∃ (j : Nat) (q : Bool), j ≤ t.size ∧ i = .int .i64 (j : Int) ∧ b = .bool q ∧ Hid (j + gpS q (t.data.toList.drop j) = R)) (fun i _ => t.size - (intOf i).toNat)
  case atStart => exact ⟨k, false, hk, rfl, rfl, HR⟩
  case round =>
    clear HR
    obtain ⟨j, q, hj, rfl, rfl, hx⟩ := hrel
    by_cases hlt : j < t.size
    · obtain ⟨c, hc⟩ : ∃ c, t[j]'hlt = c := ⟨_, rfl⟩
      have hdr := drop_at t j hlt
      rw [hc] at hdr
      have hx' := hx.out
      rw [hdr] at hx'
      clear hx hdr
      have HB : Hid (∀ (w : World), Calls Tryz.prog 101 #[.int .u8 (c.toNat : Int)] w fun e w' => e = .returned (.bool (blankB c)) ∧ w = w') := fun w => refBlank_any c w
      cases q with
      | true =>
        simp only [gpS] at hx'
        by_cases h10 : c = 10
        · subst h10
          rw [if_pos rfl] at hx'
          have HX : Hid (j + 1 + gpS false (t.data.toList.drop (j + 1)) = R) := by show _ = _; omega
          clear hx'
          go_wp2
          exact ⟨⟨j + 1, false, by omega, by go_num, rfl, HX⟩, by simp [intOf]; omega⟩
        · rw [if_neg h10] at hx'
          have b10 := u8ne (n := 10) (by omega) h10
          have HX : Hid (j + 1 + gpS true (t.data.toList.drop (j + 1)) = R) := by show _ = _; omega
          clear hx' h10
          go_wp2
          exact ⟨⟨j + 1, true, by omega, by go_num, rfl, HX⟩, by simp [intOf]; omega⟩
      | false =>
        simp only [gpS] at hx'
        by_cases h35 : c = 35
        · subst h35
          rw [if_pos rfl] at hx'
          have HX : Hid (j + 1 + gpS true (t.data.toList.drop (j + 1)) = R) := by show _ = _; omega
          clear hx'
          go_wp2
          exact ⟨⟨j + 1, true, by omega, by go_num, rfl, HX⟩, by simp [intOf]; omega⟩
        · rw [if_neg h35] at hx'
          have b35 := u8ne (n := 35) (by omega) h35
          by_cases hb : blankB c = true
          · rw [if_pos hb] at hx'
            rw [hb] at HB
            have HX : Hid (j + 1 + gpS false (t.data.toList.drop (j + 1)) = R) := by show _ = _; omega
            clear hx' h35 hb
            go_wp2_with (first
              | (go_at_call 101; refine (HB.out _).mono ?_; rintro e w2 ⟨rfl, hw2⟩; subst hw2)
              | go_in)
            exact ⟨⟨j + 1, false, by omega, by go_num, rfl, HX⟩, by simp [intOf]; omega⟩
          · rw [if_neg hb] at hx'
            rw [show blankB c = false from by simpa using hb] at HB
            have HX : Hid (R = j) := by show _ = _; omega
            clear hx' h35 hb
            go_wp2_with (first
              | (go_at_call 101; refine (HB.out _).mono ?_; rintro e w2 ⟨rfl, hw2⟩; subst hw2)
              | go_in)
            go_ret
            exact ⟨by rw [HX.out]; rfl, rfl⟩
    · obtain rfl : j = t.size := by omega
      have HX : Hid (R = t.size) := by
        have := hx.out
        rw [List.drop_eq_nil_of_le (by rw [← Lib.size_eq]; omega)] at this
        show _ = _
        cases q <;> simp [gpS] at this <;> omega
      clear hx
      go_wp2
      go_ret
      exact ⟨by rw [HX.out]; rfl, rfl⟩

end Go.Proofs.YtichbejmelkjeaaGreatDoor.Lx

namespace Go.Proofs.YtichbejmelkjeaaGreatDoor.Lx
open Go.RowKit

theorem refLetter_any (c : UInt8) (w : World) : Calls Tryz.prog 102 #[.int .u8 (c.toNat : Int)] w fun e w' => e = .returned (.bool (letterB c)) ∧ w = w' := by
  have hc := UInt8.toNat_lt c
  unfold letterB
  go_enter Tryz.func102, Tryz.ntmps102
  go_wp2
  all_goals go_ret
  all_goals (refine ⟨?_, rfl⟩; simp_all; try omega)
theorem refDigit_any (c : UInt8) (w : World) : Calls Tryz.prog 104 #[.int .u8 (c.toNat : Int)] w fun e w' => e = .returned (.bool (digitB c)) ∧ w = w' := by
  have hc := UInt8.toNat_lt c
  unfold digitB
  go_enter Tryz.func104, Tryz.ntmps104
  go_wp2
  all_goals go_ret
  all_goals (refine ⟨?_, rfl⟩; simp_all; try omega)
theorem refInner_any (c : UInt8) (w : World) : Calls Tryz.prog 114 #[.int .u8 (c.toNat : Int)] w fun e w' => e = .returned (.bool (innerB c)) ∧ w = w' := by
  have hc := UInt8.toNat_lt c
  unfold innerB
  go_enter Tryz.func114, Tryz.ntmps114
  go_wp2_with (first
    | (go_at_call 102; refine (refLetter_any c _).mono ?_; rintro e w1 ⟨rfl, rfl⟩)
    | (go_at_call 104; refine (refDigit_any c _).mono ?_; rintro e w1 ⟨rfl, rfl⟩)
    | go_in)
  all_goals go_ret
  all_goals (refine ⟨?_, rfl⟩; simp_all)

theorem nib_digit_all : ∀ n : Fin 256, 48 ≤ n.val → n.val ≤ 57 → Lib.indexByte hexs.data.toList (UInt8.ofNat n.val) = ((n.val : Nat) : Int) - 48 := by decide +kernel
theorem nib_hex_all : ∀ n : Fin 256, 97 ≤ n.val → n.val ≤ 102 → Lib.indexByte hexs.data.toList (UInt8.ofNat n.val) = ((n.val : Nat) : Int) - 87 := by decide +kernel
theorem nib_no_all : ∀ n : Fin 256, ¬ (48 ≤ n.val ∧ n.val ≤ 57) → ¬ (97 ≤ n.val ∧ n.val ≤ 102) → Lib.indexByte hexs.data.toList (UInt8.ofNat n.val) = -1 := by decide +kernel
theorem u8_of (c : UInt8) : UInt8.ofNat c.toNat = c := by simp

set_option maxHeartbeats 1000000 in
theorem nibble_any (c : UInt8) (w : World) : Calls Tryz.prog 121 #[.int .u8 (c.toNat : Int)] w fun e w' => e = .returned (.int .i64 (Lib.indexByte hexs.data.toList c)) ∧ w = w' := by
  have hc := UInt8.toNat_lt c
  have HD : Hid (∀ (w : World), Calls Tryz.prog 104 #[.int .u8 (c.toNat : Int)] w fun e w' => e = .returned (.bool (digitB c)) ∧ w = w') := fun w => refDigit_any c w
  by_cases h1 : 48 ≤ c.toNat ∧ c.toNat ≤ 57
  · have e := nib_digit_all ⟨c.toNat, hc⟩ h1.1 h1.2
    simp only [u8_of] at e
    rw [e]
    rw [show digitB c = true from by simp [digitB]; omega] at HD
    obtain ⟨h2, h3⟩ := h1
    have q1 : (48 : Int) ≤ (c.toNat : Int) := by omega
    have q2 : (c.toNat : Int) ≤ 57 := by omega
    clear e
    go_enter Tryz.func121, Tryz.ntmps121
    go_wp2_with (first
      | (go_at_call 104; refine (HD.out _).mono ?_; rintro e w1 ⟨rfl, rfl⟩)
      | go_in)
    go_ret
    exact ⟨by go_num, rfl⟩
  · rw [show digitB c = false from by simp [digitB]; omega] at HD
    by_cases h2 : 97 ≤ c.toNat ∧ c.toNat ≤ 102
    · have e := nib_hex_all ⟨c.toNat, hc⟩ h2.1 h2.2
      simp only [u8_of] at e
      rw [e]
      have q1 : (97 : Int) ≤ (c.toNat : Int) := by omega
      have q2 : (c.toNat : Int) ≤ 102 := by omega
      clear e h1 h2
      go_enter Tryz.func121, Tryz.ntmps121
      go_wp2_with (first
        | (go_at_call 104; refine (HD.out _).mono ?_; rintro e w1 ⟨rfl, rfl⟩)
        | go_in)
      go_ret
      exact ⟨by go_num, rfl⟩
    · have e := nib_no_all ⟨c.toNat, hc⟩ h1 h2
      simp only [u8_of] at e
      rw [e]
      have q : ¬ (97 : Int) ≤ (c.toNat : Int) ∨ ((97 : Int) ≤ (c.toNat : Int) ∧ ¬ (c.toNat : Int) ≤ 102) := by omega
      clear e h1 h2
      rcases q with q1 | ⟨q1, q2⟩
      all_goals
        go_enter Tryz.func121, Tryz.ntmps121
        go_wp2_with (first
          | (go_at_call 104; refine (HD.out _).mono ?_; rintro e w1 ⟨rfl, rfl⟩)
          | go_in)
        go_ret
        exact ⟨rfl, rfl⟩
end Go.Proofs.YtichbejmelkjeaaGreatDoor.Lx

namespace Go.Proofs.YtichbejmelkjeaaGreatDoor.Lx
open Go.RowKit

/-- What the reference's calls find in its tables. -/
structure RTabs (w : World) : Prop where
  kw : ∀ j, j < 20 → w.cell? ⟨13, j, none⟩ = some (.string (kws.getD j ByteArray.empty))
  sz : 15 < w.heap.size
  sg : ∀ j, j < 25 → w.cell? ⟨11, j, none⟩ = some (.string (sgs.getD j ByteArray.empty))
theorem RTabs.size {w : World} (h : RTabs w) : 15 < w.heap.size := h.sz
theorem RTabs.below {w w' : World} {B : Nat} (h : RTabs w) (hb : Below B w w') (hB : 15 < B) : RTabs w' :=
  ⟨fun j hj => (hb.cell (p := ⟨13, j, none⟩) (by show 13 < B; omega)).trans (h.kw j hj), Nat.lt_of_lt_of_le h.sz hb.size, fun j hj => (hb.cell (p := ⟨11, j, none⟩) (by show 11 < B; omega)).trans (h.sg j hj)⟩
theorem RTabs.next {w w' : World} (h : RTabs w) (hb : Below w.heap.size w w') : RTabs w' := h.below hb h.size

set_option maxRecDepth 100000 in
set_option maxHeartbeats 400000 in
theorem refKeyword_r (s : ByteArray) (w : World) (hc : ∀ j, j < 20 → w.cell? ⟨13, j, none⟩ = some (.string (kws.getD j ByteArray.empty))) :
    Calls Tryz.prog 115 #[.string s] w fun e w' => e = .returned (.bool (kw s)) ∧ w' = w := by
  have HC : Hid (∀ j, j < 20 → w.cell? ⟨13, j, none⟩ = some (.string (kws.getD j ByteArray.empty))) := hc
  clear hc
  go_enter Tryz.func115, Tryz.ntmps115
  go_wp2
  go_loop [3] (fun i => ∃ k : Nat, k ≤ 20 ∧ i = .int .i64 (k : Int) ∧ Hid (∀ j, j < k → ((kws.getD j ByteArray.empty).data.toList == s.data.toList) = false)) (fun i => 20 - (intOf i).toNat)
  case atStart => exact ⟨0, by omega, rfl, fun j hj => by omega⟩
  case round =>
    obtain ⟨k, hk, rfl, hn⟩ := hrel
    by_cases hlt : k < 20
    · have hi := HC.out k hlt
      obtain ⟨x, hx⟩ : ∃ x, x = kws.getD k ByteArray.empty := ⟨_, rfl⟩
      rw [← hx] at hi
      have HX : Hid (x = kws.getD k ByteArray.empty) := hx
      clear hx
      go_wp2
      · have h1 : (x.toList == s.toList) = true := by assumption
        have hk1 : kw s = true := kw_some k hlt (by rw [← HX.out]; exact toL_eq' h1)
        rw [hk1]
        go_ret
        exact ⟨rfl, rfl⟩
      · have h1 : (x.toList == s.toList) = false := by assumption
        refine ⟨⟨k + 1, by omega, by go_num, fun j hj => ?_⟩, by simp [intOf]; omega⟩
        by_cases hjk : j < k
        · exact hn.out j hjk
        · obtain rfl : j = k := by omega
          rw [← HX.out]
          exact toL_ne' h1
    · obtain rfl : k = 20 := by omega
      have hk1 : kw s = false := kw_none hn.out
      have HK : Hid (kw s = false) := hk1
      clear hk1
      go_wp2
      rw [HK.out]
      go_ret
      exact ⟨rfl, rfl⟩
set_option maxRecDepth 100000 in
set_option maxHeartbeats 2000000 in
theorem refWord_any (t : ByteArray) (k : Nat) (w : World) (ht : t.size ≤ 140737488355328) (hk : k < t.size) (hT : RTabs w) :
    Calls Tryz.prog 103 #[.string t, .int .i64 (k : Int)] w fun e w' => e = .returned (resV k (wordS (t.data.toList.drop k))) ∧ Below w.heap.size w w' := by
  have HT : Hid (RTabs w) := hT
  clear hT
  have H5 := five_new w (.int .i64 0) (.int .i64 0) (.int .i64 0) (.string ⟨#[]⟩) (.int .i64 0) 113
  have H5' : Hid (Five (w.alloc (.cells #[.int .i64 0, .int .i64 0, .int .i64 0, .string ⟨#[]⟩, .int .i64 0] 113)) w.heap.size (.int .i64 0) (.int .i64 0) (.int .i64 0) (.string ⟨#[]⟩) (.int .i64 0)) := H5
  clear H5
  have HB0 : Hid (Below w.heap.size w (w.alloc (.cells #[.int .i64 0, .int .i64 0, .int .i64 0, .string ⟨#[]⟩, .int .i64 0] 113))) := (Below.refl _ w).alloc (Nat.le_refl _) _
  go_enter Tryz.func103, Tryz.ntmps103
  go_wp2
  generalize hw1 : w.alloc (.cells #[.int .i64 0, .int .i64 0, .int .i64 0, .string ⟨#[]⟩, .int .i64 0] 113) = w1 at *
  go_loop [6] (fun i => ∃ j : Nat, k ≤ j ∧ j ≤ t.size ∧ i = .int .i64 (j : Int) ∧ Hid ((t.data.toList.drop k).takeWhile innerB = (t.data.toList.drop k).take (j - k) ++ (t.data.toList.drop j).takeWhile innerB)) (fun i => t.size - (intOf i).toNat)
  case atStart => exact ⟨k, Nat.le_refl _, by omega, rfl, by simp [Hid]⟩
  case round =>
    obtain ⟨j, hkj, hj, rfl, htw⟩ := hrel
    clear hw1
    by_cases hp : ∃ h : j < t.size, innerB (t[j]'h) = true
    · obtain ⟨hlt, hp⟩ := hp
      have hst := tw_step innerB t.data.toList k j hkj (by rw [← Lib.size_eq]; exact hlt) (by rw [byte_at t j hlt]; exact hp) htw.out
      have HST : Hid ((t.data.toList.drop k).takeWhile innerB = (t.data.toList.drop k).take (j + 1 - k) ++ (t.data.toList.drop (j + 1)).takeWhile innerB) := hst
      clear hst htw
      obtain ⟨c, hc⟩ : ∃ c, t[j]'hlt = c := ⟨_, rfl⟩
      rw [hc] at hp
      have HW := refInner_any c w1
      rw [hp] at HW
      have HW' : Hid (Calls Tryz.prog 114 #[.int .u8 (c.toNat : Int)] w1 fun e w' => e = .returned (.bool true) ∧ w1 = w') := HW
      clear HW hp
      go_wp2_with (first
        | (go_at_call 114; refine HW'.out.mono ?_; rintro e _ ⟨rfl, rfl⟩)
        | go_in)
      exact ⟨⟨j + 1, by omega, by omega, by go_num, HST⟩, by simp [intOf]; omega⟩
    · have htk := tw_stop innerB t.data.toList k j (fun h => by
        have h' : j < t.size := by rw [Lib.size_eq]; exact h
        rw [byte_at t j h']
        cases hb : innerB (t[j]'h') with
        | true => exact absurd ⟨h', hb⟩ hp
        | false => rfl) htw.out
      obtain ⟨S, hS⟩ : ∃ S, t.extract k j = S := ⟨_, rfl⟩
      have hSd : S.data.toList = (t.data.toList.drop k).takeWhile innerB := by rw [← hS, Lib.extract_data, htk]
      have hSl : k + S.size = j := by
        rw [Lib.size_eq, ← hS, Lib.extract_data, List.length_take, List.length_drop, ← Lib.size_eq]
        omega
      have hSt : (⟨((t.data.toList.drop k).takeWhile innerB).toArray⟩ : ByteArray) = S := by rw [← hSd]
      have hwS : wordS (t.data.toList.drop k) = if kw S = true then .inr ⟨4, S.size, S.data.toList, 0⟩ else if 24 < S.size then .inl 23 else .inr ⟨1, S.size, S.data.toList, 0⟩ := by
        unfold wordS
        simp only [hSt, Lib.size_eq S, hSd]
      have HS : Hid (wordS (t.data.toList.drop k) = if kw S = true then .inr ⟨4, S.size, S.data.toList, 0⟩ else if 24 < S.size then .inl 23 else .inr ⟨1, S.size, S.data.toList, 0⟩) := hwS
      have HSl : Hid (k + S.size = j) := hSl
      clear hSd hSt hwS htk htw hSl
      have k0 : (0 : Int) ≤ ↑k := by omega
      have k1 : (k : Int) ≤ ↑j := by omega
      have j1 : (j : Int) ≤ ↑t.size := by omega
      have hcond : t.size = j ∨ ∃ h : j < t.size, Hid (innerB (t[j]'h) = false) := by
        by_cases h : j < t.size
        · right
          refine ⟨h, ?_⟩
          cases hb : innerB (t[j]'h) with
          | true => exact absurd ⟨h, hb⟩ hp
          | false => rfl
        · left; omega
      have HW : Hid (∀ (c : UInt8) (w : World), Calls Tryz.prog 114 #[.int .u8 (c.toNat : Int)] w fun e w' => e = .returned (.bool (innerB c)) ∧ w = w') := refInner_any
      clear hp
      have hb1 : w.heap.size < w1.heap.size := World.block_lt_of_cell? w1 _ H5'.out.c0
      have HTa : Hid (RTabs (w1.alloc (.cells #[.int .i64 1, .int .i64 (k : Int), .int .i64 (j : Int), .string S, .int .i64 0] 113))) := (HT.out.next HB0.out).next ((Below.refl _ w1).alloc (Nat.le_refl _) _)
      have HK : Hid (Calls Tryz.prog 115 #[.string S] (w1.alloc (.cells #[.int .i64 1, .int .i64 (k : Int), .int .i64 (j : Int), .string S, .int .i64 0] 113)) fun e w' => e = .returned (.bool (kw S)) ∧ w' = w1.alloc (.cells #[.int .i64 1, .int .i64 (k : Int), .int .i64 (j : Int), .string S, .int .i64 0] 113)) := refKeyword_r S _ HTa.out.kw
      obtain ⟨c0, c1, c2, c3, c4, f⟩ := H5'.out
      have f0 := f 0 (by omega)
      have f1 := f 1 (by omega)
      have f2 := f 2 (by omega)
      have f3 := f 3 (by omega)
      have f4 := f 4 (by omega)
      clear f
      have hjk : (j : Int) - (k : Int) = (S.size : Int) := by have := HSl.out; omega
      by_cases hq : kw S = true
      · rw [if_pos hq] at HS
        rw [hq] at HK
        clear hq
        have HR : Hid (resV k (wordS (t.data.toList.drop k)) = .tuple #[.agg #[.int .i64 4, .int .i64 (k : Int), .int .i64 (j : Int), .string S, .int .i64 0], .int .i64 0]) := by
          rw [HS.out]
          simp only [resV, tkCells, ← HSl.out]
          rfl
        clear HS HSl hjk
        rcases hcond with hend | ⟨hlt, hin⟩
        · go_wp2_with (first
            | (go_at_call 115; refine HK.out.mono ?_; rintro e w2 ⟨rfl, hw2⟩; subst hw2)
            | go_in)
          exact bodyPost_ret (ret5 ((five_set H5'.out _ _ _ _ _).below ((Below.refl _ _).alloc (Nat.le_refl _) _) (World.block_lt_of_cell? _ _ (five_set H5'.out _ _ _ _ _).c0)) rfl rfl) rfl ⟨congrArg Ending.returned HR.out.symm, (below_set5 HB0.out (Nat.le_refl _) _ _ _ _ _).alloc (below_set5 HB0.out (Nat.le_refl _) _ _ _ _ _).size _⟩
        · go_wp2_with (first
            | (go_at_call 114; refine (HW.out _ _).mono ?_; rintro e w2 ⟨rfl, hw2⟩; subst hw2; rw [hin.out])
            | (go_at_call 115; refine HK.out.mono ?_; rintro e w2 ⟨rfl, hw2⟩; subst hw2)
            | go_in)
          exact bodyPost_ret (ret5 ((five_set H5'.out _ _ _ _ _).below ((Below.refl _ _).alloc (Nat.le_refl _) _) (World.block_lt_of_cell? _ _ (five_set H5'.out _ _ _ _ _).c0)) rfl rfl) rfl ⟨congrArg Ending.returned HR.out.symm, (below_set5 HB0.out (Nat.le_refl _) _ _ _ _ _).alloc (below_set5 HB0.out (Nat.le_refl _) _ _ _ _ _).size _⟩
      · rw [if_neg hq] at HS
        rw [show kw S = false from by simpa using hq] at HK
        clear hq
        by_cases hz : 24 < S.size
        · rw [if_pos hz] at HS
          have HR : Hid (resV k (wordS (t.data.toList.drop k)) = .tuple #[.agg #[.int .i64 0, .int .i64 0, .int .i64 0, .string ⟨#[]⟩, .int .i64 0], .int .i64 23]) := by
            rw [HS.out]
            rfl
          have hz' : (24 : Int) < (S.size : Int) := by omega
          clear HS HSl
          rcases hcond with hend | ⟨hlt, hin⟩
          · go_wp2_with (first
              | (go_at_call 115; refine HK.out.mono ?_; rintro e w2 ⟨rfl, hw2⟩; subst hw2)
              | go_in)
            exact bodyPost_ret (ret5 ((five_set H5'.out _ _ _ _ _).below ((Below.refl _ _).alloc (Nat.le_refl _) _) (World.block_lt_of_cell? _ _ (five_set H5'.out _ _ _ _ _).c0)) rfl rfl) rfl ⟨congrArg Ending.returned HR.out.symm, (below_set5 HB0.out (Nat.le_refl _) _ _ _ _ _).alloc (below_set5 HB0.out (Nat.le_refl _) _ _ _ _ _).size _⟩
          · go_wp2_with (first
              | (go_at_call 114; refine (HW.out _ _).mono ?_; rintro e w2 ⟨rfl, hw2⟩; subst hw2; rw [hin.out])
              | (go_at_call 115; refine HK.out.mono ?_; rintro e w2 ⟨rfl, hw2⟩; subst hw2)
              | go_in)
            exact bodyPost_ret (ret5 ((five_set H5'.out _ _ _ _ _).below ((Below.refl _ _).alloc (Nat.le_refl _) _) (World.block_lt_of_cell? _ _ (five_set H5'.out _ _ _ _ _).c0)) rfl rfl) rfl ⟨congrArg Ending.returned HR.out.symm, (below_set5 HB0.out (Nat.le_refl _) _ _ _ _ _).alloc (below_set5 HB0.out (Nat.le_refl _) _ _ _ _ _).size _⟩
        · rw [if_neg hz] at HS
          have hz' : ¬ (24 : Int) < (S.size : Int) := by omega
          have HR : Hid (resV k (wordS (t.data.toList.drop k)) = .tuple #[.agg #[.int .i64 1, .int .i64 (k : Int), .int .i64 (j : Int), .string S, .int .i64 0], .int .i64 0]) := by
            rw [HS.out]
            simp only [resV, tkCells, ← HSl.out]
            rfl
          clear HS HSl
          rcases hcond with hend | ⟨hlt, hin⟩
          · go_wp2_with (first
              | (go_at_call 115; refine HK.out.mono ?_; rintro e w2 ⟨rfl, hw2⟩; subst hw2)
              | go_in)
            exact bodyPost_ret (ret5 ((five_set H5'.out _ _ _ _ _).below ((Below.refl _ _).alloc (Nat.le_refl _) _) (World.block_lt_of_cell? _ _ (five_set H5'.out _ _ _ _ _).c0)) rfl rfl) rfl ⟨congrArg Ending.returned HR.out.symm, (below_set5 HB0.out (Nat.le_refl _) _ _ _ _ _).alloc (below_set5 HB0.out (Nat.le_refl _) _ _ _ _ _).size _⟩
          · go_wp2_with (first
              | (go_at_call 114; refine (HW.out _ _).mono ?_; rintro e w2 ⟨rfl, hw2⟩; subst hw2; rw [hin.out])
              | (go_at_call 115; refine HK.out.mono ?_; rintro e w2 ⟨rfl, hw2⟩; subst hw2)
              | go_in)
            exact bodyPost_ret (ret5 ((five_set H5'.out _ _ _ _ _).below ((Below.refl _ _).alloc (Nat.le_refl _) _) (World.block_lt_of_cell? _ _ (five_set H5'.out _ _ _ _ _).c0)) rfl rfl) rfl ⟨congrArg Ending.returned HR.out.symm, (below_set5 HB0.out (Nat.le_refl _) _ _ _ _ _).alloc (below_set5 HB0.out (Nat.le_refl _) _ _ _ _ _).size _⟩
end Go.Proofs.YtichbejmelkjeaaGreatDoor.Lx
