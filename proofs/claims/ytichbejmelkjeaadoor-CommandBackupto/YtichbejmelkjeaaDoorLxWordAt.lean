import Derived.Test.YtichbejmelkjeaaDoorLxFive
namespace Go.Proofs.YtichbejmelkjeaaDoor.Lx
open Go.RowKit

theorem byte_at (t : ByteArray) (j : Nat) (h : j < t.size) (h' : j < t.data.toList.length) : t.data.toList[j]'h' = t[j]'h := by
  rw [Array.getElem_toList]; rfl

set_option maxRecDepth 100000 in
set_option maxHeartbeats 2000000 in
theorem wordAt_any (t : ByteArray) (k : Nat) (w : World) (ht : t.size ≤ 140737488355328) (hk : k < t.size) (hT : Tabs w) :
    Calls Tryd.prog 59 #[.string t, .int .i64 (k : Int)] w fun e w' => e = .returned (resV k (wordS (t.data.toList.drop k))) ∧ Below w.heap.size w w' := by
  have HT : Hid (Tabs w) := hT
  clear hT
  have H5 := five_new w (.int .i64 0) (.int .i64 0) (.int .i64 0) (.string ⟨#[]⟩) (.int .i64 0) 89
  have H5' : Hid (Five (w.alloc (.cells #[.int .i64 0, .int .i64 0, .int .i64 0, .string ⟨#[]⟩, .int .i64 0] 89)) w.heap.size (.int .i64 0) (.int .i64 0) (.int .i64 0) (.string ⟨#[]⟩) (.int .i64 0)) := H5
  clear H5
  have HB0 : Hid (Below w.heap.size w (w.alloc (.cells #[.int .i64 0, .int .i64 0, .int .i64 0, .string ⟨#[]⟩, .int .i64 0] 89))) := (Below.refl _ w).alloc (Nat.le_refl _) _
  go_enter Tryd.func59, Tryd.ntmps59
  go_wp2
  generalize hw1 : w.alloc (.cells #[.int .i64 0, .int .i64 0, .int .i64 0, .string ⟨#[]⟩, .int .i64 0] 89) = w1 at *
  go_loop [6] (fun i => ∃ j : Nat, k ≤ j ∧ j ≤ t.size ∧ i = .int .i64 (j : Int) ∧ Hid ((t.data.toList.drop k).takeWhile innerB = (t.data.toList.drop k).take (j - k) ++ (t.data.toList.drop j).takeWhile innerB)) (fun i => t.size - (intOf i).toNat)
  case atStart => exact ⟨k, Nat.le_refl _, by omega, rfl, by simp [Hid]⟩
  case round =>
    obtain ⟨j, hkj, hj, rfl, htw⟩ := hrel
    clear hw1
    by_cases hp : ∃ h : j < t.size, innerB (t[j]'h) = true
    · obtain ⟨hlt, hp⟩ := hp
      have hst := tw_step innerB t.data.toList k j hkj (by rw [← Lib.size_eq]; exact hlt) (by rw [byte_at t j hlt]; exact hp) htw.out
      have HST : Hid ((t.data.toList.drop k).takeWhile innerB = (t.data.toList.drop k).take (j + 1 - k) ++ (t.data.toList.drop (j + 1)).takeWhile innerB) := hst
      clear hst htw
      obtain ⟨c, hc⟩ : ∃ c, t[j]'hlt = c := ⟨_, rfl⟩
      rw [hc] at hp
      have HW := isWord_any c w1
      rw [hp] at HW
      have HW' : Hid (Calls Tryd.prog 65 #[.int .u8 (c.toNat : Int)] w1 fun e w' => e = .returned (.bool true) ∧ w1 = w') := HW
      clear HW hp
      go_wp2_with (first
        | (go_at_call 65; refine HW'.out.mono ?_; rintro e _ ⟨rfl, rfl⟩)
        | go_in)
      exact ⟨⟨j + 1, by omega, by omega, by go_num, HST⟩, by simp [intOf]; omega⟩
    · have htk := tw_stop innerB t.data.toList k j (fun h => by
        have h' : j < t.size := by rw [Lib.size_eq]; exact h
        rw [byte_at t j h']
        cases hb : innerB (t[j]'h') with
        | true => exact absurd ⟨h', hb⟩ hp
        | false => rfl) htw.out
      obtain ⟨S, hS⟩ : ∃ S, t.extract k j = S := ⟨_, rfl⟩
      have hSd : S.data.toList = (t.data.toList.drop k).takeWhile innerB := by rw [← hS, Lib.extract_data, htk]
      have hSl : k + S.size = j := by
        rw [Lib.size_eq, ← hS, Lib.extract_data, List.length_take, List.length_drop, ← Lib.size_eq]
        omega
      have hSt : (⟨((t.data.toList.drop k).takeWhile innerB).toArray⟩ : ByteArray) = S := by rw [← hSd]
      have hwS : wordS (t.data.toList.drop k) = if kw S = true then .inr ⟨4, S.size, S.data.toList, 0⟩ else if 24 < S.size then .inl 23 else .inr ⟨1, S.size, S.data.toList, 0⟩ := by
        unfold wordS
        simp only [hSt, Lib.size_eq S, hSd]
      have HS : Hid (wordS (t.data.toList.drop k) = if kw S = true then .inr ⟨4, S.size, S.data.toList, 0⟩ else if 24 < S.size then .inl 23 else .inr ⟨1, S.size, S.data.toList, 0⟩) := hwS
      have HSl : Hid (k + S.size = j) := hSl
      clear hSd hSt hwS htk htw hSl
      have k0 : (0 : Int) ≤ ↑k := by omega
      have k1 : (k : Int) ≤ ↑j := by omega
      have j1 : (j : Int) ≤ ↑t.size := by omega
      have hcond : t.size = j ∨ ∃ h : j < t.size, Hid (innerB (t[j]'h) = false) := by
        by_cases h : j < t.size
        · right
          refine ⟨h, ?_⟩
          cases hb : innerB (t[j]'h) with
          | true => exact absurd ⟨h, hb⟩ hp
          | false => rfl
        · left; omega
      have HW : Hid (∀ (c : UInt8) (w : World), Calls Tryd.prog 65 #[.int .u8 (c.toNat : Int)] w fun e w' => e = .returned (.bool (innerB c)) ∧ w = w') := isWord_any
      clear hp
      have hb1 : w.heap.size < w1.heap.size := World.block_lt_of_cell? w1 _ H5'.out.c0
      have HK : Hid (Calls Tryd.prog 66 #[.string S] w1 fun e w' => e = .returned (.bool (kw S)) ∧ w' = w1) := keyword_r S w1 (HT.out.next HB0.out).kw
      have HC : Hid (Calls Tryd.prog 15 #[.string S] w1 fun e w' => e = .returned (.string S) ∧ Below w1.heap.size w1 w') := clone_any S w1 (by have := HSl.out; omega)
      by_cases hq : kw S = true
      · rw [if_pos hq] at HS
        rw [hq] at HK
        clear hq
        have HR : Hid (resV k (wordS (t.data.toList.drop k)) = .tuple #[.agg #[.int .i64 4, .int .i64 (k : Int), .int .i64 (j : Int), .string S, .int .i64 0], .int .i64 0]) := by
          rw [HS.out]
          simp only [resV, tkCells, ← HSl.out]
          rfl
        clear HS HSl
        rcases hcond with hend | ⟨hlt, hin⟩
        all_goals
          go_wp2_with (first
            | (go_at_call 66; refine HK.out.mono ?_; rintro e w2 ⟨rfl, hw2⟩; subst hw2)
            | (go_at_call 65; refine (HW.out _ _).mono ?_; rintro e w2 ⟨rfl, hw2⟩; subst hw2; rw [hin.out])
            | (go_at_call 15; refine HC.out.mono ?_; rintro e w3 ⟨rfl, hb3⟩; have F3 : Hid (Five w3 w.heap.size _ _ _ _ _) := H5'.out.below hb3 hb1; obtain ⟨c0, c1, c2, c3, c4, f⟩ := F3.out; have f0 := f 0 (by omega); have f1 := f 1 (by omega); have f2 := f 2 (by omega); have f3 := f 3 (by omega); have f4 := f 4 (by omega); clear f)
            | go_in)
          exact bodyPost_ret (ret5 (five_set F3.out _ _ _ _ _) rfl rfl) rfl ⟨congrArg Ending.returned HR.out.symm, below_set5 (HB0.out.trans (hb3.mono (by omega))) (Nat.le_refl _) _ _ _ _ _⟩
      · rw [if_neg hq] at HS
        rw [show kw S = false from by simpa using hq] at HK
        by_cases hz : 24 < S.size
        · rw [if_pos hz] at HS
          clear hq
          have HR : Hid (resV k (wordS (t.data.toList.drop k)) = .tuple #[.agg #[.int .i64 0, .int .i64 0, .int .i64 0, .string ⟨#[]⟩, .int .i64 0], .int .i64 23]) := by
            rw [HS.out]
            rfl
          clear HS HSl
          obtain ⟨c0, c1, c2, c3, c4, f⟩ := H5'.out
          have f0 := f 0 (by omega)
          have f1 := f 1 (by omega)
          have f2 := f 2 (by omega)
          have f3 := f 3 (by omega)
          have f4 := f 4 (by omega)
          clear f
          have hz' : (24 : Int) < (S.size : Int) := by omega
          rcases hcond with hend | ⟨hlt, hin⟩
          all_goals
            go_wp2_with (first
              | (go_at_call 66; refine HK.out.mono ?_; rintro e w2 ⟨rfl, hw2⟩; subst hw2)
              | (go_at_call 65; refine (HW.out _ _).mono ?_; rintro e w2 ⟨rfl, hw2⟩; subst hw2; rw [hin.out])
              | go_in)
            exact bodyPost_ret (ret5 (five_set H5'.out _ _ _ _ _) rfl rfl) rfl ⟨congrArg Ending.returned HR.out.symm, below_set5 HB0.out (Nat.le_refl _) _ _ _ _ _⟩
        · rw [if_neg hz] at HS
          have hz' : ¬ (24 : Int) < (S.size : Int) := by omega
          clear hq
          have HR : Hid (resV k (wordS (t.data.toList.drop k)) = .tuple #[.agg #[.int .i64 1, .int .i64 (k : Int), .int .i64 (j : Int), .string S, .int .i64 0], .int .i64 0]) := by
            rw [HS.out]
            simp only [resV, tkCells, ← HSl.out]
            rfl
          clear HS HSl
          rcases hcond with hend | ⟨hlt, hin⟩
          all_goals
            go_wp2_with (first
              | (go_at_call 66; refine HK.out.mono ?_; rintro e w2 ⟨rfl, hw2⟩; subst hw2)
              | (go_at_call 65; refine (HW.out _ _).mono ?_; rintro e w2 ⟨rfl, hw2⟩; subst hw2; rw [hin.out])
              | (go_at_call 15; refine HC.out.mono ?_; rintro e w3 ⟨rfl, hb3⟩; have F3 : Hid (Five w3 w.heap.size _ _ _ _ _) := H5'.out.below hb3 hb1; obtain ⟨c0, c1, c2, c3, c4, f⟩ := F3.out; have f0 := f 0 (by omega); have f1 := f 1 (by omega); have f2 := f 2 (by omega); have f3 := f 3 (by omega); have f4 := f 4 (by omega); clear f)
              | go_in)
            exact bodyPost_ret (ret5 (five_set F3.out _ _ _ _ _) rfl rfl) rfl ⟨congrArg Ending.returned HR.out.symm, below_set5 (HB0.out.trans (hb3.mono (by omega))) (Nat.le_refl _) _ _ _ _ _⟩
end Go.Proofs.YtichbejmelkjeaaDoor.Lx
