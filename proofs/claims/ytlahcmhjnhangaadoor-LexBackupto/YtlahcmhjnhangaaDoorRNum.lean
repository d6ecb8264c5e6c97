import Derived.Test.YtlahcmhjnhangaaDoorNumMath
import Derived.Test.YtlahcmhjnhangaaDoorRWord
namespace Go.Proofs.YtlahcmhjnhangaaDoor
open Go.RowKit

theorem tw_le_dv (L : List UInt8) (k j : Nat) (h : (L.drop k).takeWhile digitB = (L.drop k).take (j - k) ++ (L.drop j).takeWhile digitB) (acc : Nat) (ha : dv 0 ((L.drop k).take (j - k)) = acc) (m : Nat) (hm : m ≤ dv acc ((L.drop j).takeWhile digitB)) : m ≤ dv 0 ((L.drop k).takeWhile digitB) := by
  rw [h, dv_app, ha]
  exact hm

set_option maxRecDepth 100000 in
set_option maxHeartbeats 4000000 in
theorem refNum_any (t : ByteArray) (k : Nat) (w : World) (ht : t.size ≤ 140737488355328) (hk : k < t.size) (hd0 : digitB (t[k]'hk) = true) :
    Calls Tryd.prog 43 #[.string t, .int .i64 (k : Int)] w fun e w' => e = .returned (resV k (numS (t.data.toList.drop k))) ∧ Below w.heap.size w w' := by
  have HD0 : Hid (digitB (t[k]'hk) = true) := hd0
  clear hd0
  have H5 := five_new w (.int .i64 0) (.int .i64 0) (.int .i64 0) (.string ⟨#[]⟩) (.int .i64 0) 35
  have H5' : Hid (Five (w.alloc (.cells #[.int .i64 0, .int .i64 0, .int .i64 0, .string ⟨#[]⟩, .int .i64 0] 35)) w.heap.size (.int .i64 0) (.int .i64 0) (.int .i64 0) (.string ⟨#[]⟩) (.int .i64 0)) := H5
  clear H5
  have HB0 : Hid (Below w.heap.size w (w.alloc (.cells #[.int .i64 0, .int .i64 0, .int .i64 0, .string ⟨#[]⟩, .int .i64 0] 35))) := (Below.refl _ w).alloc (Nat.le_refl _) _
  go_enter Tryd.func43, Tryd.ntmps43
  go_wp2
  generalize hw1 : w.alloc (.cells #[.int .i64 0, .int .i64 0, .int .i64 0, .string ⟨#[]⟩, .int .i64 0] 35) = w1 at *
  clear hw1
  go_loop [6, 7] (fun i n => ∃ j acc : Nat, k ≤ j ∧ j ≤ t.size ∧ i = .int .i64 (j : Int) ∧ n = .int .i64 (acc : Int) ∧ acc ≤ 9223372036854775807 ∧ Hid ((t.data.toList.drop k).takeWhile digitB = (t.data.toList.drop k).take (j - k) ++ (t.data.toList.drop j).takeWhile digitB) ∧ Hid (dv 0 ((t.data.toList.drop k).take (j - k)) = acc)) (fun i _ => t.size - (intOf i).toNat)
  case atStart => exact ⟨k, 0, Nat.le_refl _, by omega, rfl, rfl, by omega, by simp [Hid], by simp [Hid, dv_nil]⟩
  case round =>
    obtain ⟨j, acc, hkj, hj, rfl, rfl, hacc, htw, hdv⟩ := hrel
    obtain ⟨c0, c1, c2, c3, c4, f⟩ := H5'.out
    have f0 := f 0 (by omega)
    have f1 := f 1 (by omega)
    have f2 := f 2 (by omega)
    have f3 := f 3 (by omega)
    have f4 := f 4 (by omega)
    clear f
    by_cases hp : ∃ h : j < t.size, digitB (t[j]'h) = true
    · obtain ⟨hlt, hp⟩ := hp
      have hst := tw_step digitB t.data.toList k j hkj (by rw [← Lib.size_eq]; exact hlt) (by rw [byte_at' t j hlt]; exact hp) htw.out
      have HST : Hid ((t.data.toList.drop k).takeWhile digitB = (t.data.toList.drop k).take (j + 1 - k) ++ (t.data.toList.drop (j + 1)).takeWhile digitB) := hst
      obtain ⟨c, hc⟩ : ∃ c, t[j]'hlt = c := ⟨_, rfl⟩
      rw [hc] at hp
      have hsn : (t.data.toList.drop k).take (j + 1 - k) = (t.data.toList.drop k).take (j - k) ++ [c] := by
        rw [show j + 1 - k = (j - k) + 1 from by omega, List.take_succ_eq_append_getElem (by rw [List.length_drop, ← Lib.size_eq]; omega), List.getElem_drop]
        congr 2
        have e : k + (j - k) = j := by omega
        simp only [e]
        rw [byte_at' t j hlt, hc]
      have hdn : dv 0 ((t.data.toList.drop k).take (j + 1 - k)) = acc * 10 + (c.toNat - 48) := by rw [hsn, dv_snoc, hdv.out]
      have hcd : 48 ≤ c.toNat ∧ c.toNat ≤ 57 := by
        have := hp
        simp [digitB] at this
        omega
      have HW := refDigit_any c w1
      rw [hp] at HW
      have HW' : Hid (Calls Tryd.prog 42 #[.int .u8 (c.toNat : Int)] w1 fun e w' => e = .returned (.bool true) ∧ w1 = w') := HW
      have q1 : (48 : Int) ≤ (c.toNat : Int) := by omega
      have q2 : (c.toNat : Int) ≤ 57 := by omega
      by_cases hov : 9223372036854775807 < acc * 10 + (c.toNat - 48)
      · have hbig : numS (t.data.toList.drop k) = .inl 21 := num_big _ (tw_le_dv _ k (j + 1) hst _ hdn _ (Nat.le_trans (by omega) (dv_le _ _)))
        have HR : Hid (resV k (numS (t.data.toList.drop k)) = .tuple #[.agg #[.int .i64 0, .int .i64 0, .int .i64 0, .string ⟨#[]⟩, .int .i64 0], .int .i64 21]) := by
          rw [hbig]
          rfl
        have hgt : (9223372036854775807 - ((c.toNat : Int) - 48)) / 10 < (acc : Int) := by omega
        clear HW hp hst HST hsn hdn hcd hbig htw hdv hov
        go_wp2_with (first
          | (go_at_call 42; refine HW'.out.mono ?_; rintro e _ ⟨rfl, rfl⟩)
          | go_in)
        exact bodyPost_ret (ret5 (five_set H5'.out _ _ _ _ _) rfl rfl) rfl ⟨congrArg Ending.returned HR.out.symm, below_set5 HB0.out (Nat.le_refl _) _ _ _ _ _⟩
      · have hgt : ¬ (9223372036854775807 - ((c.toNat : Int) - 48)) / 10 < (acc : Int) := by omega
        have hno : 10 * (acc : Int) + ((c.toNat : Int) - 48) ≤ 9223372036854775807 := by omega
        have HDN : Hid (dv 0 ((t.data.toList.drop k).take (j + 1 - k)) = acc * 10 + (c.toNat - 48)) := hdn
        clear HW hp hst hsn hdn htw hdv c0 c1 c2 c3 c4 f0 f1 f2 f3 f4
        go_wp2_with (first
          | (go_at_call 42; refine HW'.out.mono ?_; rintro e _ ⟨rfl, rfl⟩)
          | go_in)
        exact ⟨⟨j + 1, acc * 10 + (c.toNat - 48), by omega, by omega, by go_num, by (first | go_num | (congr 1; omega)), by omega, HST, HDN⟩, by simp [intOf]; omega⟩
    · have htk := tw_stop digitB t.data.toList k j (fun h => by
        have h' : j < t.size := by rw [Lib.size_eq]; exact h
        rw [byte_at' t j h']
        cases hb : digitB (t[j]'h') with
        | true => exact absurd ⟨h', hb⟩ hp
        | false => rfl) htw.out
      have hjk : k < j := by
        rcases Nat.lt_or_ge k j with h | h
        · exact h
        · obtain rfl : k = j := by omega
          exact absurd ⟨hk, HD0.out⟩ hp
      have hlenD : ((t.data.toList.drop k).takeWhile digitB).length = j - k := by
        rw [htk, List.length_take, List.length_drop, ← Lib.size_eq]
        omega
      have hne : (t.data.toList.drop k).takeWhile digitB ≠ [] := fun e => by rw [e] at hlenD; simp at hlenD; omega
      have hdvD : dv 0 ((t.data.toList.drop k).takeWhile digitB) = acc := by rw [htk]; exact hdv.out
      have hsm := num_small (t.data.toList.drop k) hne (by rw [hdvD]; omega)
      rw [hdvD, hlenD, List.drop_drop, show k + (j - k) = j from by omega] at hsm
      have hhead : ((t.data.toList.drop k).takeWhile digitB).head? = some (t[k]'hk) := by
        rw [drop_at t k hk, List.takeWhile_cons, if_pos HD0.out]
        rfl
      rw [hhead] at hsm
      obtain ⟨ck, hck⟩ : ∃ ck, t[k]'hk = ck := ⟨_, rfl⟩
      rw [hck] at hsm
      clear htw hdv htk hlenD hne hdvD hhead
      have HDg : Hid (∀ (c : UInt8) (w : World), Calls Tryd.prog 42 #[.int .u8 (c.toNat : Int)] w fun e w' => e = .returned (.bool (digitB c)) ∧ w = w') := refDigit_any
      have HWg : Hid (∀ (c : UInt8) (w : World), Calls Tryd.prog 52 #[.int .u8 (c.toNat : Int)] w fun e w' => e = .returned (.bool (innerB c)) ∧ w = w') := refInner_any
      have hcond : (t.size = j ∧ (t.data.toList.drop j).head?.any innerB = false) ∨ ∃ h : j < t.size, Hid (digitB (t[j]'h) = false) ∧ (t.data.toList.drop j).head?.any innerB = innerB (t[j]'h) := by
        by_cases h : j < t.size
        · right
          refine ⟨h, ?_, by rw [drop_at t j h]; rfl⟩
          cases hb : digitB (t[j]'h) with
          | true => exact absurd ⟨h, hb⟩ hp
          | false => rfl
        · left
          exact ⟨by omega, by rw [List.drop_eq_nil_of_le (by rw [← Lib.size_eq]; omega)]; rfl⟩
      clear hp
      have k0 : (0 : Int) ≤ (k : Int) := by omega
      have k1 : (k : Int) < (t.size : Int) := by omega
      by_cases h1 : 1 < j - k ∧ some ck = some (48 : UInt8)
      · rw [if_pos h1] at hsm
        have HR : Hid (resV k (numS (t.data.toList.drop k)) = .tuple #[.agg #[.int .i64 0, .int .i64 0, .int .i64 0, .string ⟨#[]⟩, .int .i64 0], .int .i64 21]) := by
          rw [hsm]
          rfl
        have e48 : ck = 48 := Option.some.inj h1.2
        subst e48
        have z1 : (1 : Int) < (j : Int) - (k : Int) := by omega
        clear hsm h1
        rcases hcond with ⟨hend, _⟩ | ⟨hlt, hin, _⟩
        · go_wp2
          exact bodyPost_ret (ret5 (five_set H5'.out _ _ _ _ _) rfl rfl) rfl ⟨congrArg Ending.returned HR.out.symm, below_set5 HB0.out (Nat.le_refl _) _ _ _ _ _⟩
        · go_wp2_with (first
            | (go_at_call 42; refine (HDg.out _ _).mono ?_; rintro e w2 ⟨rfl, hw2⟩; subst hw2; rw [hin.out])
            | go_in)
          exact bodyPost_ret (ret5 (five_set H5'.out _ _ _ _ _) rfl rfl) rfl ⟨congrArg Ending.returned HR.out.symm, below_set5 HB0.out (Nat.le_refl _) _ _ _ _ _⟩
      · rw [if_neg h1] at hsm
        have hfirst : ¬ (1 : Int) < (j : Int) - (k : Int) ∨ ((1 : Int) < (j : Int) - (k : Int) ∧ ((ck.toNat : Int) == 48) = false) := by
          by_cases hz : 1 < j - k
          · right
            refine ⟨by omega, ?_⟩
            rw [beq_eq_false_iff_ne]
            intro e
            exact h1 ⟨hz, by congr 1; exact UInt8.toNat_inj.1 (by show ck.toNat = 48; omega)⟩
          · left; omega
        clear h1
        rcases hcond with ⟨hend, hh⟩ | ⟨hlt, hin, hh⟩
        · rw [hh, if_neg (by simp)] at hsm
          have HR : Hid (resV k (numS (t.data.toList.drop k)) = .tuple #[.agg #[.int .i64 2, .int .i64 (k : Int), .int .i64 (j : Int), .string ⟨#[]⟩, .int .i64 (acc : Int)], .int .i64 0]) := by
            rw [hsm]
            simp only [resV, tkCells]
            rw [show (k : Int) + ((j - k : Nat) : Int) = (j : Int) from by omega]
            rfl
          clear hsm hh
          rcases hfirst with z1 | ⟨z1, z2⟩
          all_goals
            go_wp2
            exact bodyPost_ret (ret5 (five_set H5'.out _ _ _ _ _) rfl rfl) rfl ⟨congrArg Ending.returned HR.out.symm, below_set5 HB0.out (Nat.le_refl _) _ _ _ _ _⟩
        · rw [hh] at hsm
          by_cases hn : innerB (t[j]'hlt) = true
          · rw [if_pos hn] at hsm
            have HR : Hid (resV k (numS (t.data.toList.drop k)) = .tuple #[.agg #[.int .i64 0, .int .i64 0, .int .i64 0, .string ⟨#[]⟩, .int .i64 0], .int .i64 21]) := by
              rw [hsm]
              rfl
            have hnx : Hid (innerB (t[j]'hlt) = true) := hn
            clear hsm hh hn
            rcases hfirst with z1 | ⟨z1, z2⟩
            all_goals
              go_wp2_with (first
                | (go_at_call 42; refine (HDg.out _ _).mono ?_; rintro e w2 ⟨rfl, hw2⟩; subst hw2; rw [hin.out])
                | (go_at_call 52; refine (HWg.out _ _).mono ?_; rintro e w2 ⟨rfl, hw2⟩; subst hw2; rw [hnx.out])
                | go_in)
              exact bodyPost_ret (ret5 (five_set H5'.out _ _ _ _ _) rfl rfl) rfl ⟨congrArg Ending.returned HR.out.symm, below_set5 HB0.out (Nat.le_refl _) _ _ _ _ _⟩
          · have hn2 : innerB (t[j]'hlt) = false := by simpa using hn
            rw [if_neg hn] at hsm
            have HR : Hid (resV k (numS (t.data.toList.drop k)) = .tuple #[.agg #[.int .i64 2, .int .i64 (k : Int), .int .i64 (j : Int), .string ⟨#[]⟩, .int .i64 (acc : Int)], .int .i64 0]) := by
              rw [hsm]
              simp only [resV, tkCells]
              rw [show (k : Int) + ((j - k : Nat) : Int) = (j : Int) from by omega]
              rfl
            have hnx : Hid (innerB (t[j]'hlt) = false) := hn2
            clear hsm hh hn hn2
            rcases hfirst with z1 | ⟨z1, z2⟩
            all_goals
              go_wp2_with (first
                | (go_at_call 42; refine (HDg.out _ _).mono ?_; rintro e w2 ⟨rfl, hw2⟩; subst hw2; rw [hin.out])
                | (go_at_call 52; refine (HWg.out _ _).mono ?_; rintro e w2 ⟨rfl, hw2⟩; subst hw2; rw [hnx.out])
                | go_in)
              exact bodyPost_ret (ret5 (five_set H5'.out _ _ _ _ _) rfl rfl) rfl ⟨congrArg Ending.returned HR.out.symm, below_set5 HB0.out (Nat.le_refl _) _ _ _ _ _⟩
end Go.Proofs.YtlahcmhjnhangaaDoor
