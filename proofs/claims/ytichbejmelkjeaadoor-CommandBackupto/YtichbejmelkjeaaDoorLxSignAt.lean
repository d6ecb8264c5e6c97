import Derived.Test.YtichbejmelkjeaaDoorLxFive
namespace Go.Proofs.YtichbejmelkjeaaDoor.Lx
open Go.RowKit

theorem sign_hit (l : List UInt8) (i : Nat) (hi : i < 25) (hn : ∀ j, j < i → (sgs.getD j ByteArray.empty).data.toList.isPrefixOf l = false) (h : (sgs.getD i ByteArray.empty).data.toList.isPrefixOf l = true) :
    signS l = .inr ⟨5, (sgs.getD i ByteArray.empty).size, (sgs.getD i ByteArray.empty).data.toList, 0⟩ := by
  have hl : i < sgs.length := hi
  have e : sgs.getD i ByteArray.empty = sgs[i] := by rw [List.getD_eq_getElem?_getD, List.getElem?_eq_getElem hl]; rfl
  have hf : sgs.find? (fun s => s.data.toList.isPrefixOf l) = some sgs[i] := by
    rw [List.find?_eq_some_iff_getElem]
    refine ⟨by rw [← e]; exact h, i, hl, rfl, fun j hj => ?_⟩
    have := hn j hj
    rw [List.getD_eq_getElem?_getD, List.getElem?_eq_getElem (by omega)] at this
    rw [Bool.not_eq_true']
    exact this
  unfold signS
  rw [hf, e]
theorem sign_miss (l : List UInt8) (hn : ∀ j, j < 25 → (sgs.getD j ByteArray.empty).data.toList.isPrefixOf l = false) : signS l = .inl 20 := by
  have hf : sgs.find? (fun s => s.data.toList.isPrefixOf l) = none := by
    rw [List.find?_eq_none]
    intro x hx
    obtain ⟨j, hj, rfl⟩ := List.getElem_of_mem hx
    have := hn j hj
    rw [List.getD_eq_getElem?_getD, List.getElem?_eq_getElem hj] at this
    rw [Bool.not_eq_true]
    exact this
  unfold signS
  rw [hf]
theorem sg_size (i : Nat) (hi : i < 25) : (sgs.getD i ByteArray.empty).size ≤ 2 := by
  have h : i = 0 ∨ i = 1 ∨ i = 2 ∨ i = 3 ∨ i = 4 ∨ i = 5 ∨ i = 6 ∨ i = 7 ∨ i = 8 ∨ i = 9 ∨ i = 10 ∨ i = 11 ∨ i = 12 ∨ i = 13 ∨ i = 14 ∨ i = 15 ∨ i = 16 ∨ i = 17 ∨ i = 18 ∨ i = 19 ∨ i = 20 ∨ i = 21 ∨ i = 22 ∨ i = 23 ∨ i = 24 := by omega
  rcases h with rfl | rfl | rfl | rfl | rfl | rfl | rfl | rfl | rfl | rfl | rfl | rfl | rfl | rfl | rfl | rfl | rfl | rfl | rfl | rfl | rfl | rfl | rfl | rfl | rfl
  all_goals decide

set_option maxRecDepth 100000 in
set_option maxHeartbeats 2000000 in
theorem signAt_any (t : ByteArray) (k : Nat) (w : World) (ht : t.size ≤ 140737488355328) (hk : k < t.size) (hT : Tabs w) :
    Calls Tryd.prog 63 #[.string t, .int .i64 (k : Int)] w fun e w' => e = .returned (resV k (signS (t.data.toList.drop k))) ∧ Below w.heap.size w w' := by
  have H5 := five_new w (.int .i64 0) (.int .i64 0) (.int .i64 0) (.string ⟨#[]⟩) (.int .i64 0) 89
  have H5' : Hid (Five (w.alloc (.cells #[.int .i64 0, .int .i64 0, .int .i64 0, .string ⟨#[]⟩, .int .i64 0] 89)) w.heap.size (.int .i64 0) (.int .i64 0) (.int .i64 0) (.string ⟨#[]⟩) (.int .i64 0)) := H5
  clear H5
  have HB0 : Hid (Below w.heap.size w (w.alloc (.cells #[.int .i64 0, .int .i64 0, .int .i64 0, .string ⟨#[]⟩, .int .i64 0] 89))) := (Below.refl _ w).alloc (Nat.le_refl _) _
  have HR0 : Hid ((w.alloc (.cells #[.int .i64 0, .int .i64 0, .int .i64 0, .string ⟨#[]⟩, .int .i64 0] 89)).rangeAt 5 0 sgCells) := (hT.next HB0.out).sg
  clear hT
  have c1 : (0 : Int) ≤ ↑k := by omega
  have c2 : (↑k : Int) ≤ ↑t.size := by omega
  have hx : (t.extract k t.size).data.toList = t.data.toList.drop k := by rw [Lib.extract_data, List.take_of_length_le (by rw [List.length_drop, ← Lib.size_eq]; omega)]
  have HX : Hid ((t.extract k t.size).data.toList = t.data.toList.drop k) := hx
  clear hx
  go_enter Tryd.func63, Tryd.ntmps63
  go_wp2_with (first | (refine wpList_load_mid (by rfl) 126 (.global 5) (by rfl) 5 0 (by rfl) sgCells _ HR0.out Tryd.underlying126 (by rfl) sgInfo ?_) | go_in)
  generalize hw1 : w.alloc (.cells #[.int .i64 0, .int .i64 0, .int .i64 0, .string ⟨#[]⟩, .int .i64 0] 89) = w1 at *
  clear HR0
  go_loop [9] (fun i => ∃ m : Nat, m ≤ 25 ∧ i = .int .i64 (m : Int) ∧ Hid (∀ j, j < m → (sgs.getD j ByteArray.empty).data.toList.isPrefixOf (t.data.toList.drop k) = false)) (fun i => 25 - (intOf i).toNat)
  case atStart => exact ⟨0, by omega, rfl, fun j hj => by omega⟩
  case round =>
    obtain ⟨m, hm, rfl, hn⟩ := hrel
    clear hw1
    have hb1 : w.heap.size < w1.heap.size := World.block_lt_of_cell? w1 _ H5'.out.c0
    by_cases hlt : m < 25
    · have hi := sg_idx m hlt
      unfold sgAgg at hi
      obtain ⟨x, hx⟩ : ∃ x, x = sgs.getD m ByteArray.empty := ⟨_, rfl⟩
      have hxs := sg_size m hlt
      rw [← hx] at hi hxs
      have HXm : Hid (x = sgs.getD m ByteArray.empty) := hx
      clear hx
      have HP := Tryd.strings_HasPrefix (t.extract k t.size) x w1
      rw [HX.out] at HP
      by_cases hp : x.data.toList.isPrefixOf (t.data.toList.drop k) = true
      · have hs := sign_hit (t.data.toList.drop k) m hlt hn.out (by rw [← HXm.out]; exact hp)
        rw [← HXm.out] at hs
        have HR : Hid (resV k (signS (t.data.toList.drop k)) = .tuple #[.agg #[.int .i64 5, .int .i64 (k : Int), .int .i64 ((k : Int) + (x.size : Int)), .string x, .int .i64 0], .int .i64 0]) := by
          rw [hs]
          rfl
        clear hs
        rw [show Lib.hasPrefix (t.data.toList.drop k) x.data.toList = true from hp] at HP
        have HP' : Hid (Calls Tryd.prog 69 #[.string (t.extract k t.size), .string x] w1 fun e w' => e = .returned (.bool true) ∧ w' = w1) := HP
        have HC : Hid (Calls Tryd.prog 15 #[.string x] w1 fun e w' => e = .returned (.string x) ∧ Below w1.heap.size w1 w') := clone_any x w1 (by omega)
        clear HP hp hn
        go_wp2_with (first
          | (go_at_call 69; refine HP'.out.mono ?_; rintro e w2 ⟨rfl, hw2⟩; subst hw2)
          | (go_at_call 15; refine HC.out.mono ?_; rintro e w3 ⟨rfl, hb3⟩; have F3 : Hid (Five w3 w.heap.size _ _ _ _ _) := H5'.out.below hb3 hb1; obtain ⟨c0, c1, c2, c3, c4, f⟩ := F3.out; have f0 := f 0 (by omega); have f1 := f 1 (by omega); have f2 := f 2 (by omega); have f3 := f 3 (by omega); have f4 := f 4 (by omega); clear f)
          | go_in)
        exact bodyPost_ret (ret5 (five_set F3.out _ _ _ _ _) rfl rfl) rfl ⟨congrArg Ending.returned HR.out.symm, below_set5 (HB0.out.trans (hb3.mono (by omega))) (Nat.le_refl _) _ _ _ _ _⟩
      · have hpf : x.data.toList.isPrefixOf (t.data.toList.drop k) = false := Bool.eq_false_iff.2 hp
        rw [show Lib.hasPrefix (t.data.toList.drop k) x.data.toList = false from hpf] at HP
        have HP' : Hid (Calls Tryd.prog 69 #[.string (t.extract k t.size), .string x] w1 fun e w' => e = .returned (.bool false) ∧ w' = w1) := HP
        have HN : Hid (∀ j, j < m + 1 → (sgs.getD j ByteArray.empty).data.toList.isPrefixOf (t.data.toList.drop k) = false) := by
          intro j hj
          by_cases hjm : j < m
          · exact hn.out j hjm
          · obtain rfl : j = m := by omega
            rw [← HXm.out]
            exact hpf
        clear HP hp hpf hn
        go_wp2_with (first
          | (go_at_call 69; refine HP'.out.mono ?_; rintro e w2 ⟨rfl, hw2⟩; subst hw2)
          | go_in)
        exact ⟨⟨m + 1, by omega, by go_num, HN⟩, by simp [intOf]; omega⟩
    · obtain rfl : m = 25 := by omega
      have hs := sign_miss (t.data.toList.drop k) hn.out
      have HR : Hid (resV k (signS (t.data.toList.drop k)) = .tuple #[.agg #[.int .i64 0, .int .i64 0, .int .i64 0, .string ⟨#[]⟩, .int .i64 0], .int .i64 20]) := by
        rw [hs]
        rfl
      clear hs hn
      obtain ⟨c0, c1, c2, c3, c4, f⟩ := H5'.out
      have f0 := f 0 (by omega)
      have f1 := f 1 (by omega)
      have f2 := f 2 (by omega)
      have f3 := f 3 (by omega)
      have f4 := f 4 (by omega)
      clear f
      go_wp2
      exact bodyPost_ret (ret5 (five_set H5'.out _ _ _ _ _) rfl rfl) rfl ⟨congrArg Ending.returned HR.out.symm, below_set5 HB0.out (Nat.le_refl _) _ _ _ _ _⟩
end Go.Proofs.YtichbejmelkjeaaDoor.Lx
