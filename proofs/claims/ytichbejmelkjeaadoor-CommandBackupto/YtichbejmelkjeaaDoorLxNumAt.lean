import Derived.Test.YtichbejmelkjeaaDoorLxFive
namespace Go.Proofs.YtichbejmelkjeaaDoor.Lx
open Go.RowKit

theorem byte_at' (t : ByteArray) (j : Nat) (h : j < t.size) (h' : j < t.data.toList.length) : t.data.toList[j]'h' = t[j]'h := by
  rw [Array.getElem_toList]; rfl
theorem drop_at (t : ByteArray) (j : Nat) (h : j < t.size) : t.data.toList.drop j = t[j]'h :: t.data.toList.drop (j + 1) := by
  rw [List.drop_eq_getElem_cons (by rw [← Lib.size_eq]; exact h), byte_at' t j h]

/-- strconv.ParseInt of digits: a number, or an error that is not nil. -/
theorem parse_any (S : ByteArray) (w : World) (hs : S.size ≤ 281474976710656) (hT : Tabs w) :
    (∃ v, Lib.parseIntB 64 S.data.toList = .ok v ∧ Calls Tryd.prog 67 #[.string S, .int .i64 10, .int .i64 64] w fun e w' => e = .returned (.tuple #[.int .i64 v, .nilIface]) ∧ Below w.heap.size w w') ∨
    ((∀ v, Lib.parseIntB 64 S.data.toList ≠ .ok v) ∧ ∃ u, Calls Tryd.prog 67 #[.string S, .int .i64 10, .int .i64 64] w fun e w' => ∃ N, e = .returned (.tuple #[.int .i64 u, .iface 132 (.pointer (some ⟨N, 0, none⟩))]) ∧ Below w.heap.size w w') := by
  cases h : Lib.parseIntB 64 S.data.toList with
  | ok v =>
    left
    refine ⟨v, rfl, (Tryd.strconv_ParseInt_10_at64_ok S (by omega) v h w).mono ?_⟩
    rintro e w' ⟨rfl, rfl | ⟨t, rfl⟩⟩
    · exact ⟨rfl, Below.refl _ _⟩
    · exact ⟨rfl, ⟨rfl, rfl, rfl, by rw [Lib.bytesWorld_size]; omega, fun k hk => Lib.bytesWorld_at_old w 5 t k hk⟩⟩
  | «syntax» =>
    right
    obtain ⟨te, pe, h6⟩ := hT.e6
    refine ⟨fun v hv => by (first | cases hv | simp at hv), 0, (Tryd.strconv_ParseInt_10_at64_syntax S hs h _ w h6 (Or.inr ⟨te, pe, rfl⟩)).mono ?_⟩
    rintro e w' ⟨N, rfl, _, _, hb⟩
    exact ⟨N, rfl, hb⟩
  | range =>
    right
    obtain ⟨te, pe, h7⟩ := hT.e7
    refine ⟨fun v hv => by (first | cases hv | simp at hv), Lib.intSat 64 S.data.toList, (Tryd.strconv_ParseInt_10_at64_range S hs h _ w h7 (Or.inr ⟨te, pe, rfl⟩)).mono ?_⟩
    rintro e w' ⟨N, rfl, _, _, hb⟩
    exact ⟨N, rfl, hb⟩

/-- What the digits S make, with what stands behind them. -/
def numE (S : ByteArray) (nx : Bool) : TkR :=
  if (1 < S.size ∧ S.data.toList.head? = some 48) ∨ 19 < S.size then .inl 21 else if nx = true then .inl 21 else match Lib.parseIntB 64 S.data.toList with
    | .ok v => .inr ⟨2, S.size, [], v⟩
    | _ => .inl 21

theorem numS_eq {l : List UInt8} {S : ByteArray} (h : S.data.toList = l.takeWhile digitB) : numS l = numE S ((l.drop S.size).head?.any innerB) := by
  unfold numS numE
  simp only [← h, ← Lib.size_eq]
  rfl

set_option maxRecDepth 100000 in
set_option maxHeartbeats 4000000 in
theorem numAt_any (t : ByteArray) (k : Nat) (w : World) (ht : t.size ≤ 140737488355328) (hk : k < t.size) (hT : Tabs w) :
    Calls Tryd.prog 61 #[.string t, .int .i64 (k : Int)] w fun e w' => e = .returned (resV k (numS (t.data.toList.drop k))) ∧ Below w.heap.size w w' := by
  have HT : Hid (Tabs w) := hT
  clear hT
  have H5 := five_new w (.int .i64 0) (.int .i64 0) (.int .i64 0) (.string ⟨#[]⟩) (.int .i64 0) 89
  have H5' : Hid (Five (w.alloc (.cells #[.int .i64 0, .int .i64 0, .int .i64 0, .string ⟨#[]⟩, .int .i64 0] 89)) w.heap.size (.int .i64 0) (.int .i64 0) (.int .i64 0) (.string ⟨#[]⟩) (.int .i64 0)) := H5
  clear H5
  have HB0 : Hid (Below w.heap.size w (w.alloc (.cells #[.int .i64 0, .int .i64 0, .int .i64 0, .string ⟨#[]⟩, .int .i64 0] 89))) := (Below.refl _ w).alloc (Nat.le_refl _) _
  go_enter Tryd.func61, Tryd.ntmps61
  go_wp2
  generalize hw1 : w.alloc (.cells #[.int .i64 0, .int .i64 0, .int .i64 0, .string ⟨#[]⟩, .int .i64 0] 89) = w1 at *
  go_loop [6] (fun i => ∃ j : Nat, k ≤ j ∧ j ≤ t.size ∧ i = .int .i64 (j : Int) ∧ Hid ((t.data.toList.drop k).takeWhile digitB = (t.data.toList.drop k).take (j - k) ++ (t.data.toList.drop j).takeWhile digitB)) (fun i => t.size - (intOf i).toNat)
  case atStart => exact ⟨k, Nat.le_refl _, by omega, rfl, by simp [Hid]⟩
  case round =>
    obtain ⟨j, hkj, hj, rfl, htw⟩ := hrel
    clear hw1
    by_cases hp : ∃ h : j < t.size, digitB (t[j]'h) = true
    · obtain ⟨hlt, hp⟩ := hp
      have hst := tw_step digitB t.data.toList k j hkj (by rw [← Lib.size_eq]; exact hlt) (by rw [byte_at' t j hlt]; exact hp) htw.out
      have HST : Hid ((t.data.toList.drop k).takeWhile digitB = (t.data.toList.drop k).take (j + 1 - k) ++ (t.data.toList.drop (j + 1)).takeWhile digitB) := hst
      clear hst htw
      obtain ⟨c, hc⟩ : ∃ c, t[j]'hlt = c := ⟨_, rfl⟩
      rw [hc] at hp
      have HW := isDigit_any c w1
      rw [hp] at HW
      have HW' : Hid (Calls Tryd.prog 60 #[.int .u8 (c.toNat : Int)] w1 fun e w' => e = .returned (.bool true) ∧ w1 = w') := HW
      clear HW hp
      go_wp2_with (first
        | (go_at_call 60; refine HW'.out.mono ?_; rintro e _ ⟨rfl, rfl⟩)
        | go_in)
      exact ⟨⟨j + 1, by omega, by omega, by go_num, HST⟩, by simp [intOf]; omega⟩
    · have htk := tw_stop digitB t.data.toList k j (fun h => by
        have h' : j < t.size := by rw [Lib.size_eq]; exact h
        rw [byte_at' t j h']
        cases hb : digitB (t[j]'h') with
        | true => exact absurd ⟨h', hb⟩ hp
        | false => rfl) htw.out
      obtain ⟨S, hS⟩ : ∃ S, t.extract k j = S := ⟨_, rfl⟩
      have hSd : S.data.toList = (t.data.toList.drop k).takeWhile digitB := by rw [← hS, Lib.extract_data, htk]
      have hSl : k + S.size = j := by
        rw [Lib.size_eq, ← hS, Lib.extract_data, List.length_take, List.length_drop, ← Lib.size_eq]
        omega
      have hnS := numS_eq hSd
      rw [List.drop_drop, hSl] at hnS
      have HSl : Hid (k + S.size = j) := hSl
      clear hSd htk htw hSl
      have k0 : (0 : Int) ≤ ↑k := by omega
      have k1 : (k : Int) ≤ ↑j := by omega
      have j1 : (j : Int) ≤ ↑t.size := by omega
      have hcond : (t.size = j ∧ numS (t.data.toList.drop k) = numE S false) ∨ ∃ h : j < t.size, Hid (digitB (t[j]'h) = false) ∧ numS (t.data.toList.drop k) = numE S (innerB (t[j]'h)) := by
        by_cases h : j < t.size
        · right
          refine ⟨h, ?_, ?_⟩
          · cases hb : digitB (t[j]'h) with
            | true => exact absurd ⟨h, hb⟩ hp
            | false => rfl
          · rw [hnS, drop_at t j h]
            rfl
        · left
          refine ⟨by omega, ?_⟩
          rw [hnS, List.drop_eq_nil_of_le (by rw [← Lib.size_eq]; omega)]
          rfl
      have HD : Hid (∀ (c : UInt8) (w : World), Calls Tryd.prog 60 #[.int .u8 (c.toNat : Int)] w fun e w' => e = .returned (.bool (digitB c)) ∧ w = w') := isDigit_any
      have HW : Hid (∀ (c : UInt8) (w : World), Calls Tryd.prog 65 #[.int .u8 (c.toNat : Int)] w fun e w' => e = .returned (.bool (innerB c)) ∧ w = w') := isWord_any
      clear hp hnS
      have hb1 : w.heap.size < w1.heap.size := World.block_lt_of_cell? w1 _ H5'.out.c0
      have HP := parse_any S w1 (by have := HSl.out; omega) (HT.out.next HB0.out)
      by_cases h1 : 1 < S.size ∧ S.data.toList.head? = some 48
      · have HS : Hid (numS (t.data.toList.drop k) = .inl 21) := by
          show numS (t.data.toList.drop k) = .inl 21
          have e : ∀ b, numE S b = .inl 21 := fun b => by unfold numE; rw [if_pos (Or.inl h1)]
          rcases hcond with ⟨_, h⟩ | ⟨_, _, h⟩ <;> rw [h, e]
        have z1 : (1 : Int) < (S.size : Int) := by omega
        have z0 : 0 < S.size := by omega
        have hs0 : S[0]'z0 = 48 := by
          have := h1.2
          rw [List.head?_eq_getElem?, List.getElem?_eq_getElem (by rw [← Lib.size_eq]; exact z0), byte_at' S 0 z0] at this
          exact Option.some.inj this
        clear h1 HP
        rcases hcond with ⟨hend, hx⟩ | ⟨hlt, hin, hx⟩
        all_goals
          clear hx
          have HR : Hid (resV k (numS (t.data.toList.drop k)) = .tuple #[.agg #[.int .i64 0, .int .i64 0, .int .i64 0, .string ⟨#[]⟩, .int .i64 0], .int .i64 21]) := by
            rw [HS.out]
            rfl
          clear HS HSl
          obtain ⟨c0, c1, c2, c3, c4, f⟩ := H5'.out
          have f0 := f 0 (by omega)
          have f1 := f 1 (by omega)
          have f2 := f 2 (by omega)
          have f3 := f 3 (by omega)
          have f4 := f 4 (by omega)
          clear f
          go_wp2_with (first
            | (go_at_call 60; refine (HD.out _ _).mono ?_; rintro e w2 ⟨rfl, hw2⟩; subst hw2; rw [hin.out])
            | go_in)
          exact bodyPost_ret (ret5 (five_set H5'.out _ _ _ _ _) rfl rfl) rfl ⟨congrArg Ending.returned HR.out.symm, below_set5 HB0.out (Nat.le_refl _) _ _ _ _ _⟩
      · have hfirst : ¬ (1 : Int) < (S.size : Int) ∨ ∃ (h : 0 < S.size), (1 : Int) < (S.size : Int) ∧ (((S[0]'h).toNat : Int) == 48) = false := by
          by_cases hz : 1 < S.size
          · right
            have z0 : 0 < S.size := by omega
            refine ⟨z0, by omega, ?_⟩
            rw [beq_eq_false_iff_ne]
            intro e
            apply h1
            refine ⟨hz, ?_⟩
            rw [List.head?_eq_getElem?, List.getElem?_eq_getElem (by rw [← Lib.size_eq]; exact z0), byte_at' S 0 z0]
            congr 1
            exact UInt8.toNat_inj.1 (by show _ = 48; omega)
          · left; omega
        by_cases h2 : 19 < S.size
        · have HS : Hid (numS (t.data.toList.drop k) = .inl 21) := by
            show numS (t.data.toList.drop k) = .inl 21
            have e : ∀ b, numE S b = .inl 21 := fun b => by unfold numE; rw [if_pos (Or.inr h2)]
            rcases hcond with ⟨_, h⟩ | ⟨_, _, h⟩ <;> rw [h, e]
          have z19 : (19 : Int) < (S.size : Int) := by omega
          clear h1 HP h2
          rcases hcond with ⟨hend, hx⟩ | ⟨hlt, hin, hx⟩
          · clear hx
            have HR : Hid (resV k (numS (t.data.toList.drop k)) = .tuple #[.agg #[.int .i64 0, .int .i64 0, .int .i64 0, .string ⟨#[]⟩, .int .i64 0], .int .i64 21]) := by
              rw [HS.out]
              rfl
            clear HS HSl
            obtain ⟨c0, c1, c2, c3, c4, f⟩ := H5'.out
            have f0 := f 0 (by omega)
            have f1 := f 1 (by omega)
            have f2 := f 2 (by omega)
            have f3 := f 3 (by omega)
            have f4 := f 4 (by omega)
            clear f
            rcases hfirst with z1 | ⟨z0, z1, hs0⟩
            · omega
            all_goals
              go_wp2_with (first
                | go_in)
              exact bodyPost_ret (ret5 (five_set H5'.out _ _ _ _ _) rfl rfl) rfl ⟨congrArg Ending.returned HR.out.symm, below_set5 HB0.out (Nat.le_refl _) _ _ _ _ _⟩
          · clear hx
            have HR : Hid (resV k (numS (t.data.toList.drop k)) = .tuple #[.agg #[.int .i64 0, .int .i64 0, .int .i64 0, .string ⟨#[]⟩, .int .i64 0], .int .i64 21]) := by
              rw [HS.out]
              rfl
            clear HS HSl
            obtain ⟨c0, c1, c2, c3, c4, f⟩ := H5'.out
            have f0 := f 0 (by omega)
            have f1 := f 1 (by omega)
            have f2 := f 2 (by omega)
            have f3 := f 3 (by omega)
            have f4 := f 4 (by omega)
            clear f
            rcases hfirst with z1 | ⟨z0, z1, hs0⟩
            · omega
            all_goals
              go_wp2_with (first
                | (go_at_call 60; refine (HD.out _ _).mono ?_; rintro e w2 ⟨rfl, hw2⟩; subst hw2; rw [hin.out])
                | go_in)
              exact bodyPost_ret (ret5 (five_set H5'.out _ _ _ _ _) rfl rfl) rfl ⟨congrArg Ending.returned HR.out.symm, below_set5 HB0.out (Nat.le_refl _) _ _ _ _ _⟩
        · have z19 : ¬ (19 : Int) < (S.size : Int) := by omega
          have h12 : ¬ ((1 < S.size ∧ S.data.toList.head? = some 48) ∨ 19 < S.size) := fun h => h.elim h1 h2
          rcases hcond with ⟨hend, hx⟩ | ⟨hlt, hin, hx⟩
          · rcases HP with ⟨v, hv, HQ0⟩ | ⟨hv, u, HQ0⟩
            · have HQ : Hid (Calls Tryd.prog 67 #[.string S, .int .i64 10, .int .i64 64] w1 fun e w' => e = .returned (.tuple #[.int .i64 v, .nilIface]) ∧ Below w1.heap.size w1 w') := HQ0
              have HR : Hid (resV k (numS (t.data.toList.drop k)) = .tuple #[.agg #[.int .i64 2, .int .i64 (k : Int), .int .i64 (j : Int), .string ⟨#[]⟩, .int .i64 v], .int .i64 0]) := by
                show resV k (numS (t.data.toList.drop k)) = _
                rw [hx, show numE S false = .inr ⟨2, S.size, [], v⟩ from by unfold numE; rw [if_neg h12, if_neg (by simp), hv]]
                simp only [resV, tkCells, ← HSl.out]
                rfl
              clear HQ0 hx hv h1 h2 h12 HSl
              rcases hfirst with z1 | ⟨z0, z1, hs0⟩
              all_goals
                go_wp2_with (first
                  | (go_at_call 67; refine HQ.out.mono ?_; rintro e w3 ⟨rfl, hb3⟩; have F3 : Hid (Five w3 w.heap.size _ _ _ _ _) := H5'.out.below hb3 hb1; obtain ⟨c0, c1, c2, c3, c4, f⟩ := F3.out; have f0 := f 0 (by omega); have f1 := f 1 (by omega); have f2 := f 2 (by omega); have f3 := f 3 (by omega); have f4 := f 4 (by omega); clear f)
                  | go_in)
                exact bodyPost_ret (ret5 (five_set F3.out _ _ _ _ _) rfl rfl) rfl ⟨congrArg Ending.returned HR.out.symm, below_set5 (HB0.out.trans (hb3.mono (by omega))) (Nat.le_refl _) _ _ _ _ _⟩
            · have HQ : Hid (Calls Tryd.prog 67 #[.string S, .int .i64 10, .int .i64 64] w1 fun e w' => ∃ N, e = .returned (.tuple #[.int .i64 u, .iface 132 (.pointer (some ⟨N, 0, none⟩))]) ∧ Below w1.heap.size w1 w') := HQ0
              have HR : Hid (resV k (numS (t.data.toList.drop k)) = .tuple #[.agg #[.int .i64 0, .int .i64 0, .int .i64 0, .string ⟨#[]⟩, .int .i64 0], .int .i64 21]) := by
                show resV k (numS (t.data.toList.drop k)) = _
                rw [hx, show numE S false = .inl 21 from by
                  unfold numE
                  rw [if_neg h12, if_neg (by simp)]
                  cases hz : Lib.parseIntB 64 S.data.toList with
                  | ok v => exact absurd hz (hv v)
                  | range => rfl
                  | «syntax» => rfl]
                rfl
              clear HQ0 hx hv h1 h2 h12 HSl
              rcases hfirst with z1 | ⟨z0, z1, hs0⟩
              all_goals
                go_wp2_with (first
                  | (go_at_call 67; refine HQ.out.mono ?_; rintro e w3 ⟨N, rfl, hb3⟩; have F3 : Hid (Five w3 w.heap.size _ _ _ _ _) := H5'.out.below hb3 hb1; obtain ⟨c0, c1, c2, c3, c4, f⟩ := F3.out; have f0 := f 0 (by omega); have f1 := f 1 (by omega); have f2 := f 2 (by omega); have f3 := f 3 (by omega); have f4 := f 4 (by omega); clear f)
                  | go_in)
                exact bodyPost_ret (ret5 (five_set F3.out _ _ _ _ _) rfl rfl) rfl ⟨congrArg Ending.returned HR.out.symm, below_set5 (HB0.out.trans (hb3.mono (by omega))) (Nat.le_refl _) _ _ _ _ _⟩
          · by_cases hn : innerB (t[j]'hlt) = true
            · have HS : Hid (numS (t.data.toList.drop k) = .inl 21) := by
                show numS (t.data.toList.drop k) = .inl 21
                rw [hx, hn]
                unfold numE
                rw [if_neg h12, if_pos rfl]
              have hnx : Hid (innerB (t[j]'hlt) = true) := hn
              clear hx hn h1 h2 h12 HP
              have HR : Hid (resV k (numS (t.data.toList.drop k)) = .tuple #[.agg #[.int .i64 0, .int .i64 0, .int .i64 0, .string ⟨#[]⟩, .int .i64 0], .int .i64 21]) := by
                rw [HS.out]
                rfl
              clear HS HSl
              obtain ⟨c0, c1, c2, c3, c4, f⟩ := H5'.out
              have f0 := f 0 (by omega)
              have f1 := f 1 (by omega)
              have f2 := f 2 (by omega)
              have f3 := f 3 (by omega)
              have f4 := f 4 (by omega)
              clear f
              rcases hfirst with z1 | ⟨z0, z1, hs0⟩
              all_goals
                go_wp2_with (first
                  | (go_at_call 60; refine (HD.out _ _).mono ?_; rintro e w2 ⟨rfl, hw2⟩; subst hw2; rw [hin.out])
                  | (go_at_call 65; refine (HW.out _ _).mono ?_; rintro e w2 ⟨rfl, hw2⟩; subst hw2; rw [hnx.out])
                  | go_in)
                exact bodyPost_ret (ret5 (five_set H5'.out _ _ _ _ _) rfl rfl) rfl ⟨congrArg Ending.returned HR.out.symm, below_set5 HB0.out (Nat.le_refl _) _ _ _ _ _⟩
            · have hn2 : innerB (t[j]'hlt) = false := by simpa using hn
              have hnx : Hid (innerB (t[j]'hlt) = false) := hn2
              rw [hn2] at hx
              clear hn hn2
              rcases HP with ⟨v, hv, HQ0⟩ | ⟨hv, u, HQ0⟩
              · have HQ : Hid (Calls Tryd.prog 67 #[.string S, .int .i64 10, .int .i64 64] w1 fun e w' => e = .returned (.tuple #[.int .i64 v, .nilIface]) ∧ Below w1.heap.size w1 w') := HQ0
                have HR : Hid (resV k (numS (t.data.toList.drop k)) = .tuple #[.agg #[.int .i64 2, .int .i64 (k : Int), .int .i64 (j : Int), .string ⟨#[]⟩, .int .i64 v], .int .i64 0]) := by
                  show resV k (numS (t.data.toList.drop k)) = _
                  rw [hx, show numE S false = .inr ⟨2, S.size, [], v⟩ from by unfold numE; rw [if_neg h12, if_neg (by simp), hv]]
                  simp only [resV, tkCells, ← HSl.out]
                  rfl
                clear HQ0 hx hv h1 h2 h12 HSl
                rcases hfirst with z1 | ⟨z0, z1, hs0⟩
                all_goals
                  go_wp2_with (first
                    | (go_at_call 60; refine (HD.out _ _).mono ?_; rintro e w2 ⟨rfl, hw2⟩; subst hw2; rw [hin.out])
                    | (go_at_call 65; refine (HW.out _ _).mono ?_; rintro e w2 ⟨rfl, hw2⟩; subst hw2; rw [hnx.out])
                    | (go_at_call 67; refine HQ.out.mono ?_; rintro e w3 ⟨rfl, hb3⟩; have F3 : Hid (Five w3 w.heap.size _ _ _ _ _) := H5'.out.below hb3 hb1; obtain ⟨c0, c1, c2, c3, c4, f⟩ := F3.out; have f0 := f 0 (by omega); have f1 := f 1 (by omega); have f2 := f 2 (by omega); have f3 := f 3 (by omega); have f4 := f 4 (by omega); clear f)
                    | go_in)
                  exact bodyPost_ret (ret5 (five_set F3.out _ _ _ _ _) rfl rfl) rfl ⟨congrArg Ending.returned HR.out.symm, below_set5 (HB0.out.trans (hb3.mono (by omega))) (Nat.le_refl _) _ _ _ _ _⟩
              · have HQ : Hid (Calls Tryd.prog 67 #[.string S, .int .i64 10, .int .i64 64] w1 fun e w' => ∃ N, e = .returned (.tuple #[.int .i64 u, .iface 132 (.pointer (some ⟨N, 0, none⟩))]) ∧ Below w1.heap.size w1 w') := HQ0
                have HR : Hid (resV k (numS (t.data.toList.drop k)) = .tuple #[.agg #[.int .i64 0, .int .i64 0, .int .i64 0, .string ⟨#[]⟩, .int .i64 0], .int .i64 21]) := by
                  show resV k (numS (t.data.toList.drop k)) = _
                  rw [hx, show numE S false = .inl 21 from by
                    unfold numE
                    rw [if_neg h12, if_neg (by simp)]
                    cases hz : Lib.parseIntB 64 S.data.toList with
                    | ok v => exact absurd hz (hv v)
                    | range => rfl
                    | «syntax» => rfl]
                  rfl
                clear HQ0 hx hv h1 h2 h12 HSl
                rcases hfirst with z1 | ⟨z0, z1, hs0⟩
                all_goals
                  go_wp2_with (first
                    | (go_at_call 60; refine (HD.out _ _).mono ?_; rintro e w2 ⟨rfl, hw2⟩; subst hw2; rw [hin.out])
                    | (go_at_call 65; refine (HW.out _ _).mono ?_; rintro e w2 ⟨rfl, hw2⟩; subst hw2; rw [hnx.out])
                    | (go_at_call 67; refine HQ.out.mono ?_; rintro e w3 ⟨N, rfl, hb3⟩; have F3 : Hid (Five w3 w.heap.size _ _ _ _ _) := H5'.out.below hb3 hb1; obtain ⟨c0, c1, c2, c3, c4, f⟩ := F3.out; have f0 := f 0 (by omega); have f1 := f 1 (by omega); have f2 := f 2 (by omega); have f3 := f 3 (by omega); have f4 := f 4 (by omega); clear f)
                    | go_in)
                  exact bodyPost_ret (ret5 (five_set F3.out _ _ _ _ _) rfl rfl) rfl ⟨congrArg Ending.returned HR.out.symm, below_set5 (HB0.out.trans (hb3.mono (by omega))) (Nat.le_refl _) _ _ _ _ _⟩
end Go.Proofs.YtichbejmelkjeaaDoor.Lx
