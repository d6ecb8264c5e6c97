import Derived.Test.YtichbejmelkjeaaDoorcSpec
import Derived.Laws.Strings3
import Derived.Lib.Walk
namespace Go.Proofs.YtichbejmelkjeaaDoor
open Go.RowKit

theorem isBlank_any (c : UInt8) (w : World) : Calls Tryd.prog 35 #[.int .u8 (c.toNat : Int)] w fun e w' => e = .returned (.bool (bl c)) ∧ w = w' := by
  have hc := UInt8.toNat_lt c
  unfold bl
  go_enter Tryd.func35, Tryd.ntmps35
  go_wp2
  all_goals (go_ret; first | exact ⟨rfl, rfl⟩ | (refine ⟨?_, rfl⟩; simp_all))

theorem nil_list {t : ByteArray} (h : t.size = 0) : t.data.toList = [] := by
  have := Lib.size_eq t
  exact List.eq_nil_of_length_eq_zero (by omega)

theorem tw_at (L : List UInt8) (j : Nat) (hj : j ≤ L.length) (hp : ∀ i, (h : i < L.length) → i < j → nb L[i] = true) (hs : (h : j < L.length) → nb L[j] = false) : wln L = j := by
  induction L generalizing j with
  | nil => simp at hj; subst hj; rfl
  | cons c L ih =>
    cases j with
    | zero =>
      have := hs (by simp)
      simp at this
      simp [wln, this]
    | succ j =>
      have h0 := hp 0 (by simp) (by omega)
      simp at h0
      have h1 := ih j (by simpa using hj) (fun i h hi => by have := hp (i + 1) (by simpa using h) (by omega); simpa using this) (fun h => by have := hs (by simpa using h); simpa using this)
      unfold wln at h1 ⊢
      rw [List.takeWhile_cons, if_pos h0, List.length_cons, h1]

set_option maxRecDepth 100000 in
set_option maxHeartbeats 1000000 in
theorem wordEnd_any (t : ByteArray) (w : World) (ht : t.size ≤ 140737488355328) :
    Calls Tryd.prog 26 #[.string t] w fun e w' => e = .returned (.int .i64 (wln t.data.toList : Int)) ∧ w' = w := by
  go_enter Tryd.func26, Tryd.ntmps26
  go_wp2
  go_loop [3] (fun i => ∃ j : Nat, j ≤ t.size ∧ i = .int .i64 (j : Int) ∧ Hid (∀ i, (h : i < t.data.toList.length) → i < j → nb t.data.toList[i] = true)) (fun i => t.size - (intOf i).toNat)
  case atStart => exact ⟨0, by omega, rfl, fun i h hi => by omega⟩
  case round =>
    obtain ⟨j, hj, rfl, hn⟩ := hrel
    have hj0 : (0 : Int) ≤ (j : Int) := by omega
    have hsz := Lib.size_eq t
    by_cases hlt : j < t.size
    · have hjt : (j : Int) < (t.size : Int) := by omega
      obtain ⟨c, hc⟩ : ∃ c, t[j]'hlt = c := ⟨_, rfl⟩
      have hcl : t.data.toList[j]'(by omega) = c := by rw [← hc]; rfl
      have HI : Hid (∀ w : World, Calls Tryd.prog 35 #[.int .u8 (c.toNat : Int)] w fun e w' => e = .returned (.bool (bl c)) ∧ w = w') := fun w => isBlank_any c w
      by_cases hb : bl c = true
      · have hk : wln t.data.toList = j := tw_at _ j (by omega) hn.out (fun h => by rw [hcl]; simp [nb, hb])
        rw [hb] at HI
        have HK : Hid (wln t.data.toList = j) := hk
        clear hsz hcl hn hk
        go_wp2_with (first
          | (go_at_call 35; refine (HI.out _).mono ?_; rintro e w2 ⟨rfl, hw2⟩; subst hw2)
          | go_in)
        go_ret
        exact ⟨by rw [HK.out]; rfl, rfl⟩
      · have hbf : bl c = false := by simpa using hb
        rw [hbf] at HI
        have HN : Hid (∀ i, (h : i < t.data.toList.length) → i < j + 1 → nb t.data.toList[i] = true) := fun i h hi => by
          by_cases he : i = j
          · subst he; rw [hcl]; simp [nb, hbf]
          · exact hn.out i h (by omega)
        clear hsz hcl hn
        go_wp2_with (first
          | (go_at_call 35; refine (HI.out _).mono ?_; rintro e w2 ⟨rfl, hw2⟩; subst hw2)
          | go_in)
        exact ⟨⟨j + 1, by omega, by go_num, HN⟩, by simp [intOf]; omega⟩
    · obtain rfl : j = t.size := by omega
      have hk : wln t.data.toList = t.size := tw_at _ _ (by omega) hn.out (fun h => by omega)
      have HK : Hid (wln t.data.toList = t.size) := hk
      clear hsz hn hk
      go_wp2
      go_ret
      exact ⟨by rw [HK.out]; rfl, rfl⟩

set_option maxRecDepth 100000 in
set_option maxHeartbeats 1000000 in
theorem without_any (s : ByteArray) (w : World) (hs : s.size ≤ 140737488355328) :
    Calls Tryd.prog 25 #[.string s] w fun e w' => ∃ t : ByteArray, e = .returned (.string t) ∧ t.data.toList = trm s.data.toList ∧ w' = w := by
  go_enter Tryd.func25, Tryd.ntmps25
  go_wp2
  go_loop [0] (fun i => ∃ t : ByteArray, t.size ≤ s.size ∧ i = .string t ∧ Hid (ltr t.data.toList = ltr s.data.toList)) (fun i => match i with | .string t => t.size | _ => 0)
  case atStart => exact ⟨s, Nat.le_refl _, rfl, rfl⟩
  case round =>
    obtain ⟨t0, ht0, rfl, hl0⟩ := hrel
    have hsz0 := Lib.size_eq t0
    by_cases h0 : t0.size = 0
    · have hn : t0.data.toList = [] := nil_list h0
      have e0 : (t0.toList == []) = true := by rw [Lx.toL, hn]; rfl
      have HT0 : Hid (t0.data.toList = ltr s.data.toList) := by
        show t0.data.toList = ltr s.data.toList
        rw [← hl0.out, hn]; rfl
      clear hsz0 hn hl0
      go_wp2
      clear e0 h0
      go_loop [0] (fun i => ∃ t : ByteArray, t.size ≤ t0.size ∧ i = .string t ∧ Hid (rtr t.data.toList = rtr t0.data.toList)) (fun i => match i with | .string t => t.size | _ => 0)
      case atStart => exact ⟨t0, Nat.le_refl _, rfl, rfl⟩
      case round =>
        obtain ⟨t, ht, rfl, hl⟩ := hrel
        have hsz := Lib.size_eq t
        by_cases h0 : t.size = 0
        · have hn : t.data.toList = [] := nil_list h0
          have e0 : (t.toList == []) = true := by rw [Lx.toL, hn]; rfl
          have HT : Hid (t.data.toList = trm s.data.toList) := by
            show t.data.toList = trm s.data.toList
            unfold trm
            rw [← HT0.out, ← hl.out, hn]; rfl
          clear hsz hn hl
          go_wp2
          go_ret
          exact ⟨t, rfl, HT.out, rfl⟩
        · have e0 : (t.toList == []) = false := by
            rw [Lx.toL, beq_eq_false_iff_ne]
            intro h; have h2 := congrArg List.length h; simp only [List.length_nil] at h2; omega
          have hlt : t.size - 1 < t.size := by omega
          obtain ⟨m, hm⟩ : ∃ m, t.size = m + 1 := ⟨t.size - 1, by omega⟩
          have hlm : m < t.size := by rw [hm]; exact Nat.lt_succ_self m
          obtain ⟨c, hc⟩ : ∃ c, t[m]'hlm = c := ⟨_, rfl⟩
          have hcl : t.data.toList = t.data.toList.take m ++ [c] := by
            have h1 : m < t.data.toList.length := by omega
            have h2 : t.data.toList[m]'h1 = c := by rw [← hc]; rfl
            rw [← h2, ← List.take_succ_eq_append_getElem h1, List.take_of_length_le (by omega)]
          have HI : Hid (∀ w : World, Calls Tryd.prog 35 #[.int .u8 (c.toNat : Int)] w fun e w' => e = .returned (.bool (bl c)) ∧ w = w') := fun w => isBlank_any c w
          have hm0 : (0 : Int) ≤ (m : Int) := by omega
          have hm1 : (m : Int) < (t.size : Int) := by omega
          have hm2 : (m : Int) ≤ (t.size : Int) := by omega
          have hmw : IntKind.i64.wrap ((t.size : Int) - 1) = (m : Int) := by rw [IntKind.wrap_i64]; omega
          by_cases hb : bl c = true
          · rw [hb] at HI
            have HX : Hid (rtr (t.extract 0 m).data.toList = rtr t0.data.toList ∧ (t.extract 0 m).size = m) := by
              refine ⟨?_, ?_⟩
              · rw [Lib.extract_data, ← hl.out]
                conv => rhs; rw [hcl]
                rw [rtr_blank _ _ hb]
                simp
              · rw [ByteArray.size_extract]; omega
            clear hsz hcl hl
            go_wp2_with (first
              | (go_at_call 35; refine (HI.out _).mono ?_; rintro e w2 ⟨rfl, hw2⟩; subst hw2)
              | go_in)
            refine ⟨⟨t.extract 0 m, by rw [HX.out.2]; omega, rfl, HX.out.1⟩, ?_⟩
            show (t.extract 0 m).size < t.size
            rw [HX.out.2]; omega
          · have hbf : bl c = false := by simpa using hb
            rw [hbf] at HI
            have HT : Hid (t.data.toList = trm s.data.toList) := by
              show t.data.toList = trm s.data.toList
              unfold trm
              rw [← HT0.out, ← hl.out]
              conv => rhs; rw [hcl]
              rw [rtr_nblank _ _ hbf, ← hcl]
            clear hsz hcl hl
            go_wp2_with (first
              | (go_at_call 35; refine (HI.out _).mono ?_; rintro e w2 ⟨rfl, hw2⟩; subst hw2)
              | go_in)
            go_ret
            exact ⟨t, rfl, HT.out, rfl⟩
    · have e0 : (t0.toList == []) = false := by
        rw [Lx.toL, beq_eq_false_iff_ne]
        intro h; have h2 := congrArg List.length h; simp only [List.length_nil] at h2; omega
      have hpos : 0 < t0.size := Nat.pos_of_ne_zero h0
      have hpi : (0 : Int) < (t0.size : Int) := by omega
      have hpj : (1 : Int) ≤ (t0.size : Int) := by omega
      obtain ⟨c, hc⟩ : ∃ c, t0[0]'hpos = c := ⟨_, rfl⟩
      have hcl : t0.data.toList = c :: t0.data.toList.drop 1 := by
        have := Lx.drop_at t0 0 hpos
        rw [List.drop_zero, hc] at this
        exact this
      have HI : Hid (∀ w : World, Calls Tryd.prog 35 #[.int .u8 (c.toNat : Int)] w fun e w' => e = .returned (.bool (bl c)) ∧ w = w') := fun w => isBlank_any c w
      by_cases hb : bl c = true
      · rw [hb] at HI
        have HX : Hid (ltr (t0.extract 1 t0.size).data.toList = ltr s.data.toList ∧ (t0.extract 1 t0.size).size = t0.size - 1) := by
          refine ⟨?_, ?_⟩
          · rw [Lib.extract_data, ← hl0.out]
            conv => rhs; rw [hcl]
            have := ltr_app [c] (t0.data.toList.drop 1) (by simpa using hb)
            rw [List.take_of_length_le (by rw [List.length_drop]; omega)]
            exact this.symm
          · rw [ByteArray.size_extract]; omega
        clear hsz0 hcl hl0
        go_wp2_with (first
          | (go_at_call 35; refine (HI.out _).mono ?_; rintro e w2 ⟨rfl, hw2⟩; subst hw2)
          | go_in)
        refine ⟨⟨t0.extract 1 t0.size, by rw [HX.out.2]; omega, rfl, HX.out.1⟩, ?_⟩
        show (t0.extract 1 t0.size).size < t0.size
        rw [HX.out.2]; omega
      · have hbf : bl c = false := by simpa using hb
        rw [hbf] at HI
        have HT0 : Hid (t0.data.toList = ltr s.data.toList) := by
          show t0.data.toList = ltr s.data.toList
          rw [← hl0.out]
          conv => rhs; rw [hcl]
          rw [ltr_of_head hbf, ← hcl]
        clear hsz0 hcl hl0
        go_wp2_with (first
          | (go_at_call 35; refine (HI.out _).mono ?_; rintro e w2 ⟨rfl, hw2⟩; subst hw2)
          | go_in)
        clear e0 h0 hpos hpi hpj hc HI hb hbf
        go_loop [0] (fun i => ∃ t : ByteArray, t.size ≤ t0.size ∧ i = .string t ∧ Hid (rtr t.data.toList = rtr t0.data.toList)) (fun i => match i with | .string t => t.size | _ => 0)
        case atStart => exact ⟨t0, Nat.le_refl _, rfl, rfl⟩
        case round =>
          obtain ⟨t, ht, rfl, hl⟩ := hrel
          have hsz := Lib.size_eq t
          by_cases h0 : t.size = 0
          · have hn : t.data.toList = [] := nil_list h0
            have e0 : (t.toList == []) = true := by rw [Lx.toL, hn]; rfl
            have HT : Hid (t.data.toList = trm s.data.toList) := by
              show t.data.toList = trm s.data.toList
              unfold trm
              rw [← HT0.out, ← hl.out, hn]; rfl
            clear hsz hn hl
            go_wp2
            go_ret
            exact ⟨t, rfl, HT.out, rfl⟩
          · have e0 : (t.toList == []) = false := by
              rw [Lx.toL, beq_eq_false_iff_ne]
              intro h; have h2 := congrArg List.length h; simp only [List.length_nil] at h2; omega
            have hlt : t.size - 1 < t.size := by omega
            obtain ⟨m, hm⟩ : ∃ m, t.size = m + 1 := ⟨t.size - 1, by omega⟩
            have hlm : m < t.size := by rw [hm]; exact Nat.lt_succ_self m
            obtain ⟨c, hc⟩ : ∃ c, t[m]'hlm = c := ⟨_, rfl⟩
            have hcl : t.data.toList = t.data.toList.take m ++ [c] := by
              have h1 : m < t.data.toList.length := by omega
              have h2 : t.data.toList[m]'h1 = c := by rw [← hc]; rfl
              rw [← h2, ← List.take_succ_eq_append_getElem h1, List.take_of_length_le (by omega)]
            have HI : Hid (∀ w : World, Calls Tryd.prog 35 #[.int .u8 (c.toNat : Int)] w fun e w' => e = .returned (.bool (bl c)) ∧ w = w') := fun w => isBlank_any c w
            have hm0 : (0 : Int) ≤ (m : Int) := by omega
            have hm1 : (m : Int) < (t.size : Int) := by omega
            have hm2 : (m : Int) ≤ (t.size : Int) := by omega
            have hmw : IntKind.i64.wrap ((t.size : Int) - 1) = (m : Int) := by rw [IntKind.wrap_i64]; omega
            by_cases hb : bl c = true
            · rw [hb] at HI
              have HX : Hid (rtr (t.extract 0 m).data.toList = rtr t0.data.toList ∧ (t.extract 0 m).size = m) := by
                refine ⟨?_, ?_⟩
                · rw [Lib.extract_data, ← hl.out]
                  conv => rhs; rw [hcl]
                  rw [rtr_blank _ _ hb]
                  simp
                · rw [ByteArray.size_extract]; omega
              clear hsz hcl hl
              go_wp2_with (first
                | (go_at_call 35; refine (HI.out _).mono ?_; rintro e w2 ⟨rfl, hw2⟩; subst hw2)
                | go_in)
              refine ⟨⟨t.extract 0 m, by rw [HX.out.2]; omega, rfl, HX.out.1⟩, ?_⟩
              show (t.extract 0 m).size < t.size
              rw [HX.out.2]; omega
            · have hbf : bl c = false := by simpa using hb
              rw [hbf] at HI
              have HT : Hid (t.data.toList = trm s.data.toList) := by
                show t.data.toList = trm s.data.toList
                unfold trm
                rw [← HT0.out, ← hl.out]
                conv => rhs; rw [hcl]
                rw [rtr_nblank _ _ hbf, ← hcl]
              clear hsz hcl hl
              go_wp2_with (first
                | (go_at_call 35; refine (HI.out _).mono ?_; rintro e w2 ⟨rfl, hw2⟩; subst hw2)
                | go_in)
              go_ret
              exact ⟨t, rfl, HT.out, rfl⟩
end Go.Proofs.YtichbejmelkjeaaDoor
