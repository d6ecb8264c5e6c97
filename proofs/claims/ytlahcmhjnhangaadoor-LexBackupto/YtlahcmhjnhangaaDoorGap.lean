import Derived.BigGuard
import Derived.BigCall
import Derived.Deep.CutRange
import Derived.Test.YtlahcmhjnhangaaDoorCovMath
import Derived.Test.YtlahcmhjnhangaaDoorLFirst
namespace Go.Proofs.YtlahcmhjnhangaaDoor
open Go.RowKit

theorem refBlank_any (c : UInt8) (w : World) : Calls Tryd.prog 37 #[.int .u8 (c.toNat : Int)] w fun e w' => e = .returned (.bool (blankB c)) ∧ w = w' := by
  have hc := UInt8.toNat_lt c
  unfold blankB
  generalize (c.toNat : Int) = n
  go_enter Tryd.func37, Tryd.ntmps37
  go_wp2
  all_goals go_ret
  all_goals (refine ⟨?_, rfl⟩; simp_all)
  all_goals (generalize (n == 9) = a; generalize (n == 10) = b; generalize (n == 13) = c; generalize (n == 32) = d; cases a <;> cases b <;> cases c <;> cases d <;> rfl)

set_option maxRecDepth 100000 in
set_option maxHeartbeats 2000000 in
theorem refGap_any (t : ByteArray) (k : Nat) (w : World) (ht : t.size ≤ 140737488355328) (hk : k ≤ t.size) :
    Calls Tryd.prog 25 #[.string t, .int .i64 (k : Int)] w fun e w' => e = .returned (.int .i64 ((k + gpS false (t.data.toList.drop k) : Nat) : Int)) ∧ w = w' := by
  obtain ⟨R, hR⟩ : ∃ R, k + gpS false (t.data.toList.drop k) = R := ⟨_, rfl⟩
  rw [hR]
  have HR : Hid (k + gpS false (t.data.toList.drop k) = R) := hR
  clear hR
  go_enter Tryd.func25, Tryd.ntmps25
  go_wp2
  go_loop [1, 5] (fun i b => ∃ (j : Nat) (q : Bool), j ≤ t.size ∧ i = .int .i64 (j : Int) ∧ b = .bool q ∧ Hid (j + gpS q (t.data.toList.drop j) = R)) (fun i _ => t.size - (intOf i).toNat)
  case atStart => exact ⟨k, false, hk, rfl, rfl, HR⟩
  case round =>
    clear HR
    obtain ⟨j, q, hj, rfl, rfl, hx⟩ := hrel
    by_cases hlt : j < t.size
    · obtain ⟨c, hc⟩ : ∃ c, t[j]'hlt = c := ⟨_, rfl⟩
      have hdr := drop_at t j hlt
      rw [hc] at hdr
      have hx' := hx.out
      rw [hdr] at hx'
      clear hx hdr
      have HB : Hid (∀ (w : World), Calls Tryd.prog 37 #[.int .u8 (c.toNat : Int)] w fun e w' => e = .returned (.bool (blankB c)) ∧ w = w') := fun w => refBlank_any c w
      cases q with
      | true =>
        simp only [gpS] at hx'
        by_cases h10 : c = 10
        · subst h10
          rw [if_pos rfl] at hx'
          have HX : Hid (j + 1 + gpS false (t.data.toList.drop (j + 1)) = R) := by show _ = _; omega
          clear hx'
          go_wp2
          exact ⟨⟨j + 1, false, by omega, by go_num, rfl, HX⟩, by simp [intOf]; omega⟩
        · rw [if_neg h10] at hx'
          have b10 := u8ne (n := 10) (by omega) h10
          have HX : Hid (j + 1 + gpS true (t.data.toList.drop (j + 1)) = R) := by show _ = _; omega
          clear hx' h10
          go_wp2
          exact ⟨⟨j + 1, true, by omega, by go_num, rfl, HX⟩, by simp [intOf]; omega⟩
      | false =>
        simp only [gpS] at hx'
        by_cases h35 : c = 35
        · subst h35
          rw [if_pos rfl] at hx'
          have HX : Hid (j + 1 + gpS true (t.data.toList.drop (j + 1)) = R) := by show _ = _; omega
          clear hx'
          go_wp2
          exact ⟨⟨j + 1, true, by omega, by go_num, rfl, HX⟩, by simp [intOf]; omega⟩
        · rw [if_neg h35] at hx'
          have b35 := u8ne (n := 35) (by omega) h35
          by_cases hb : blankB c = true
          · rw [if_pos hb] at hx'
            rw [hb] at HB
            have HX : Hid (j + 1 + gpS false (t.data.toList.drop (j + 1)) = R) := by show _ = _; omega
            clear hx' h35 hb
            go_wp2_with (first
              | (go_at_call 37; refine (HB.out _).mono ?_; rintro e w2 ⟨rfl, hw2⟩; subst hw2)
              | go_in)
            exact ⟨⟨j + 1, false, by omega, by go_num, rfl, HX⟩, by simp [intOf]; omega⟩
          · rw [if_neg hb] at hx'
            rw [show blankB c = false from by simpa using hb] at HB
            have HX : Hid (R = j) := by show _ = _; omega
            clear hx' h35 hb
            go_wp2_with (first
              | (go_at_call 37; refine (HB.out _).mono ?_; rintro e w2 ⟨rfl, hw2⟩; subst hw2)
              | go_in)
            go_ret
            exact ⟨by rw [HX.out]; rfl, rfl⟩
    · obtain rfl : j = t.size := by omega
      have HX : Hid (R = t.size) := by
        have := hx.out
        rw [List.drop_eq_nil_of_le (by rw [← Lib.size_eq]; omega)] at this
        show _ = _
        cases q <;> simp [gpS] at this <;> omega
      clear hx
      go_wp2
      go_ret
      exact ⟨by rw [HX.out]; rfl, rfl⟩

set_option maxHeartbeats 1000000 in
theorem gap_any (t : ByteArray) (a k : Nat) (w : World) (ht : t.size ≤ 140737488355328) (hak : a ≤ k) (hk : k ≤ t.size) (hg : gpS false ((t.data.toList.take k).drop a) = k - a) :
    Calls Tryd.prog 15 #[.string t, .int .i64 (a : Int), .int .i64 (k : Int)] w fun e w' => e = .returned (.bool true) ∧ w = w' := by
  have e1 : (t.extract 0 k).data.toList = t.data.toList.take k := by rw [Lib.extract_data, List.drop_zero, Nat.sub_zero]
  have s1 : (t.extract 0 k).size = k := by rw [Lib.size_eq, e1, List.length_take, ← Lib.size_eq]; omega
  have h := refGap_any (t.extract 0 k) a w (by omega) (by omega)
  rw [e1, hg, show a + (k - a) = k from by omega] at h
  obtain ⟨T, hT⟩ : ∃ T, t.extract 0 k = T := ⟨_, rfl⟩
  rw [hT] at h
  have H : Hid (Calls Tryd.prog 25 #[.string T, .int .i64 (a : Int)] w fun e w' => e = .returned (.int .i64 (k : Int)) ∧ w = w') := h
  have q5 : (k : Int) ≤ (t.size : Int) := by omega
  have q6 : (0 : Int) ≤ (k : Int) := by omega
  clear h e1 s1 hg
  go_enter Tryd.func15, Tryd.ntmps15
  go_wp2_with (first
    | (go_at_call 25; refine H.out.mono ?_; rintro e w2 ⟨rfl, hw2⟩; subst hw2)
    | go_in)
  go_ret
  exact ⟨rfl, rfl⟩

set_option maxRecDepth 100000 in
set_option maxHeartbeats 4000000 in
theorem piece_any (t : ByteArray) (k E : Nat) (x : Tk) (S : ByteArray) (hE : k + x.len = E) (hS : (⟨x.text.toArray⟩ : ByteArray) = S) (w : World) (ht : t.size ≤ 4194304) (hl : 1 ≤ x.len) (hk : k + x.len ≤ t.size) (hT : Tabs w) (hs : scanS (x.len + 1) 0 ((t.data.toList.drop k).take x.len) = .inr [(0, x), (x.len, ⟨0, 0, [], 0⟩)]) :
    Calls Tryd.prog 16 #[.string t, .agg #[.int .i64 (x.kind : Int), .int .i64 (k : Int), .int .i64 (E : Int), .string S, .int .i64 x.int]] w fun e w' => e = .returned (.bool true) ∧ Below w.heap.size w w' := by
  have e1 : (t.extract k (k + x.len)).data.toList = (t.data.toList.drop k).take x.len := by rw [Lib.extract_data, Nat.add_sub_cancel_left]
  have s1 : (t.extract k (k + x.len)).size = x.len := by rw [Lib.size_eq, e1, List.length_take, List.length_drop, ← Lib.size_eq]; omega
  have HC := scan_yes (t.extract k (k + x.len)) (by omega) _ (by rw [s1, e1]; exact hs)
  obtain ⟨T, hTx⟩ : ∃ T, t.extract k (k + x.len) = T := ⟨_, rfl⟩
  rw [hTx] at HC
  rw [hE] at hTx
  have hEk : (E : Int) - (k : Int) = (x.len : Int) := by omega
  have k0 : (0 : Int) ≤ (k : Int) := by omega
  have k1 : (k : Int) ≤ (E : Int) := by omega
  have k2 : (E : Int) ≤ (t.size : Int) := by omega
  have k3 : ¬ (k : Int) < 0 := by omega
  have k4 : ¬ (t.size : Int) < (E : Int) := by omega
  have k5 : ¬ (E : Int) ≤ (k : Int) := by omega
  have HT : Hid (Tabs w) := hT
  have HS : Hid ((⟨x.text.toArray⟩ : ByteArray) = S) := hS
  have hxl : (x.len : Int) ≤ 4194304 := by omega
  clear hS
  clear hT hs e1 s1 hE
  go_enter Tryd.func16, Tryd.ntmps16
  have F0 : Hid (Five (w.alloc (.cells #[.int .i64 (x.kind : Int), .int .i64 (k : Int), .int .i64 (E : Int), .string S, .int .i64 x.int] 35)) w.heap.size _ _ _ _ _) := five_new w (.int .i64 (x.kind : Int)) (.int .i64 (k : Int)) (.int .i64 (E : Int)) (.string S) (.int .i64 x.int) 35
  have hl0 : w.heap.size < (w.alloc (.cells #[.int .i64 (x.kind : Int), .int .i64 (k : Int), .int .i64 (E : Int), .string S, .int .i64 x.int] 35)).heap.size := World.block_lt_of_cell? _ _ F0.out.c0
  have HB0 : Hid (Below w.heap.size w (w.alloc (.cells #[.int .i64 (x.kind : Int), .int .i64 (k : Int), .int .i64 (E : Int), .string S, .int .i64 x.int] 35))) := (Below.refl _ w).alloc (Nat.le_refl _) _
  have HT0 : Hid (Tabs (w.alloc (.cells #[.int .i64 (x.kind : Int), .int .i64 (k : Int), .int .i64 (E : Int), .string S, .int .i64 x.int] 35))) := HT.out.next HB0.out
  go_upto_region 6 with (first
    | (go_at_call 14; refine (HC.out _ HT0.out).mono ?_; rintro y w2 ⟨v, rfl, ho, hb2⟩; obtain ⟨g, cap, rfl, hcap, hg0, hg1, hcell⟩ := toks_at (l := [(0, x), (x.len, ⟨0, 0, [], 0⟩)]) ho (by simp);
       have c0 := hcell 0 _ rfl; have c1 := hcell 1 _ rfl; have c2 := hcell 2 _ rfl; have c3 := hcell 3 _ rfl; rw [HS.out] at c3; have c4 := hcell 4 _ rfl; have c5 := hcell 5 _ rfl; have c6 := hcell 6 _ rfl; have c7 := hcell 7 _ rfl; have c8 := hcell 8 _ rfl; have c9 := hcell 9 _ rfl; clear hcell ho;
       obtain ⟨d0, d1, d2, d3, d4, _⟩ := F0.out.below hb2 hl0; have hl2 : w.heap.size < w2.heap.size := Nat.lt_of_lt_of_le hl0 hb2.size)
    | go_in)
  have HB2 : Hid (Below w.heap.size w w2) := HB0.out.trans (hb2.mono HB0.out.size)
  clear HC F0 HB0 HT0 HT hTx hb2 hl0 ht hl hk
  go_wp2
  go_ret
  exact ⟨rfl, (HB2.out.alloc HB2.out.size _).alloc (by have := HB2.out.size; simp; omega) _⟩
end Go.Proofs.YtlahcmhjnhangaaDoor
