import Derived.Test.YtnnglgolddhigaaDoorSort
namespace Go.Proofs.YtnnglgolddhigaaDoor
open Go.RowKit

theorem fin1 {k : Nat} {t : ByteArray} (hk : ¬ 4 < k) (h1 : (t.toList == [105, 110, 116]) = true) : finN k t = 4 * k + 1 := by
  unfold finN baseN
  rw [if_neg hk, if_pos (eq_of_beq h1)]
  rfl
theorem fin2 {k : Nat} {t : ByteArray} (hk : ¬ 4 < k) (h1 : (t.toList == [105, 110, 116]) = false) (h2 : (t.toList == [98, 111, 111, 108]) = true) : finN k t = 4 * k + 2 := by
  rw [beq_eq_false_iff_ne] at h1
  unfold finN baseN
  rw [if_neg hk, if_neg h1, if_pos (eq_of_beq h2)]
  rfl
theorem fin3 {k : Nat} {t : ByteArray} (hk : ¬ 4 < k) (h1 : (t.toList == [105, 110, 116]) = false) (h2 : (t.toList == [98, 111, 111, 108]) = false) (h3 : (t.toList == [116, 101, 120, 116]) = true) : finN k t = 4 * k + 3 := by
  rw [beq_eq_false_iff_ne] at h1 h2
  unfold finN baseN
  rw [if_neg hk, if_neg h1, if_neg h2, if_pos (eq_of_beq h3)]
  rfl
theorem fin0 {k : Nat} {t : ByteArray} (h1 : (t.toList == [105, 110, 116]) = false) (h2 : (t.toList == [98, 111, 111, 108]) = false) (h3 : (t.toList == [116, 101, 120, 116]) = false) : finN k t = 0 := by
  rw [beq_eq_false_iff_ne] at h1 h2 h3
  unfold finN baseN
  rw [if_neg h1, if_neg h2, if_neg h3]
  simp

set_option maxRecDepth 100000 in
set_option maxHeartbeats 1000000 in
theorem refSort_any (t0 : ByteArray) (w : World) (hs : t0.size ≤ 9223372036854775807) :
    Calls Tryd.prog 5 #[.string t0] w fun e w' => e = .returned (.int .i64 (sortR 0 t0 : Int)) ∧ w' = w := by
  obtain ⟨b, hb⟩ : ∃ b, sortR 0 t0 = b := ⟨_, rfl⟩
  have HB : Hid (sortR 0 t0 = b) := hb
  rw [hb]
  clear hb
  go_enter Tryd.func5, Tryd.ntmps5
  go_wp2
  go_loop [0, 3] (fun v i => ∃ (t : ByteArray) (k : Nat), v = .string t ∧ i = .int .i64 (k : Int) ∧ t.size + k ≤ t0.size ∧ Hid (sortR k t = b)) (fun v _ => match v with | .string x => x.size | _ => 0)
  case atStart => exact ⟨t0, 0, rfl, rfl, by omega, HB⟩
  case round =>
    obtain ⟨t, k, rfl, rfl, hts, ht⟩ := hrel
    clear HB
    cases hbr : bracB t with
    | true =>
      have h2 := hbr
      unfold bracB at h2
      simp only [Bool.and_eq_true, decide_eq_true_eq, beq_iff_eq] at h2
      obtain ⟨⟨z2, z0⟩, z1⟩ := h2
      rw [byte_at t 0 (by omega)] at z0
      rw [byte_at t (t.size - 1) (by omega)] at z1
      have y0 : ((t[0]'(by omega)).toNat : Int) = 91 := by rw [z0]; rfl
      have y1 : ((t[t.size - 1]'(by omega)).toNat : Int) = 93 := by rw [z1]; rfl
      have e1 : ((t.size : Int) - 1) = ((t.size - 1 : Nat) : Int) := by omega
      have e2 : ((t.size : Int) - 1).toNat = t.size - 1 := by omega
      have HT : Hid (sortR (k + 1) (t.extract 1 (t.size - 1)) = b) := (sort_go k t hbr).symm.trans ht.out
      have hz : (t.extract 1 (t.size - 1)).size + (k + 1) ≤ t0.size := by simp; omega
      have q1 : (1 : Int) ≤ ((t.size - 1 : Nat) : Int) := by omega
      have q2 : ((t.size - 1 : Nat) : Int) ≤ (t.size : Int) := by omega
      clear ht hbr z0 z1
      go_wp2
      exact ⟨⟨t.extract 1 (t.size - 1), k + 1, rfl, by go_num, hz, HT⟩, by simp; omega⟩
    | false =>
      have hbase : finN k t = b := by rw [← sort_stop k t hbr]; exact ht.out
      have HBS : Hid (finN k t = b) := hbase
      clear ht
      have hc : t.size < 2 ∨ (∃ h : 2 ≤ t.size, ((t[0]'(by omega)).toNat : Int) ≠ 91) ∨ (∃ h : 2 ≤ t.size, ((t[0]'(by omega)).toNat : Int) = 91 ∧ ((t[t.size - 1]'(by omega)).toNat : Int) ≠ 93) := by
        by_cases z2 : t.size < 2
        · exact .inl z2
        · unfold bracB at hbr
          rw [byte_at t 0 (by omega), byte_at t (t.size - 1) (by omega)] at hbr
          by_cases z0 : ((t[0]'(by omega)).toNat : Int) = 91
          · refine .inr (.inr ⟨by omega, z0, fun z1 => ?_⟩)
            have y0 : t[0]'(by omega) = 91 := UInt8.toNat_inj.1 (by have : (91 : UInt8).toNat = 91 := rfl; omega)
            have y1 : t[t.size - 1]'(by omega) = 93 := UInt8.toNat_inj.1 (by have : (93 : UInt8).toNat = 93 := rfl; omega)
            have y2 : 2 ≤ t.size := by omega
            rw [y0, y1] at hbr
            simp [y2] at hbr
          · exact .inr (.inl ⟨by omega, z0⟩)
      clear hbr hbase
      by_cases hk4 : (k : Int) ≤ 4
      rotate_left
      · have hbf : b = 0 := by rw [← HBS.out]; unfold finN; rw [if_pos (by omega)]
        subst hbf
        clear HBS
        have hk5 : (4 : Int) < (k : Int) := by omega
        rcases hc with hc | ⟨h2, hc⟩ | ⟨h2, y0, hc⟩
        · go_wp2
          go_ret
          exact ⟨rfl, rfl⟩
        · go_wp2
          go_ret
          exact ⟨rfl, rfl⟩
        · have e1 : ((t.size : Int) - 1) = ((t.size - 1 : Nat) : Int) := by omega
          have e2 : ((t.size : Int) - 1).toNat = t.size - 1 := by omega
          go_wp2
          go_ret
          exact ⟨rfl, rfl⟩
      have hkn : ¬ 4 < k := by omega
      rcases hc with hc | ⟨h2, hc⟩ | ⟨h2, y0, hc⟩
      · go_wp2
        all_goals go_ret
        all_goals refine ⟨?_, rfl⟩
        · rw [← HBS.out, fin1 hkn (by assumption)]; go_num
        · rw [← HBS.out, fin2 hkn (by assumption) (by assumption)]; go_num
        · rw [← HBS.out, fin3 hkn (by assumption) (by assumption) (by assumption)]; go_num
        · rw [← HBS.out, fin0 (by assumption) (by assumption) (by assumption)]; rfl
      · go_wp2
        all_goals go_ret
        all_goals refine ⟨?_, rfl⟩
        · rw [← HBS.out, fin1 hkn (by assumption)]; go_num
        · rw [← HBS.out, fin2 hkn (by assumption) (by assumption)]; go_num
        · rw [← HBS.out, fin3 hkn (by assumption) (by assumption) (by assumption)]; go_num
        · rw [← HBS.out, fin0 (by assumption) (by assumption) (by assumption)]; rfl
      · have e1 : ((t.size : Int) - 1) = ((t.size - 1 : Nat) : Int) := by omega
        have e2 : ((t.size : Int) - 1).toNat = t.size - 1 := by omega
        go_wp2
        all_goals go_ret
        all_goals refine ⟨?_, rfl⟩
        · rw [← HBS.out, fin1 hkn (by assumption)]; go_num
        · rw [← HBS.out, fin2 hkn (by assumption) (by assumption)]; go_num
        · rw [← HBS.out, fin3 hkn (by assumption) (by assumption) (by assumption)]; go_num
        · rw [← HBS.out, fin0 (by assumption) (by assumption) (by assumption)]; rfl
end Go.Proofs.YtnnglgolddhigaaDoor
