import Derived.Test.YtekgnogjfggnmaaDoorName
namespace Go.Proofs.YtekgnogjfggnmaaDoor
open Go.RowKit

theorem typ_go (f : Nat) (t : ByteArray) (h : bracB t = true) : typF (f + 1) t = typF f (t.extract 1 (t.size - 1)) := by unfold typF; rw [if_pos h]; cases f <;> rfl
theorem typ_stop (f : Nat) (t : ByteArray) (h : bracB t = false) : typF f t = baseB t := by
  cases f with
  | zero => rfl
  | succ f => unfold typF; rw [if_neg (by simp [h])]

set_option maxRecDepth 100000 in
set_option maxHeartbeats 1000000 in
theorem isType_any (t0 : ByteArray) (w : World) (hs : t0.size ≤ 140737488355328) :
    Calls Tryd.prog 70 #[.string t0] w fun e w' => e = .returned (.bool (typeS t0)) ∧ w = w' := by
  obtain ⟨b, hb⟩ : ∃ b, typeS t0 = b := ⟨_, rfl⟩
  have HB : Hid (typF 4 t0 = b) := hb
  rw [hb]
  clear hb
  go_enter Tryd.func70, Tryd.ntmps70
  go_wp2
  go_loop [0, 3] (fun v i => ∃ (t : ByteArray) (k : Nat), k ≤ 4 ∧ v = .string t ∧ i = .int .i64 (k : Int) ∧ t.size ≤ t0.size ∧ Hid (typF (4 - k) t = b)) (fun _ i => 4 - (intOf i).toNat)
  case atStart => exact ⟨t0, 0, by omega, rfl, rfl, Nat.le_refl _, HB⟩
  case round =>
    obtain ⟨t, k, hk, rfl, rfl, hts, ht⟩ := hrel
    clear HB
    have HE : Hid (baseB t = b → ∀ z : Bool, z = (baseB t) → z = b) := fun h z hz => hz.trans h
    by_cases hlt : k < 4
    · cases hbr : bracB t with
      | true =>
        have h2 := hbr
        unfold bracB at h2
        simp only [Bool.and_eq_true, decide_eq_true_eq, beq_iff_eq] at h2
        obtain ⟨⟨z2, z0⟩, z1⟩ := h2
        rw [byte_at t 0 (by omega)] at z0
        rw [byte_at t (t.size - 1) (by omega)] at z1
        have y0 : ((t[0]'(by omega)).toNat : Int) = 91 := by rw [z0]; rfl
        have y1 : ((t[t.size - 1]'(by omega)).toNat : Int) = 93 := by rw [z1]; rfl
        have e1 : ((t.size : Int) - 1) = ((t.size - 1 : Nat) : Int) := by omega
        have e2 : ((t.size : Int) - 1).toNat = t.size - 1 := by omega
        have hst := typ_go (3 - k) t hbr
        rw [show 3 - k + 1 = 4 - k by omega] at hst
        have HT : Hid (typF (4 - (k + 1)) (t.extract 1 (t.size - 1)) = b) := by
          rw [show 4 - (k + 1) = 3 - k by omega]
          exact hst.symm.trans ht.out
        have hz : (t.extract 1 (t.size - 1)).size ≤ t0.size := by simp; omega
        have q1 : (1 : Int) ≤ ((t.size - 1 : Nat) : Int) := by omega
        have q2 : ((t.size - 1 : Nat) : Int) ≤ (t.size : Int) := by omega
        clear hst ht hbr z0 z1
        go_wp2
        exact ⟨⟨t.extract 1 (t.size - 1), k + 1, by omega, rfl, by go_num, hz, HT⟩, by simp [intOf]; omega⟩
      | false =>
        have hbase : baseB t = b := by rw [← typ_stop (4 - k) t hbr]; exact ht.out
        have HBS : Hid (baseB t = b) := hbase
        clear ht
        have hc : t.size < 2 ∨ (∃ h : 2 ≤ t.size, ((t[0]'(by omega)).toNat : Int) ≠ 91) ∨ (∃ h : 2 ≤ t.size, ((t[0]'(by omega)).toNat : Int) = 91 ∧ ((t[t.size - 1]'(by omega)).toNat : Int) ≠ 93) := by
          by_cases z2 : t.size < 2
          · exact .inl z2
          · unfold bracB at hbr
            rw [byte_at t 0 (by omega), byte_at t (t.size - 1) (by omega)] at hbr
            by_cases z0 : ((t[0]'(by omega)).toNat : Int) = 91
            · refine .inr (.inr ⟨by omega, z0, fun z1 => ?_⟩)
              have y0 : t[0]'(by omega) = 91 := UInt8.toNat_inj.1 (by have : (91 : UInt8).toNat = 91 := rfl; omega)
              have y1 : t[t.size - 1]'(by omega) = 93 := UInt8.toNat_inj.1 (by have : (93 : UInt8).toNat = 93 := rfl; omega)
              have y2 : 2 ≤ t.size := by omega
              rw [y0, y1] at hbr
              simp [y2] at hbr
            · exact .inr (.inl ⟨by omega, z0⟩)
        clear hbr hbase
        rcases hc with hc | ⟨h2, hc⟩ | ⟨h2, y0, hc⟩
        · go_wp2
          all_goals first
            | (rw [← HBS.out]
               go_ret
               refine ⟨?_, rfl⟩
               unfold baseB
               simp [*]
               done)
            | (exfalso; simp_all)
        · go_wp2
          all_goals first
            | (rw [← HBS.out]
               go_ret
               refine ⟨?_, rfl⟩
               unfold baseB
               simp [*]
               done)
            | (exfalso; simp_all)
        · have e1 : ((t.size : Int) - 1) = ((t.size - 1 : Nat) : Int) := by omega
          have e2 : ((t.size : Int) - 1).toNat = t.size - 1 := by omega
          go_wp2
          all_goals first
            | (rw [← HBS.out]
               go_ret
               refine ⟨?_, rfl⟩
               unfold baseB
               simp [*]
               done)
            | (exfalso; simp_all)
    · obtain rfl : k = 4 := by omega
      have HBS : Hid (baseB t = b) := ht
      clear ht
      go_wp2
      all_goals first
        | (rw [← HBS.out]
           go_ret
           refine ⟨?_, rfl⟩
           unfold baseB
           simp [*]
           done)
        | (exfalso; simp_all)
end Go.Proofs.YtekgnogjfggnmaaDoor
