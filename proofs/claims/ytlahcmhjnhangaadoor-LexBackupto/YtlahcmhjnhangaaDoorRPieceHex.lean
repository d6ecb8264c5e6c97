import Derived.Test.YtlahcmhjnhangaaDoorRPiece
namespace Go.Proofs.YtlahcmhjnhangaaDoor
open Go.RowKit

section
variable (t : ByteArray) (j : Nat) (w : World) (ht : t.size ≤ 140737488355328) (hlt : j < t.size)
include ht hlt

set_option maxRecDepth 100000 in
set_option maxHeartbeats 2000000 in
theorem rp_hex (a b : UInt8) (hl : j + 3 < t.size) (hc : t[j]'hlt = 92) (hd : t[j + 1]'(by omega) = 120) (ha : t[j + 2]'(by omega) = a) (hb : t[j + 3]'hl = b) (x y : Int) (hx : Lib.indexByte hexs.data.toList a = x) (hy : Lib.indexByte hexs.data.toList b = y) (hx1 : x < 16) (hy1 : y < 16) (hx0 : -1 ≤ x) (hy0 : -1 ≤ y) :
    Calls Tryd.prog 53 #[.string t, .int .i64 (j : Int)] w fun e w' => e = .returned (pcW (if 0 ≤ x ∧ 0 ≤ y then (UInt8.ofNat (16 * x.toNat + y.toNat), 4) else (0, 0))) ∧ Below w.heap.size w w' := by
  have HX : Hid (∀ w, Calls Tryd.prog 62 #[.int .u8 (a.toNat : Int)] w fun e w' => e = .returned (.int .i64 x) ∧ w = w') := fun w => by
    have h := nibble_any a w
    rw [hx] at h
    exact h
  have HY : Hid (∀ w, Calls Tryd.prog 62 #[.int .u8 (b.toNat : Int)] w fun e w' => e = .returned (.int .i64 y) ∧ w = w') := fun w => by
    have h := nibble_any b w
    rw [hy] at h
    exact h
  have z1 : j + 1 < t.size := by omega
  have z2 : j + 2 < t.size := by omega
  have i0 : (j : Int) < (t.size : Int) := by omega
  have i1 : (0 : Int) ≤ (j : Int) := by omega
  have i2 : (j : Int) + 1 < (t.size : Int) := by omega
  have i3 : (j : Int) + 2 < (t.size : Int) := by omega
  have i4 : (j : Int) + 3 < (t.size : Int) := by omega
  have l1 : ¬ (t.size : Int) - (j : Int) < 1 := by omega
  have l2 : ¬ (t.size : Int) - (j : Int) < 2 := by omega
  have l4 : ¬ (t.size : Int) - (j : Int) < 4 := by omega
  clear hx hy
  obtain ⟨na, hna⟩ : ∃ na : Int, (a.toNat : Int) = na := ⟨_, rfl⟩
  obtain ⟨nb, hnb⟩ : ∃ nb : Int, (b.toNat : Int) = nb := ⟨_, rfl⟩
  rw [hna] at HX
  rw [hnb] at HY
  by_cases hok : 0 ≤ x ∧ 0 ≤ y
  · rw [if_pos hok]
    obtain ⟨o1, o2⟩ := hok
    have HE : Hid ((16 * x + y) % 256 = ((UInt8.ofNat (16 * x.toNat + y.toNat)).toNat : Int)) := mul_add_at x y o1 hx1 o2 hy1
    go_enter Tryd.func53, Tryd.ntmps53
    go_upto_region 18 with (first
      | (go_at_call 62; refine (HX.out _).mono ?_; rintro e w2 ⟨rfl, hw⟩; subst hw)
      | go_in)
    go_wp2_with (first
      | (go_at_call 62; refine (HY.out _).mono ?_; rintro e w2 ⟨rfl, hw⟩; subst hw)
      | go_in)
    refine bodyPost_ret (v := .tuple #[.int .i64 4, .int .u8 (16 * x + y)]) (by simp [results, Tryd.results53, go_sem]) rfl ⟨?_, Below.refl _ _⟩
    rw [show 16 * x + y = (16 * x + y) % 256 from by omega, HE.out]
    rfl
  · rw [if_neg hok]
    have hno : ¬ 0 ≤ x ∨ (0 ≤ x ∧ ¬ 0 ≤ y) := by omega
    clear hok
    rcases hno with o1 | ⟨o1, o2⟩
    all_goals
      go_enter Tryd.func53, Tryd.ntmps53
      go_upto_region 18 with (first
        | (go_at_call 62; refine (HX.out _).mono ?_; rintro e w2 ⟨rfl, hw⟩; subst hw)
        | go_in)
      go_wp2_with (first
        | (go_at_call 62; refine (HY.out _).mono ?_; rintro e w2 ⟨rfl, hw⟩; subst hw)
        | go_in)
      go_ret2
      exact ⟨rfl, Below.refl _ _⟩

theorem refPiece_any (h34 : t[j]'hlt ≠ 34) : Calls Tryd.prog 53 #[.string t, .int .i64 (j : Int)] w fun e w' => e = .returned (pcW (pcS (t.data.toList.drop j))) ∧ Below w.heap.size w w' := by
  have hdr := drop_at t j hlt
  obtain ⟨c, hc⟩ : ∃ c, t[j]'hlt = c := ⟨_, rfl⟩
  rw [hc] at hdr h34
  rw [hdr]
  by_cases h92 : c = 92
  · subst h92
    by_cases h1 : t.size = j + 1
    · rw [List.drop_eq_nil_of_le (by rw [← Lib.size_eq]; omega)]
      exact rp_short t j w ht hlt hc h1
    · have hl : j + 1 < t.size := by omega
      obtain ⟨d, hd⟩ : ∃ d, t[j + 1]'hl = d := ⟨_, rfl⟩
      have hdr1 := drop_at t (j + 1) hl
      rw [hd] at hdr1
      rw [hdr1]
      obtain ⟨r1, r2, r3⟩ := rp_two t j w ht hlt d hl hc hd
      simp only [pcS]
      rw [if_neg (by simp)]
      by_cases d1 : d = 110
      · rw [if_pos d1]; exact r1 d1
      · rw [if_neg d1]
        by_cases d2 : d = 34 ∨ d = 92
        · rw [if_pos d2]; exact r2 d2
        · rw [if_neg d2]
          by_cases d3 : d = 120
          · rw [if_pos d3]
            subst d3
            by_cases h4 : j + 3 < t.size
            · obtain ⟨a, ha⟩ : ∃ a, t[j + 2]'(by omega) = a := ⟨_, rfl⟩
              obtain ⟨b, hb⟩ : ∃ b, t[j + 3]'h4 = b := ⟨_, rfl⟩
              have e2 := drop_at t (j + 2) (by omega)
              have e3 := drop_at t (j + 3) h4
              rw [ha] at e2
              rw [hb] at e3
              rw [show j + 1 + 1 = j + 2 from rfl, e2, show j + 2 + 1 = j + 3 from rfl, e3]
              exact rp_hex t j w ht hlt a b h4 hc hd ha hb _ _ rfl rfl (hex_lt a) (hex_lt b) (Lib.indexByte_ge _ _) (Lib.indexByte_ge _ _)
            · have hlen : (t.data.toList.drop (j + 1 + 1)).length < 2 := by rw [List.length_drop, ← Lib.size_eq]; omega
              have h0 := r3 (Or.inr ⟨rfl, by omega⟩)
              generalize t.data.toList.drop (j + 1 + 1) = l at hlen ⊢
              match l, hlen with
              | [], _ => exact h0
              | [_], _ => exact h0
          · rw [if_neg d3]
            exact r3 (Or.inl ⟨d1, fun e => d2 (Or.inl e), fun e => d2 (Or.inr e), d3⟩)
  · simp only [pcS]
    rw [if_pos h92]
    by_cases hp : plainB c = true
    · rw [if_pos hp]; exact rp_plain t j w ht hlt c hc h92 h34 hp
    · rw [if_neg hp]; exact rp_bad t j w ht hlt c hc (by simpa using hp)
end
end Go.Proofs.YtlahcmhjnhangaaDoor
