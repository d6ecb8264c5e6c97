import Derived.Test.YtichbejmelkjeaaDoorLxFirstHex
import Derived.Test.YtichbejmelkjeaaDoorLxNumAt
namespace Go.Proofs.YtichbejmelkjeaaDoor.Lx
open Go.RowKit

theorem hex_lt_all : ∀ n : Fin 256, Lib.indexByte hexs.data.toList (UInt8.ofNat n.val) < 16 := by decide +kernel
theorem hex_lt (c : UInt8) : Lib.indexByte hexs.data.toList c < 16 := by
  have h := hex_lt_all ⟨c.toNat, UInt8.toNat_lt c⟩
  rwa [show UInt8.ofNat c.toNat = c from by simp] at h

theorem get_of_list {r : ByteArray} {l : List UInt8} (h : r.data.toList = l) (j : Nat) (hj : j < r.size) (hj' : j < l.length) : r[j]'hj = l[j]'hj' := by
  subst h
  exact (byte_at' r j hj hj').symm

theorem first_any (r : ByteArray) (h0 : 0 < r.size) (w : World) : Calls Tryd.prog 68 #[.string r] w fun e w' => e = .returned (pcV (pcS r.data.toList)) ∧ w = w' := by
  have hz := Lib.size_eq r
  generalize hl : r.data.toList = l at hz
  match l, hl, hz with
  | [], _, hz => exact absurd h0 (by rw [hz]; simp)
  | c :: tl, hl, hz =>
    have hc : r[0]'h0 = c := get_of_list hl 0 h0 (by simp)
    by_cases h92 : c = 92
    · subst h92
      match tl, hl, hz with
      | [], hl, hz =>
        have h := first_none r w h0 hc (by rw [hl]; rfl) (by rw [hl]; rfl) (by rw [hl]; rfl) (Or.inl (by rw [hl]; rfl))
        exact h
      | d :: tl2, hl, hz =>
        have h1 : 1 < r.size := by rw [hz]; simp
        have hd : r[1]'h1 = d := get_of_list hl 1 h1 (by simp)
        have pre : ∀ x : UInt8, Lib.hasPrefix r.data.toList [92, x] = decide (x = d) := by
          intro x
          rw [hl]
          show ((92 : UInt8) == 92 && (x == d && true)) = decide (x = d)
          rw [Bool.and_true, show ((92 : UInt8) == 92) = true from rfl, Bool.true_and]
          rfl
        by_cases d1 : d = 110
        · subst d1
          have h := first_n r w h0 hc (by rw [pre]; rfl)
          exact h
        · by_cases d2 : d = 34 ∨ d = 92
          · have h := first_self r w d h1 hc hd (by rw [pre]; exact decide_eq_false (fun e => d1 e.symm)) (by
              rw [pre, pre]
              rcases d2 with rfl | rfl
              · left; rfl
              · right; exact ⟨rfl, rfl⟩)
            have e : pcS (92 :: d :: tl2) = (d, 2) := by
              simp only [pcS]
              rw [if_neg (by simp), if_neg d1, if_pos d2]
            rw [e]
            exact h
          · have p1 : Lib.hasPrefix r.data.toList [92, 110] = false := by rw [pre]; exact decide_eq_false (fun e => d1 e.symm)
            have p2 : Lib.hasPrefix r.data.toList [92, 34] = false := by rw [pre]; exact decide_eq_false (fun e => d2 (Or.inl e.symm))
            have p3 : Lib.hasPrefix r.data.toList [92, 92] = false := by rw [pre]; exact decide_eq_false (fun e => d2 (Or.inr e.symm))
            by_cases d4 : d = 120
            · have p4 : Lib.hasPrefix r.data.toList [92, 120] = true := by rw [pre]; exact decide_eq_true d4.symm
              match tl2, hl, hz with
              | [], hl, hz =>
                have h := first_none r w h0 hc p1 p2 p3 (Or.inr ⟨p4, by rw [hz]; simp⟩)
                have e : pcS (92 :: d :: []) = (0, 0) := by
                  simp only [pcS]
                  rw [if_neg (by simp), if_neg d1, if_neg d2, if_pos d4]
                rw [e]
                exact h
              | [a], hl, hz =>
                have h := first_none r w h0 hc p1 p2 p3 (Or.inr ⟨p4, by rw [hz]; simp⟩)
                have e : pcS (92 :: d :: [a]) = (0, 0) := by
                  simp only [pcS]
                  rw [if_neg (by simp), if_neg d1, if_neg d2, if_pos d4]
                rw [e]
                exact h
              | a :: b :: tl3, hl, hz =>
                have h3 : 3 < r.size := by rw [hz]; simp
                have ha : r[2]'(by omega) = a := get_of_list hl 2 (by omega) (by simp)
                have hb : r[3]'h3 = b := get_of_list hl 3 h3 (by simp)
                have h := first_hex r w a b h3 hc ha hb p1 p2 p3 p4 _ _ rfl rfl (hex_lt a) (hex_lt b) (Lib.indexByte_ge _ _) (Lib.indexByte_ge _ _)
                have e : pcS (92 :: d :: a :: b :: tl3) = (if 0 ≤ Lib.indexByte hexs.data.toList a ∧ 0 ≤ Lib.indexByte hexs.data.toList b then (UInt8.ofNat (16 * (Lib.indexByte hexs.data.toList a).toNat + (Lib.indexByte hexs.data.toList b).toNat), 4) else (0, 0)) := by
                  simp only [pcS]
                  rw [if_neg (by simp), if_neg d1, if_neg d2, if_pos d4]
                rw [e]
                exact h
            · have p4 : Lib.hasPrefix r.data.toList [92, 120] = false := by rw [pre]; exact decide_eq_false (fun e => d4 e.symm)
              have h := first_none r w h0 hc p1 p2 p3 (Or.inl p4)
              have e : pcS (92 :: d :: tl2) = (0, 0) := by
                simp only [pcS]
                rw [if_neg (by simp), if_neg d1, if_neg d2, if_neg d4]
              rw [e]
              exact h
    · have h := first_plain r w c h0 hc h92
      have e : pcS (c :: tl) = if plainB c = true then (c, 1) else (0, 0) := by
        simp only [pcS]
        rw [if_pos h92]
      rw [e]
      exact h

theorem pcS_le (l : List UInt8) : (pcS l).2 ≤ l.length := by
  unfold pcS
  split
  · simp
  · split
    · split <;> simp
    · split
      · simp
      · split
        · simp
        · split
          · simp
          · split
            · split
              · split <;> simp
              · simp
            · simp
end Go.Proofs.YtichbejmelkjeaaDoor.Lx
