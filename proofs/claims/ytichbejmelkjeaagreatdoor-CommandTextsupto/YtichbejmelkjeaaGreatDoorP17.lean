import Derived.BigQuiet
import Derived.Test.YtichbejmelkjeaaGreatDoorP16
import Derived.Test.YtichbejmelkjeaaGreatDoorP09
import Derived.Test.YtichbejmelkjeaaGreatDoorP12
namespace Go.Proofs.YtichbejmelkjeaaGreatDoor.Lx
open Go.RowKit Go.Shelf

/-- What stands at k is the sign x, or not. -/
theorem sign_here (t x : ByteArray) (k : Nat) (hk : k < t.size) :
    (x.data.toList.isPrefixOf (t.data.toList.drop k) = true → (x.size : Int) ≤ (t.size : Int) - (k : Int) ∧ t.extract k (k + x.size) = x) ∧
    (x.data.toList.isPrefixOf (t.data.toList.drop k) = false → ¬ (x.size : Int) ≤ (t.size : Int) - (k : Int) ∨ ((x.size : Int) ≤ (t.size : Int) - (k : Int) ∧ ((t.extract k (k + x.size)).toList == x.toList) = false)) := by
  have e : (t.extract k (k + x.size)).data.toList = (t.data.toList.drop k).take x.size := by rw [Lib.extract_data, Nat.add_sub_cancel_left]
  have hsz := Lib.size_eq t
  have hxs := Lib.size_eq x
  refine ⟨fun h => ?_, fun h => ?_⟩
  · rw [List.isPrefixOf_iff_prefix] at h
    have hl := h.length_le
    rw [List.length_drop, ← hsz, ← hxs] at hl
    refine ⟨by omega, ?_⟩
    apply ByteArray.ext
    apply Array.ext'
    rw [e, hxs]
    exact (List.prefix_iff_eq_take.1 h).symm
  · by_cases hl : x.size ≤ t.size - k
    · right
      refine ⟨by omega, ?_⟩
      rw [ByteArray.toList_eq, ByteArray.toList_eq, e, beq_eq_false_iff_ne]
      intro h2
      rw [← Bool.not_eq_true] at h
      apply h
      rw [List.isPrefixOf_iff_prefix, ← h2]
      exact List.take_prefix _ _
    · left; omega

theorem below_drewN (w : World) (n : Nat) : Below w.heap.size w (w.drewN n) := ⟨rfl, rfl, rfl, Nat.le_refl _, fun _ _ => rfl⟩

set_option maxRecDepth 100000 in
set_option maxHeartbeats 4000000 in
theorem refSign_any (t : ByteArray) (k : Nat) (w : World) (ht : t.size ≤ 140737488355328) (hk : k < t.size) (hT : RTabs w) :
    Calls Tryz.prog 107 #[.string t, .int .i64 (k : Int)] w fun e w' => e = .returned (resV k (signS (t.data.toList.drop k))) ∧ Below w.heap.size w w' := by
  have H5 := five_new w (.int .i64 0) (.int .i64 0) (.int .i64 0) (.string ⟨#[]⟩) (.int .i64 0) 113
  have H5' : Hid (Five (w.alloc (.cells #[.int .i64 0, .int .i64 0, .int .i64 0, .string ⟨#[]⟩, .int .i64 0] 113)) w.heap.size (.int .i64 0) (.int .i64 0) (.int .i64 0) (.string ⟨#[]⟩) (.int .i64 0)) := H5
  clear H5
  have HB0 : Hid (Below w.heap.size w (w.alloc (.cells #[.int .i64 0, .int .i64 0, .int .i64 0, .string ⟨#[]⟩, .int .i64 0] 113))) := (Below.refl _ w).alloc (Nat.le_refl _) _
  have HT : Hid (RTabs (w.alloc (.cells #[.int .i64 0, .int .i64 0, .int .i64 0, .string ⟨#[]⟩, .int .i64 0] 113))) := hT.next HB0.out
  clear hT
  have c1 : (0 : Int) ≤ ↑k := by omega
  have c2 : (↑k : Int) ≤ ↑t.size := by omega
  go_enter Tryz.func107, Tryz.ntmps107
  go_wp2
  generalize hw1 : w.alloc (.cells #[.int .i64 0, .int .i64 0, .int .i64 0, .string ⟨#[]⟩, .int .i64 0] 113) = w1 at *
  clear hw1
  go_loopw [6] (fun i wr => ∃ m : Nat, m ≤ 25 ∧ i = .int .i64 (m : Int) ∧ Hid (∀ j, j < m → (sgs.getD j ByteArray.empty).data.toList.isPrefixOf (t.data.toList.drop k) = false) ∧ Hid (Below w1.heap.size w1 wr)) (fun i _ => 25 - (intOf i).toNat)
  case atStart => exact ⟨0, by omega, rfl, fun j hj => by omega, Below.refl _ _⟩
  case round =>
    obtain ⟨m, hm, rfl, hn, hB⟩ := hrel
    have hb1 : w.heap.size < w1.heap.size := World.block_lt_of_cell? w1 _ H5'.out.c0
    have HF : Hid (Five wr w.heap.size (.int .i64 0) (.int .i64 0) (.int .i64 0) (.string ⟨#[]⟩) (.int .i64 0)) := H5'.out.below hB.out hb1
    have HBw : Hid (Below w.heap.size w wr) := HB0.out.trans (hB.out.mono (by omega))
    by_cases hlt : m < 25
    · have hcx := (HT.out.next hB.out).sg m hlt
      obtain ⟨x, hx⟩ : ∃ x, x = sgs.getD m ByteArray.empty := ⟨_, rfl⟩
      have hxs := sg_size m hlt
      rw [← hx] at hcx hxs
      have HXm : Hid (x = sgs.getD m ByteArray.empty) := hx
      clear hx
      have hh := sign_here t x k hk
      have hxs' : (x.size : Int) ≤ 2 := by omega
      have m1 : (m : Int) < 25 := by omega
      have m0 : (0 : Int) ≤ (m : Int) := by omega
      by_cases hp : x.data.toList.isPrefixOf (t.data.toList.drop k) = true
      · have hs := sign_hit (t.data.toList.drop k) m hlt hn.out (by rw [← HXm.out]; exact hp)
        rw [← HXm.out] at hs
        have HR : Hid (resV k (signS (t.data.toList.drop k)) = .tuple #[.agg #[.int .i64 5, .int .i64 (k : Int), .int .i64 ((k : Int) + (x.size : Int)), .string x, .int .i64 0], .int .i64 0]) := by
          rw [hs]
          rfl
        obtain ⟨h1, h2⟩ := hh.1 hp
        have h3 : (k : Int) + (x.size : Int) ≤ (t.size : Int) := by omega
        have h4 : (k : Int) ≤ (k : Int) + (x.size : Int) := by omega
        clear hs hh hp hn
        go_wp2
        go_quiet (fail)
        have hY := below_drewN wr nq
        generalize wr.drewN nq = Y at hY ⊢
        have F3 : Hid (Five Y w.heap.size _ _ _ _ _) := HF.out.below hY (Nat.lt_of_lt_of_le hb1 hB.out.size)
        have cx : Y.cell? ⟨11, m, none⟩ = some (.string x) := (hY.cell (p := ⟨11, m, none⟩) (World.block_lt_of_cell? wr _ hcx)).trans hcx
        have HBY : Hid (Below w.heap.size w Y) := HBw.out.trans (hY.mono HBw.out.size)
        obtain ⟨d0, d1, d2, d3, d4, f⟩ := F3.out
        have f0 := f 0 (by omega)
        have f1 := f 1 (by omega)
        have f2 := f 2 (by omega)
        have f3 := f 3 (by omega)
        have f4 := f 4 (by omega)
        clear f hY hcx
        go_wp2
        exact bodyPost_ret (ret5 (five_set F3.out _ _ _ _ _) rfl rfl) rfl ⟨congrArg Ending.returned HR.out.symm, below_set5 HBY.out (Nat.le_refl _) _ _ _ _ _⟩
      · have hpf : x.data.toList.isPrefixOf (t.data.toList.drop k) = false := Bool.eq_false_iff.2 hp
        have HN : Hid (∀ j, j < m + 1 → (sgs.getD j ByteArray.empty).data.toList.isPrefixOf (t.data.toList.drop k) = false) := by
          intro j hj
          by_cases hjm : j < m
          · exact hn.out j hjm
          · obtain rfl : j = m := by omega
            rw [← HXm.out]
            exact hpf
        rcases hh.2 hpf with h1 | ⟨h1, h2⟩
        · have h1d : decide ((x.size : Int) ≤ (t.size : Int) - (k : Int)) = false := by simp; omega
          clear hh hp hpf hn
          go_wp2
          go_quiet (fail)
          have hY := below_drewN wr nq
          generalize wr.drewN nq = Y at hY ⊢
          clear hcx
          go_wp2
          exact ⟨⟨m + 1, by omega, by go_num, HN, hB.out.trans (hY.mono hB.out.size)⟩, by simp [intOf]; omega⟩
        · have h3 : (k : Int) + (x.size : Int) ≤ (t.size : Int) := by omega
          have h4 : (k : Int) ≤ (k : Int) + (x.size : Int) := by omega
          clear hh hp hpf hn
          go_wp2
          go_quiet (fail)
          have hY := below_drewN wr nq
          generalize wr.drewN nq = Y at hY ⊢
          clear hcx
          go_wp2
          exact ⟨⟨m + 1, by omega, by go_num, HN, hB.out.trans (hY.mono hB.out.size)⟩, by simp [intOf]; omega⟩
    · obtain rfl : m = 25 := by omega
      have hs := sign_miss (t.data.toList.drop k) hn.out
      have HR : Hid (resV k (signS (t.data.toList.drop k)) = .tuple #[.agg #[.int .i64 0, .int .i64 0, .int .i64 0, .string ⟨#[]⟩, .int .i64 0], .int .i64 20]) := by
        rw [hs]
        rfl
      clear hs hn
      obtain ⟨c0, c1, c2, c3, c4, f⟩ := HF.out
      have f0 := f 0 (by omega)
      have f1 := f 1 (by omega)
      have f2 := f 2 (by omega)
      have f3 := f 3 (by omega)
      have f4 := f 4 (by omega)
      clear f
      go_wp2
      exact bodyPost_ret (ret5 (five_set HF.out _ _ _ _ _) rfl rfl) rfl ⟨congrArg Ending.returned HR.out.symm, below_set5 HBw.out (Nat.le_refl _) _ _ _ _ _⟩
end Go.Proofs.YtichbejmelkjeaaGreatDoor.Lx

namespace Go.Proofs.YtichbejmelkjeaaGreatDoor.Lx
open Go.RowKit

theorem five_other {w : World} {A B : Nat} {a b c d e : Value} (h : Five w A a b c d e) (hne : A ≠ B) (y0 y1 y2 y3 y4 : Value) :
    Five (((((w.setCell ⟨B, 0, none⟩ y0).setCell ⟨B, 1, none⟩ y1).setCell ⟨B, 2, none⟩ y2).setCell ⟨B, 3, none⟩ y3).setCell ⟨B, 4, none⟩ y4) A a b c d e := by
  have ot : ∀ (W : World) (i j : Nat) (y : Value), (W.setCell ⟨B, j, none⟩ y).cell? ⟨A, i, none⟩ = W.cell? ⟨A, i, none⟩ := fun W i j y => World.cell?_setCell_other _ _ _ _ (fun e => hne (by cases e; rfl))
  refine ⟨?_, ?_, ?_, ?_, ?_, ?_⟩
  · rw [ot, ot, ot, ot, ot]; exact h.c0
  · rw [ot, ot, ot, ot, ot]; exact h.c1
  · rw [ot, ot, ot, ot, ot]; exact h.c2
  · rw [ot, ot, ot, ot, ot]; exact h.c3
  · rw [ot, ot, ot, ot, ot]; exact h.c4
  · intro j hj
    simp only [World.frozen?_setCell]
    exact h.f j hj

set_option maxRecDepth 100000 in
set_option maxHeartbeats 4000000 in
theorem refTok_any (t : ByteArray) (k : Nat) (w : World) (ht : t.size ≤ 4194304) (hk : k < t.size) (hT : RTabs w) :
    Calls Tryz.prog 91 #[.string t, .int .i64 (k : Int)] w fun e w' => e = .returned (resV k (tokS (t.data.toList.drop k))) ∧ Below w.heap.size w w' := by
  have FA : Hid (Five ((w.alloc (.cells #[.int .i64 0, .int .i64 0, .int .i64 0, .string ⟨#[]⟩, .int .i64 0] 113)).alloc (.cells #[.int .i64 0, .int .i64 0, .int .i64 0, .string ⟨#[]⟩, .int .i64 0] 113)) w.heap.size (.int .i64 0) (.int .i64 0) (.int .i64 0) (.string ⟨#[]⟩) (.int .i64 0)) := (five_new w _ _ _ _ _ 113).below ((Below.refl _ _).alloc (Nat.le_refl _) _) (World.block_lt_of_cell? _ _ (five_new w _ _ _ _ _ 113).c0)
  have FB : Hid (Five ((w.alloc (.cells #[.int .i64 0, .int .i64 0, .int .i64 0, .string ⟨#[]⟩, .int .i64 0] 113)).alloc (.cells #[.int .i64 0, .int .i64 0, .int .i64 0, .string ⟨#[]⟩, .int .i64 0] 113)) (w.heap.size + 1) (.int .i64 0) (.int .i64 0) (.int .i64 0) (.string ⟨#[]⟩) (.int .i64 0)) := by
    have h := five_new (w.alloc (.cells #[.int .i64 0, .int .i64 0, .int .i64 0, .string ⟨#[]⟩, .int .i64 0] 113)) (.int .i64 0) (.int .i64 0) (.int .i64 0) (.string ⟨#[]⟩) (.int .i64 0) 113
    simp only [World.size_alloc] at h
    exact h
  have HB0 : Hid (Below w.heap.size w ((w.alloc (.cells #[.int .i64 0, .int .i64 0, .int .i64 0, .string ⟨#[]⟩, .int .i64 0] 113)).alloc (.cells #[.int .i64 0, .int .i64 0, .int .i64 0, .string ⟨#[]⟩, .int .i64 0] 113))) := ((Below.refl _ w).alloc (Nat.le_refl _) _).alloc (by simp) _
  have hb1 : w.heap.size < ((w.alloc (.cells #[.int .i64 0, .int .i64 0, .int .i64 0, .string ⟨#[]⟩, .int .i64 0] 113)).alloc (.cells #[.int .i64 0, .int .i64 0, .int .i64 0, .string ⟨#[]⟩, .int .i64 0] 113)).heap.size := World.block_lt_of_cell? _ _ FA.out.c0
  have hb2 : w.heap.size + 1 < ((w.alloc (.cells #[.int .i64 0, .int .i64 0, .int .i64 0, .string ⟨#[]⟩, .int .i64 0] 113)).alloc (.cells #[.int .i64 0, .int .i64 0, .int .i64 0, .string ⟨#[]⟩, .int .i64 0] 113)).heap.size := World.block_lt_of_cell? _ _ FB.out.c0
  have HT : Hid (RTabs ((w.alloc (.cells #[.int .i64 0, .int .i64 0, .int .i64 0, .string ⟨#[]⟩, .int .i64 0] 113)).alloc (.cells #[.int .i64 0, .int .i64 0, .int .i64 0, .string ⟨#[]⟩, .int .i64 0] 113))) := hT.next HB0.out
  clear hT
  obtain ⟨c, hc⟩ : ∃ c, t[k]'hk = c := ⟨_, rfl⟩
  have hdr := drop_at t k hk
  rw [hc] at hdr
  have h4 : (letterB c = true ∧ tokS (t.data.toList.drop k) = wordS (t.data.toList.drop k)) ∨ (letterB c = false ∧ digitB c = true ∧ tokS (t.data.toList.drop k) = numS (t.data.toList.drop k)) ∨
      (letterB c = false ∧ digitB c = false ∧ c = 34 ∧ tokS (t.data.toList.drop k) = txtS ((t.data.toList.drop (k + 1)).length + 1) 1 [] (t.data.toList.drop (k + 1))) ∨ (letterB c = false ∧ digitB c = false ∧ c ≠ 34 ∧ tokS (t.data.toList.drop k) = signS (t.data.toList.drop k)) := by
    rw [hdr]
    simp only [tokS]
    by_cases h1 : letterB c = true
    · left; exact ⟨h1, by rw [if_pos h1]⟩
    · right
      have h1' : letterB c = false := by simpa using h1
      by_cases h2 : digitB c = true
      · left; exact ⟨h1', h2, by rw [if_neg h1, if_pos h2]⟩
      · right
        have h2' : digitB c = false := by simpa using h2
        by_cases h3 : c = 34
        · left; exact ⟨h1', h2', h3, by rw [if_neg h1, if_neg h2, if_pos h3]⟩
        · right; exact ⟨h1', h2', h3, by rw [if_neg h1, if_neg h2, if_neg h3]⟩
  have HL : Hid (∀ (w : World), Calls Tryz.prog 102 #[.int .u8 (c.toNat : Int)] w fun e w' => e = .returned (.bool (letterB c)) ∧ w = w') := fun w => refLetter_any c w
  have HD : Hid (∀ (w : World), Calls Tryz.prog 104 #[.int .u8 (c.toNat : Int)] w fun e w' => e = .returned (.bool (digitB c)) ∧ w = w') := fun w => refDigit_any c w
  clear hdr
  have k0 : (0 : Int) ≤ (k : Int) := by omega
  have k1 : (k : Int) < (t.size : Int) := by omega
  rcases h4 with ⟨h1, he⟩ | ⟨h1, h2, he⟩ | ⟨h1, h2, h3, he⟩ | ⟨h1, h2, h3, he⟩
  · obtain ⟨a0, a1, a2, a3, a4, x, hv⟩ := resV_shape k (wordS (t.data.toList.drop k))
    have HC := refWord_any t k ((w.alloc (.cells #[.int .i64 0, .int .i64 0, .int .i64 0, .string ⟨#[]⟩, .int .i64 0] 113)).alloc (.cells #[.int .i64 0, .int .i64 0, .int .i64 0, .string ⟨#[]⟩, .int .i64 0] 113)) (by omega) hk HT.out
    rw [he]
    rw [hv] at HC ⊢
    have HC' : Hid (Calls Tryz.prog 103 #[.string t, .int .i64 (k : Int)] ((w.alloc (.cells #[.int .i64 0, .int .i64 0, .int .i64 0, .string ⟨#[]⟩, .int .i64 0] 113)).alloc (.cells #[.int .i64 0, .int .i64 0, .int .i64 0, .string ⟨#[]⟩, .int .i64 0] 113)) fun e w' => e = .returned (.tuple #[.agg #[.int .i64 a0, .int .i64 a1, .int .i64 a2, .string a3, .int .i64 a4], .int .i64 x]) ∧ Below ((w.alloc (.cells #[.int .i64 0, .int .i64 0, .int .i64 0, .string ⟨#[]⟩, .int .i64 0] 113)).alloc (.cells #[.int .i64 0, .int .i64 0, .int .i64 0, .string ⟨#[]⟩, .int .i64 0] 113)).heap.size ((w.alloc (.cells #[.int .i64 0, .int .i64 0, .int .i64 0, .string ⟨#[]⟩, .int .i64 0] 113)).alloc (.cells #[.int .i64 0, .int .i64 0, .int .i64 0, .string ⟨#[]⟩, .int .i64 0] 113)) w') := HC
    rw [h1] at HL
    clear HC he hv h1
    go_enter Tryz.func91, Tryz.ntmps91
    go_wp2_with (first
      | (go_at_call 102; refine (HL.out _).mono ?_; rintro e w2 ⟨rfl, hw2⟩; subst hw2)
      | (go_at_call 103; refine HC'.out.mono ?_; rintro e w3 ⟨rfl, hb3⟩; have F3 : Hid (Five w3 w.heap.size _ _ _ _ _) := FA.out.below hb3 hb1; have G3 : Hid (Five w3 (w.heap.size + 1) _ _ _ _ _) := FB.out.below hb3 hb2; obtain ⟨c0, c1, c2, c3, c4, f⟩ := F3.out; have f0 := f 0 (by omega); have f1 := f 1 (by omega); have f2 := f 2 (by omega); have f3 := f 3 (by omega); have f4 := f 4 (by omega); clear f; obtain ⟨d0, d1, d2, d3, d4, g⟩ := G3.out; have g0 := g 0 (by omega); have g1 := g 1 (by omega); have g2 := g 2 (by omega); have g3 := g 3 (by omega); have g4 := g 4 (by omega); clear g)
      | go_in)
    have HB3 : Below w.heap.size w w3 := HB0.out.trans (hb3.mono (Nat.le_of_lt hb1))
    exact bodyPost_ret (ret5 (five_set (five_other F3.out (by omega) _ _ _ _ _) _ _ _ _ _) rfl rfl) rfl ⟨rfl, below_set5 (below_set5 HB3 (Nat.le_succ _) _ _ _ _ _) (Nat.le_refl _) _ _ _ _ _⟩
  · obtain ⟨a0, a1, a2, a3, a4, x, hv⟩ := resV_shape k (numS (t.data.toList.drop k))
    have HC := refNum_any t k ((w.alloc (.cells #[.int .i64 0, .int .i64 0, .int .i64 0, .string ⟨#[]⟩, .int .i64 0] 113)).alloc (.cells #[.int .i64 0, .int .i64 0, .int .i64 0, .string ⟨#[]⟩, .int .i64 0] 113)) (by omega) hk (by rw [hc]; exact h2)
    rw [he]
    rw [hv] at HC ⊢
    have HC' : Hid (Calls Tryz.prog 105 #[.string t, .int .i64 (k : Int)] ((w.alloc (.cells #[.int .i64 0, .int .i64 0, .int .i64 0, .string ⟨#[]⟩, .int .i64 0] 113)).alloc (.cells #[.int .i64 0, .int .i64 0, .int .i64 0, .string ⟨#[]⟩, .int .i64 0] 113)) fun e w' => e = .returned (.tuple #[.agg #[.int .i64 a0, .int .i64 a1, .int .i64 a2, .string a3, .int .i64 a4], .int .i64 x]) ∧ Below ((w.alloc (.cells #[.int .i64 0, .int .i64 0, .int .i64 0, .string ⟨#[]⟩, .int .i64 0] 113)).alloc (.cells #[.int .i64 0, .int .i64 0, .int .i64 0, .string ⟨#[]⟩, .int .i64 0] 113)).heap.size ((w.alloc (.cells #[.int .i64 0, .int .i64 0, .int .i64 0, .string ⟨#[]⟩, .int .i64 0] 113)).alloc (.cells #[.int .i64 0, .int .i64 0, .int .i64 0, .string ⟨#[]⟩, .int .i64 0] 113)) w') := HC
    rw [h1] at HL
    rw [h2] at HD
    clear HC he hv h1 h2
    go_enter Tryz.func91, Tryz.ntmps91
    go_wp2_with (first
      | (go_at_call 102; refine (HL.out _).mono ?_; rintro e w2 ⟨rfl, hw2⟩; subst hw2)
      | (go_at_call 104; refine (HD.out _).mono ?_; rintro e w2 ⟨rfl, hw2⟩; subst hw2)
      | (go_at_call 105; refine HC'.out.mono ?_; rintro e w3 ⟨rfl, hb3⟩; have F3 : Hid (Five w3 w.heap.size _ _ _ _ _) := FA.out.below hb3 hb1; have G3 : Hid (Five w3 (w.heap.size + 1) _ _ _ _ _) := FB.out.below hb3 hb2; obtain ⟨c0, c1, c2, c3, c4, f⟩ := F3.out; have f0 := f 0 (by omega); have f1 := f 1 (by omega); have f2 := f 2 (by omega); have f3 := f 3 (by omega); have f4 := f 4 (by omega); clear f; obtain ⟨d0, d1, d2, d3, d4, g⟩ := G3.out; have g0 := g 0 (by omega); have g1 := g 1 (by omega); have g2 := g 2 (by omega); have g3 := g 3 (by omega); have g4 := g 4 (by omega); clear g)
      | go_in)
    have HB3 : Below w.heap.size w w3 := HB0.out.trans (hb3.mono (Nat.le_of_lt hb1))
    exact bodyPost_ret (ret5 (five_set (five_other F3.out (by omega) _ _ _ _ _) _ _ _ _ _) rfl rfl) rfl ⟨rfl, below_set5 (below_set5 HB3 (Nat.le_succ _) _ _ _ _ _) (Nat.le_refl _) _ _ _ _ _⟩
  · obtain ⟨a0, a1, a2, a3, a4, x, hv⟩ := resV_shape k (txtS ((t.data.toList.drop (k + 1)).length + 1) 1 [] (t.data.toList.drop (k + 1)))
    have HC := refQuoted_any t k ((w.alloc (.cells #[.int .i64 0, .int .i64 0, .int .i64 0, .string ⟨#[]⟩, .int .i64 0] 113)).alloc (.cells #[.int .i64 0, .int .i64 0, .int .i64 0, .string ⟨#[]⟩, .int .i64 0] 113)) ht hk
    rw [he]
    rw [hv] at HC ⊢
    have HC' : Hid (Calls Tryz.prog 106 #[.string t, .int .i64 (k : Int)] ((w.alloc (.cells #[.int .i64 0, .int .i64 0, .int .i64 0, .string ⟨#[]⟩, .int .i64 0] 113)).alloc (.cells #[.int .i64 0, .int .i64 0, .int .i64 0, .string ⟨#[]⟩, .int .i64 0] 113)) fun e w' => e = .returned (.tuple #[.agg #[.int .i64 a0, .int .i64 a1, .int .i64 a2, .string a3, .int .i64 a4], .int .i64 x]) ∧ Below ((w.alloc (.cells #[.int .i64 0, .int .i64 0, .int .i64 0, .string ⟨#[]⟩, .int .i64 0] 113)).alloc (.cells #[.int .i64 0, .int .i64 0, .int .i64 0, .string ⟨#[]⟩, .int .i64 0] 113)).heap.size ((w.alloc (.cells #[.int .i64 0, .int .i64 0, .int .i64 0, .string ⟨#[]⟩, .int .i64 0] 113)).alloc (.cells #[.int .i64 0, .int .i64 0, .int .i64 0, .string ⟨#[]⟩, .int .i64 0] 113)) w') := HC
    rw [h1] at HL
    rw [h2] at HD
    clear HC he hv h1 h2
    subst h3
    go_enter Tryz.func91, Tryz.ntmps91
    go_wp2_with (first
      | (go_at_call 102; refine (HL.out _).mono ?_; rintro e w2 ⟨rfl, hw2⟩; subst hw2)
      | (go_at_call 104; refine (HD.out _).mono ?_; rintro e w2 ⟨rfl, hw2⟩; subst hw2)
      | (go_at_call 106; refine HC'.out.mono ?_; rintro e w3 ⟨rfl, hb3⟩; have F3 : Hid (Five w3 w.heap.size _ _ _ _ _) := FA.out.below hb3 hb1; have G3 : Hid (Five w3 (w.heap.size + 1) _ _ _ _ _) := FB.out.below hb3 hb2; obtain ⟨c0, c1, c2, c3, c4, f⟩ := F3.out; have f0 := f 0 (by omega); have f1 := f 1 (by omega); have f2 := f 2 (by omega); have f3 := f 3 (by omega); have f4 := f 4 (by omega); clear f; obtain ⟨d0, d1, d2, d3, d4, g⟩ := G3.out; have g0 := g 0 (by omega); have g1 := g 1 (by omega); have g2 := g 2 (by omega); have g3 := g 3 (by omega); have g4 := g 4 (by omega); clear g)
      | go_in)
    have HB3 : Below w.heap.size w w3 := HB0.out.trans (hb3.mono (Nat.le_of_lt hb1))
    exact bodyPost_ret (ret5 (five_set (five_other F3.out (by omega) _ _ _ _ _) _ _ _ _ _) rfl rfl) rfl ⟨rfl, below_set5 (below_set5 HB3 (Nat.le_succ _) _ _ _ _ _) (Nat.le_refl _) _ _ _ _ _⟩
  · obtain ⟨a0, a1, a2, a3, a4, x, hv⟩ := resV_shape k (signS (t.data.toList.drop k))
    have HC := refSign_any t k ((w.alloc (.cells #[.int .i64 0, .int .i64 0, .int .i64 0, .string ⟨#[]⟩, .int .i64 0] 113)).alloc (.cells #[.int .i64 0, .int .i64 0, .int .i64 0, .string ⟨#[]⟩, .int .i64 0] 113)) (by omega) hk HT.out
    rw [he]
    rw [hv] at HC ⊢
    have HC' : Hid (Calls Tryz.prog 107 #[.string t, .int .i64 (k : Int)] ((w.alloc (.cells #[.int .i64 0, .int .i64 0, .int .i64 0, .string ⟨#[]⟩, .int .i64 0] 113)).alloc (.cells #[.int .i64 0, .int .i64 0, .int .i64 0, .string ⟨#[]⟩, .int .i64 0] 113)) fun e w' => e = .returned (.tuple #[.agg #[.int .i64 a0, .int .i64 a1, .int .i64 a2, .string a3, .int .i64 a4], .int .i64 x]) ∧ Below ((w.alloc (.cells #[.int .i64 0, .int .i64 0, .int .i64 0, .string ⟨#[]⟩, .int .i64 0] 113)).alloc (.cells #[.int .i64 0, .int .i64 0, .int .i64 0, .string ⟨#[]⟩, .int .i64 0] 113)).heap.size ((w.alloc (.cells #[.int .i64 0, .int .i64 0, .int .i64 0, .string ⟨#[]⟩, .int .i64 0] 113)).alloc (.cells #[.int .i64 0, .int .i64 0, .int .i64 0, .string ⟨#[]⟩, .int .i64 0] 113)) w') := HC
    rw [h1] at HL
    rw [h2] at HD
    have b34 := u8ne (n := 34) (by omega) h3
    clear HC he hv h1 h2 h3
    go_enter Tryz.func91, Tryz.ntmps91
    go_wp2_with (first
      | (go_at_call 102; refine (HL.out _).mono ?_; rintro e w2 ⟨rfl, hw2⟩; subst hw2)
      | (go_at_call 104; refine (HD.out _).mono ?_; rintro e w2 ⟨rfl, hw2⟩; subst hw2)
      | (go_at_call 107; refine HC'.out.mono ?_; rintro e w3 ⟨rfl, hb3⟩; have F3 : Hid (Five w3 w.heap.size _ _ _ _ _) := FA.out.below hb3 hb1; have G3 : Hid (Five w3 (w.heap.size + 1) _ _ _ _ _) := FB.out.below hb3 hb2; obtain ⟨c0, c1, c2, c3, c4, f⟩ := F3.out; have f0 := f 0 (by omega); have f1 := f 1 (by omega); have f2 := f 2 (by omega); have f3 := f 3 (by omega); have f4 := f 4 (by omega); clear f; obtain ⟨d0, d1, d2, d3, d4, g⟩ := G3.out; have g0 := g 0 (by omega); have g1 := g 1 (by omega); have g2 := g 2 (by omega); have g3 := g 3 (by omega); have g4 := g 4 (by omega); clear g)
      | go_in)
    have HB3 : Below w.heap.size w w3 := HB0.out.trans (hb3.mono (Nat.le_of_lt hb1))
    exact bodyPost_ret (ret5 (five_set (five_other F3.out (by omega) _ _ _ _ _) _ _ _ _ _) rfl rfl) rfl ⟨rfl, below_set5 (below_set5 HB3 (Nat.le_succ _) _ _ _ _ _) (Nat.le_refl _) _ _ _ _ _⟩
end Go.Proofs.YtichbejmelkjeaaGreatDoor.Lx

namespace Go.Proofs.YtichbejmelkjeaaGreatDoor.Lx
open Go.RowKit

/-- A gap, passed over. -/
theorem gap_scan (f : Nat) : ∀ (k : Nat) (l : List UInt8) (acc : List (Nat × Tk)), l.length < f → ∃ f', (l.drop (gpS false l)).length < f' ∧ comb acc (scanS f k l) = comb acc (scanS f' (k + gpS false l) (l.drop (gpS false l))) ∧ ((l.drop (gpS false l)) = [] ∨ ∃ c r, l.drop (gpS false l) = c :: r ∧ blankB c = false ∧ c ≠ 35) := by
  induction f with
  | zero => intro k l acc h; omega
  | succ f ih =>
    intro k l acc h
    match l with
    | [] => exact ⟨f + 1, by simp [gpS], rfl, Or.inl rfl⟩
    | c :: r =>
      rw [List.length_cons] at h
      by_cases hb : blankB c = true
      · have h35 : c ≠ 35 := fun e => by subst e; exact absurd hb (by decide)
        have e : gpS false (c :: r) = 1 + gpS false r := by simp only [gpS]; rw [if_neg h35, if_pos hb]
        obtain ⟨f', h1, h2, h3⟩ := ih (k + 1) r acc (by omega)
        rw [e, Nat.add_comm 1, List.drop_succ_cons, scan_blank f k c r hb]
        exact ⟨f', h1, by rw [h2, show k + (gpS false r + 1) = k + 1 + gpS false r from by omega], h3⟩
      · have hbf : blankB c = false := by simpa using hb
        by_cases h35 : c = 35
        · subst h35
          have hcp := cmt_pos r
          have hcl := cmt_le (35 :: r)
          rw [List.length_cons] at hcl
          obtain ⟨f', h1, h2, h3⟩ := ih (k + cmtS (35 :: r)) ((35 :: r).drop (cmtS (35 :: r))) acc (by rw [List.length_drop, List.length_cons]; omega)
          have e : gpS false (35 :: r) = cmtS (35 :: r) + gpS false ((35 :: r).drop (cmtS (35 :: r))) := by
            have hsp : 35 :: r = (35 :: r).take (cmtS (35 :: r)) ++ (35 :: r).drop (cmtS (35 :: r)) := (List.take_append_drop _ _).symm
            have hby := cmt_bytes (35 :: r)
            have hre := cmt_rest (35 :: r)
            generalize cmtS (35 :: r) = n at *
            obtain ⟨n, rfl⟩ : ∃ q, n = q + 1 := ⟨n - 1, by omega⟩
            rw [List.take_succ_cons] at hby
            rw [List.drop_succ_cons] at hre ⊢
            simp only [gpS]
            rw [if_pos trivial]
            conv => lhs; rw [← List.take_append_drop n r]
            rw [gp_true_app _ _ (fun c hc => hby c (by simp [hc])), List.length_take, gp_same _ hre]
            omega
          rw [e, ← List.drop_drop, scan_cmt, ← Nat.add_assoc]
          exact ⟨f', h1, h2, h3⟩
        · have e : gpS false (c :: r) = 0 := by simp only [gpS]; rw [if_neg h35, if_neg hb]
          rw [e]
          exact ⟨f + 1, by simp; omega, rfl, Or.inr ⟨c, r, rfl, hbf, h35⟩⟩

set_option maxRecDepth 100000 in
set_option maxHeartbeats 4000000 in
theorem refScan_big (t : ByteArray) (w : World) (hk : 4194304 < t.size) :
    Calls Tryz.prog 78 #[.string t] w (scanPost w (.inl (2, 4194304))) := by
  have h1 : (4194304 : Int) < (t.size : Int) := by omega
  unfold scanPost
  simp only
  go_enter Tryz.func78, Tryz.ntmps78
  go_wp2
  exact bodyPost_ret (ret2 (two_new w _ _ 126) rfl rfl) rfl ⟨rfl, (Below.refl _ w).alloc (Nat.le_refl _) _⟩

set_option maxRecDepth 100000 in
set_option maxHeartbeats 8000000 in
theorem refScan_any (t : ByteArray) (w : World) (ht : t.size ≤ 4194304) (hT : RTabs w) :
    Calls Tryz.prog 78 #[.string t] w (scanPost w (scanS (t.size + 1) 0 t.data.toList)) := by
  have H2 : Hid (Two (w.alloc (.cells #[.int .i64 0, .int .i64 0] 126)) w.heap.size (.int .i64 0) (.int .i64 0)) := two_new w _ _ 126
  have HB0 : Hid (Below w.heap.size w (w.alloc (.cells #[.int .i64 0, .int .i64 0] 126))) := (Below.refl _ w).alloc (Nat.le_refl _) _
  have HT : Hid (RTabs (w.alloc (.cells #[.int .i64 0, .int .i64 0] 126))) := hT.next HB0.out
  clear hT
  have h1 : ¬ (4194304 : Int) < (t.size : Int) := by omega
  obtain ⟨R, hR⟩ : ∃ R, scanS (t.size + 1) 0 t.data.toList = R := ⟨_, rfl⟩
  rw [hR]
  have HGp : Hid (∀ (j : Nat) (w : World), j ≤ t.size → Calls Tryz.prog 90 #[.string t, .int .i64 (j : Int)] w fun e w' => e = .returned (.int .i64 ((j + gpS false (t.data.toList.drop j) : Nat) : Int)) ∧ w = w') := fun j w hj => refGap_any t j w (by omega) hj
  have hstart : ∃ f' : Nat, t.size - gpS false t.data.toList < f' ∧ comb [] (scanS f' (gpS false t.data.toList) (t.data.toList.drop (gpS false t.data.toList))) = R ∧ (t.data.toList.drop (gpS false t.data.toList) = [] ∨ ∃ c r, t.data.toList.drop (gpS false t.data.toList) = c :: r ∧ blankB c = false ∧ c ≠ 35) := by
    obtain ⟨f', a1, a2, a3⟩ := gap_scan (t.size + 1) 0 t.data.toList [] (by rw [← Lib.size_eq]; omega)
    rw [List.length_drop, ← Lib.size_eq] at a1
    rw [Nat.zero_add, hR] at a2
    refine ⟨f', a1, ?_, a3⟩
    rw [← a2]
    cases R <;> simp [comb]
  have hg0 := gp_le false t.data.toList
  rw [← Lib.size_eq] at hg0
  have HG0 : Hid (Calls Tryz.prog 90 #[.string t, .int .i64 0] (w.alloc (.cells #[.int .i64 0, .int .i64 0] 126)) fun e w' => e = .returned (.int .i64 ((gpS false t.data.toList : Nat) : Int)) ∧ w.alloc (.cells #[.int .i64 0, .int .i64 0] 126) = w') := by
    have h := refGap_any t 0 (w.alloc (.cells #[.int .i64 0, .int .i64 0] 126)) (by omega) (by omega)
    rw [List.drop_zero, Nat.zero_add] at h
    exact h
  obtain ⟨G, hG⟩ : ∃ G, gpS false t.data.toList = G := ⟨_, rfl⟩
  rw [hG] at hstart hg0 HG0
  have HSt : Hid (∃ f' : Nat, t.size - G < f' ∧ comb [] (scanS f' G (t.data.toList.drop G)) = R ∧ (t.data.toList.drop G = [] ∨ ∃ c r, t.data.toList.drop G = c :: r ∧ blankB c = false ∧ c ≠ 35)) := hstart
  clear hR hstart hG
  go_enter Tryz.func78, Tryz.ntmps78
  go_wp2_with (first
    | (go_at_call 90; refine HG0.out.mono ?_; rintro e w2 ⟨rfl, hw2⟩; subst hw2)
    | go_in)
  generalize hw1 : w.alloc (.cells #[.int .i64 0, .int .i64 0] 126) = w1 at *
  clear hw1 HG0
  have hb1 : w.heap.size < w1.heap.size := World.block_lt_of_cell? w1 _ H2.out.c0
  go_loopw [4, 5] (fun v i wr => ∃ (f j : Nat) (acc : List (Nat × Tk)), j ≤ t.size ∧ i = .int .i64 (j : Int) ∧ t.size - j < f ∧ acc.length ≤ j ∧ Hid (comb acc (scanS f j (t.data.toList.drop j)) = R) ∧ Hid (t.data.toList.drop j = [] ∨ ∃ c r, t.data.toList.drop j = c :: r ∧ blankB c = false ∧ c ≠ 35) ∧ Hid (wr.ownsRow w1.heap.size 113 5 v acc.length (toksV acc)) ∧ Hid (Below w1.heap.size w1 wr)) (fun _ i _ => t.size - (intOf i).toNat)
  case atStart =>
    obtain ⟨f', a1, a2, a3⟩ := HSt.out
    exact ⟨f', G, [], hg0, rfl, a1, by simp, a2, a3, World.ownsRow_nil _ _ _ _, Below.refl _ _⟩
  case round =>
    clear HSt hg0
    obtain ⟨f, j, acc, hj, rfl, hf, ha, hx, hnb, ho, hB⟩ := hrel
    have HF : Hid (Two wr w.heap.size (.int .i64 0) (.int .i64 0)) := H2.out.below hB.out hb1
    have HBw : Hid (Below w.heap.size w wr) := HB0.out.trans (hB.out.mono (by omega))
    obtain ⟨f, rfl⟩ : ∃ q, f = q + 1 := ⟨f - 1, by omega⟩
    by_cases hlt : j < t.size
    · have hjt : (j : Int) < (t.size : Int) := by omega
      obtain ⟨c, hc⟩ : ∃ c, t[j]'hlt = c := ⟨_, rfl⟩
      have hdr := drop_at t j hlt
      rw [hc] at hdr
      obtain ⟨hbf, h35⟩ : blankB c = false ∧ c ≠ 35 := by
        rcases hnb.out with e | ⟨c2, r2, e, q1, q2⟩
        · rw [e] at hdr; cases hdr
        · rw [hdr] at e
          injection e with e1 e2
          subst e1
          exact ⟨q1, q2⟩
      have HC0 := refTok_any t j wr (by omega) hlt (HT.out.below hB.out HT.out.size)
      cases hk : tokS (t.data.toList.drop j) with
      | inl e =>
        have hke := hk
        rw [hk] at HC0
        have HC : Hid (Calls Tryz.prog 91 #[.string t, .int .i64 (j : Int)] wr fun x w' => x = .returned (.tuple #[.agg #[.int .i64 0, .int .i64 0, .int .i64 0, .string ⟨#[]⟩, .int .i64 0], .int .i64 (e : Int)]) ∧ Below wr.heap.size wr w') := HC0
        have hR : R = .inl (e, j) := by
          rw [← hx.out, hdr, scan_bad f j c _ e hbf h35 (by rw [← hdr]; exact hk)]
          rfl
        subst hR
        clear hx hdr hbf hk HC0 h35 hnb
        have he0 : ((e : Int) == 0) = false := by rw [beq_eq_false_iff_ne]; have := tok_err hke; omega
        clear hke
        go_wp2_with (first
          | (go_at_call 91; refine HC.out.mono ?_; rintro x w2 ⟨rfl, hb2⟩; have F3 : Hid (Two (w2.alloc (.cells #[.int .i64 0, .int .i64 0, .int .i64 0, .string ⟨#[]⟩, .int .i64 0] 113)) w.heap.size _ _) := (HF.out.below hb2 (World.block_lt_of_cell? wr _ HF.out.c0)).below ((Below.refl w2.heap.size w2).alloc (Nat.le_refl _) _) (Nat.lt_of_lt_of_le (World.block_lt_of_cell? wr _ HF.out.c0) hb2.size); obtain ⟨c0, c1, f⟩ := F3.out; have f0 := f 0 (by omega); have f1 := f 1 (by omega); clear f)
          | go_in)
        exact bodyPost_ret (ret2 (two_set F3.out _ _) rfl rfl) rfl ⟨rfl, below_set2 ((HBw.out.trans (hb2.mono HBw.out.size)).alloc (Nat.le_trans HBw.out.size hb2.size) _) (Nat.le_refl _) _ _⟩
      | inr x =>
        rw [hk] at HC0
        obtain ⟨hl1, hl2⟩ := tok_len hk
        rw [List.length_drop, ← Lib.size_eq] at hl2
        have hx2 : comb (acc ++ [(j, x)]) (scanS f (j + x.len) (t.data.toList.drop (j + x.len))) = R := by
          rw [← hx.out, ← List.drop_drop]
          conv => rhs; rw [hdr, scan_tok f j c _ x acc hbf h35 (by rw [← hdr]; exact hk)]
          rw [← hdr]
        obtain ⟨E, hE⟩ : ∃ E, j + x.len = E := ⟨_, rfl⟩
        rw [hE] at hx2
        obtain ⟨f', a1, a2, a3⟩ := gap_scan f E (t.data.toList.drop E) (acc ++ [(j, x)]) (by rw [List.length_drop, ← Lib.size_eq]; omega)
        have hgl := gp_le false (t.data.toList.drop E)
        rw [List.length_drop, ← Lib.size_eq] at hgl
        have HGc := HGp.out E
        rw [hx2, List.drop_drop] at a2
        rw [List.drop_drop] at a1 a3
        rw [List.length_drop, ← Lib.size_eq] at a1
        generalize gpS false (t.data.toList.drop E) = g at a1 a2 a3 hgl HGc
        have HX : Hid (comb (acc ++ [(j, x)]) (scanS f' (E + g) (t.data.toList.drop (E + g))) = R) := a2.symm
        have HNb : Hid (t.data.toList.drop (E + g) = [] ∨ ∃ c r, t.data.toList.drop (E + g) = c :: r ∧ blankB c = false ∧ c ≠ 35) := a3
        have HGc' : Hid (∀ w : World, Calls Tryz.prog 90 #[.string t, .int .i64 (E : Int)] w fun e w' => e = .returned (.int .i64 ((E + g : Nat) : Int)) ∧ w = w') := fun w => HGc w (by omega)
        have HC : Hid (Calls Tryz.prog 91 #[.string t, .int .i64 (j : Int)] wr fun y w' => y = .returned (.tuple #[.agg #[.int .i64 (x.kind : Int), .int .i64 (j : Int), .int .i64 (E : Int), .string ⟨x.text.toArray⟩, .int .i64 x.int], .int .i64 0]) ∧ Below wr.heap.size wr w') := by
          have h := HC0
          simp only [resV, tkCells] at h
          rw [show (j : Int) + (x.len : Int) = (E : Int) from by omega] at h
          exact h
        have HTk : Hid (#[.int .i64 (x.kind : Int), .int .i64 (j : Int), .int .i64 (E : Int), .string ⟨x.text.toArray⟩, .int .i64 x.int] = (tkCells j x).toArray) := by
          show _ = _
          unfold tkCells
          rw [show (j : Int) + (x.len : Int) = (E : Int) from by omega]
        clear hx hx2 hdr hbf hk HC0 h35 hnb a2 a3 HGc HGp
        go_wp2_with (first
          | (go_at_call 91; refine HC.out.mono ?_; rintro e w2 ⟨rfl, hb2⟩)
          | (at_builtin; refine wpList_appT (w0 := w1) (w := w2.alloc (.cells #[.int .i64 (x.kind : Int), .int .i64 (j : Int), .int .i64 (E : Int), .string ⟨x.text.toArray⟩, .int .i64 x.int] 113)) (by rfl) _ _ (by rfl) _ acc.length acc rfl (by rfl) ((own_stays ho.out hb2).alloc _) ((hB.out.trans (hb2.mono hB.out.size)).alloc (Nat.le_trans hB.out.size hb2.size) _) j x _ HTk.out (w2.heap.size + 1) (by simp) (by rfl) (by omega) ?_; intro v3 w3 ho3 hb3 hfar; have hce := (hfar.out ⟨w2.heap.size, 2, none⟩ (by simp) (own_ne_new ho.out _ hb2.size)).trans (five_new w2 _ _ _ _ _ 113).c2)
          | (go_at_call 90; refine (HGc'.out _).mono ?_; rintro e w4 ⟨rfl, hw4⟩; subst hw4)
          | go_in)
        exact ⟨⟨f', E + g, acc ++ [(j, x)], by omega, by go_num, by omega, by simp; omega, HX, HNb, by rw [List.length_append]; exact ho3, hb3⟩, by simp [intOf]; omega⟩
    · obtain rfl : j = t.size := by omega
      have hR : R = .inr (acc ++ [(t.size, ⟨0, 0, [], 0⟩)]) := by
        rw [← hx.out, List.drop_eq_nil_of_le (by rw [← Lib.size_eq]; omega), scan_end]
        rfl
      subst hR
      clear hx hnb HGp
      go_wp2_with (first
        | (at_builtin; refine wpList_appT (w0 := w1) (by rfl) _ _ (by rfl) _ acc.length acc rfl (by rfl) ho hB t.size ⟨0, 0, [], 0⟩ _ (by simp [tkCells]) _ rfl (by rfl) (by omega) ?_; intro v2 w2 ho2 hb2 _; obtain ⟨c0, c1, f⟩ := H2.out.below hb2.out hb1; have f0 := f 0 (by omega); have f1 := f 1 (by omega); clear f)
        | go_in)
      have F2 : Two w2 w.heap.size (.int .i64 0) (.int .i64 0) := H2.out.below hb2.out hb1
      refine bodyPost_ret (ret2 (two_set F2 _ _) rfl rfl) rfl ?_
      refine ⟨v2, rfl, ?_, below_set2 (HB0.out.trans (hb2.out.mono (by omega))) (Nat.le_refl _) _ _⟩
      have ho3 : w2.ownsRow w1.heap.size 113 5 v2 (acc ++ [(t.size, (⟨0, 0, [], 0⟩ : Tk))]).length (toksV (acc ++ [(t.size, ⟨0, 0, [], 0⟩)])) := by rw [List.length_append]; exact ho2.out
      exact own_base (ownsRow_setCell_below (ownsRow_setCell_below ho3 (by exact hb1) _) (by exact hb1) _) (by omega)
end Go.Proofs.YtichbejmelkjeaaGreatDoor.Lx
