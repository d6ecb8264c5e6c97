import Derived.BigQuiet
import Derived.Test.YtlahcmhjnhangaaDoorRWord
import Derived.Test.YtlahcmhjnhangaaDoorSignAt
namespace Go.Proofs.YtlahcmhjnhangaaDoor
open Go.RowKit Go.Shelf

/-- What stands at k is the sign x, or not. -/
theorem sign_here (t x : ByteArray) (k : Nat) (hk : k < t.size) :
    (x.data.toList.isPrefixOf (t.data.toList.drop k) = true → (x.size : Int) ≤ (t.size : Int) - (k : Int) ∧ t.extract k (k + x.size) = x) ∧
    (x.data.toList.isPrefixOf (t.data.toList.drop k) = false → ¬ (x.size : Int) ≤ (t.size : Int) - (k : Int) ∨ ((x.size : Int) ≤ (t.size : Int) - (k : Int) ∧ ((t.extract k (k + x.size)).toList == x.toList) = false)) := by
  have e : (t.extract k (k + x.size)).data.toList = (t.data.toList.drop k).take x.size := by rw [Lib.extract_data, Nat.add_sub_cancel_left]
  have hsz := Lib.size_eq t
  have hxs := Lib.size_eq x
  refine ⟨fun h => ?_, fun h => ?_⟩
  · rw [List.isPrefixOf_iff_prefix] at h
    have hl := h.length_le
    rw [List.length_drop, ← hsz, ← hxs] at hl
    refine ⟨by omega, ?_⟩
    apply ByteArray.ext
    apply Array.ext'
    rw [e, hxs]
    exact (List.prefix_iff_eq_take.1 h).symm
  · by_cases hl : x.size ≤ t.size - k
    · right
      refine ⟨by omega, ?_⟩
      rw [ByteArray.toList_eq, ByteArray.toList_eq, e, beq_eq_false_iff_ne]
      intro h2
      rw [← Bool.not_eq_true] at h
      apply h
      rw [List.isPrefixOf_iff_prefix, ← h2]
      exact List.take_prefix _ _
    · left; omega

theorem below_drewN (w : World) (n : Nat) : Below w.heap.size w (w.drewN n) := ⟨rfl, rfl, rfl, Nat.le_refl _, fun _ _ => rfl⟩

set_option maxRecDepth 100000 in
set_option maxHeartbeats 4000000 in
theorem refSign_any (t : ByteArray) (k : Nat) (w : World) (ht : t.size ≤ 140737488355328) (hk : k < t.size) (hT : RTabs w) :
    Calls Tryd.prog 45 #[.string t, .int .i64 (k : Int)] w fun e w' => e = .returned (resV k (signS (t.data.toList.drop k))) ∧ Below w.heap.size w w' := by
  have H5 := five_new w (.int .i64 0) (.int .i64 0) (.int .i64 0) (.string ⟨#[]⟩) (.int .i64 0) 35
  have H5' : Hid (Five (w.alloc (.cells #[.int .i64 0, .int .i64 0, .int .i64 0, .string ⟨#[]⟩, .int .i64 0] 35)) w.heap.size (.int .i64 0) (.int .i64 0) (.int .i64 0) (.string ⟨#[]⟩) (.int .i64 0)) := H5
  clear H5
  have HB0 : Hid (Below w.heap.size w (w.alloc (.cells #[.int .i64 0, .int .i64 0, .int .i64 0, .string ⟨#[]⟩, .int .i64 0] 35))) := (Below.refl _ w).alloc (Nat.le_refl _) _
  have HT : Hid (RTabs (w.alloc (.cells #[.int .i64 0, .int .i64 0, .int .i64 0, .string ⟨#[]⟩, .int .i64 0] 35))) := hT.next HB0.out
  clear hT
  have c1 : (0 : Int) ≤ ↑k := by omega
  have c2 : (↑k : Int) ≤ ↑t.size := by omega
  go_enter Tryd.func45, Tryd.ntmps45
  go_wp2
  generalize hw1 : w.alloc (.cells #[.int .i64 0, .int .i64 0, .int .i64 0, .string ⟨#[]⟩, .int .i64 0] 35) = w1 at *
  clear hw1
  go_loopw [6] (fun i wr => ∃ m : Nat, m ≤ 25 ∧ i = .int .i64 (m : Int) ∧ Hid (∀ j, j < m → (sgs.getD j ByteArray.empty).data.toList.isPrefixOf (t.data.toList.drop k) = false) ∧ Hid (Below w1.heap.size w1 wr)) (fun i _ => 25 - (intOf i).toNat)
  case atStart => exact ⟨0, by omega, rfl, fun j hj => by omega, Below.refl _ _⟩
  case round =>
    obtain ⟨m, hm, rfl, hn, hB⟩ := hrel
    have hb1 : w.heap.size < w1.heap.size := World.block_lt_of_cell? w1 _ H5'.out.c0
    have HF : Hid (Five wr w.heap.size (.int .i64 0) (.int .i64 0) (.int .i64 0) (.string ⟨#[]⟩) (.int .i64 0)) := H5'.out.below hB.out hb1
    have HBw : Hid (Below w.heap.size w wr) := HB0.out.trans (hB.out.mono (by omega))
    by_cases hlt : m < 25
    · have hcx := (HT.out.next hB.out).sg m hlt
      obtain ⟨x, hx⟩ : ∃ x, x = sgs.getD m ByteArray.empty := ⟨_, rfl⟩
      have hxs := sg_size m hlt
      rw [← hx] at hcx hxs
      have HXm : Hid (x = sgs.getD m ByteArray.empty) := hx
      clear hx
      have hh := sign_here t x k hk
      have hxs' : (x.size : Int) ≤ 2 := by omega
      have m1 : (m : Int) < 25 := by omega
      have m0 : (0 : Int) ≤ (m : Int) := by omega
      by_cases hp : x.data.toList.isPrefixOf (t.data.toList.drop k) = true
      · have hs := sign_hit (t.data.toList.drop k) m hlt hn.out (by rw [← HXm.out]; exact hp)
        rw [← HXm.out] at hs
        have HR : Hid (resV k (signS (t.data.toList.drop k)) = .tuple #[.agg #[.int .i64 5, .int .i64 (k : Int), .int .i64 ((k : Int) + (x.size : Int)), .string x, .int .i64 0], .int .i64 0]) := by
          rw [hs]
          rfl
        obtain ⟨h1, h2⟩ := hh.1 hp
        have h3 : (k : Int) + (x.size : Int) ≤ (t.size : Int) := by omega
        have h4 : (k : Int) ≤ (k : Int) + (x.size : Int) := by omega
        clear hs hh hp hn
        go_wp2
        go_quiet (fail)
        have hY := below_drewN wr nq
        generalize wr.drewN nq = Y at hY ⊢
        have F3 : Hid (Five Y w.heap.size _ _ _ _ _) := HF.out.below hY (Nat.lt_of_lt_of_le hb1 hB.out.size)
        have cx : Y.cell? ⟨3, m, none⟩ = some (.string x) := (hY.cell (p := ⟨3, m, none⟩) (World.block_lt_of_cell? wr _ hcx)).trans hcx
        have HBY : Hid (Below w.heap.size w Y) := HBw.out.trans (hY.mono HBw.out.size)
        obtain ⟨d0, d1, d2, d3, d4, f⟩ := F3.out
        have f0 := f 0 (by omega)
        have f1 := f 1 (by omega)
        have f2 := f 2 (by omega)
        have f3 := f 3 (by omega)
        have f4 := f 4 (by omega)
        clear f hY hcx
        go_wp2
        exact bodyPost_ret (ret5 (five_set F3.out _ _ _ _ _) rfl rfl) rfl ⟨congrArg Ending.returned HR.out.symm, below_set5 HBY.out (Nat.le_refl _) _ _ _ _ _⟩
      · have hpf : x.data.toList.isPrefixOf (t.data.toList.drop k) = false := Bool.eq_false_iff.2 hp
        have HN : Hid (∀ j, j < m + 1 → (sgs.getD j ByteArray.empty).data.toList.isPrefixOf (t.data.toList.drop k) = false) := by
          intro j hj
          by_cases hjm : j < m
          · exact hn.out j hjm
          · obtain rfl : j = m := by omega
            rw [← HXm.out]
            exact hpf
        rcases hh.2 hpf with h1 | ⟨h1, h2⟩
        · have h1d : decide ((x.size : Int) ≤ (t.size : Int) - (k : Int)) = false := by simp; omega
          clear hh hp hpf hn
          go_wp2
          go_quiet (fail)
          have hY := below_drewN wr nq
          generalize wr.drewN nq = Y at hY ⊢
          clear hcx
          go_wp2
          exact ⟨⟨m + 1, by omega, by go_num, HN, hB.out.trans (hY.mono hB.out.size)⟩, by simp [intOf]; omega⟩
        · have h3 : (k : Int) + (x.size : Int) ≤ (t.size : Int) := by omega
          have h4 : (k : Int) ≤ (k : Int) + (x.size : Int) := by omega
          clear hh hp hpf hn
          go_wp2
          go_quiet (fail)
          have hY := below_drewN wr nq
          generalize wr.drewN nq = Y at hY ⊢
          clear hcx
          go_wp2
          exact ⟨⟨m + 1, by omega, by go_num, HN, hB.out.trans (hY.mono hB.out.size)⟩, by simp [intOf]; omega⟩
    · obtain rfl : m = 25 := by omega
      have hs := sign_miss (t.data.toList.drop k) hn.out
      have HR : Hid (resV k (signS (t.data.toList.drop k)) = .tuple #[.agg #[.int .i64 0, .int .i64 0, .int .i64 0, .string ⟨#[]⟩, .int .i64 0], .int .i64 20]) := by
        rw [hs]
        rfl
      clear hs hn
      obtain ⟨c0, c1, c2, c3, c4, f⟩ := HF.out
      have f0 := f 0 (by omega)
      have f1 := f 1 (by omega)
      have f2 := f 2 (by omega)
      have f3 := f 3 (by omega)
      have f4 := f 4 (by omega)
      clear f
      go_wp2
      exact bodyPost_ret (ret5 (five_set HF.out _ _ _ _ _) rfl rfl) rfl ⟨congrArg Ending.returned HR.out.symm, below_set5 HBw.out (Nat.le_refl _) _ _ _ _ _⟩
end Go.Proofs.YtlahcmhjnhangaaDoor
