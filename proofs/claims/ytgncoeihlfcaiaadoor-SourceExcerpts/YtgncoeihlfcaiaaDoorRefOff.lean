import Derived.Test.YtgncoeihlfcaiaaDoorRef
namespace Go.Proofs.YtgncoeihlfcaiaaDoor
open Go.RowKit Go.Shelf

theorem ret_two {a b : Int} {c d : Int} (h : a = b) (k : c = d) : Ending.returned (.tuple #[.int .i64 a, .int .i64 c]) = .returned (.tuple #[.int .i64 b, .int .i64 d]) := by rw [h, k]

set_option maxRecDepth 100000 in
set_option maxHeartbeats 2000000 in
theorem roffset_any (s : ByteArray) (line col : Int) (w : World) (hs : s.size ≤ 140737488355328) :
    Calls Tryd.prog 25 #[.string s, .agg #[.int .i64 line, .int .i64 col]] w fun e w' => ∃ a f : Int, e = .returned (.tuple #[.int .i64 a, .int .i64 f]) ∧ OffIs s.data.toList line col a f ∧ Below w.heap.size w w' := by
  have hlen : s.data.toList.length = s.size := (Lib.size_eq s).symm
  have HLEN : Hid (s.data.toList.length = s.size) := hlen
  clear hlen
  have n0 := Pair.new w (.int .i64 line) (.int .i64 col) 23
  have n1 := Pair.new (w.alloc (.cells #[.int .i64 line, .int .i64 col] 23)) (.int .i64 1) (.int .i64 1) 23
  rw [World.size_alloc] at n1
  have hB0 : Below w.heap.size w ((w.alloc (.cells #[.int .i64 line, .int .i64 col] 23)).alloc (.cells #[.int .i64 1, .int .i64 1] 23)) := ((Below.refl _ w).alloc (Nat.le_refl _) _).alloc (by simp) _
  go_enter Tryd.func25, Tryd.ntmps25
  go_wp2
  go_loopw [7] (fun i wr => ∃ (j : Nat) (L C : Int), j ≤ s.size + 1 ∧ i = .int .i64 (j : Int) ∧ Pair wr (w.heap.size + 1) (.int .i64 L) (.int .i64 C) ∧ Pair wr w.heap.size (.int .i64 line) (.int .i64 col) ∧ (0 ≤ L ∧ L ≤ 140737488355330 ∧ 0 ≤ C ∧ C ≤ 140737488355330) ∧
    Hid ((j ≤ s.size → ((Src.pl (s.data.toList.take j)).1 : Int) = L ∧ ((Src.pl (s.data.toList.take j)).2 : Int) = C) ∧ ∀ i, i < j → ¬ (((Src.pl (s.data.toList.take i)).1 : Int) = line ∧ ((Src.pl (s.data.toList.take i)).2 : Int) = col)) ∧ Below w.heap.size w wr) (fun i _ => s.size + 1 - (intOf i).toNat)
  case atStart => exact ⟨0, 1, 1, by omega, rfl, n1, n0.alloc _, by omega, ⟨fun _ => ⟨rfl, rfl⟩, fun i hi => absurd hi (Nat.not_lt_zero _)⟩, hB0⟩
  case round =>
    clear n0 n1 hB0
    obtain ⟨j, L, C, hj, rfl, hp1, hp0, ⟨hL0, hL1, hC0, hC1⟩, hh, hB⟩ := hrel
    obtain ⟨⟨hc0, hf0⟩, hc1, hf1⟩ := id hp1
    obtain ⟨⟨r0, g0⟩, r1, g1⟩ := id hp0
    by_cases hlt : j ≤ s.size
    · have HQ : Hid (((Src.pl (s.data.toList.take j)).1 : Int) = L ∧ ((Src.pl (s.data.toList.take j)).2 : Int) = C) := hh.out.1 hlt
      have HN : Hid (∀ i, i < j → ¬ (((Src.pl (s.data.toList.take i)).1 : Int) = line ∧ ((Src.pl (s.data.toList.take i)).2 : Int) = col)) := hh.out.2
      clear hh
      by_cases hm : L = line ∧ C = col
      · obtain ⟨rfl, rfl⟩ := hm
        go_wp2
        go_ret2
        exact ⟨(j : Int), 0, rfl, Or.inl ⟨j, by rw [HLEN.out]; exact hlt, HQ.out.1, HQ.out.2, rfl, rfl⟩, hB⟩
      · have HN' : Hid (∀ i, i < j + 1 → ¬ (((Src.pl (s.data.toList.take i)).1 : Int) = line ∧ ((Src.pl (s.data.toList.take i)).2 : Int) = col)) := by
          intro i hi
          by_cases hij : i = j
          · subst hij
            rw [HQ.out.1, HQ.out.2]
            exact hm
          · exact HN.out i (by omega)
        have hm2 : (L == line) = false ∨ ((L == line) = true ∧ (C == col) = false) := by
          by_cases h1 : L = line
          · exact Or.inr ⟨beq_iff_eq.2 h1, beq_eq_false_iff_ne.2 (fun h2 => hm ⟨h1, h2⟩)⟩
          · exact Or.inl (beq_eq_false_iff_ne.2 h1)
        clear hm HN
        by_cases hjs : j < s.size
        · have hbd := pl_bd s (j + 1) hs
          by_cases hc : s[j] = 10
          · have HP : Hid (_ ∧ _) := rises_ten hjs hc HQ.out.1
            rw [HP.out.1, HP.out.2] at hbd
            rcases hm2 with bm | ⟨bm, bm2⟩
            all_goals
              go_wp2
              exact ⟨⟨j + 1, L + 1, 1, by omega, by go_num, ((hp1.set1 _).set0 _).set1 _, ((hp0.far _ _ (by omega) _).far _ _ (by omega) _).far _ _ (by omega) _, by omega, ⟨fun _ => HP.out, HN'.out⟩, ((hB.setCell (p := ⟨w.heap.size + 1, 1, none⟩) (by simp) _).setCell (p := ⟨w.heap.size + 1, 0, none⟩) (by simp) _).setCell (p := ⟨w.heap.size + 1, 1, none⟩) (by simp) _⟩, by simp [intOf]; omega⟩
          · have HP : Hid (_ ∧ _) := rises_col hjs hc HQ.out.1 HQ.out.2
            rw [HP.out.1, HP.out.2] at hbd
            have b1 := byte_ten hc
            rcases hm2 with bm | ⟨bm, bm2⟩
            all_goals
              go_wp2
              exact ⟨⟨j + 1, L, C + 1, by omega, by go_num, hp1.set1 _, hp0.far _ _ (by omega) _, by omega, ⟨fun _ => HP.out, HN'.out⟩, hB.setCell (p := ⟨w.heap.size + 1, 1, none⟩) (by simp) _⟩, by simp [intOf]; omega⟩
        · have hbd := pl_bd s j hs
          rw [HQ.out.1, HQ.out.2] at hbd
          rcases hm2 with bm | ⟨bm, bm2⟩
          all_goals
            go_wp2
            exact ⟨⟨j + 1, L, C + 1, by omega, by go_num, hp1.set1 _, hp0.far _ _ (by omega) _, by omega, ⟨fun h => by omega, HN'.out⟩, hB.setCell (p := ⟨w.heap.size + 1, 1, none⟩) (by simp) _⟩, by simp [intOf]; omega⟩
    · go_wp2
      go_ret2
      exact ⟨0, 10, rfl, Or.inr ⟨fun i hi => hh.out.2 i (by rw [HLEN.out] at hi; omega), rfl, rfl⟩, hB⟩

end Go.Proofs.YtgncoeihlfcaiaaDoor
