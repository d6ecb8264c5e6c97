import Derived.Deep.RegionWith
import Derived.Test.YtgncoeihlfcaiaaAt
namespace Go.Proofs.Ytgncoeihlfcaiaa
open Go.RowKit Go.Shelf

theorem bcell {W w1 : World} (hb : Below W.heap.size W w1) : (∀ b o, b < W.heap.size → w1.cell? ⟨b, o, none⟩ = W.cell? ⟨b, o, none⟩) ∧ (∀ b o, b < W.heap.size → w1.frozen? ⟨b, o, none⟩ = W.frozen? ⟨b, o, none⟩) :=
  ⟨fun b o h => hb.cell (p := ⟨b, o, none⟩) h, fun b o h => hb.frozen (p := ⟨b, o, none⟩) h⟩

theorem where_int (s : ByteArray) (a : Int) (k : Nat) (L C : Int) (w : World) (hs : s.size ≤ 140737488355328) (hk : k ≤ s.size) (ha : Hid (a = (k : Int))) (hp : Hid (((Src.pl (s.data.toList.take k)).1 : Int) = L ∧ ((Src.pl (s.data.toList.take k)).2 : Int) = C)) :
    Calls Try.prog 10 #[.string s, .int .i64 a] w fun e w' => e = .returned (.tuple #[.agg #[.int .i64 L, .int .i64 C], .int .i64 0]) ∧ Below w.heap.size w w' := by
  rw [ha.out]
  exact where_at s k L C w hs hk hp

theorem end_world {w wr w1 : World} {a b : Value} (u v : Value) (o1 o2 : Obj) (hB : Below w.heap.size w wr) (hN : w.heap.size < wr.heap.size) (hb : Below wr.heap.size wr w1)
    (q0 : w1.cell? ⟨w.heap.size, 0, none⟩ = some a) (q1 : w1.cell? ⟨w.heap.size, 1, none⟩ = some b) (q2 : w1.frozen? ⟨w.heap.size, 0, none⟩ = false) (q3 : w1.frozen? ⟨w.heap.size, 1, none⟩ = false) :
    (((((w1.setCell ⟨w.heap.size, 0, none⟩ u).setCell ⟨w.heap.size, 1, none⟩ v).alloc o1).alloc o2).cell? ⟨w.heap.size, 0, none⟩ = some u ∧ ((((w1.setCell ⟨w.heap.size, 0, none⟩ u).setCell ⟨w.heap.size, 1, none⟩ v).alloc o1).alloc o2).frozen? ⟨w.heap.size, 0, none⟩ = false) ∧
    (((((w1.setCell ⟨w.heap.size, 0, none⟩ u).setCell ⟨w.heap.size, 1, none⟩ v).alloc o1).alloc o2).cell? ⟨w.heap.size, 1, none⟩ = some v ∧ ((((w1.setCell ⟨w.heap.size, 0, none⟩ u).setCell ⟨w.heap.size, 1, none⟩ v).alloc o1).alloc o2).frozen? ⟨w.heap.size, 1, none⟩ = false) ∧
    Below w.heap.size w ((((w1.setCell ⟨w.heap.size, 0, none⟩ u).setCell ⟨w.heap.size, 1, none⟩ v).alloc o1).alloc o2) ∧ w.heap.size < ((((w1.setCell ⟨w.heap.size, 0, none⟩ u).setCell ⟨w.heap.size, 1, none⟩ v).alloc o1).alloc o2).heap.size := by
  obtain ⟨t0, t1, _, t3⟩ := two_set u v q0 q1
  have f0 := (t3 ⟨w.heap.size, 0, none⟩).trans q2
  have f1 := (t3 ⟨w.heap.size, 1, none⟩).trans q3
  have h1 : Below w.heap.size w w1 := hB.trans (hb.mono hB.size)
  have h2 : Below w.heap.size w ((w1.setCell ⟨w.heap.size, 0, none⟩ u).setCell ⟨w.heap.size, 1, none⟩ v) := (h1.setCell (p := ⟨w.heap.size, 0, none⟩) (Nat.le_refl _) u).setCell (p := ⟨w.heap.size, 1, none⟩) (Nat.le_refl _) v
  have h3 := (h2.alloc h2.size o1)
  have h4 := (h3.alloc h3.size o2)
  refine ⟨⟨cell_alloc_l _ (cell_alloc_l _ t0), frozen_alloc_l _ (cell_alloc_l _ t0) (frozen_alloc_l _ t0 f0)⟩, ⟨cell_alloc_l _ (cell_alloc_l _ t1), frozen_alloc_l _ (cell_alloc_l _ t1) (frozen_alloc_l _ t1 f1)⟩, h4, ?_⟩
  have := Nat.lt_of_lt_of_le hN hb.size
  simp
  omega

theorem take_snoc (l : List UInt8) (j : Nat) (h : j < l.length) : l.take (j + 1) = l.take j ++ [l[j]] := List.take_succ_eq_append_getElem h

theorem rises_ten {s : ByteArray} {j : Nat} {L : Int} (hj : j < s.size) (hc : s[j] = 10) (h1 : ((Src.pl (s.data.toList.take j)).1 : Int) = L) : ((Src.pl (s.data.toList.take (j + 1))).1 : Int) = L + 1 ∧ ((Src.pl (s.data.toList.take (j + 1))).2 : Int) = 1 := by
  rw [take_snoc _ _ (by simpa [← Lib.size_eq] using hj), Src.pl_snoc]
  have e : s.data.toList[j]'(by simpa [← Lib.size_eq] using hj) = 10 := hc
  rw [e]
  simp [Src.stp, ← h1]
theorem rises_col {s : ByteArray} {j : Nat} {L C : Int} (hj : j < s.size) (hc : s[j] ≠ 10) (h1 : ((Src.pl (s.data.toList.take j)).1 : Int) = L) (h2 : ((Src.pl (s.data.toList.take j)).2 : Int) = C) : ((Src.pl (s.data.toList.take (j + 1))).1 : Int) = L ∧ ((Src.pl (s.data.toList.take (j + 1))).2 : Int) = C + 1 := by
  rw [take_snoc _ _ (by simpa [← Lib.size_eq] using hj), Src.pl_snoc]
  have e : s.data.toList[j]'(by simpa [← Lib.size_eq] using hj) ≠ 10 := hc
  rw [show Src.stp (Src.pl (s.data.toList.take j)) (s.data.toList[j]'(by simpa [← Lib.size_eq] using hj)) = _ from if_neg e]
  simp [← h1, ← h2]

theorem pl_bd (s : ByteArray) (j : Nat) (hs : s.size ≤ 140737488355328) : ((Src.pl (s.data.toList.take j)).1 : Int) ≤ 140737488355329 ∧ ((Src.pl (s.data.toList.take j)).2 : Int) ≤ 140737488355329 := by
  have h := Src.pl_le (s.data.toList.take j)
  have hl : (s.data.toList.take j).length ≤ s.data.toList.length := List.length_take_le' _ _
  rw [← Lib.size_eq] at hl
  omega

set_option maxRecDepth 100000 in
set_option maxHeartbeats 2000000 in
theorem rises_walk (s : ByteArray) (hs : s.size ≤ 140737488355328) (w : World) :
    Calls Try.prog 4 #[.string s] w fun e w' => e = .returned (.bool true) ∧ Below w.heap.size w w' := by
  have n0 := new_pair w (.int .i64 0) (.int .i64 0) 23
  go_enter Try.func4, Try.ntmps4
  go_wp2
  go_loopw [4] (fun i wr => ∃ (k : Nat) (L C : Int), k ≤ s.size + 1 ∧ i = .int .i64 (k : Int) ∧ (wr.cell? ⟨w.heap.size, 0, none⟩ = some (.int .i64 L) ∧ wr.frozen? ⟨w.heap.size, 0, none⟩ = false) ∧ (wr.cell? ⟨w.heap.size, 1, none⟩ = some (.int .i64 C) ∧ wr.frozen? ⟨w.heap.size, 1, none⟩ = false) ∧ (0 ≤ L ∧ L ≤ 140737488355329 ∧ 0 ≤ C ∧ C ≤ 140737488355329) ∧
    Hid ((k = 0 ∧ L = 0 ∧ C = 0) ∨ ∃ j, k = j + 1 ∧ ((Src.pl (s.data.toList.take j)).1 : Int) = L ∧ ((Src.pl (s.data.toList.take j)).2 : Int) = C) ∧ Below w.heap.size w wr ∧ w.heap.size < wr.heap.size) (fun i _ => s.size + 1 - (intOf i).toNat)
  case atStart => exact ⟨0, 0, 0, by omega, rfl, n0.1, n0.2, by omega, Or.inl ⟨rfl, rfl, rfl⟩, (Below.refl _ w).alloc (Nat.le_refl _) _, by simp⟩
  case round =>
    clear n0
    obtain ⟨k, L, C, hk, rfl, ⟨hc0, hf0⟩, ⟨hc1, hf1⟩, ⟨hL0, hL1, hC0, hC1⟩, hh, hB, hN⟩ := hrel
    by_cases hlt : k ≤ s.size
    · rcases hh.out with ⟨rfl, rfl, rfl⟩ | ⟨j, rfl, h1, h2⟩
      · clear hh
        have HA : Hid ((0 : Int) = ((0 : Nat) : Int)) := rfl
        go_wp2_with (go_at_call 10; refine (where_int s _ 0 1 1 _ hs (by omega) HA ⟨rfl, rfl⟩).mono ?_; rintro e w1 ⟨rfl, hb⟩; obtain ⟨gc, gf⟩ := bcell hb; have hz : w.heap.size < w1.heap.size := Nat.lt_of_lt_of_le hN hb.size; have q0 := (gc _ 0 hN).trans hc0; have q1 := (gc _ 1 hN).trans hc1; have q2 := (gf _ 0 hN).trans hf0; have q3 := (gf _ 1 hN).trans hf1; clear gc gf hc0 hc1 hf0 hf1)
        have E := end_world (.int .i64 1) (.int .i64 1) (.cells #[.int .i64 1, .int .i64 1] 23) (.cells #[.int .i64 1, .int .i64 1] 23) hB hN hb q0 q1 q2 q3
        exact ⟨⟨1, 1, 1, by omega, rfl, E.1, E.2.1, by omega, Or.inr ⟨0, rfl, rfl, rfl⟩, E.2.2.1, E.2.2.2⟩, by simp [intOf]⟩
      · clear hh
        have hj : j < s.size := by omega
        have hj1 : (j : Int) < s.size := by omega
        have H1 : Hid (((Src.pl (s.data.toList.take j)).1 : Int) = L) := h1
        have H2 : Hid (((Src.pl (s.data.toList.take j)).2 : Int) = C) := h2
        clear h1 h2
        have HA : Hid ((j : Int) + 1 = ((j + 1 : Nat) : Int)) := rfl
        have b0 : ((j : Int) + 1 == 0) = false := by rw [beq_eq_false_iff_ne]; omega
        by_cases hc : s[j] = 10
        · have HP : Hid (_ ∧ _) := rises_ten hj hc H1.out
          go_wp2_with (go_at_call 10; refine (where_int s _ (j + 1) (L + 1) 1 _ hs (by omega) HA HP).mono ?_; rintro e w1 ⟨rfl, hb⟩; obtain ⟨gc, gf⟩ := bcell hb; have hz : w.heap.size < w1.heap.size := Nat.lt_of_lt_of_le hN hb.size; have q0 := (gc _ 0 hN).trans hc0; have q1 := (gc _ 1 hN).trans hc1; have q2 := (gf _ 0 hN).trans hf0; have q3 := (gf _ 1 hN).trans hf1; clear gc gf hc0 hc1 hf0 hf1)
          have E := end_world (.int .i64 (L + 1)) (.int .i64 1) (.cells #[.int .i64 (L + 1), .int .i64 1] 23) (.cells #[.int .i64 (L + 1), .int .i64 1] 23) hB hN hb q0 q1 q2 q3
          have hbd := pl_bd s (j + 1) hs
          have e := HP.out
          exact ⟨⟨j + 1 + 1, L + 1, 1, by omega, rfl, E.1, E.2.1, by omega, Or.inr ⟨j + 1, rfl, HP.out⟩, E.2.2.1, E.2.2.2⟩, by simp [intOf]; omega⟩
        · have HP : Hid (_ ∧ _) := rises_col hj hc H1.out H2.out
          have b1 : ((s[j].toNat : Int) == 10) = false := by
            rw [beq_eq_false_iff_ne]
            intro h
            exact hc (UInt8.toNat_inj.1 (by show s[j].toNat = 10; omega))
          go_wp2_with (go_at_call 10; refine (where_int s _ (j + 1) L (C + 1) _ hs (by omega) HA HP).mono ?_; rintro e w1 ⟨rfl, hb⟩; obtain ⟨gc, gf⟩ := bcell hb; have hz : w.heap.size < w1.heap.size := Nat.lt_of_lt_of_le hN hb.size; have q0 := (gc _ 0 hN).trans hc0; have q1 := (gc _ 1 hN).trans hc1; have q2 := (gf _ 0 hN).trans hf0; have q3 := (gf _ 1 hN).trans hf1; clear gc gf hc0 hc1 hf0 hf1)
          have E := end_world (.int .i64 L) (.int .i64 (C + 1)) (.cells #[.int .i64 L, .int .i64 (C + 1)] 23) (.cells #[.int .i64 L, .int .i64 (C + 1)] 23) hB hN hb q0 q1 q2 q3
          have hbd := pl_bd s (j + 1) hs
          have e := HP.out
          exact ⟨⟨j + 1 + 1, L, C + 1, by omega, rfl, E.1, E.2.1, by omega, Or.inr ⟨j + 1, rfl, HP.out⟩, E.2.2.1, E.2.2.2⟩, by simp [intOf]; omega⟩
    · have HL : Hid (((Src.pl s.data.toList).1 : Int) = L) := by
        rcases hh.out with ⟨rfl, _, _⟩ | ⟨j, rfl, h1, h2⟩
        · omega
        · have e : s.data.toList.take j = s.data.toList := List.take_of_length_le (by rw [← Lib.size_eq]; omega)
          rw [e] at h1
          exact h1
      clear hh
      go_wp2
      go_region_with (go_at_call 11; refine (lines_at s L _ hs HL).mono ?_; rintro e w1 ⟨rfl, hb⟩; have hz : w.heap.size < w1.heap.size := Nat.lt_of_lt_of_le hN hb.size; have q0 := (hb.cell (p := ⟨w.heap.size, 0, none⟩) hN).trans hc0)
      all_goals
        go_wp2
        go_ret
        exact ⟨rfl, hB.drew.trans (hb.mono hB.size)⟩

end Go.Proofs.Ytgncoeihlfcaiaa
