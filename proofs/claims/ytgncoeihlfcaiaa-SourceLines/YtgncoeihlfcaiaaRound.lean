import Derived.Test.YtgncoeihlfcaiaaRefOff
namespace Go.Proofs.Ytgncoeihlfcaiaa
open Go.RowKit Go.Shelf

theorem offset_is (s : ByteArray) (line col a f : Int) (w : World) (hs : s.size ≤ 140737488355328) (h : Hid (OffIs s.data.toList line col a f)) :
    Calls Try.prog 12 #[.string s, .agg #[.int .i64 line, .int .i64 col]] w fun e w' => e = .returned (.tuple #[.int .i64 a, .int .i64 f]) ∧ Below w.heap.size w w' := by
  have h1 := offset_any s line col w hs
  obtain ⟨e1, e2⟩ := (offL_is s.data.toList line col (by rw [← Lib.size_eq]; exact hs)).unique h.out
  rw [e1, e2] at h1
  exact h1

/-- A 'Spot' in its box, as it was handed in. -/
def Spot (W : World) (B : Nat) (s : ByteArray) (at_ line col n ar : Int) : Prop :=
  W.cell? ⟨B, 0, none⟩ = some (.string s) ∧ W.cell? ⟨B, 1, none⟩ = some (.int .i64 at_) ∧ W.cell? ⟨B, 2, none⟩ = some (.int .i64 line) ∧ W.cell? ⟨B, 3, none⟩ = some (.int .i64 col) ∧ W.cell? ⟨B, 4, none⟩ = some (.int .i64 n) ∧ W.cell? ⟨B, 5, none⟩ = some (.int .i64 ar)

theorem spot_box {W : World} {B : Nat} {t : TypeId} {s : ByteArray} {at_ line col n ar : Int} (h : W.heap[B]? = some (.cells #[.string s, .int .i64 at_, .int .i64 line, .int .i64 col, .int .i64 n, .int .i64 ar] t (0, 0))) : Spot W B s at_ line col n ar := by
  refine ⟨?_, ?_, ?_, ?_, ?_, ?_⟩ <;> simp [World.cell?, h]
theorem Spot.new (W : World) (s : ByteArray) (at_ line col n ar : Int) (t : TypeId) : Spot (W.alloc (.cells #[.string s, .int .i64 at_, .int .i64 line, .int .i64 col, .int .i64 n, .int .i64 ar] t)) W.heap.size s at_ line col n ar := spot_box (World.alloc_heap_new W _)
theorem Spot.below {W W' : World} {B D : Nat} {s : ByteArray} {at_ line col n ar : Int} (h : Spot W B s at_ line col n ar) (hb : Below D W W') (hB : B < D) : Spot W' B s at_ line col n ar := by
  obtain ⟨h0, h1, h2, h3, h4, h5⟩ := h
  exact ⟨(hb.cell (p := ⟨B, 0, none⟩) hB).trans h0, (hb.cell (p := ⟨B, 1, none⟩) hB).trans h1, (hb.cell (p := ⟨B, 2, none⟩) hB).trans h2, (hb.cell (p := ⟨B, 3, none⟩) hB).trans h3, (hb.cell (p := ⟨B, 4, none⟩) hB).trans h4, (hb.cell (p := ⟨B, 5, none⟩) hB).trans h5⟩

set_option maxRecDepth 100000 in
set_option maxHeartbeats 2000000 in
theorem round_no (s : ByteArray) (at_ line col n ar : Int) (w : World) (hs : s.size ≤ 140737488355328) (h : at_ < 0 ∨ (s.size : Int) < at_) :
    Calls Try.prog 6 #[.agg #[.string s, .int .i64 at_, .int .i64 line, .int .i64 col, .int .i64 n, .int .i64 ar]] w fun e w' => e = .returned (.bool true) ∧ Below w.heap.size w w' := by
  have n0 := Spot.new w s at_ line col n ar 25
  have HH : Hid (at_ < 0 ∨ (s.size : Int) < at_) := h
  have hcase : at_ < 0 ∨ (¬ at_ < 0 ∧ (s.size : Int) < at_) := by omega
  clear h
  rcases hcase with hc | ⟨hc, hd⟩
  all_goals
    go_enter Try.func6, Try.ntmps6
    go_wp2_with (go_at_call 10; refine (where_no s _ _ hs HH.out).mono ?_; rintro e w1 ⟨rfl, hb⟩; obtain ⟨q0, q1, q2, q3, q4, q5⟩ := n0.below hb (by simp); have hz : w.heap.size < w1.heap.size := by have := hb.size; simp at this; omega)
    go_ret
    refine ⟨rfl, ?_⟩
    have hb' : Below w.heap.size w w1 := ((Below.refl _ w).alloc (Nat.le_refl _) _).trans (hb.mono (by simp))
    exact hb'.alloc hb'.size _

theorem Pair.below {W W' : World} {B D : Nat} {u v : Value} (h : Pair W B u v) (hb : Below D W W') (hB : B < D) : Pair W' B u v :=
  ⟨⟨(hb.cell (p := ⟨B, 0, none⟩) hB).trans h.1.1, (hb.frozen (p := ⟨B, 0, none⟩) hB).trans h.1.2⟩, ⟨(hb.cell (p := ⟨B, 1, none⟩) hB).trans h.2.1, (hb.frozen (p := ⟨B, 1, none⟩) hB).trans h.2.2⟩⟩
theorem Spot.alloc {W : World} {B : Nat} {s : ByteArray} {at_ line col n ar : Int} (h : Spot W B s at_ line col n ar) (o : Obj) : Spot (W.alloc o) B s at_ line col n ar := by
  obtain ⟨h0, h1, h2, h3, h4, h5⟩ := h
  exact ⟨cell_alloc_l _ h0, cell_alloc_l _ h1, cell_alloc_l _ h2, cell_alloc_l _ h3, cell_alloc_l _ h4, cell_alloc_l _ h5⟩

set_option maxRecDepth 100000 in
set_option maxHeartbeats 2000000 in
theorem round_miss (s : ByteArray) (k : Nat) (line col n ar : Int) (w : World) (hs : s.size ≤ 140737488355328) (hk : k ≤ s.size) (hm : Hid (OffIs s.data.toList line col 0 10)) :
    Calls Try.prog 6 #[.agg #[.string s, .int .i64 (k : Int), .int .i64 line, .int .i64 col, .int .i64 n, .int .i64 ar]] w fun e w' => e = .returned (.bool true) ∧ Below w.heap.size w w' := by
  have k0 : (0 : Int) ≤ k := by omega
  have k1 : (k : Int) ≤ s.size := by omega
  have b0 : decide ((k : Int) < 0) = false := by simp
  have n0 := Spot.new w s (k : Int) line col n ar 25
  obtain ⟨L, C, HP⟩ : ∃ L C : Int, Hid (((Src.pl (s.data.toList.take k)).1 : Int) = L ∧ ((Src.pl (s.data.toList.take k)).2 : Int) = C) := ⟨_, _, rfl, rfl⟩
  have HO : Hid (OffIs s.data.toList L C (k : Int) 0) := Or.inl ⟨k, by rw [← Lib.size_eq]; exact hk, HP.out.1, HP.out.2, rfl, rfl⟩
  go_enter Try.func6, Try.ntmps6
  go_wp2_with fail
  refine (where_at s k L C _ hs hk HP).mono ?_
  rintro e w1 ⟨rfl, hb⟩
  have m1 := n0.below hb (by simp)
  have B1 : Below w.heap.size w w1 := ((Below.refl _ w).alloc (Nat.le_refl _) _).trans (hb.mono (by simp))
  have hz : w.heap.size < w1.heap.size := by have := hb.size; simp at this; omega
  obtain ⟨q0, q1, q2, q3, q4, q5⟩ := id m1
  clear n0 hb
  go_wp2_with fail
  refine (offset_is s L C k 0 _ hs HO).mono ?_
  rintro e w2 ⟨rfl, hb2⟩
  have m2 := (m1.alloc (.cells #[.int .i64 L, .int .i64 C] 23)).below hb2 (by simp; omega)
  have B2 : Below w.heap.size w w2 := (B1.alloc B1.size (.cells #[.int .i64 L, .int .i64 C] 23)).trans (hb2.mono (by simp; omega))
  have hz2 : w.heap.size < w2.heap.size := by have := hb2.size; simp at this; omega
  clear q0 q1 q2 q3 q4 q5 hb2 m1 hz
  obtain ⟨q0, q1, q2, q3, q4, q5⟩ := id m2
  go_wp2_with fail
  refine (offset_is s line col 0 10 _ hs hm).mono ?_
  rintro e w3 ⟨rfl, hb3⟩
  have B3 : Below w.heap.size w w3 := B2.trans (hb3.mono B2.size)
  go_wp2
  go_ret
  exact ⟨rfl, B3⟩

set_option maxRecDepth 100000 in
set_option maxHeartbeats 2000000 in
theorem round_hit (s : ByteArray) (k i : Nat) (line col n ar : Int) (w : World) (hs : s.size ≤ 140737488355328) (hk : k ≤ s.size) (hi : i ≤ s.size) (hm : Hid (OffIs s.data.toList line col i 0)) (hp : Hid (((Src.pl (s.data.toList.take i)).1 : Int) = line ∧ ((Src.pl (s.data.toList.take i)).2 : Int) = col)) :
    Calls Try.prog 6 #[.agg #[.string s, .int .i64 (k : Int), .int .i64 line, .int .i64 col, .int .i64 n, .int .i64 ar]] w fun e w' => e = .returned (.bool true) ∧ Below w.heap.size w w' := by
  have k0 : (0 : Int) ≤ k := by omega
  have k1 : (k : Int) ≤ s.size := by omega
  have b0 : decide ((k : Int) < 0) = false := by simp
  have n0 := Spot.new w s (k : Int) line col n ar 25
  obtain ⟨L, C, HP⟩ : ∃ L C : Int, Hid (((Src.pl (s.data.toList.take k)).1 : Int) = L ∧ ((Src.pl (s.data.toList.take k)).2 : Int) = C) := ⟨_, _, rfl, rfl⟩
  have HO : Hid (OffIs s.data.toList L C (k : Int) 0) := Or.inl ⟨k, by rw [← Lib.size_eq]; exact hk, HP.out.1, HP.out.2, rfl, rfl⟩
  go_enter Try.func6, Try.ntmps6
  go_wp2_with fail
  refine (where_at s k L C _ hs hk HP).mono ?_
  rintro e w1 ⟨rfl, hb⟩
  have m1 := n0.below hb (by simp)
  have B1 : Below w.heap.size w w1 := ((Below.refl _ w).alloc (Nat.le_refl _) _).trans (hb.mono (by simp))
  have hz : w.heap.size < w1.heap.size := by have := hb.size; simp at this; omega
  obtain ⟨q0, q1, q2, q3, q4, q5⟩ := id m1
  clear n0 hb
  go_wp2_with fail
  refine (offset_is s L C k 0 _ hs HO).mono ?_
  rintro e w2 ⟨rfl, hb2⟩
  have m2 := (m1.alloc (.cells #[.int .i64 L, .int .i64 C] 23)).below hb2 (by simp; omega)
  have B2 : Below w.heap.size w w2 := (B1.alloc B1.size (.cells #[.int .i64 L, .int .i64 C] 23)).trans (hb2.mono (by simp; omega))
  have hz2 : w.heap.size < w2.heap.size := by have := hb2.size; simp at this; omega
  clear q0 q1 q2 q3 q4 q5 hb2 m1 hz
  obtain ⟨q0, q1, q2, q3, q4, q5⟩ := id m2
  go_wp2_with fail
  refine (offset_is s line col i 0 _ hs hm).mono ?_
  rintro e w3 ⟨rfl, hb3⟩
  have m3 := m2.below hb3 hz2
  have B3 : Below w.heap.size w w3 := B2.trans (hb3.mono B2.size)
  have hz3 : w.heap.size < w3.heap.size := Nat.lt_of_lt_of_le hz2 hb3.size
  clear q0 q1 q2 q3 q4 q5 hb3 m2 hz2
  obtain ⟨q0, q1, q2, q3, q4, q5⟩ := id m3
  go_wp2_with fail
  refine (where_at s i line col _ hs hi hp).mono ?_
  rintro e w4 ⟨rfl, hb4⟩
  have m4 := m3.below hb4 hz3
  have B4 : Below w.heap.size w w4 := B3.trans (hb4.mono B3.size)
  have hz4 : w.heap.size < w4.heap.size := Nat.lt_of_lt_of_le hz3 hb4.size
  clear q0 q1 q2 q3 q4 q5 hb4 m3 hz3
  obtain ⟨q0, q1, q2, q3, q4, q5⟩ := id m4
  go_wp2
  go_ret
  exact ⟨rfl, B4.alloc B4.size _⟩

/-- SourceRound, at every input. -/
theorem round_walk (s : ByteArray) (at_ line col n ar : Int) (w : World) (hs : s.size ≤ 140737488355328) :
    Calls Try.prog 6 #[.agg #[.string s, .int .i64 at_, .int .i64 line, .int .i64 col, .int .i64 n, .int .i64 ar]] w fun e w' => e = .returned (.bool true) ∧ Below w.heap.size w w' := by
  by_cases h : at_ < 0 ∨ (s.size : Int) < at_
  · exact round_no s at_ line col n ar w hs h
  · obtain ⟨k, rfl⟩ := Int.eq_ofNat_of_zero_le (show 0 ≤ at_ from by omega)
    have hk : k ≤ s.size := by omega
    have ho := offL_is s.data.toList line col (by rw [← Lib.size_eq]; exact hs)
    have ho' := ho
    rcases ho with ⟨i, hi, h1, h2, ha, hf⟩ | ⟨_, ha, hf⟩
    · rw [ha, hf] at ho'
      exact round_hit s k i line col n ar w hs hk (by rw [Lib.size_eq]; exact hi) ho' ⟨h1, h2⟩
    · rw [ha, hf] at ho'
      exact round_miss s k line col n ar w hs hk ho'

end Go.Proofs.Ytgncoeihlfcaiaa
