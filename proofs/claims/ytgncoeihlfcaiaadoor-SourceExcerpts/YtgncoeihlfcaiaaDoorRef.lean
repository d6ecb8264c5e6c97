import Derived.Test.YtgncoeihlfcaiaaDoorOffMath
namespace Go.Proofs.YtgncoeihlfcaiaaDoor
open Go.RowKit Go.Shelf

theorem byte_ten {c : UInt8} (h : c ≠ 10) : ((c.toNat : Int) == 10) = false := by
  rw [beq_eq_false_iff_ne]
  intro e
  exact h (UInt8.toNat_inj.1 (by show c.toNat = 10; omega))

theorem ret_int {k : IntKind} {a b : Int} (h : a = b) : Ending.returned (.int k a) = .returned (.int k b) := by rw [h]

set_option maxHeartbeats 400000 in
theorem rlines_any (s : ByteArray) (w : World) (hs : s.size ≤ 140737488355328) :
    Calls Tryd.prog 15 #[.string s] w fun e w' => e = .returned (.int .i64 ((Src.pl s.data.toList).1 : Nat)) ∧ w' = w := by
  go_enter Tryd.func15, Tryd.ntmps15
  go_wp2
  go_loop [3, 4] (fun n i => ∃ (k : Nat) (L : Int), k ≤ s.size ∧ i = .int .i64 k ∧ n = .int .i64 L ∧ (0 ≤ L ∧ L ≤ 140737488355329) ∧ Hid (((Src.pl (s.data.toList.take k)).1 : Int) = L)) (fun _ i => s.size - (intOf i).toNat)
  case atStart => exact ⟨0, 1, Nat.zero_le _, rfl, rfl, by omega, rfl⟩
  case round =>
    obtain ⟨k, L, hk, rfl, rfl, ⟨hL0, hL1⟩, hh⟩ := hrel
    by_cases hlt : k < s.size
    · by_cases hc : s[k] = 10
      · have HP : Hid (_ ∧ _) := rises_ten hlt hc hh.out
        have hbd := pl_bd s (k + 1) hs
        rw [HP.out.1] at hbd
        go_wp2
        go_round
        case rel => exact ⟨k + 1, L + 1, by omega, by go_num, rfl, by omega, HP.out.1⟩
        case measure => simp [intOf]; omega
      · have HP : Hid (_ ∧ _) := rises_col hlt hc hh.out rfl
        have b1 := byte_ten hc
        go_wp2
        go_round
        case rel => exact ⟨k + 1, L, by omega, by go_num, rfl, by omega, HP.out.1⟩
        case measure => simp [intOf]; omega
    · have e : s.data.toList.take k = s.data.toList := List.take_of_length_le (by rw [← Lib.size_eq]; omega)
      have HL : Hid (((Src.pl s.data.toList).1 : Int) = L) := by have := hh.out; rw [e] at this; exact this
      clear e hh
      go_wp2
      go_ret
      exact ⟨ret_int HL.out.symm, rfl⟩

set_option maxHeartbeats 400000 in
theorem rwhere_no (s : ByteArray) (at_ : Int) (w : World) (hs : s.size ≤ 140737488355328) (h : at_ < 0 ∨ (s.size : Int) < at_) :
    Calls Tryd.prog 14 #[.string s, .int .i64 at_] w fun e w' => e = .returned (.tuple #[.agg #[.int .i64 0, .int .i64 0], .int .i64 10]) ∧ Below w.heap.size w w' := by
  rcases h with h | h
  · go_enter Tryd.func14, Tryd.ntmps14
    go_wp2
    exact bodyPost_ret (v := .tuple #[.agg #[.int .i64 0, .int .i64 0], .int .i64 10]) (by simp [results, Tryd.results14, go_sem]) rfl ⟨rfl, (Below.refl _ _).alloc (Nat.le_refl _) _⟩
  · have h' : ¬ at_ < 0 := by omega
    go_enter Tryd.func14, Tryd.ntmps14
    go_wp2
    exact bodyPost_ret (v := .tuple #[.agg #[.int .i64 0, .int .i64 0], .int .i64 10]) (by simp [results, Tryd.results14, go_sem]) rfl ⟨rfl, (Below.refl _ _).alloc (Nat.le_refl _) _⟩

/-- A block of two cells, which may be written. -/
def Pair (W : World) (B : Nat) (u v : Value) : Prop := (W.cell? ⟨B, 0, none⟩ = some u ∧ W.frozen? ⟨B, 0, none⟩ = false) ∧ (W.cell? ⟨B, 1, none⟩ = some v ∧ W.frozen? ⟨B, 1, none⟩ = false)
theorem Pair.set0 {W : World} {B : Nat} {u v : Value} (h : Pair W B u v) (x : Value) : Pair (W.setCell ⟨B, 0, none⟩ x) B x v := by
  obtain ⟨⟨h0, f0⟩, h1, f1⟩ := h
  refine ⟨⟨World.cell?_setCell_same' _ _ _ (by rw [h0]; rfl), by rw [World.frozen?_setCell]; exact f0⟩, ?_, by rw [World.frozen?_setCell]; exact f1⟩
  rw [World.cell?_setCell_other _ _ _ _ (by simp)]; exact h1
theorem Pair.set1 {W : World} {B : Nat} {u v : Value} (h : Pair W B u v) (x : Value) : Pair (W.setCell ⟨B, 1, none⟩ x) B u x := by
  obtain ⟨⟨h0, f0⟩, h1, f1⟩ := h
  refine ⟨⟨?_, by rw [World.frozen?_setCell]; exact f0⟩, World.cell?_setCell_same' _ _ _ (by rw [h1]; rfl), by rw [World.frozen?_setCell]; exact f1⟩
  rw [World.cell?_setCell_other _ _ _ _ (by simp)]; exact h0
theorem Pair.far {W : World} {A : Nat} {u v : Value} (h : Pair W A u v) (B o : Nat) (hne : A ≠ B) (x : Value) : Pair (W.setCell ⟨B, o, none⟩ x) A u v := by
  obtain ⟨⟨h0, f0⟩, h1, f1⟩ := h
  refine ⟨⟨?_, by rw [World.frozen?_setCell]; exact f0⟩, ?_, by rw [World.frozen?_setCell]; exact f1⟩
  · rw [World.cell?_setCell_other _ _ _ _ (fun e => hne (by cases e; rfl))]; exact h0
  · rw [World.cell?_setCell_other _ _ _ _ (fun e => hne (by cases e; rfl))]; exact h1
theorem Pair.alloc {W : World} {A : Nat} {u v : Value} (h : Pair W A u v) (o : Obj) : Pair (W.alloc o) A u v :=
  ⟨⟨cell_alloc_l _ h.1.1, frozen_alloc_l _ h.1.1 h.1.2⟩, ⟨cell_alloc_l _ h.2.1, frozen_alloc_l _ h.2.1 h.2.2⟩⟩
theorem Pair.new (W : World) (u v : Value) (t : TypeId) : Pair (W.alloc (.cells #[u, v] t)) W.heap.size u v := new_pair W u v t

set_option maxRecDepth 100000 in
set_option maxHeartbeats 2000000 in
theorem rwhere_at (s : ByteArray) (k : Nat) (L0 C0 : Int) (w : World) (hs : s.size ≤ 140737488355328) (hk : k ≤ s.size) (hp : Hid (((Src.pl (s.data.toList.take k)).1 : Int) = L0 ∧ ((Src.pl (s.data.toList.take k)).2 : Int) = C0)) :
    Calls Tryd.prog 14 #[.string s, .int .i64 (k : Int)] w fun e w' => e = .returned (.tuple #[.agg #[.int .i64 L0, .int .i64 C0], .int .i64 0]) ∧ Below w.heap.size w w' := by
  have k0 : (0 : Int) ≤ k := by omega
  have k1 : (k : Int) ≤ s.size := by omega
  have b0 : decide ((k : Int) < 0) = false := by simp
  have n0 := Pair.new w (.int .i64 0) (.int .i64 0) 23
  have n1 := Pair.new (w.alloc (.cells #[.int .i64 0, .int .i64 0] 23)) (.int .i64 1) (.int .i64 1) 23
  rw [World.size_alloc] at n1
  have hB0 : Below w.heap.size w ((w.alloc (.cells #[.int .i64 0, .int .i64 0] 23)).alloc (.cells #[.int .i64 1, .int .i64 1] 23)) := ((Below.refl _ w).alloc (Nat.le_refl _) _).alloc (by simp) _
  go_enter Tryd.func14, Tryd.ntmps14
  go_wp2
  go_loopw [7] (fun i wr => ∃ (j : Nat) (L C : Int), j ≤ k ∧ i = .int .i64 (j : Int) ∧ Pair wr (w.heap.size + 1) (.int .i64 L) (.int .i64 C) ∧ Pair wr w.heap.size (.int .i64 0) (.int .i64 0) ∧ (0 ≤ L ∧ L ≤ 140737488355329 ∧ 0 ≤ C ∧ C ≤ 140737488355329) ∧
    Hid (((Src.pl (s.data.toList.take j)).1 : Int) = L ∧ ((Src.pl (s.data.toList.take j)).2 : Int) = C) ∧ Below w.heap.size w wr) (fun i _ => k - (intOf i).toNat)
  case atStart => exact ⟨0, 1, 1, by omega, rfl, n1, n0.alloc _, by omega, ⟨rfl, rfl⟩, hB0⟩
  case round =>
    clear n0 n1 hB0
    obtain ⟨j, L, C, hj, rfl, hp1, hp0, ⟨hL0, hL1, hC0, hC1⟩, hh, hB⟩ := hrel
    obtain ⟨⟨hc0, hf0⟩, hc1, hf1⟩ := id hp1
    obtain ⟨⟨r0, g0⟩, r1, g1⟩ := id hp0
    by_cases hlt : j < k
    · have hjs : j < s.size := by omega
      have hbd := pl_bd s (j + 1) hs
      by_cases hc : s[j] = 10
      · have HP : Hid (_ ∧ _) := rises_ten hjs hc hh.out.1
        rw [HP.out.1, HP.out.2] at hbd
        go_wp2
        exact ⟨⟨j + 1, L + 1, 1, by omega, by go_num, ((hp1.set1 _).set0 _).set1 _, ((hp0.far _ _ (by omega) _).far _ _ (by omega) _).far _ _ (by omega) _, by omega, HP.out, ((hB.setCell (p := ⟨w.heap.size + 1, 1, none⟩) (by simp) _).setCell (p := ⟨w.heap.size + 1, 0, none⟩) (by simp) _).setCell (p := ⟨w.heap.size + 1, 1, none⟩) (by simp) _⟩, by simp [intOf]; omega⟩
      · have HP : Hid (_ ∧ _) := rises_col hjs hc hh.out.1 hh.out.2
        rw [HP.out.1, HP.out.2] at hbd
        have b1 := byte_ten hc
        go_wp2
        exact ⟨⟨j + 1, L, C + 1, by omega, by go_num, hp1.set1 _, hp0.far _ _ (by omega) _, by omega, HP.out, hB.setCell (p := ⟨w.heap.size + 1, 1, none⟩) (by simp) _⟩, by simp [intOf]; omega⟩
    · have e : j = k := by omega
      subst e
      obtain ⟨rfl, rfl⟩ : L = L0 ∧ C = C0 := ⟨hh.out.1.symm.trans hp.out.1, hh.out.2.symm.trans hp.out.2⟩
      go_wp2
      have hr := (hp0.set0 (.int .i64 L)).set1 (.int .i64 C)
      exact bodyPost_ret (v := .tuple #[.agg #[.int .i64 L, .int .i64 C], .int .i64 0]) (by simp [results, Tryd.results14, go_sem, hr.1.1, hr.2.1]) rfl ⟨rfl, (hB.setCell (p := ⟨w.heap.size, 0, none⟩) (by simp) _).setCell (p := ⟨w.heap.size, 1, none⟩) (by simp) _⟩

end Go.Proofs.YtgncoeihlfcaiaaDoor
