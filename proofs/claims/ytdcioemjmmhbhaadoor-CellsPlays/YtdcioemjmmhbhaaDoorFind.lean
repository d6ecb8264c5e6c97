import Derived.Test.YtdcioemjmmhbhaaDoorHeap
import Derived.Test.YtdcioemjmmhbhaaDoorShelf
namespace Go.Proofs.YtdcioemjmmhbhaaDoor
open Go.RowKit

theorem below2 {w w1 w2 : World} (h : Below w.heap.size w w1) (k : Below w1.heap.size w1 w2) : Below w.heap.size w w2 := h.trans (k.mono h.size)

set_option maxRecDepth 100000 in
set_option maxHeartbeats 1000000 in
theorem mayBe_any (k n : Int) (s : ByteArray) (kind : Int) (cnt : Nat) (w : World) (hs : s.size ≤ 9223372036854775807) :
    Calls Tryd.prog 52 #[.agg #[.int .i64 k, .int .i64 n, .string s], .int .i64 kind, .int .i64 (cnt : Int)] w fun e w' => e = .returned (.bool (mayS (k, n, s) kind cnt)) ∧ Below w.heap.size w w' := by
  have B0 : Below w.heap.size w (w.alloc (.cells #[.int .i64 k, .int .i64 n, .string s] 37)) := (Below.refl _ w).alloc (Nat.le_refl _) _
  obtain ⟨⟨⟨x0, -⟩, ⟨x1, -⟩⟩, x2, -⟩ := Box3.new w k n s 37
  unfold mayS
  simp only
  by_cases hk : k = kind
  · subst hk
    rw [show (k == k) = true by simp, Bool.true_and]
    have hv := fun W : World => valid_any k n s W hs
    cases hq : okV k n s with
    | false =>
      rw [hq] at hv
      rw [Bool.false_and]
      go_enter Tryd.func52, Tryd.ntmps52
      go_wp2_with (first | (go_at_call 60; refine (hv _).mono ?_; rintro e w1 ⟨rfl, hb⟩) | go_in)
      go_ret
      exact ⟨rfl, below2 B0 hb⟩
    | true =>
      rw [hq] at hv
      rw [Bool.true_and]
      by_cases h4 : k = 4
      · subst h4
        rw [show ((4 : Int) != 4) = false by decide, Bool.false_or]
        by_cases hn : n ≤ (cnt : Int)
        all_goals
          go_enter Tryd.func52, Tryd.ntmps52
          go_wp2_with (first | (go_at_call 60; refine (hv _).mono ?_; rintro e w1 ⟨rfl, hb⟩; have y1 := (hb.cell (p := ⟨w.heap.size, 1, none⟩) (by simp)).trans x1) | go_in)
          go_ret
          exact ⟨by simp [hn], below2 B0 hb⟩
      · have h4' : (k != 4) = true := by simpa using h4
        rw [h4', Bool.true_or]
        go_enter Tryd.func52, Tryd.ntmps52
        go_wp2_with (first | (go_at_call 60; refine (hv _).mono ?_; rintro e w1 ⟨rfl, hb⟩) | go_in)
        go_ret
        exact ⟨rfl, below2 B0 hb⟩
  · rw [show (k == kind) = false by simpa using hk, Bool.false_and, Bool.false_and]
    have hk' : (k == kind) = false := by simpa using hk
    go_enter Tryd.func52, Tryd.ntmps52
    go_wp2
    go_ret
    exact ⟨rfl, B0⟩

theorem Box3.set {W : World} {B : Nat} {k n : Int} {s : ByteArray} (h : Box3 W B k n s) (a : Addr) (u : Value) (hne : a.block ≠ B) : Box3 (W.setCell a u) B k n s := by
  have e : (W.setCell a u).heap[B]? = W.heap[B]? := set_heap (Ne.symm hne)
  have c := fun o => World.cell?_of_block (w := W) (w' := W.setCell a u) (a := ⟨B, o, none⟩) e
  have f := fun o => World.frozen?_of_block (w := W) (w' := W.setCell a u) (a := ⟨B, o, none⟩) e
  exact ⟨⟨⟨(c 0).trans h.1.1.1, (f 0).trans h.1.1.2⟩, ⟨(c 1).trans h.1.2.1, (f 1).trans h.1.2.2⟩⟩, (c 2).trans h.2.1, (f 2).trans h.2.2⟩

set_option maxHeartbeats 400000 in
theorem clone_any (s : ByteArray) (w : World) (hs : s.size ≤ 281474976710656) : Calls Tryd.prog 53 #[.string s] w fun e w' => e = .returned (.string s) ∧ Below w.heap.size w w' := by
  go_enter Tryd.func53, Tryd.ntmps53
  go_wp2_with (go_at_call 61; refine (Tryd.stringslite_Clone s w hs).mono ?_; rintro e w1 ⟨rfl, hb1⟩)
  go_ret
  exact ⟨rfl, hb1⟩

set_option maxHeartbeats 1000000 in
theorem copied_any (k n : Int) (s : ByteArray) (w : World) (hs : s.size ≤ 281474976710656) :
    Calls Tryd.prog 33 #[.agg #[.int .i64 k, .int .i64 n, .string s]] w fun e w' => e = .returned (.agg #[.int .i64 k, .int .i64 n, .string s]) ∧ Below w.heap.size w w' := by
  have b0 := Box3.new w k n s 37
  have b1 := Box3.new (w.alloc (.cells #[.int .i64 k, .int .i64 n, .string s] 37)) 0 0 e0 37
  rw [World.size_alloc] at b1
  replace b0 := b0.alloc (.cells #[.int .i64 0, .int .i64 0, .string e0] 37)
  have B0 : Below w.heap.size w ((w.alloc (.cells #[.int .i64 k, .int .i64 n, .string s] 37)).alloc (.cells #[.int .i64 0, .int .i64 0, .string e0] 37)) := ((Below.refl _ w).alloc (Nat.le_refl _) _).alloc (by simp) _
  have z0 : ((w.alloc (.cells #[.int .i64 k, .int .i64 n, .string s] 37)).alloc (.cells #[.int .i64 0, .int .i64 0, .string e0] 37)).heap.size = w.heap.size + 2 := by simp
  go_enter Tryd.func33, Tryd.ntmps33
  go_wp2_with fail
  generalize (w.alloc (.cells #[.int .i64 k, .int .i64 n, .string s] 37)).alloc (.cells #[.int .i64 0, .int .i64 0, .string e0] 37) = X at b0 b1 B0 z0 ⊢
  obtain ⟨⟨⟨x0, f0⟩, ⟨x1, f1⟩⟩, x2, f2⟩ := id b0
  go_wp2_with fail
  refine (clone_any s _ hs).mono ?_
  rintro e w1 ⟨rfl, hb⟩
  replace b0 := b0.below hb (by omega)
  replace b1 := b1.below hb (by omega)
  replace B0 := below2 B0 hb
  clear x0 x1 x2 f0 f1 f2 z0 hb
  obtain ⟨⟨⟨x0, f0⟩, ⟨x1, f1⟩⟩, x2, f2⟩ := id b0
  obtain ⟨⟨⟨y0, g0⟩, ⟨y1, g1⟩⟩, y2, g2⟩ := id b1
  go_wp2
  have m := (b1.set ⟨w.heap.size, 2, none⟩ (.string s) (by show w.heap.size ≠ w.heap.size + 1; omega)).put k n s
  have B1 := below_put3 (B0.setCell (p := ⟨w.heap.size, 2, none⟩) (Nat.le_refl _) (.string s)) (Nat.le_succ _) k n s
  change bodyPost Tryd.prog _ _ _ _ (put3 (w1.setCell ⟨w.heap.size, 2, none⟩ (.string s)) (w.heap.size + 1) _ _ _)
  generalize put3 (w1.setCell ⟨w.heap.size, 2, none⟩ (.string s)) (w.heap.size + 1) k n s = Z at m B1 ⊢
  obtain ⟨⟨⟨p0, -⟩, ⟨p1, -⟩⟩, p2, -⟩ := m
  exact bodyPost_ret (v := .agg #[.int .i64 k, .int .i64 n, .string s]) (by simp [results, Tryd.results33, go_sem, p0, p1, p2]) rfl ⟨rfl, B1⟩
end Go.Proofs.YtdcioemjmmhbhaaDoor
