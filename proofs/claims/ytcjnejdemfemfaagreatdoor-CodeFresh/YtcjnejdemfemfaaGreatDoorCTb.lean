import Derived.Test.YtcjnejdemfemfaaGreatDoorCTa
namespace Go.Proofs.YtcjnejdemfemfaaGreatDoor
open Go.RowKit

def lzN : ByteArray := ⟨#[109, 97, 105, 110]⟩
def lz : Cd := ⟨[(13, 0, 0)], [⟨lzN, 0, 0, [], 0⟩], [], 0⟩
theorem lz_valid : validS lz = 0 := by kernel_rfl
theorem lz_asm : asmS (printS lz) = .inl lz := by kernel_rfl
theorem lz_enc : 10 < (encS lz).length := by decide
theorem lz_print : 10 < (printS lz).length := of_decide_eq_true (by kernel_rfl)
set_option maxRecDepth 100000 in
set_option maxHeartbeats 1000000 in
theorem least_any (w : World) : Calls Tryz.prog 5 #[] w fun e w' => ∃ g1 g2, e = .returned (codeV (some ⟨g1, 0, none⟩) (some ⟨g2, 0, none⟩) none 1 1 0 lz) ∧ Hid (CodeM w' w'.heap.size (some ⟨g1, 0, none⟩) (some ⟨g2, 0, none⟩) none [(⟨lzN, 0, 0, [], 0⟩, none, 0)] lz ∧ Below w.heap.size w w') := by
  obtain ⟨X, hX⟩ : ∃ X, X = w.alloc (.cells zc 26) := ⟨_, rfl⟩
  have HR : Res w X zc 26 := by rw [hX]; exact Res.new w _ _
  obtain ⟨X1, hX1⟩ : ∃ X1, X1 = X.alloc (.cells #[.int .i64 13, .int .i64 0, .int .i64 0] 48) := ⟨_, rfl⟩
  have nb1 : Below X.heap.size X X1 := by rw [hX1]; exact (Below.refl _ X).alloc (Nat.le_refl _) _
  have P1 : X1.heap[X.heap.size]? = some (.cells #[.int .i64 13, .int .i64 0, .int .i64 0] 48) := by rw [hX1]; exact World.alloc_heap_new X _
  obtain ⟨X2, hX2⟩ : ∃ X2, X2 = X1.alloc (.cells #[.string (⟨#[109, 97, 105, 110]⟩ : ByteArray), .int .i64 0, .int .i64 0, .slice none 0 0, .int .i64 0] 43) := ⟨_, rfl⟩
  have nb2 : Below X1.heap.size X1 X2 := by rw [hX2]; exact (Below.refl _ X1).alloc (Nat.le_refl _) _
  have P2 : X2.heap[X1.heap.size]? = some (.cells #[.string (⟨#[109, 97, 105, 110]⟩ : ByteArray), .int .i64 0, .int .i64 0, .slice none 0 0, .int .i64 0] 43) := by rw [hX2]; exact World.alloc_heap_new X1 _
  have R2 : Res w X2 zc 26 := (HR.next nb1).next nb2
  have hz1 : X1.heap.size = X.heap.size + 1 := by rw [hX1]; simp
  have Q1 : X2.heap[X.heap.size]? = some (.cells #[.int .i64 13, .int .i64 0, .int .i64 0] 48) := (nb2.block _ (by omega)).trans P1
  have hwX := HR.lt
  obtain ⟨x0, y0⟩ := blk_cell R2.c 0 (.slice none 0 0) rfl
  obtain ⟨x1, y1⟩ := blk_cell R2.c 1 (.slice none 0 0) rfl
  obtain ⟨x2, y2⟩ := blk_cell R2.c 2 (.slice none 0 0) rfl
  obtain ⟨x3, y3⟩ := blk_cell R2.c 3 (.int .i64 0) rfl
  have HP : Hid (((((X2.setCell ⟨w.heap.size, 0, none⟩ (.slice (some ⟨X.heap.size, 0, none⟩) 1 1)).setCell ⟨w.heap.size, 1, none⟩ (.slice (some ⟨X.heap.size + 1, 0, none⟩) 1 1)).setCell ⟨w.heap.size, 2, none⟩ (.slice none 0 0)).setCell ⟨w.heap.size, 3, none⟩ (.int .i64 0)).heap[w.heap.size]? = some (.cells (cv (.slice (some ⟨X.heap.size, 0, none⟩) 1 1) (.slice (some ⟨X.heap.size + 1, 0, none⟩) 1 1) (.slice none 0 0) 0) 26) ∧ Below w.heap.size w ((((X2.setCell ⟨w.heap.size, 0, none⟩ (.slice (some ⟨X.heap.size, 0, none⟩) 1 1)).setCell ⟨w.heap.size, 1, none⟩ (.slice (some ⟨X.heap.size + 1, 0, none⟩) 1 1)).setCell ⟨w.heap.size, 2, none⟩ (.slice none 0 0)).setCell ⟨w.heap.size, 3, none⟩ (.int .i64 0)) ∧ ((((X2.setCell ⟨w.heap.size, 0, none⟩ (.slice (some ⟨X.heap.size, 0, none⟩) 1 1)).setCell ⟨w.heap.size, 1, none⟩ (.slice (some ⟨X.heap.size + 1, 0, none⟩) 1 1)).setCell ⟨w.heap.size, 2, none⟩ (.slice none 0 0)).setCell ⟨w.heap.size, 3, none⟩ (.int .i64 0)).heap[X.heap.size]? = some (.cells #[.int .i64 13, .int .i64 0, .int .i64 0] 48) ∧ ((((X2.setCell ⟨w.heap.size, 0, none⟩ (.slice (some ⟨X.heap.size, 0, none⟩) 1 1)).setCell ⟨w.heap.size, 1, none⟩ (.slice (some ⟨X.heap.size + 1, 0, none⟩) 1 1)).setCell ⟨w.heap.size, 2, none⟩ (.slice none 0 0)).setCell ⟨w.heap.size, 3, none⟩ (.int .i64 0)).heap[X.heap.size + 1]? = some (.cells #[.string (⟨#[109, 97, 105, 110]⟩ : ByteArray), .int .i64 0, .int .i64 0, .slice none 0 0, .int .i64 0] 43)) := by
    refine ⟨put4 R2.c, below_put4 R2.b (Nat.le_refl _), ?_, ?_⟩
    · exact (set_heap (a := ⟨w.heap.size, 3, none⟩) (Nat.ne_of_gt hwX)).trans ((set_heap (a := ⟨w.heap.size, 2, none⟩) (Nat.ne_of_gt hwX)).trans ((set_heap (a := ⟨w.heap.size, 1, none⟩) (Nat.ne_of_gt hwX)).trans ((set_heap (a := ⟨w.heap.size, 0, none⟩) (Nat.ne_of_gt hwX)).trans (Q1))))
    · rw [← hz1]
      exact (set_heap (a := ⟨w.heap.size, 3, none⟩) (by rw [hz1]; exact Nat.ne_of_gt (Nat.lt_succ_of_lt hwX))).trans ((set_heap (a := ⟨w.heap.size, 2, none⟩) (by rw [hz1]; exact Nat.ne_of_gt (Nat.lt_succ_of_lt hwX))).trans ((set_heap (a := ⟨w.heap.size, 1, none⟩) (by rw [hz1]; exact Nat.ne_of_gt (Nat.lt_succ_of_lt hwX))).trans ((set_heap (a := ⟨w.heap.size, 0, none⟩) (by rw [hz1]; exact Nat.ne_of_gt (Nat.lt_succ_of_lt hwX))).trans (P2))))
  rw [hX2, hX1] at x0 x1 x2 x3 y0 y1 y2 y3 HP
  clear R2 Q1 P1 P2 nb1 nb2 hX1 hX2 hz1 HR hwX
  go_enter Tryz.func5, Tryz.ntmps5
  go_upto_region 1 with fail
  rw [← hX]
  clear hX
  go_wp2
  generalize (((((X.alloc (.cells #[.int .i64 13, .int .i64 0, .int .i64 0] 48)).alloc (.cells #[.string (⟨#[109, 97, 105, 110]⟩ : ByteArray), .int .i64 0, .int .i64 0, .slice none 0 0, .int .i64 0] 43)).setCell ⟨w.heap.size, 0, none⟩ (.slice (some ⟨X.heap.size, 0, none⟩) 1 1)).setCell ⟨w.heap.size, 1, none⟩ (.slice (some ⟨X.heap.size + 1, 0, none⟩) 1 1)).setCell ⟨w.heap.size, 2, none⟩ (.slice none 0 0)).setCell ⟨w.heap.size, 3, none⟩ (.int .i64 0) = WF at HP ⊢
  obtain ⟨r0, rb, r1, r2⟩ := HP.out
  obtain ⟨q0, -⟩ := blk_cell r0 0 (.slice (some ⟨X.heap.size, 0, none⟩) 1 1) rfl
  obtain ⟨q1, -⟩ := blk_cell r0 1 (.slice (some ⟨X.heap.size + 1, 0, none⟩) 1 1) rfl
  obtain ⟨q2, -⟩ := blk_cell r0 2 (.slice none 0 0) rfl
  obtain ⟨q3, -⟩ := blk_cell r0 3 (.int .i64 0) rfl
  refine bodyPost_ret (v := .agg (cv (.slice (some ⟨X.heap.size, 0, none⟩) 1 1) (.slice (some ⟨X.heap.size + 1, 0, none⟩) 1 1) (.slice none 0 0) 0)) (by simp [results, Tryz.results5, go_sem, q0, q1, q2, q3]) rfl ⟨X.heap.size, X.heap.size + 1, rfl, ⟨rfl, ?_, ?_, ?_, ?_, by decide, by decide, by decide, ?_⟩, rb⟩
  · exact fun _ => ⟨X.heap.size, 0, rfl, (Array.getElem?_eq_some_iff.1 r1).1, fun j v hv => by rw [Nat.zero_add]; exact (blk_cell r1 j v ((show (#[.int .i64 13, .int .i64 0, .int .i64 0] : Array Value)[j]? = ([.int .i64 13, .int .i64 0, .int .i64 0] : List Value)[j]? by simp).trans hv)).1⟩
  · exact fun _ => ⟨X.heap.size + 1, 0, rfl, (Array.getElem?_eq_some_iff.1 r2).1, fun j v hv => by rw [Nat.zero_add]; exact (blk_cell r2 j v ((show (#[.string (⟨#[109, 97, 105, 110]⟩ : ByteArray), .int .i64 0, .int .i64 0, .slice none 0 0, .int .i64 0] : Array Value)[j]? = ([.string (⟨#[109, 97, 105, 110]⟩ : ByteArray), .int .i64 0, .int .i64 0, .slice none 0 0, .int .i64 0] : List Value)[j]? by simp).trans hv)).1⟩
  · exact fun h => absurd h (by decide)
  · intro x hx
    obtain rfl := List.mem_singleton.1 hx
    exact ⟨fun h => absurd h (by decide), by decide, by decide⟩
  · intro t ht
    cases ht
end Go.Proofs.YtcjnejdemfemfaaGreatDoor

