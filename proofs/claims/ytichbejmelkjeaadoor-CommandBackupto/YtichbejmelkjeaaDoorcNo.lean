import Derived.Test.YtichbejmelkjeaaDoorcWh
import Derived.Lib.QuietBelow
namespace Go.Proofs.YtichbejmelkjeaaDoor
open Go.RowKit

set_option maxRecDepth 100000 in
set_option maxHeartbeats 2000000 in
theorem number_any (s : ByteArray) (w : World) (hs : s.size ≤ 300) (hT : Tb w) :
    Calls Tryd.prog 30 #[.string s] w fun e w' => e = .returned (.tuple #[.int .i64 (numO s.data.toList).1, .bool (numO s.data.toList).2]) ∧ Below w.heap.size w w' := by
  have HC : Hid (Calls Tryd.prog 36 #[.string s] w fun e w' => e = .returned (tkA (whl s.data.toList)) ∧ Below w.heap.size w w') := whole_any s w hs hT
  unfold numO
  generalize whl s.data.toList = x at HC ⊢
  obtain ⟨kd, ln, tx, it⟩ := x
  unfold tkA at HC
  simp only at HC ⊢
  generalize (⟨tx.toArray⟩ : ByteArray) = tb at HC
  have hb : (kd == 2) = ((kd : Int) == 2) := by
    by_cases h : kd = 2
    · subst h; rfl
    · rw [beq_eq_false_iff_ne.2 h, beq_eq_false_iff_ne.2 (by omega)]
  rw [hb]
  clear hb hT
  go_enter Tryd.func30, Tryd.ntmps30
  go_wp2_with fail
  refine HC.out.mono ?_
  rintro e w2 ⟨rfl, hb2⟩
  obtain ⟨W3, hW3⟩ : ∃ W3, w2.alloc (.cells #[.int .i64 (kd : Int), .int .i64 0, .int .i64 (ln : Int), .string tb, .int .i64 it] 89) = W3 := ⟨_, rfl⟩
  have b3 : Below w.heap.size w W3 := by rw [← hW3]; exact hb2.alloc hb2.size _
  have f3 : Full W3 w2.heap.size 89 [.int .i64 (kd : Int), .int .i64 0, .int .i64 (ln : Int), .string tb, .int .i64 it] := by rw [← hW3]; exact Full.new w2 _ _
  have d0 := (f3.cell 0 _ rfl).1
  have d4 := (f3.cell 4 _ rfl).1
  have g0 : W3.drew.cell? ⟨w2.heap.size, 0, none⟩ = some (.int .i64 (kd : Int)) := d0
  have g4 : W3.drew.cell? ⟨w2.heap.size, 4, none⟩ = some (.int .i64 it) := d4
  go_wp2_with fail
  go_region_law (fail)
  all_goals
    go_wp2
    go_ret2
    exact ⟨rfl, b3.drew⟩
end Go.Proofs.YtichbejmelkjeaaDoor
