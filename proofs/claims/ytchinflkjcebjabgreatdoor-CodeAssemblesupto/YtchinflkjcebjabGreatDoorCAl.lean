import Derived.Test.YtchinflkjcebjabGreatDoorRXk
import Derived.Test.YtchinflkjcebjabGreatDoorCOp
namespace Go.Proofs.YtchinflkjcebjabGreatDoor
open Go.RowKit

set_option maxRecDepth 100000 in
set_option maxHeartbeats 4000000 in
theorem codeAssembles_any (s : ByteArray) (w : World) (hs : s.size ≤ 1048576) (ht : Tabs w) : Calls Tryz.prog 6 #[.string s] w fun e w' => e = .returned (.bool true) ∧ Below w.heap.size w w' := by
  have HT : Hid (∀ W, Below w.heap.size w W → Tabs W) := fun W hW => ht.next hW
  have d0 := assemble_any s w (by omega) ht
  have r0 : ∀ W : World, _ := fun W => rassemble_any s W hs
  have HR : Hid (∀ W : World, _) := r0
  have HSm : Hid (Small (asmC (lt s))) := by
    rcases asm_cases (lt s) with ⟨-, -, -, h, -⟩ | ⟨-, -, h, -⟩
    · exact h
    · exact h
  generalize asmC (lt s) = c at *
  generalize asmE (lt s) = E at *
  generalize asmN (lt s) = N at *
  unfold codeV at d0 HR
  clear ht r0
  go_enter Tryz.func6, Tryz.ntmps6
  go_wp2_with fail
  refine d0.mono ?_
  rintro e W1 ⟨iq, ia, eq, ea, tq, ta, rfl, hw1⟩
  obtain ⟨W2, hW2⟩ : ∃ W2, W2 = W1.alloc (.cells #[.slice iq c.ins.length ia, .slice eq c.ens.length ea, .slice tq c.txs.length ta, .int .i64 c.main] 26) := ⟨_, rfl⟩
  have H2 : Hid (Bx W2 W1.heap.size iq eq tq ia ea ta c ∧ Below w.heap.size w W2) := by
    obtain ⟨Es, F⟩ := hw1.out
    rw [hW2]
    exact ⟨Bx.new ia ea ta ⟨Es, rows_codeM F.rows F.en HSm.out⟩, below2 F.bel ((Below.refl _ W1).alloc (Nat.le_refl _) _)⟩
  clear hw1 d0
  go_upto_region 2 with fail
  rw [← hW2]
  clear hW2
  generalize W1.heap.size = p1 at *
  clear W1
  have r2 := HR.out W2
  go_wp2_with fail
  refine r2.mono ?_
  rintro e W3 ⟨iq', ia', eq', ea', tq', ta', rfl, hw3⟩
  obtain ⟨W4, hW4⟩ : ∃ W4, W4 = W3.alloc (.cells #[.slice iq' c.ins.length ia', .slice eq' c.ens.length ea', .slice tq' c.txs.length ta', .int .i64 c.main] 26) := ⟨_, rfl⟩
  have H4 : Hid (Bx W4 p1 iq eq tq ia ea ta c ∧ Bx W4 W3.heap.size iq' eq' tq' ia' ea' ta' c ∧ Below w.heap.size w W4) := by
    obtain ⟨Es', F'⟩ := hw3.out
    have nb4 : Below W3.heap.size W3 W4 := by rw [hW4]; exact (Below.refl _ W3).alloc (Nat.le_refl _) _
    have b4 := below2 F'.bel nb4
    exact ⟨H2.out.1.next b4, by rw [hW4]; exact Bx.new ia' ea' ta' ⟨Es', rows_codeM F'.rows F'.en HSm.out⟩, below2 H2.out.2 b4⟩
  clear hw3 r2 H2 HR
  go_upto_region 3 with fail
  rw [← hW4]
  clear hW4
  generalize W3.heap.size = p2 at *
  clear W3 W2
  obtain ⟨x0, x1, x2, x3⟩ := H4.out.1.cs
  obtain ⟨y0, y1, y2, y3⟩ := H4.out.2.1.cs
  have s4 : Calls Tryz.prog 19 #[.agg #[.slice iq c.ins.length ia, .slice eq c.ens.length ea, .slice tq c.txs.length ta, .int .i64 c.main], .agg #[.slice iq' c.ins.length ia', .slice eq' c.ens.length ea', .slice tq' c.txs.length ta', .int .i64 c.main]] W4 fun e w' => e = .returned (.bool true) ∧ Below W4.heap.size W4 w' := by
    obtain ⟨⟨-, Es, m⟩, ⟨-, Es', m'⟩, -⟩ := H4.out
    exact same_any m m' ia ea ta ia' ea' ta'
  have HB : Hid (Below w.heap.size w W4) := H4.out.2.2
  clear HSm
  go_wp2_with fail
  refine s4.mono ?_
  rintro e W5 ⟨rfl, hw5⟩
  have HB5 : Hid (Below w.heap.size w W5) := below2 HB.out hw5
  have k5 := known_any W5 (HT.out _ HB5.out)
  clear s4 hw5 HB H4 x0 x1 x2 x3 y0 y1 y2 y3
  go_wp2_with fail
  refine k5.mono ?_
  rintro e W6 ⟨rfl, hw6⟩
  go_wp2
  go_ret
  exact ⟨rfl, below2 HB5.out hw6⟩
end Go.Proofs.YtchinflkjcebjabGreatDoor
