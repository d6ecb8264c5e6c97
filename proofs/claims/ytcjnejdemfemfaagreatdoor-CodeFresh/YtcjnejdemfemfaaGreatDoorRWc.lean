import Derived.Test.YtcjnejdemfemfaaGreatDoorRWb
namespace Go.Proofs.YtcjnejdemfemfaaGreatDoor
open Go.RowKit

set_option maxRecDepth 100000 in
set_option maxHeartbeats 2000000 in
theorem rencode_any {w : World} {iq eq tq : Option Addr} {Es : List Em} {c : Cd} (h : CodeM w w.heap.size iq eq tq Es c) (ia ea ta : Nat) (h64 : In64 c) :
    Calls Tryz.prog 6 #[aggC iq eq tq ia ea ta c] w fun e w' => e = .returned (.tuple #[.string (if validS c = 0 then YtcjnejdemfemfaaGreatDoor.bk (encS c) else e0), .int .i64 (validS c)]) ∧ Below w.heap.size w w' := by
  obtain ⟨W1, hW1⟩ : ∃ W1, W1 = w.alloc (.cells #[.slice iq c.ins.length ia, .slice eq c.ens.length ea, .slice tq c.txs.length ta, .int .i64 c.main] 26) := ⟨_, rfl⟩
  have H1 : Hid (Full W1 w.heap.size 26 [.slice iq c.ins.length ia, .slice eq c.ens.length ea, .slice tq c.txs.length ta, .int .i64 c.main] ∧ CodeM W1 W1.heap.size iq eq tq Es c ∧ Below w.heap.size w W1) := by
    have nb : Below w.heap.size w W1 := by rw [hW1]; exact (Below.refl _ w).alloc (Nat.le_refl _) _
    exact ⟨by rw [hW1]; exact Full.new w _ _, (h.below nb (Nat.le_refl _)).up nb.size, nb⟩
  have v1 := rvalid_any H1.out.2.1 ia ea ta (Nat.le_refl _) h64
  unfold codeV at v1
  obtain ⟨x0, x1, x2, x3⟩ := H1.out.1.four
  by_cases hv : validS c = 0
  · rw [if_pos hv, hv]
    rw [hv] at v1
    have HK : Hid (CodeOk c) := code_ok.1 hv
    obtain ⟨E, HE⟩ : ∃ E, Hid (E = YtcjnejdemfemfaaGreatDoor.bk (encS c)) := ⟨_, (rfl : YtcjnejdemfemfaaGreatDoor.bk (encS c) = _)⟩
    rw [← HE.out]
    clear h h64 hv
    go_enter Tryz.func6, Tryz.ntmps6
    go_upto_region 1 with fail
    rw [← hW1]
    clear hW1
    go_wp2_with fail
    refine v1.mono ?_
    rintro e W2 ⟨rfl, hw2⟩
    have b2 := rbytes_any (H1.out.2.1.below hw2 (Nat.le_refl _)) ia ea ta hw2.size HK.out
    rw [← HE.out] at b2
    have HB : Hid (Below w.heap.size w W2) := below2 H1.out.2.2 hw2
    have f2 := H1.out.1.next hw2
    clear v1 x0 x1 x2 x3 hw2 H1
    obtain ⟨x0, x1, x2, x3⟩ := f2.four
    clear f2
    go_wp2_with fail
    refine b2.mono ?_
    rintro e W3 ⟨rfl, hw3⟩
    go_wp2
    exact bodyPost_ret (v := .tuple #[.string E, .int .i64 0]) (by simp [results, Tryz.results6, go_sem]) rfl ⟨rfl, below2 HB.out hw3⟩
  · rw [if_neg hv]
    have hv' : (validS c != 0) = true := by rw [bne_iff_ne]; exact hv
    generalize validS c = V at *
    clear h h64
    go_enter Tryz.func6, Tryz.ntmps6
    go_upto_region 1 with fail
    rw [← hW1]
    clear hW1
    go_wp2_with fail
    refine v1.mono ?_
    rintro e W2 ⟨rfl, hw2⟩
    go_wp2
    exact bodyPost_ret (v := .tuple #[.string e0, .int .i64 V]) (by simp [results, Tryz.results6, go_sem]) rfl ⟨rfl, below2 H1.out.2.2 hw2⟩
end Go.Proofs.YtcjnejdemfemfaaGreatDoor

