import Derived.Test.YtnecnchdffmhbaaDoorO20
namespace Go.Proofs.YtnecnchdffmhbaaDoor
open Go.RowKit

set_option maxRecDepth 100000 in
set_option maxHeartbeats 2000000 in
/-- The law's same, of the first events of a record. -/
theorem first_same (W : World) (ph tr : Int) (out : ByteArray) (inp : Int) (L : List Ev) (m : Nat) (hm : m ≤ L.length) (q1 q2 : Option Addr) (c1 c2 : Nat) (h1 : Row W W.heap.size q1 m ((L.take m).flatMap ec)) (h2 : Row W W.heap.size q2 L.length (L.flatMap ec)) (hn : L.length ≤ 140737488355328) :
    Calls Tryd.prog 14 #[.slice q1 m c1, .agg (recC ph tr out inp q2 L.length c2), .int .i64 (m : Int)] W fun e w' => e = .returned (.bool true) ∧ Below W.heap.size W w' := by
  obtain ⟨X, hX⟩ : ∃ X, W.alloc (.cells (recC ph tr out inp q2 L.length c2) 28) = X := ⟨_, rfl⟩
  obtain ⟨A, hA⟩ : ∃ A, W.heap.size = A := ⟨_, rfl⟩
  have b1 : Below W.heap.size W X := by rw [← hX]; exact (Below.refl _ W).alloc (Nat.le_refl _) _
  have fA : Full X A 28 [.int .i64 ph, .int .i64 tr, .string out, .int .i64 inp, .slice q2 L.length c2] := by rw [← hX, ← hA]; exact Full.new W _ _
  have hlt : (L.take m).length = m := by rw [List.length_take]; omega
  have R1 : Row X W.heap.size q1 (L.take m).length ((L.take m).flatMap ec) := by rw [hlt]; exact h1.below b1 (Nat.le_refl _)
  have R2 := h2.below b1 (Nat.le_refl _)
  obtain ⟨n, hln⟩ : ∃ n, L.length = n := ⟨_, rfl⟩
  have HN : Hid (L.length = n ∧ (L.take m).length = m ∧ m ≤ n ∧ W.heap.size = A) := ⟨hln, hlt, by omega, hA⟩
  rw [hln] at hX fA hn ⊢
  unfold recC at hX ⊢
  have H0 : Hid (Full X A 28 [.int .i64 ph, .int .i64 tr, .string out, .int .i64 inp, .slice q2 n c2] ∧ Row X W.heap.size q1 (L.take m).length ((L.take m).flatMap ec) ∧ Row X W.heap.size q2 L.length (L.flatMap ec) ∧ Below W.heap.size W X) := ⟨fA, R1, R2, b1⟩
  have qm : (m : Int) ≤ (n : Int) := by omega
  have qn : (n : Int) ≤ 140737488355328 := by omega
  have qm0 : (0 : Int) ≤ (m : Int) := by omega
  obtain ⟨-, -, a4, -⟩ := fA.five2
  clear R1 R2 h1 h2 b1 fA hln hlt hm hn
  go_enter Tryd.func14, Tryd.ntmps14
  go_wp2
  clear a4 hX
  go_loopw [7] (fun v wr => ∃ i : Nat, v = .int .i64 (i : Int) ∧ i ≤ m ∧ Hid (Full wr A 28 [.int .i64 ph, .int .i64 tr, .string out, .int .i64 inp, .slice q2 n c2] ∧ Row wr W.heap.size q1 (L.take m).length ((L.take m).flatMap ec) ∧ Row wr W.heap.size q2 L.length (L.flatMap ec) ∧ Below W.heap.size W wr)) (fun v _ => m - (intOf v).toNat)
  case atStart => exact ⟨0, rfl, Nat.zero_le _, H0⟩
  case round =>
    obtain ⟨i, rfl, him, HI⟩ := hrel
    clear H0
    obtain ⟨-, -, a4, -⟩ := HI.out.1.five2
    by_cases hlt : i < m
    · have qi : (i : Int) < (m : Int) := by omega
      have qin : (i : Int) < (n : Int) := by omega
      have q0 : (0 : Int) ≤ (i : Int) := by omega
      obtain ⟨e, he⟩ : ∃ e, L[i]? = some e := ⟨L[i]'(by have := HN.out; omega), List.getElem?_eq_getElem _⟩
      have he1 : (L.take m)[i]? = some e := by rw [List.getElem?_take, if_pos hlt]; exact he
      obtain ⟨g, o, rfl, hgB, hr1⟩ := ev_at HI.out.2.1 i e he1
      obtain ⟨g', o', rfl, hgB', hr2⟩ := ev_at HI.out.2.2.1 i e he
      obtain ⟨k, en, nm, vk, vn, vs⟩ := e
      have x0 := hr1 0 _ rfl
      have x1 := hr1 1 _ rfl
      have x2 := hr1 2 _ rfl
      have x3 := hr1 3 _ rfl
      have x4 := hr1 4 _ rfl
      have x5 := hr1 5 _ rfl
      have y0 := hr2 0 _ rfl
      have y1 := hr2 1 _ rfl
      have y2 := hr2 2 _ rfl
      have y3 := hr2 3 _ rfl
      have y4 := hr2 4 _ rfl
      have y5 := hr2 5 _ rfl
      unfold sV at x2 x5 y2 y5
      simp only [Nat.add_zero] at x0 y0
      have K := neSameE k en ⟨nm.toArray⟩ vk vn ⟨vs.toArray⟩
      have HId : Hid (Full wr.drew A 28 [.int .i64 ph, .int .i64 tr, .string out, .int .i64 inp, .slice (some ⟨g', o', none⟩) n c2] ∧ Row wr.drew W.heap.size (some ⟨g, o, none⟩) (L.take m).length ((L.take m).flatMap ec) ∧ Row wr.drew W.heap.size (some ⟨g', o', none⟩) L.length (L.flatMap ec) ∧ Below W.heap.size W wr.drew) := by
        have nb : Below wr.heap.size wr wr.drew := (Below.refl _ wr).drew
        have hs := HI.out.2.2.2.size
        exact ⟨HI.out.1.next nb, HI.out.2.1.below nb hs, HI.out.2.2.1.below nb hs, HI.out.2.2.2.trans (nb.mono hs)⟩
      clear hr1 hr2 he he1 hgB hgB'
      go_upto_region 6 with fail
      go_region
      all_goals
        clear x0 x1 x2 x3 x4 x5 y0 y1 y2 y3 y4 y5 a4 K HI
        go_wp2
        exact ⟨⟨i + 1, by go_num, by omega, HId⟩, by simp [intOf]; omega⟩
    · obtain rfl : i = m := by omega
      have qi : ¬ (i : Int) < (i : Int) := by omega
      have HB : Hid (Below W.heap.size W wr) := HI.out.2.2.2
      clear HI hlt
      go_wp2
      go_ret
      exact ⟨rfl, (by first | exact HB.out | (rw [← HN.out.2.2.2]; exact HB.out))⟩
end Go.Proofs.YtnecnchdffmhbaaDoor
