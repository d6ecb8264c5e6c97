import Derived.Lib.OthersKept
import Derived.Lib.DecodeN
import Derived.Lib.RuneCount
import Derived.Laws.RangeString
import Derived.Test.YtichbejmelkjeaaGreatDoorU18
namespace Go.Proofs.YtichbejmelkjeaaGreatDoor
open Go.RowKit

theorem dec_n (n b0 b1 b2 b3 : Nat) : (b0 = 10 → Lib.decodeN n b0 b1 b2 b3 = (10, 1)) ∧ (b0 ≠ 10 → (Lib.decodeN n b0 b1 b2 b3).1 ≠ 10 ∧ ((Lib.decodeN n b0 b1 b2 b3).2 = 1 ∨ ((Lib.decodeN n b0 b1 b2 b3).2 = 2 ∧ b1 / 64 = 2 ∧ 1 < n) ∨ ((Lib.decodeN n b0 b1 b2 b3).2 = 3 ∧ b1 / 64 = 2 ∧ b2 / 64 = 2 ∧ 2 < n) ∨ ((Lib.decodeN n b0 b1 b2 b3).2 = 4 ∧ b1 / 64 = 2 ∧ b2 / 64 = 2 ∧ b3 / 64 = 2 ∧ 3 < n))) := by
  unfold Lib.decodeN
  refine ⟨fun h => ?_, fun h => ?_⟩
  · rw [if_pos (by omega), h]
  · repeat' split
    all_goals (simp only [Nat.reduceEqDiff, ne_eq, not_false_eq_true, true_and, false_and, false_or, or_false, and_true]; try omega)

theorem get_at (s : ByteArray) (i : Nat) (h : i < s.size) (h' : i < s.data.toList.length) : s.get! i = s.data.toList[i]'h' := by
  simp [ByteArray.get!, getElem!_pos, h]
/-- One step over a text: a line feed is a rune by itself, and no other rune holds one. -/
theorem dec_lf (s : ByteArray) (pos : Nat) (h : pos < s.size) : 1 ≤ (Utf8.decode s pos).2 ∧ pos + (Utf8.decode s pos).2 ≤ s.size ∧
    ((s.get! pos = 10 ∧ (Utf8.decode s pos).1 = 10) ∨ ((Utf8.decode s pos).1 ≠ 10 ∧ ∀ i, pos ≤ i → i < pos + (Utf8.decode s pos).2 → s.get! i ≠ 10)) := by
  rw [Lib.decode_at]
  obtain ⟨h1, h2⟩ := dec_n (s.size - pos) (s.get! pos).toNat (s.get! (pos + 1)).toNat (s.get! (pos + 2)).toNat (s.get! (pos + 3)).toNat
  have ne : ∀ x : UInt8, x.toNat ≠ 10 → x ≠ 10 := fun x hx e => hx (by rw [e]; rfl)
  by_cases hc : (s.get! pos).toNat = 10
  · rw [h1 hc]
    exact ⟨by simp, by simp; omega, .inl ⟨UInt8.toNat_inj.1 hc, rfl⟩⟩
  · obtain ⟨h3, h4⟩ := h2 hc
    rcases h4 with h4 | ⟨h4, q1, q⟩ | ⟨h4, q1, q2, q⟩ | ⟨h4, q1, q2, q3, q⟩
    all_goals (
      refine ⟨by omega, by omega, .inr ⟨h3, fun i hi hj => ?_⟩⟩
      rw [h4] at hj
      apply ne
      have : i = pos ∨ i = pos + 1 ∨ i = pos + 2 ∨ i = pos + 3 := by omega
      rcases this with rfl | rfl | rfl | rfl <;> omega)

set_option maxRecDepth 100000 in
set_option maxHeartbeats 1000000 in
theorem lineFeed_any (s : ByteArray) (w : World) :
    Calls Tryz.prog 24 #[.string s] w fun e w' => e = .returned (.bool (decide ((10 : UInt8) ∈ s.data.toList))) ∧ Below w.heap.size w w' := by
  have hsz := Lib.size_eq s
  go_enter Tryz.func24, Tryz.ntmps24
  go_wp2
  go_loopw [] (fun wr => ∃ pos : Nat, pos ≤ s.size ∧ wr.heap[w.heap.size]? = some (.stringIter s pos) ∧ Below w.heap.size w wr ∧ Hid (∀ i, i < pos → s.get! i ≠ 10)) (fun wr => s.size - wr.iterPos w.heap.size)
  case atStart => exact ⟨0, by omega, World.iter_heap w s 0, (Below.refl _ _).alloc (Nat.le_refl _) _, fun i hi => by omega⟩
  case round =>
    obtain ⟨pos, hpos, hit, hB, hn⟩ := hrel
    have hpos0 : wr.iterPos w.heap.size = pos := by simp [World.iterPos, hit]
    by_cases hp : pos < s.size
    · have hnx : ∀ ty, (Instr.next (.pointer (some ⟨w.heap.size, 0, none⟩)) true ty).run Tryz.prog wr = _ := fun ty => Lib.run_next_any_at wr w.heap.size s pos ty hit hp
      obtain ⟨d1, d2, d3⟩ := dec_lf s pos hp
      have hit2 := Lib.iterAt_heap wr w.heap.size s pos (pos + (Utf8.decode s pos).2) hit
      have hB2 := Lib.below_iterAt hB (k := w.heap.size) (Nat.le_refl _) s (pos + (Utf8.decode s pos).2)
      obtain ⟨W1, hW1⟩ : ∃ W1, W1 = wr.iterAt w.heap.size s (pos + (Utf8.decode s pos).2) := ⟨_, rfl⟩
      rw [← hW1] at hnx hit2 hB2
      generalize Utf8.decode s pos = D at *
      obtain ⟨r, m⟩ := D
      simp only at *
      have HB2 : Hid (Below w.heap.size w W1) := hB2
      clear hW1 hB hB2 hit
      rcases d3 with ⟨e1, e2⟩ | ⟨e1, e2⟩
      · subst e2
        have HR : Hid (decide ((10 : UInt8) ∈ s.data.toList) = true) := by
          show decide ((10 : UInt8) ∈ s.data.toList) = true
          rw [get_at s pos hp (by omega)] at e1
          rw [decide_eq_true_eq, ← e1]
          exact List.getElem_mem _
        clear hsz e1 hn
        go_wp2
        go_ret
        exact ⟨by rw [HR.out]; rfl, HB2.out⟩
      · have hr : ((r : Int) == 10) = false := by rw [beq_eq_false_iff_ne]; omega
        have HN : Hid (∀ i, i < pos + m → s.get! i ≠ 10) := fun i hi => by
          by_cases h : i < pos
          · exact hn.out i h
          · exact e2 i (by omega) hi
        clear hsz e1 e2 hn
        go_wp2
        refine ⟨⟨pos + m, d2, hit2, HB2.out, HN⟩, ?_⟩
        rw [hpos0, show W1.iterPos w.heap.size = pos + m from by simp [World.iterPos, hit2]]
        omega
    · have hnx : ∀ ty, (Instr.next (.pointer (some ⟨w.heap.size, 0, none⟩)) true ty).run Tryz.prog wr = _ := fun ty => Lib.run_next_end_at wr w.heap.size s pos ty hit hp
      have HR : Hid (decide ((10 : UInt8) ∈ s.data.toList) = false) := by
        show decide ((10 : UInt8) ∈ s.data.toList) = false
        rw [decide_eq_false_iff_not]
        intro hm
        obtain ⟨i, hi, he⟩ := List.getElem_of_mem hm
        refine hn.out i (by omega) ?_
        rw [get_at s i (by omega) hi, he]
      have HB2 : Hid (Below w.heap.size w wr) := hB
      clear hsz hn hB
      go_wp2
      go_ret
      exact ⟨by rw [HR.out]; rfl, HB2.out⟩
end Go.Proofs.YtichbejmelkjeaaGreatDoor
