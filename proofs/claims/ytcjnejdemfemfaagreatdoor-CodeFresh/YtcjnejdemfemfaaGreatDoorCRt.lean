import Derived.Test.YtcjnejdemfemfaaGreatDoorCR1
import Derived.Test.YtcjnejdemfemfaaGreatDoorShA
namespace Go.Proofs.YtcjnejdemfemfaaGreatDoor
open Go.RowKit

set_option maxRecDepth 100000 in
set_option maxHeartbeats 1000000 in
theorem clone_any (s : ByteArray) (w : World) (hs : s.size ≤ 281474976710656) : Calls Tryz.prog 67 #[.string s] w fun e w' => e = .returned (.string s) ∧ Below w.heap.size w w' := by
  have hc := Tryz.stringslite_Clone s w hs
  go_enter Tryz.func67, Tryz.ntmps67
  go_wp2_with fail
  refine hc.mono ?_
  rintro e w1 ⟨rfl, hb⟩
  go_wp2
  go_ret
  exact ⟨rfl, hb⟩
theorem rdB_small (n : Nat) (s : Rs) : (rdB n s).1.length ≤ s.1.length := by
  unfold rdB
  split
  · exact Nat.zero_le _
  · simp only [List.length_take]; omega
set_option maxRecDepth 100000 in
set_option maxHeartbeats 1000000 in
theorem text_f (w : World) (rb : Nat) (st : Rs) (h : Rd w rb st) :
    Calls Tryz.prog 48 #[.pointer (some ⟨rb, 0, none⟩)] w fun e w' => e = .returned (.string (YtcjnejdemfemfaaGreatDoor.bk (rdT st).1)) ∧ Hid (Rd w' rb (rdT st).2 ∧ Kp (fun x => x = rb) w w') := by
  have n1 := number_f w rb 1 st h (by decide)
  have h0 := rdN_rng 1 (by decide) st
  have h1 := (numV_one (rdB 1 st).1 (rdB_len 1 st)).2
  have h1' : (rdN 1 st).1 < 256 := h1
  have e : rdT st = rdB (rdN 1 st).1.toNat (rdN 1 st).2 := rfl
  rw [e]
  generalize rdN 1 st = N1 at *
  obtain ⟨v, st1⟩ := N1
  simp only at *
  obtain ⟨k, rfl⟩ : ∃ k : Nat, v = (k : Int) := ⟨v.toNat, by omega⟩
  rw [Int.toNat_natCast]
  have hk : k < 256 := by omega
  clear e h1 h1' h0
  go_enter Tryz.func48, Tryz.ntmps48
  go_wp2_with fail
  refine n1.mono ?_
  rintro e W1 ⟨rfl, hw1⟩
  have n2 := bytes_f W1 rb k st1 hw1.out.1 (by omega)
  have hsz : (rdB k st1).1.length ≤ 281474976710656 := Nat.le_trans (rdB_small k st1) hw1.out.1.2
  go_wp2_with fail
  refine n2.mono ?_
  rintro e W2 ⟨rfl, hw2⟩
  have n3 := clone_any (YtcjnejdemfemfaaGreatDoor.bk (rdB k st1).1) W2 (by rw [bk_size]; exact hsz)
  go_wp2_with fail
  refine n3.mono ?_
  rintro e W3 ⟨rfl, hb3⟩
  go_wp2
  go_ret
  exact ⟨rfl, hw2.out.1.next hb3, (hw1.out.2.trans hw2.out.2 (fun _ _ q => q)).next hb3⟩
end Go.Proofs.YtcjnejdemfemfaaGreatDoor

