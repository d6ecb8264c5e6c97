import Derived.Test.YtnecnchdffmhbaaDoorE03
import Derived.Test.YtnecnchdffmhbaaDoorE02
import Derived.Test.YtnecnchdffmhbaaDoorO11
namespace Go.Proofs.YtnecnchdffmhbaaDoor
open Go.RowKit

set_option maxRecDepth 100000 in
set_option maxHeartbeats 1000000 in
theorem rchunk_any (W : World) (s : ByteArray) (hs : s.size ≤ 1000000000) :
    Calls Tryd.prog 32 #[.string s] W fun e w' => e = .returned (.string ⟨(chS s.data.toList).toArray⟩) ∧ Below W.heap.size W w' := by
  have hsz : Hid (s.size = s.data.toList.length) := Lib.size_eq s
  have HC := wide_any W s.size 4 (by omega) (by decide)
  go_enter Tryd.func32, Tryd.ntmps32
  go_wp2_with fail
  refine HC.mono ?_
  rintro e w1 ⟨rfl, hb1⟩
  have hl4 : (⟨(fxS s.size 4).toArray⟩ : ByteArray).size = 4 := by rw [ba_size, fxS_len]
  have hz : (⟨(fxS s.size 4).toArray⟩ : ByteArray).size + s.size ≤ 9223372036854775807 := by omega
  obtain ⟨hd, hhd⟩ : ∃ hd : ByteArray, (⟨(fxS s.size 4).toArray⟩ : ByteArray) = hd := ⟨_, rfl⟩
  rw [hhd] at hl4 hz ⊢
  have hbl : (hd ++ s).size = 4 + s.size := by rw [ByteArray.size_append]; omega
  have HB1 : Hid (Below W.heap.size W w1) := hb1
  have HC2 := rsum_any w1 (hd ++ s) (by omega)
  have HSL := sumS_lt (hd ++ s).data.toList
  have HC3 := wide_any w1 (sumS (hd ++ s).data.toList) 4 (by omega) (by decide)
  clear HC hb1 hbl
  go_wp2_with fail
  refine HC2.mono ?_
  rintro e w2 ⟨rfl, rfl⟩
  have q1 : (0 : Int) ≤ (sumS (hd ++ s).data.toList : Int) := by omega
  have q2 : (sumS (hd ++ s).data.toList : Int) ≤ 9223372036854775807 := by omega
  obtain ⟨sm, hsm⟩ : ∃ sm, sumS (hd ++ s).data.toList = sm := ⟨_, rfl⟩
  rw [hsm] at HC3 HSL q1 q2 ⊢
  clear HC2
  go_wp2_with fail
  refine HC3.mono ?_
  rintro e w3 ⟨rfl, hb3⟩
  have hl5 : (⟨(fxS sm 4).toArray⟩ : ByteArray).size = 4 := by rw [ba_size, fxS_len]
  have hz2 : (hd ++ s).size + (⟨(fxS sm 4).toArray⟩ : ByteArray).size ≤ 9223372036854775807 := by rw [ByteArray.size_append]; omega
  have HV : Hid ((hd ++ s) ++ (⟨(fxS sm 4).toArray⟩ : ByteArray) = ⟨(chS s.data.toList).toArray⟩) := by
    apply ba_of
    rw [cat_list, cat_list, ← hsm, cat_list, ← hhd]
    unfold chS
    rw [← hsz.out]
  have HB3 : Hid (Below W.heap.size W w3) := below2 HB1.out hb3
  clear HC3 hb3 hhd hsm
  go_wp2
  go_ret
  exact ⟨congrArg (fun x => Ending.returned (.string x)) HV.out, HB3.out⟩
end Go.Proofs.YtnecnchdffmhbaaDoor
