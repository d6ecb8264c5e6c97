import Derived.Test.YtdmiciblfbkndaaDoorA25
import Derived.Test.YtdmiciblfbkndaaDoorA14
import Derived.Test.YtdmiciblfbkndaaDoorA22
namespace Go.Proofs.YtdmiciblfbkndaaDoor
open Go.RowKit

set_option maxRecDepth 100000 in
set_option maxHeartbeats 4000000 in
theorem rsome_any (W : World) (q : Option Addr) (cap : Nat) (L : List Ev) (hR : Row W W.heap.size q L.length (L.flatMap ec)) (h1 : L.all evOk = true) (h2 : ∀ e ∈ L, -9223372036854775808 ≤ e.vn ∧ e.vn ≤ 9223372036854775807) (hn : L.length ≤ 1048576) (hcap : L.length ≤ cap) :
    Calls Tryd.prog 14 #[.slice q L.length cap] W fun e w' => e = .returned (.string ⟨(evF L).toArray⟩) ∧ Below W.heap.size W w' := by
  obtain ⟨n, hln⟩ : ∃ n, L.length = n := ⟨_, rfl⟩
  have HN : Hid (L.length = n) := hln
  have HO : Hid (L.all evOk = true ∧ ∀ e ∈ L, -9223372036854775808 ≤ e.vn ∧ e.vn ≤ 9223372036854775807) := ⟨h1, h2⟩
  have H0 : Hid (Row W W.heap.size q L.length (L.flatMap ec) ∧ Below W.heap.size W W) := ⟨hR, Below.refl _ _⟩
  rw [hln] at hn hcap ⊢
  have qn : (n : Int) ≤ 1048576 := by omega
  clear hR hln h1 h2
  go_enter Tryd.func14, Tryd.ntmps14
  go_wp2_with fail
  go_loopw [3, 4] (fun b v wr => ∃ (k i : Nat) (s : ByteArray), v = .int .i64 (i : Int) ∧ b = .string s ∧ Hid (i = 64 * k) ∧ i ≤ n + 64 ∧ s.size ≤ 25609 * k ∧ Hid (EnD L k ([82, 1] ++ s.data.toList) ∧ Row wr W.heap.size q L.length (L.flatMap ec) ∧ Below W.heap.size W wr)) (fun _ v _ => n + 64 - (intOf v).toNat)
  case atStart => exact ⟨0, 0, ⟨#[]⟩, rfl, rfl, rfl, by omega, by decide, EnD.zero L, H0.out.1, H0.out.2⟩
  case round =>
    obtain ⟨k, i, s, rfl, rfl, HK, hi, hsz, HI⟩ := hrel
    clear H0
    by_cases hlt : i < n
    case neg =>
      have qi : ¬ (i : Int) < (n : Int) := by omega
      have HV : Hid (s = ⟨(evF L).toArray⟩ ∧ Below W.heap.size W wr) := ⟨ba_of (List.append_cancel_left (HI.out.1.end_ (by rw [HN.out, ← HK.out]; omega))), HI.out.2.2⟩
      clear HI hlt
      go_wp2
      go_ret
      exact ⟨congrArg (fun x => Ending.returned (.string x)) HV.out.1, HV.out.2⟩
    case pos =>
      have qi : (i : Int) < (n : Int) := by omega
      have q0 : (0 : Int) ≤ (i : Int) := by omega
      obtain ⟨g, o, rfl, hgB, hrg⟩ := HI.out.2.1 (by rw [HN.out]; omega)
      obtain ⟨P, hP⟩ : ∃ P, (L.drop i).take 64 = P := ⟨_, rfl⟩
      have hPl : P.length = min 64 (n - i) := by rw [← hP, List.length_take, List.length_drop, HN.out]
      have hok : EvsOk P := by rw [← hP]; exact part_ok HO.out.1 HO.out.2 i
      have hrP : ∀ w, Below wr.heap.size wr w → Row w w.heap.size (some ⟨g, o + i * 6, none⟩) P.length (P.flatMap ec) := fun w hw _ => by
        refine ⟨g, o + i * 6, rfl, by have := hw.size; have := HI.out.2.2.size; omega, ?_⟩
        rw [← hP]
        refine row_part ?_ i (by rw [HN.out]; omega)
        exact range_same hrg (hw.block g (by have := HI.out.2.2.size; omega))
      have HCB : Hid (∀ (w : World) (l c : Nat), l = P.length → Below wr.heap.size wr w → Calls Tryd.prog 22 #[.slice (some ⟨g, o + i * 6, none⟩) l c] w fun e w' => e = .returned (.string ⟨(bodyL P).toArray⟩) ∧ Below w.heap.size w w') := fun w l c hl hw => by
        rw [hl]
        exact rbody_any w _ c P (hrP w hw) hok
      have hgo := HI.out.1.go HO.out.1 HO.out.2 (by rw [HN.out, ← HK.out]; omega)
      rw [← HK.out, hP] at hgo
      have hkk : k ≤ 16384 := by have := HK.out; omega
      have HK2 : Hid (i + 64 = 64 * (k + 1)) := by show _ = _; rw [HK.out]; omega
      have hbl := body_le hok
      obtain ⟨sb, hsb⟩ : ∃ b : ByteArray, (⟨(bodyL P).toArray⟩ : ByteArray) = b := ⟨_, rfl⟩
      have zb : sb.size ≤ 25601 := by rw [← hsb, ba_size]; exact hbl
      have hsbl : sb.data.toList = bodyL P := by rw [← hsb]
      obtain ⟨sc, hsc⟩ : ∃ b : ByteArray, (⟨(chS (bodyL P)).toArray⟩ : ByteArray) = b := ⟨_, rfl⟩
      have zc : sc.size ≤ 25609 := by rw [← hsc, ba_size, chS_len]; omega
      have yc : s.size + sc.size ≤ 9223372036854775807 := by omega
      have HCC : Hid (∀ w : World, Calls Tryd.prog 15 #[.string sb] w fun e w' => e = .returned (.string sc) ∧ Below w.heap.size w w') := fun w => by
        have h := rchunk_any w sb (by omega)
        rw [hsbl, hsc] at h
        exact h
      rw [hsb] at HCB
      have HV : Hid (∀ w, Below wr.heap.size wr w → EnD L (k + 1) ([82, 1] ++ (s ++ sc).data.toList) ∧ Row w W.heap.size (some ⟨g, o, none⟩) L.length (L.flatMap ec) ∧ Below W.heap.size W w) := fun w hw => by
        refine ⟨?_, HI.out.2.1.below hw HI.out.2.2.size, HI.out.2.2.trans (hw.mono HI.out.2.2.size)⟩
        rw [cat_list, ← hsc, ← List.append_assoc]
        exact hgo
      have hzz : (s ++ sc).size ≤ 25609 * (k + 1) := by rw [ByteArray.size_append]; omega
      clear HK HI hP hok hrP hgo hbl hsb hsbl hsc hgB hrg hlt
      by_cases hc : n < i + 64
      · have qc : (n : Int) < (i : Int) + 64 := by omega
        go_wp2_with fail
        refine (HCB.out _ _ _ (by omega) (Below.refl _ _)).mono ?_
        rintro e w1 ⟨rfl, hb1⟩
        go_wp2_with fail
        refine (HCC.out _).mono ?_
        rintro e w2 ⟨rfl, hb2⟩
        have H2 : Hid (Below wr.heap.size wr w2) := hb1.trans (hb2.mono hb1.size)
        clear hb1 hb2
        go_wp2
        exact ⟨⟨k + 1, i + 64, s ++ sc, by go_num, rfl, HK2, by omega, hzz, HV.out _ H2.out⟩, by simp [intOf]; omega⟩
      · have qc : ¬ (n : Int) < (i : Int) + 64 := by omega
        go_wp2_with fail
        refine (HCB.out _ _ _ (by omega) (Below.refl _ _)).mono ?_
        rintro e w1 ⟨rfl, hb1⟩
        go_wp2_with fail
        refine (HCC.out _).mono ?_
        rintro e w2 ⟨rfl, hb2⟩
        have H2 : Hid (Below wr.heap.size wr w2) := hb1.trans (hb2.mono hb1.size)
        clear hb1 hb2
        go_wp2
        exact ⟨⟨k + 1, i + 64, s ++ sc, by go_num, rfl, HK2, by omega, hzz, HV.out _ H2.out⟩, by simp [intOf]; omega⟩
end Go.Proofs.YtdmiciblfbkndaaDoor
