import Derived.Test.YtnecnchdffmhbaaDoorU01
namespace Go.Proofs.YtnecnchdffmhbaaDoor
open Go.RowKit

/-- Which outcomes and inputs may not be, one by one. -/
theorem end_no (ph tr inp : Int) : (endOk ph tr inp = true ∧ (((ph = 2 ∧ 1 ≤ tr ∧ tr ≤ 7) ∨ (ph = 0 ∧ tr = 0) ∨ (ph = 1 ∧ tr = 0)) ∧ 0 ≤ inp ∧ inp ≤ 1000)) ∨ (endOk ph tr inp = false ∧ (ph < 0 ∨ 2 < ph ∨ ((0 ≤ ph ∧ ph ≤ 2) ∧ tr < 0) ∨ ((0 ≤ ph ∧ ph ≤ 2) ∧ 7 < tr) ∨ (ph = 2 ∧ tr = 0) ∨ (ph = 0 ∧ 1 ≤ tr ∧ tr ≤ 7) ∨ (ph = 1 ∧ 1 ≤ tr ∧ tr ≤ 7) ∨ (((ph = 2 ∧ 1 ≤ tr ∧ tr ≤ 7) ∨ (ph = 0 ∧ tr = 0) ∨ (ph = 1 ∧ tr = 0)) ∧ (inp < 0 ∨ 1000 < inp)))) := by
  have h : endOk ph tr inp = true ↔ (((ph = 2 ∧ 1 ≤ tr ∧ tr ≤ 7) ∨ (ph = 0 ∧ tr = 0) ∨ (ph = 1 ∧ tr = 0)) ∧ 0 ≤ inp ∧ inp ≤ 1000) := by
    unfold endOk
    simp
    omega
  cases he : endOk ph tr inp with
  | true => exact .inl ⟨rfl, h.1 he⟩
  | false =>
    refine .inr ⟨rfl, ?_⟩
    have h2 : ¬ (((ph = 2 ∧ 1 ≤ tr ∧ tr ≤ 7) ∨ (ph = 0 ∧ tr = 0) ∨ (ph = 1 ∧ tr = 0)) ∧ 0 ≤ inp ∧ inp ≤ 1000) := fun k => by rw [h.2 k] at he; cases he
    omega
set_option maxRecDepth 100000 in
set_option maxHeartbeats 4000000 in
theorem rvalid_any (W : World) (ph tr : Int) (out : ByteArray) (inp : Int) (q : Option Addr) (cap : Nat) (L : List Ev) (hR : Row W W.heap.size q L.length (L.flatMap ec)) (hz : ∀ e ∈ L, EvSz e) (hn : L.length ≤ 140737488355328) (ho : out.size ≤ 140737488355328) :
    Calls Tryd.prog 16 #[.agg (recC ph tr out inp q L.length cap)] W fun e w' => e = .returned (.int .i64 (encS ⟨ph, tr, out.data.toList, inp, L⟩).2) ∧ Below W.heap.size W w' := by
  obtain ⟨X1, hX1⟩ : ∃ X, W.alloc (.cells (recC ph tr out inp q L.length cap) 28) = X := ⟨_, rfl⟩
  obtain ⟨A, hA⟩ : ∃ A, W.heap.size = A := ⟨_, rfl⟩
  have b1 : Below W.heap.size W X1 := by rw [← hX1]; exact (Below.refl _ W).alloc (Nat.le_refl _) _
  have f1 : Full X1 A 28 [.int .i64 ph, .int .i64 tr, .string out, .int .i64 inp, .slice q L.length cap] := by rw [← hX1, ← hA]; exact Full.new W _ _
  have R1 : Row X1 W.heap.size q L.length (L.flatMap ec) := hR.below b1 (Nat.le_refl _)
  obtain ⟨n, hln⟩ : ∃ n, L.length = n := ⟨_, rfl⟩
  have HZ : Hid (∀ e ∈ L, EvSz e) := hz
  have HN : Hid (L.length = n ∧ W.heap.size = A) := ⟨hln, hA⟩
  obtain ⟨RV, HRV⟩ : ∃ RV, Hid ((encS ⟨ph, tr, out.data.toList, inp, L⟩).2 = RV) := ⟨_, (rfl : _ = _)⟩
  rw [HRV.out]
  have HE : Hid (RV = if 1048576 < n ∨ 16777216 < out.size then 2 else if (endOk ph tr inp && L.all evOk) = true then 0 else 1) := by
    show RV = _
    rw [← HRV.out]
    unfold encS
    simp only [hln]
    rw [← Lib.size_eq]
    split
    · rfl
    · split <;> rfl
  rw [hln] at hX1 f1 hn ⊢
  unfold recC at hX1 ⊢
  have H1 : Hid (Full X1 A 28 [.int .i64 ph, .int .i64 tr, .string out, .int .i64 inp, .slice q n cap] ∧ Row X1 W.heap.size q L.length (L.flatMap ec) ∧ Below W.heap.size W X1) := ⟨f1, R1, b1⟩
  have qo : (out.size : Int) ≤ 140737488355328 := by omega
  have qn : (n : Int) ≤ 140737488355328 := by omega
  obtain ⟨⟨⟨r0, -⟩, ⟨r1, -⟩, r2, -⟩, ⟨r3, -⟩, r4, -⟩ := f1.five2
  clear hR hz b1 f1 R1 hln hn ho
  rcases Nat.lt_or_ge 1048576 n with hs | hs
  · have q1 : (1048576 : Int) < (n : Int) := by omega
    have HV : Hid (RV = 2) := by show RV = 2; rw [HE.out, if_pos (.inl hs)]
    clear hs HE
    go_enter Tryd.func16, Tryd.ntmps16
    go_wp2
    go_ret
    exact ⟨congrArg (fun x => Ending.returned (.int .i64 x)) HV.out.symm, (by first | exact H1.out.2.2 | (rw [← HN.out.2]; exact H1.out.2.2))⟩
  rcases Nat.lt_or_ge 16777216 out.size with ht | ht
  · have q1 : ¬ (1048576 : Int) < (n : Int) := by omega
    have q2 : (16777216 : Int) < (out.size : Int) := by omega
    have HV : Hid (RV = 2) := by show RV = 2; rw [HE.out, if_pos (.inr ht)]
    clear hs ht HE
    go_enter Tryd.func16, Tryd.ntmps16
    go_wp2
    go_ret
    exact ⟨congrArg (fun x => Ending.returned (.int .i64 x)) HV.out.symm, (by first | exact H1.out.2.2 | (rw [← HN.out.2]; exact H1.out.2.2))⟩
  have q1 : ¬ (1048576 : Int) < (n : Int) := by omega
  have q2 : ¬ (16777216 : Int) < (out.size : Int) := by omega
  rw [if_neg (show ¬ (1048576 < n ∨ 16777216 < out.size) by omega)] at HE
  clear hs ht
  rcases end_no ph tr inp with ⟨he, hp, hi0, hi1⟩ | ⟨he, hbad⟩
  case inr =>
    rw [he, Bool.false_and, if_neg (by decide)] at HE
    rcases hbad with y1 | y1 | ⟨⟨z0, z1⟩, y1⟩ | ⟨⟨z0, z1⟩, y1⟩ | ⟨rfl, rfl⟩ | ⟨rfl, y1, y2⟩ | ⟨rfl, y1, y2⟩ | ⟨(⟨rfl, z0, z1⟩ | ⟨rfl, rfl⟩ | ⟨rfl, rfl⟩), (y1 | y1)⟩
    all_goals
      clear he
      go_enter Tryd.func16, Tryd.ntmps16
      go_wp2
      go_ret
      exact ⟨congrArg (fun x => Ending.returned (.int .i64 x)) HE.out.symm, (by first | exact H1.out.2.2 | (rw [← HN.out.2]; exact H1.out.2.2))⟩
  case inl =>
    rw [he, Bool.true_and] at HE
    rcases hp with ⟨rfl, z0, z1⟩ | ⟨rfl, rfl⟩ | ⟨rfl, rfl⟩
    case inl =>
      have z9 : ¬ tr = 0 := by omega
      have z8 : (tr == 0) = false := by rw [beq_eq_false_iff_ne]; exact z9
      have z7 : (tr != 0) = true := by rw [bne_iff_ne]; exact z9
      clear he
      go_enter Tryd.func16, Tryd.ntmps16
      go_wp2
      go_loopw [5] (fun v wr => ∃ i : Nat, v = .int .i64 (i : Int) ∧ i ≤ n ∧ Hid (Full wr A 28 [.int .i64 2, .int .i64 tr, .string out, .int .i64 inp, .slice q n cap] ∧ Row wr W.heap.size q L.length (L.flatMap ec) ∧ Below W.heap.size W wr ∧ (L.take i).all evOk = true)) (fun v _ => n - (intOf v).toNat)
      case atStart => exact ⟨0, rfl, Nat.zero_le _, H1.out.1, H1.out.2.1, H1.out.2.2, rfl⟩
      case round =>
        obtain ⟨i, rfl, him, HI⟩ := hrel
        clear r0 r1 r2 r3 r4
        obtain ⟨-, -, r4, -⟩ := HI.out.1.five2
        by_cases hlt : i < n
        · have qi : (i : Int) < (n : Int) := by omega
          have q0 : (0 : Int) ≤ (i : Int) := by omega
          obtain ⟨e, he⟩ : ∃ e, L[i]? = some e := ⟨L[i]'(by rw [HN.out.1]; exact hlt), List.getElem?_eq_getElem _⟩
          obtain ⟨g, o, rfl, hgB, hr1⟩ := ev_at HI.out.2.1 i e he
          have hsz := HZ.out e (List.mem_of_getElem? he)
          have hnx := all_next L i e he
          rw [HI.out.2.2.2, Bool.true_and] at hnx
          have hno := all_no L i e he
          obtain ⟨k, en, nm, vk, vn, vs⟩ := e
          have x0 := hr1 0 _ rfl
          have x1 := hr1 1 _ rfl
          have x2 := hr1 2 _ rfl
          have x3 := hr1 3 _ rfl
          have x4 := hr1 4 _ rfl
          have x5 := hr1 5 _ rfl
          unfold sV at x2 x5
          simp only [Nat.add_zero] at x0
          have HC := rev_any wr k en vk vn ⟨nm.toArray⟩ ⟨vs.toArray⟩ (by rw [Lib.size_eq]; have := hsz.1; simp only at this ⊢; omega) (by rw [Lib.size_eq]; have := hsz.2; simp only at this ⊢; omega)
          simp only at HC
          obtain ⟨m, hm⟩ : ∃ m, evOk ⟨k, en, nm, vk, vn, vs⟩ = m := ⟨_, rfl⟩
          rw [hm] at HC hnx hno
          have HX : Hid ((L.take (i + 1)).all evOk = m ∧ (m = false → L.all evOk = false)) := ⟨hnx, hno⟩
          clear hm hnx hno hsz he hr1 hgB
          go_wp2_with fail
          refine HC.mono ?_
          rintro e w2 ⟨rfl, hb2⟩
          have H2 : Hid (Full w2 A 28 [.int .i64 2, .int .i64 tr, .string out, .int .i64 inp, .slice (some ⟨g, o, none⟩) n cap] ∧ Row w2 W.heap.size (some ⟨g, o, none⟩) L.length (L.flatMap ec) ∧ Below W.heap.size W w2) := ⟨HI.out.1.next hb2, HI.out.2.1.below hb2 HI.out.2.2.1.size, HI.out.2.2.1.trans (hb2.mono HI.out.2.2.1.size)⟩
          clear HC hb2 x0 x1 x2 x3 x4 x5 r4 HI
          cases m with
          | false =>
            have HV : Hid (RV = 1) := by show RV = 1; rw [HE.out, HX.out.2 rfl, if_neg (by decide)]
            go_wp2_with fail
            go_ret
            exact ⟨congrArg (fun x => Ending.returned (.int .i64 x)) HV.out.symm, (by first | exact H2.out.2.2 | (rw [← HN.out.2]; exact H2.out.2.2))⟩
          | true =>
            go_wp2_with fail
            exact ⟨⟨i + 1, by go_num, by omega, H2.out.1, H2.out.2.1, H2.out.2.2, HX.out.1⟩, by simp [intOf]; omega⟩
        · obtain rfl : i = n := by omega
          have qi : ¬ (i : Int) < (i : Int) := by omega
          have HV : Hid (RV = 0) := by
            have hall := HI.out.2.2.2
            rw [List.take_of_length_le (by rw [HN.out.1]; exact Nat.le_refl _)] at hall
            show RV = 0
            rw [HE.out, hall, if_pos rfl]
          go_wp2
          go_ret
          exact ⟨congrArg (fun x => Ending.returned (.int .i64 x)) HV.out.symm, (by first | exact HI.out.2.2.1 | (rw [← HN.out.2]; exact HI.out.2.2.1))⟩
    case inr.inl =>
      clear he
      go_enter Tryd.func16, Tryd.ntmps16
      go_wp2
      go_loopw [5] (fun v wr => ∃ i : Nat, v = .int .i64 (i : Int) ∧ i ≤ n ∧ Hid (Full wr A 28 [.int .i64 0, .int .i64 0, .string out, .int .i64 inp, .slice q n cap] ∧ Row wr W.heap.size q L.length (L.flatMap ec) ∧ Below W.heap.size W wr ∧ (L.take i).all evOk = true)) (fun v _ => n - (intOf v).toNat)
      case atStart => exact ⟨0, rfl, Nat.zero_le _, H1.out.1, H1.out.2.1, H1.out.2.2, rfl⟩
      case round =>
        obtain ⟨i, rfl, him, HI⟩ := hrel
        clear r0 r1 r2 r3 r4
        obtain ⟨-, -, r4, -⟩ := HI.out.1.five2
        by_cases hlt : i < n
        · have qi : (i : Int) < (n : Int) := by omega
          have q0 : (0 : Int) ≤ (i : Int) := by omega
          obtain ⟨e, he⟩ : ∃ e, L[i]? = some e := ⟨L[i]'(by rw [HN.out.1]; exact hlt), List.getElem?_eq_getElem _⟩
          obtain ⟨g, o, rfl, hgB, hr1⟩ := ev_at HI.out.2.1 i e he
          have hsz := HZ.out e (List.mem_of_getElem? he)
          have hnx := all_next L i e he
          rw [HI.out.2.2.2, Bool.true_and] at hnx
          have hno := all_no L i e he
          obtain ⟨k, en, nm, vk, vn, vs⟩ := e
          have x0 := hr1 0 _ rfl
          have x1 := hr1 1 _ rfl
          have x2 := hr1 2 _ rfl
          have x3 := hr1 3 _ rfl
          have x4 := hr1 4 _ rfl
          have x5 := hr1 5 _ rfl
          unfold sV at x2 x5
          simp only [Nat.add_zero] at x0
          have HC := rev_any wr k en vk vn ⟨nm.toArray⟩ ⟨vs.toArray⟩ (by rw [Lib.size_eq]; have := hsz.1; simp only at this ⊢; omega) (by rw [Lib.size_eq]; have := hsz.2; simp only at this ⊢; omega)
          simp only at HC
          obtain ⟨m, hm⟩ : ∃ m, evOk ⟨k, en, nm, vk, vn, vs⟩ = m := ⟨_, rfl⟩
          rw [hm] at HC hnx hno
          have HX : Hid ((L.take (i + 1)).all evOk = m ∧ (m = false → L.all evOk = false)) := ⟨hnx, hno⟩
          clear hm hnx hno hsz he hr1 hgB
          go_wp2_with fail
          refine HC.mono ?_
          rintro e w2 ⟨rfl, hb2⟩
          have H2 : Hid (Full w2 A 28 [.int .i64 0, .int .i64 0, .string out, .int .i64 inp, .slice (some ⟨g, o, none⟩) n cap] ∧ Row w2 W.heap.size (some ⟨g, o, none⟩) L.length (L.flatMap ec) ∧ Below W.heap.size W w2) := ⟨HI.out.1.next hb2, HI.out.2.1.below hb2 HI.out.2.2.1.size, HI.out.2.2.1.trans (hb2.mono HI.out.2.2.1.size)⟩
          clear HC hb2 x0 x1 x2 x3 x4 x5 r4 HI
          cases m with
          | false =>
            have HV : Hid (RV = 1) := by show RV = 1; rw [HE.out, HX.out.2 rfl, if_neg (by decide)]
            go_wp2_with fail
            go_ret
            exact ⟨congrArg (fun x => Ending.returned (.int .i64 x)) HV.out.symm, (by first | exact H2.out.2.2 | (rw [← HN.out.2]; exact H2.out.2.2))⟩
          | true =>
            go_wp2_with fail
            exact ⟨⟨i + 1, by go_num, by omega, H2.out.1, H2.out.2.1, H2.out.2.2, HX.out.1⟩, by simp [intOf]; omega⟩
        · obtain rfl : i = n := by omega
          have qi : ¬ (i : Int) < (i : Int) := by omega
          have HV : Hid (RV = 0) := by
            have hall := HI.out.2.2.2
            rw [List.take_of_length_le (by rw [HN.out.1]; exact Nat.le_refl _)] at hall
            show RV = 0
            rw [HE.out, hall, if_pos rfl]
          go_wp2
          go_ret
          exact ⟨congrArg (fun x => Ending.returned (.int .i64 x)) HV.out.symm, (by first | exact HI.out.2.2.1 | (rw [← HN.out.2]; exact HI.out.2.2.1))⟩
    case inr.inr =>
      clear he
      go_enter Tryd.func16, Tryd.ntmps16
      go_wp2
      go_loopw [5] (fun v wr => ∃ i : Nat, v = .int .i64 (i : Int) ∧ i ≤ n ∧ Hid (Full wr A 28 [.int .i64 1, .int .i64 0, .string out, .int .i64 inp, .slice q n cap] ∧ Row wr W.heap.size q L.length (L.flatMap ec) ∧ Below W.heap.size W wr ∧ (L.take i).all evOk = true)) (fun v _ => n - (intOf v).toNat)
      case atStart => exact ⟨0, rfl, Nat.zero_le _, H1.out.1, H1.out.2.1, H1.out.2.2, rfl⟩
      case round =>
        obtain ⟨i, rfl, him, HI⟩ := hrel
        clear r0 r1 r2 r3 r4
        obtain ⟨-, -, r4, -⟩ := HI.out.1.five2
        by_cases hlt : i < n
        · have qi : (i : Int) < (n : Int) := by omega
          have q0 : (0 : Int) ≤ (i : Int) := by omega
          obtain ⟨e, he⟩ : ∃ e, L[i]? = some e := ⟨L[i]'(by rw [HN.out.1]; exact hlt), List.getElem?_eq_getElem _⟩
          obtain ⟨g, o, rfl, hgB, hr1⟩ := ev_at HI.out.2.1 i e he
          have hsz := HZ.out e (List.mem_of_getElem? he)
          have hnx := all_next L i e he
          rw [HI.out.2.2.2, Bool.true_and] at hnx
          have hno := all_no L i e he
          obtain ⟨k, en, nm, vk, vn, vs⟩ := e
          have x0 := hr1 0 _ rfl
          have x1 := hr1 1 _ rfl
          have x2 := hr1 2 _ rfl
          have x3 := hr1 3 _ rfl
          have x4 := hr1 4 _ rfl
          have x5 := hr1 5 _ rfl
          unfold sV at x2 x5
          simp only [Nat.add_zero] at x0
          have HC := rev_any wr k en vk vn ⟨nm.toArray⟩ ⟨vs.toArray⟩ (by rw [Lib.size_eq]; have := hsz.1; simp only at this ⊢; omega) (by rw [Lib.size_eq]; have := hsz.2; simp only at this ⊢; omega)
          simp only at HC
          obtain ⟨m, hm⟩ : ∃ m, evOk ⟨k, en, nm, vk, vn, vs⟩ = m := ⟨_, rfl⟩
          rw [hm] at HC hnx hno
          have HX : Hid ((L.take (i + 1)).all evOk = m ∧ (m = false → L.all evOk = false)) := ⟨hnx, hno⟩
          clear hm hnx hno hsz he hr1 hgB
          go_wp2_with fail
          refine HC.mono ?_
          rintro e w2 ⟨rfl, hb2⟩
          have H2 : Hid (Full w2 A 28 [.int .i64 1, .int .i64 0, .string out, .int .i64 inp, .slice (some ⟨g, o, none⟩) n cap] ∧ Row w2 W.heap.size (some ⟨g, o, none⟩) L.length (L.flatMap ec) ∧ Below W.heap.size W w2) := ⟨HI.out.1.next hb2, HI.out.2.1.below hb2 HI.out.2.2.1.size, HI.out.2.2.1.trans (hb2.mono HI.out.2.2.1.size)⟩
          clear HC hb2 x0 x1 x2 x3 x4 x5 r4 HI
          cases m with
          | false =>
            have HV : Hid (RV = 1) := by show RV = 1; rw [HE.out, HX.out.2 rfl, if_neg (by decide)]
            go_wp2_with fail
            go_ret
            exact ⟨congrArg (fun x => Ending.returned (.int .i64 x)) HV.out.symm, (by first | exact H2.out.2.2 | (rw [← HN.out.2]; exact H2.out.2.2))⟩
          | true =>
            go_wp2_with fail
            exact ⟨⟨i + 1, by go_num, by omega, H2.out.1, H2.out.2.1, H2.out.2.2, HX.out.1⟩, by simp [intOf]; omega⟩
        · obtain rfl : i = n := by omega
          have qi : ¬ (i : Int) < (i : Int) := by omega
          have HV : Hid (RV = 0) := by
            have hall := HI.out.2.2.2
            rw [List.take_of_length_le (by rw [HN.out.1]; exact Nat.le_refl _)] at hall
            show RV = 0
            rw [HE.out, hall, if_pos rfl]
          go_wp2
          go_ret
          exact ⟨congrArg (fun x => Ending.returned (.int .i64 x)) HV.out.symm, (by first | exact HI.out.2.2.1 | (rw [← HN.out.2]; exact HI.out.2.2.1))⟩
end Go.Proofs.YtnecnchdffmhbaaDoor
