import Derived.Test.YtdmiciblfbkndaaDoorF02
import Derived.Test.YtdmiciblfbkndaaDoorA25
import Derived.Test.YtdmiciblfbkndaaDoorF00
namespace Go.Proofs.YtdmiciblfbkndaaDoor
open Go.RowKit

set_option maxRecDepth 100000 in
set_option maxHeartbeats 4000000 in
/-- The reference's Encode. -/
theorem rencode_any (W : World) (ph tr : Int) (out : ByteArray) (inp : Int) (q : Option Addr) (cap : Nat) (L : List Ev) (hI : RcIn W q cap L) (ho : out.size ≤ 140737488355328) :
    Calls Tryd.prog 5 #[.agg (recC ph tr out inp q L.length cap)] W (EncP W ph tr out inp L) := by
  obtain ⟨X1, hX1⟩ : ∃ X, W.alloc (.cells (recC ph tr out inp q L.length cap) 28) = X := ⟨_, rfl⟩
  obtain ⟨A, hA⟩ : ∃ A, W.heap.size = A := ⟨_, rfl⟩
  have b1 : Below W.heap.size W X1 := by rw [← hX1]; exact (Below.refl _ W).alloc (Nat.le_refl _) _
  have f1 : Full X1 A 28 [.int .i64 ph, .int .i64 tr, .string out, .int .i64 inp, .slice q L.length cap] := by rw [← hX1, ← hA]; exact Full.new W _ _
  have R1 : Row X1 X1.heap.size q L.length (L.flatMap ec) := (hI.row.below b1 (Nat.le_refl _)).up b1.size
  obtain ⟨rc, hrc⟩ : ∃ rc : Rc, (⟨ph, tr, out.data.toList, inp, L⟩ : Rc) = rc := ⟨_, rfl⟩
  unfold EncP
  rw [hrc]
  obtain ⟨er, her⟩ : ∃ er, (encS rc).2 = er := ⟨_, rfl⟩
  obtain ⟨D, hD⟩ : ∃ D : ByteArray, (⟨(encS rc).1.toArray⟩ : ByteArray) = D := ⟨_, rfl⟩
  rw [her, hD]
  have HC := rvalid_any X1 ph tr out inp q cap L R1 hI.sz hI.most ho
  rw [hrc, her] at HC
  obtain ⟨n, hln⟩ : ∃ n, L.length = n := ⟨_, rfl⟩
  have HE : Hid ((⟨ph, tr, out.data.toList, inp, L⟩ : Rc) = rc ∧ (encS rc).2 = er ∧ (⟨(encS rc).1.toArray⟩ : ByteArray) = D) := ⟨hrc, her, hD⟩
  have HA : Hid (W.heap.size = A) := hA
  have HI : Hid ((∀ e ∈ L, -9223372036854775808 ≤ e.vn ∧ e.vn ≤ 9223372036854775807) ∧ L.length = n ∧ n ≤ cap) := ⟨hI.vn, hln, hln ▸ hI.cap⟩
  rw [hln] at hX1 f1 R1 HC ⊢
  unfold recC at hX1 HC ⊢
  have H1 : Hid (Below W.heap.size W X1 ∧ Full X1 A 28 [.int .i64 ph, .int .i64 tr, .string out, .int .i64 inp, .slice q n cap] ∧ Row X1 X1.heap.size q n (L.flatMap ec)) := ⟨b1, f1, R1⟩
  obtain ⟨⟨⟨r0, -⟩, ⟨r1, -⟩, r2, -⟩, ⟨r3, -⟩, r4, -⟩ := f1.five2
  clear b1 f1 R1 hI hln ho hrc her hD
  go_enter Tryd.func5, Tryd.ntmps5
  go_wp2_with fail
  refine HC.mono ?_
  rintro e w2 ⟨rfl, hb2⟩
  have H2 : Hid (Below W.heap.size W w2 ∧ Full w2 A 28 [.int .i64 ph, .int .i64 tr, .string out, .int .i64 inp, .slice q n cap] ∧ Row w2 w2.heap.size q n (L.flatMap ec)) := ⟨H1.out.1.trans (hb2.mono H1.out.1.size), H1.out.2.1.next hb2, (H1.out.2.2.below hb2 (Nat.le_refl _)).up hb2.size⟩
  clear HC hb2 H1 hX1 r0 r1 r2 r3 r4
  by_cases h0 : er = 0
  case neg =>
    obtain ⟨hb0, he⟩ := encS_no (rc := rc) (by rw [HE.out.2.1]; exact h0)
    obtain rfl : D = ⟨#[]⟩ := by rw [← HE.out.2.2, hb0]
    rw [HE.out.2.1] at he
    have HB : Hid (Below W.heap.size W w2) := H2.out.1
    clear hb0 H2 HE
    rcases he with rfl | rfl
    all_goals
      clear h0
      go_wp2_with fail
      go_ret2
      exact ⟨rfl, (by first | exact HB.out | (rw [← HA.out]; exact HB.out))⟩
  case pos =>
    subst h0
    obtain ⟨hrc, h0, hD⟩ := HE.out
    obtain ⟨hev, hm, hol, hfile⟩ := encS_ok h0
    have hend : endOk ph tr inp = true := by
      have h := h0
      unfold encS at h
      split at h
      · simp at h
      · split at h
        · rename_i h1
          rw [Bool.and_eq_true] at h1
          rw [← hrc] at h1
          exact h1.1
        · simp at h
    rw [← hrc] at hev hm hol
    simp only at hev hm hol
    have hn : n ≤ 1048576 := by rw [← HI.out.2.1]; exact hm
    have hos : out.size ≤ 16777216 := by rw [Lib.size_eq]; exact hol
    obtain ⟨sE, hsE⟩ : ∃ b : ByteArray, (⟨(evF L).toArray⟩ : ByteArray) = b := ⟨_, rfl⟩
    obtain ⟨sL, hsL⟩ : ∃ b : ByteArray, (⟨(lastL rc).toArray⟩ : ByteArray) = b := ⟨_, rfl⟩
    obtain ⟨sC, hsC⟩ : ∃ b : ByteArray, (⟨(chS (lastL rc)).toArray⟩ : ByteArray) = b := ⟨_, rfl⟩
    have hlast : (lastL rc).length = 9 + out.data.toList.length := by
      rw [← hrc]
      unfold lastL
      simp only [List.length_append, fxS_len, List.length_cons, List.length_nil]
    have zE : sE.size ≤ 30000000000 := by
      rw [← hsE, ba_size]
      have h := evF_le L.length L (Nat.le_refl _) hev HI.out.1
      have := HI.out.2.1
      omega
    have zL : sL.size ≤ 20000000 := by rw [← hsL, ba_size, hlast]; omega
    have zC : sC.size ≤ 20000008 := by rw [← hsC, ba_size, chS_len, hlast]; omega
    have hsLl : sL.data.toList = lastL rc := by rw [← hsL]
    have hz2 : (⟨#[82, 1]⟩ : ByteArray).size = 2 := rfl
    have yE : (⟨#[82, 1]⟩ : ByteArray).size + sE.size ≤ 9223372036854775807 := by omega
    have yC : ((⟨#[82, 1]⟩ : ByteArray) ++ sE).size + sC.size ≤ 9223372036854775807 := by rw [ByteArray.size_append]; omega
    have HV : Hid ((⟨#[82, 1]⟩ : ByteArray) ++ sE ++ sC = D) := by
      show _ = _
      rw [← hD]
      apply ba_of
      rw [cat_list, cat_list, ← hsE, ← hsC, hfile]
      unfold fileL
      rw [← hrc]
    have p1 : ∀ d os, Calls Tryd.prog 14 #[.slice q n cap] (Sort.grow (redrawn w2 d) os) fun e w'' => e = .returned (.string sE) ∧ ∃ p : Regrown, w'' = Sort.grow (redrawn w2 p.d) p.os := fun d os => by
      have hY := below_regrown w2 d os
      have h := rsome_any (Sort.grow (redrawn w2 d) os) q cap L (by rw [HI.out.2.1]; exact (H2.out.2.2.below hY (Nat.le_refl _)).up hY.size) hev HI.out.1 hm (by rw [HI.out.2.1]; exact HI.out.2.2)
      rw [HI.out.2.1, hsE] at h
      exact Calls.regrown_of h
    have p2 : ∀ d os, Calls Tryd.prog 16 #[.agg #[.int .i64 ph, .int .i64 tr, .string out, .int .i64 inp, .slice q n cap]] (Sort.grow (redrawn w2 d) os) fun e w'' => e = .returned (.string sL) ∧ ∃ p : Regrown, w'' = Sort.grow (redrawn w2 p.d) p.os := fun d os => by
      have h := rlast_any (Sort.grow (redrawn w2 d) os) ph tr out inp q n cap L HI.out.2.1 (by omega) hend (by omega)
      rw [hrc, hsL] at h
      exact Calls.regrown_of h
    have p3 : ∀ d os, Calls Tryd.prog 15 #[.string sL] (Sort.grow (redrawn w2 d) os) fun e w'' => e = .returned (.string sC) ∧ ∃ p : Regrown, w'' = Sort.grow (redrawn w2 p.d) p.os := fun d os => by
      have h := rchunk_any (Sort.grow (redrawn w2 d) os) sL (by omega)
      rw [hsLl, hsC] at h
      exact Calls.regrown_of h
    have HB : Hid (Below W.heap.size W w2) := H2.out.1
    have f2 := H2.out.2.1
    have i0 := cell_regrown (f2.cell 0 _ rfl).1
    have i1 := cell_regrown (f2.cell 1 _ rfl).1
    have i2 := cell_regrown (f2.cell 2 _ rfl).1
    have i3 := cell_regrown (f2.cell 3 _ rfl).1
    have i4 := cell_regrown (f2.cell 4 _ rfl).1
    clear h0 hD HE hev hm hol hfile hend hsE hsL hsC hlast hz2 hsLl f2 H2 hrc zL zC zE
    go_upto_region 4 with fail
    refine wp_region_quiet_below (by kernel_rfl) (by kernel_rfl) ?_
    repeat (first | go_big_quiet_step (first | with_reducible exact p1 _ _ | with_reducible exact p2 _ _ | with_reducible exact p3 _ _) | quiet_step (first | with_reducible exact p1 _ _ | with_reducible exact p2 _ _ | with_reducible exact p3 _ _))
    refine wpQuiet_nil ?_
    intro _ hw'
    obtain ⟨⟨dq, osq⟩, hw''⟩ := hw'
    subst hw''
    have hY := below_regrown w2 dq osq
    first | (change Exit.then _ _ Exit.normal _ (Sort.grow (redrawn w2 dq) osq)) | skip
    generalize Sort.grow (redrawn w2 dq) osq = Y8 at hY ⊢
    clear p1 p2 p3 i0 i1 i2 i3 i4
    go_wp2
    go_ret2
    have hB := HB.out.trans (hY.mono HB.out.size)
    exact ⟨by rw [← HV.out]; rfl, (by first | exact hB | (rw [← HA.out]; exact hB))⟩
end Go.Proofs.YtdmiciblfbkndaaDoor
