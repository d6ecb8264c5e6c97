import Derived.Test.YtnecnchdffmhbaaDoorE05
namespace Go.Proofs.YtnecnchdffmhbaaDoor
open Go.RowKit

set_option maxRecDepth 100000 in
set_option maxHeartbeats 1000000 in
theorem rlast_any (W : World) (ph tr : Int) (out : ByteArray) (inp : Int) (q : Option Addr) (n cap : Nat) (evs : List Ev) (hn : evs.length = n) (h4 : n < 4294967296) (he : endOk ph tr inp = true) (hs : out.size ≤ 1000000000) :
    Calls Tryd.prog 33 #[.agg (recC ph tr out inp q n cap)] W fun e w' => e = .returned (.string ⟨(lastL ⟨ph, tr, out.data.toList, inp, evs⟩).toArray⟩) ∧ Below W.heap.size W w' := by
  unfold recC
  have hep : (0 ≤ ph ∧ ph ≤ 2) ∧ (0 ≤ tr ∧ tr ≤ 7) ∧ 0 ≤ inp ∧ inp ≤ 1000 := by
    unfold endOk at he
    simp only [Bool.and_eq_true, Bool.or_eq_true, decide_eq_true_eq, beq_iff_eq] at he
    omega
  obtain ⟨h1, h2, h3⟩ := hep
  obtain ⟨X2, hX2⟩ : ∃ X2, W.alloc (.cells #[.int .i64 ph, .int .i64 tr, .string out, .int .i64 inp, .slice q n cap] 28) = X2 := ⟨_, rfl⟩
  have f1 : Full X2 W.heap.size 28 [.int .i64 ph, .int .i64 tr, .string out, .int .i64 inp, .slice q n cap] := by
    rw [← hX2]
    exact Full.new W #[.int .i64 ph, .int .i64 tr, .string out, .int .i64 inp, .slice q n cap] 28
  have HB2 : Hid (Below W.heap.size W X2) := by rw [← hX2]; exact (Below.refl _ W).alloc (Nat.le_refl _) _
  obtain ⟨s1, hs1⟩ : ∃ s1 : ByteArray, (⟨(fxS ph.toNat 1).toArray⟩ : ByteArray) = s1 := ⟨_, rfl⟩
  obtain ⟨s2, hs2⟩ : ∃ s2 : ByteArray, (⟨(fxS tr.toNat 1).toArray⟩ : ByteArray) = s2 := ⟨_, rfl⟩
  obtain ⟨s3, hs3⟩ : ∃ s3 : ByteArray, (⟨(fxS inp.toNat 2).toArray⟩ : ByteArray) = s3 := ⟨_, rfl⟩
  obtain ⟨s4, hs4⟩ : ∃ s4 : ByteArray, (⟨(fxS n 4).toArray⟩ : ByteArray) = s4 := ⟨_, rfl⟩
  have z1 : s1.size = 1 := by rw [← hs1, ba_size, fxS_len]
  have z2 : s2.size = 1 := by rw [← hs2, ba_size, fxS_len]
  have z3 : s3.size = 2 := by rw [← hs3, ba_size, fxS_len]
  have z4 : s4.size = 4 := by rw [← hs4, ba_size, fxS_len]
  have zh : (⟨#[2]⟩ : ByteArray).size = 1 := rfl
  have p1 : ∀ d os, Calls Tryd.prog 48 #[.int .u64 ph, .int .i64 1] (Sort.grow (redrawn X2 d) os) fun e w'' => e = .returned (.string s1) ∧ ∃ p : Regrown, w'' = Sort.grow (redrawn X2 p.d) p.os := fun d os => by
    have h := wide_any (Sort.grow (redrawn X2 d) os) ph.toNat 1 (by omega) (by decide)
    rw [Int.toNat_of_nonneg h1.1, hs1] at h
    exact Calls.regrown_of h
  have p2 : ∀ d os, Calls Tryd.prog 48 #[.int .u64 tr, .int .i64 1] (Sort.grow (redrawn X2 d) os) fun e w'' => e = .returned (.string s2) ∧ ∃ p : Regrown, w'' = Sort.grow (redrawn X2 p.d) p.os := fun d os => by
    have h := wide_any (Sort.grow (redrawn X2 d) os) tr.toNat 1 (by omega) (by decide)
    rw [Int.toNat_of_nonneg h2.1, hs2] at h
    exact Calls.regrown_of h
  have p3 : ∀ d os, Calls Tryd.prog 48 #[.int .u64 inp, .int .i64 2] (Sort.grow (redrawn X2 d) os) fun e w'' => e = .returned (.string s3) ∧ ∃ p : Regrown, w'' = Sort.grow (redrawn X2 p.d) p.os := fun d os => by
    have h := wide_any (Sort.grow (redrawn X2 d) os) inp.toNat 2 (by omega) (by decide)
    rw [Int.toNat_of_nonneg h3.1, hs3] at h
    exact Calls.regrown_of h
  have p4 : ∀ d os, Calls Tryd.prog 48 #[.int .u64 (n : Int), .int .i64 4] (Sort.grow (redrawn X2 d) os) fun e w'' => e = .returned (.string s4) ∧ ∃ p : Regrown, w'' = Sort.grow (redrawn X2 p.d) p.os := fun d os => by
    have h := wide_any (Sort.grow (redrawn X2 d) os) n 4 (by omega) (by decide)
    rw [hs4] at h
    exact Calls.regrown_of h
  have y0 : (⟨#[2]⟩ : ByteArray).size + s1.size ≤ 9223372036854775807 := by omega
  have y1 : ((⟨#[2]⟩ : ByteArray) ++ s1).size + s2.size ≤ 9223372036854775807 := by rw [ByteArray.size_append]; omega
  have y2 : ((⟨#[2]⟩ : ByteArray) ++ s1 ++ s2).size + s3.size ≤ 9223372036854775807 := by rw [ByteArray.size_append, ByteArray.size_append]; omega
  have y3 : ((⟨#[2]⟩ : ByteArray) ++ s1 ++ s2 ++ s3).size + s4.size ≤ 9223372036854775807 := by rw [ByteArray.size_append, ByteArray.size_append, ByteArray.size_append]; omega
  have y4 : ((⟨#[2]⟩ : ByteArray) ++ s1 ++ s2 ++ s3 ++ s4).size + out.size ≤ 9223372036854775807 := by rw [ByteArray.size_append, ByteArray.size_append, ByteArray.size_append, ByteArray.size_append]; omega
  have HV : Hid ((⟨#[2]⟩ : ByteArray) ++ s1 ++ s2 ++ s3 ++ s4 ++ out = ⟨(lastL ⟨ph, tr, out.data.toList, inp, evs⟩).toArray⟩) := by
    apply ba_of
    rw [cat_list, cat_list, cat_list, cat_list, cat_list, ← hs1, ← hs2, ← hs3, ← hs4, fxS_one, fxS_one]
    unfold lastL
    simp only [hn]
    rfl
  have i0 := cell_regrown (f1.cell 0 _ rfl).1
  have i1 := cell_regrown (f1.cell 1 _ rfl).1
  have i2 := cell_regrown (f1.cell 2 _ rfl).1
  have i3 := cell_regrown (f1.cell 3 _ rfl).1
  have i4 := cell_regrown (f1.cell 4 _ rfl).1
  have ph0 := h1.1
  have ph1 := h1.2
  have tr0 := h2.1
  have tr1 := h2.2
  have in0 := h3.1
  have in1 := h3.2
  have qn : (n : Int) < 4294967296 := by omega
  have qn0 : (0 : Int) ≤ (n : Int) := by omega
  clear he h1 h2 h3 hn h4 f1 hs1 hs2 hs3 hs4 zh z1 z2 z3 z4
  go_enter Tryd.func33, Tryd.ntmps33
  go_upto_region 1 with fail
  refine wp_region_quiet_below (by kernel_rfl) (by kernel_rfl) ?_
  repeat (first | go_big_quiet_step (first | with_reducible exact p1 _ _ | with_reducible exact p2 _ _ | with_reducible exact p3 _ _ | with_reducible exact p4 _ _) | quiet_step (first | with_reducible exact p1 _ _ | with_reducible exact p2 _ _ | with_reducible exact p3 _ _ | with_reducible exact p4 _ _))
  refine wpQuiet_nil ?_
  intro _ hw'
  obtain ⟨⟨dq, osq⟩, hw''⟩ := hw'
  subst hw''
  have hY := below_regrown X2 dq osq
  first | (change Exit.then _ _ Exit.normal _ (Sort.grow (redrawn X2 dq) osq)) | skip
  generalize Sort.grow (redrawn X2 dq) osq = Y8 at hY ⊢
  clear p1 p2 p3 p4 i0 i1 i2 i3 i4
  go_wp2
  go_ret
  exact ⟨congrArg (fun x => Ending.returned (.string x)) HV.out, HB2.out.trans (hY.mono HB2.out.size)⟩
end Go.Proofs.YtnecnchdffmhbaaDoor
