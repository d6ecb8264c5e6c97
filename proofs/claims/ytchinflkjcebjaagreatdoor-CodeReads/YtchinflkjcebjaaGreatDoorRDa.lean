import Derived.Test.YtchinflkjcebjaaGreatDoorRWb
namespace Go.Proofs.YtchinflkjcebjaaGreatDoor
open Go.RowKit

/-! The reference's reader. -/
theorem numV_i64 (l : List UInt8) : -9223372036854775808 ≤ numV l ∧ numV l ≤ 9223372036854775807 := by
  rcases List.eq_nil_or_concat l with rfl | ⟨i, b, rfl⟩
  · decide
  · rw [List.concat_eq_append, numV_snoc]
    have hb := UInt8.toNat_lt b
    unfold wrap64
    omega
/-- k bytes from p on, and what is not there is 0. -/
def padL (l : List UInt8) (p k : Nat) : List UInt8 := (List.range k).map (fun i => l.getD (p + i) 0)
theorem padL_succ (l : List UInt8) (p k : Nat) : padL l p (k + 1) = padL l p k ++ [l.getD (p + k) 0] := by
  unfold padL
  rw [List.range_succ, List.map_append]
  rfl
/-- The reader in memory. -/
def Rr (w : World) (rb : Nat) (s : ByteArray) (p : Nat) : Prop := w.heap[rb]? = some (.cells #[.string s, .int .i64 (p : Int)] 81)
theorem Rr.cells {w : World} {rb : Nat} {s : ByteArray} {p : Nat} (h : Rr w rb s p) : (w.cell? ⟨rb, 0, none⟩ = some (.string s) ∧ w.cell? ⟨rb, 1, none⟩ = some (.int .i64 (p : Int))) ∧ w.frozen? ⟨rb, 1, none⟩ = false := by
  refine ⟨⟨?_, ?_⟩, ?_⟩
  all_goals first | (unfold World.cell?; rw [h]; rfl) | (unfold World.frozen?; rw [h]; rfl)
theorem Rr.lt {w : World} {rb : Nat} {s : ByteArray} {p : Nat} (h : Rr w rb s p) : rb < w.heap.size := (Array.getElem?_eq_some_iff.1 h).1
theorem Rr.next {w w' : World} {rb : Nat} {s : ByteArray} {p : Nat} (h : Rr w rb s p) (b : Below w.heap.size w w') : Rr w' rb s p := (b.block rb h.lt).trans h
theorem Rr.set {w : World} {rb : Nat} {s : ByteArray} {p : Nat} (h : Rr w rb s p) (q : Nat) : Rr (w.setCell ⟨rb, 1, none⟩ (.int .i64 (q : Int))) rb s q := set_blk h _
theorem u64w (n : Int) : IntKind.u64.wrap n = n % 18446744073709551616 := by simp [IntKind.wrap, IntKind.bits, IntKind.signed]
theorem num_step (x : Int) (b : Nat) : IntKind.u64.wrap (IntKind.u64.wrap (x % 18446744073709551616 * 256) + (b : Int)) = (wrap64 (x * 256) + (b : Int)) % 18446744073709551616 := by
  rw [u64w, u64w]
  unfold wrap64
  omega
set_option maxRecDepth 100000 in
set_option maxHeartbeats 2000000 in
theorem rnumber_f (w : World) (rb k p : Nat) (s : ByteArray) (h : Rr w rb s p) (hp : p + k ≤ 9223372036854775807) :
    Calls Tryz.prog 42 #[.pointer (some ⟨rb, 0, none⟩), .int .i64 (k : Int)] w fun e w' => e = .returned (.int .i64 (numV (padL (lt s) p k))) ∧ Hid (Rr w' rb s (p + k) ∧ Kp (fun x => x = rb) w w') := by
  have HR : Hid (Rr w rb s p ∧ Kp (fun x => x = rb) w w) := ⟨h, Kp.refl _ _⟩
  have hki : (k : Int) ≤ 9223372036854775807 := by omega
  clear h
  go_enter Tryz.func42, Tryz.ntmps42
  go_wp2_with fail
  go_loopw [5, 6] (fun v i wr => ∃ (j : Nat) (x : Int), j ≤ k ∧ i = .int .i64 (j : Int) ∧ v = .int .u64 x ∧ Hid (x = numV (padL (lt s) p j) % 18446744073709551616) ∧ Hid (Rr wr rb s (p + j) ∧ Kp (fun x => x = rb) w wr)) (fun _ i _ => k - (intOf i).toNat)
  case atStart => exact ⟨0, 0, Nat.zero_le _, rfl, rfl, rfl, HR⟩
  case round =>
    obtain ⟨j, x, hj, rfl, rfl, hx, hr⟩ := hrel
    clear HR
    by_cases hlt : j < k
    case neg =>
      obtain rfl : j = k := by omega
      have p1 : ¬ (j : Int) < (j : Int) := by omega
      have HF : Hid (wrap64 x = numV (padL (lt s) p j)) := by
        show _ = _
        have := numV_i64 (padL (lt s) p j)
        rw [hx.out]
        unfold wrap64
        omega
      clear hlt hj hx
      go_wp2
      first | (change bodyPost Tryz.prog Tryz.f42 _ Exit.ret _ _) | (simp only [Exit.noGoto])
      go_ret
      exact ⟨by rw [← HF.out]; rfl, hr⟩
    obtain ⟨⟨c0, c1⟩, c2⟩ := hr.out.1.cells
    have y0 := cell_regrown c0
    have y1 := cell_regrown c1
    have HN : Hid (IntKind.u64.wrap (IntKind.u64.wrap (x * 256) + (((lt s).getD (p + j) 0).toNat : Int)) = numV (padL (lt s) p (j + 1)) % 18446744073709551616) := by
      show _ = _
      rw [hx.out, num_step, padL_succ, numV_snoc]
    have j1 : (j : Int) < (k : Int) := by omega
    have q0 : (0 : Int) ≤ ((p + j : Nat) : Int) := by omega
    have q1 : ((p + j : Nat) : Int) + 1 ≤ 9223372036854775807 := by omega
    have HE : Hid (∀ W, Below wr.heap.size wr W → Rr W rb s (p + j) ∧ Kp (fun x => x = rb) w W) := fun W hW => ⟨hr.out.1.next hW, hr.out.2.next hW⟩
    have HPJ : Hid (p + (j + 1) = p + j + 1) := by show _ = _; omega
    by_cases hin : p + j < s.size
    case pos =>
      have ixj := ix_lt s (p + j) hin
      have q2 : ((p + j : Nat) : Int) < (s.size : Int) := by omega
      generalize (lt s).getD (p + j) 0 = c at *
      generalize p + j = pj at *
      clear hr hx c0 c1 c2
      go_wp2_with fail
      refine wp_region_quiet_below (by kernel_rfl) (by kernel_rfl) ?_
      repeat (first | go_big_quiet_step (first | fail) | quiet_step (first | fail))
      refine wpQuiet_nil ?_
      intro _ hw'
      obtain ⟨⟨dq, osq⟩, hw''⟩ := hw'
      subst hw''
      have hY := below_regrown wr dq osq
      first | (change Exit.then _ _ Exit.normal _ (Sort.grow (redrawn wr dq) osq)) | skip
      generalize Sort.grow (redrawn wr dq) osq = W1 at hY ⊢
      have HE1 := HE.out _ hY
      obtain ⟨⟨c0, c1⟩, c2⟩ := HE1.1.cells
      have y0 := cell_regrown c0
      have y1 := cell_regrown c1
      have HR1 : Hid (Rr W1 rb s pj ∧ Kp (fun x => x = rb) w W1) := HE1
      clear HE hY HE1
      go_wp2_with fail
      refine wp_region_quiet_below (by kernel_rfl) (by kernel_rfl) ?_
      repeat (first | go_big_quiet_step (first | fail) | quiet_step (first | fail))
      refine wpQuiet_nil ?_
      intro _ hw'
      obtain ⟨⟨dq, osq⟩, hw''⟩ := hw'
      subst hw''
      have hY := below_regrown W1 dq osq
      first | (change Exit.then _ _ Exit.normal _ (Sort.grow (redrawn W1 dq) osq)) | skip
      generalize Sort.grow (redrawn W1 dq) osq = W2 at hY ⊢
      have HR2 : Hid (Rr W2 rb s pj ∧ Kp (fun x => x = rb) w W2) := ⟨HR1.out.1.next hY, HR1.out.2.next hY⟩
      clear y0 y1 c0 c1 c2 hY HR1
      obtain ⟨⟨c0, c1⟩, c2⟩ := HR2.out.1.cells
      go_wp2_with fail
      have HV : Hid (Rr (W2.setCell ⟨rb, 1, none⟩ (.int .i64 ((pj : Int) + 1))) rb s (p + (j + 1)) ∧ Kp (fun x => x = rb) w (W2.setCell ⟨rb, 1, none⟩ (.int .i64 ((pj : Int) + 1)))) := ⟨by rw [HPJ.out]; exact HR2.out.1.set (pj + 1), HR2.out.2.trans (kp_rb W2 rb 1 _) (fun _ _ q => q)⟩
      exact ⟨⟨j + 1, _, by omega, by go_num, rfl, by show _ = _; rw [← HN.out, u64w (c.toNat : Int), Int.emod_eq_of_lt (by omega) (by have := UInt8.toNat_lt c; omega)], HV⟩, by simp [intOf]; omega⟩
    have HZ : Hid (((lt s).getD (p + j) 0) = 0) := by
      show _ = _
      rw [List.getD_eq_getElem?_getD, List.getElem?_eq_none (by rw [lt_len]; omega)]
      rfl
    rw [HZ.out] at HN
    have q2 : ¬ ((p + j : Nat) : Int) < (s.size : Int) := by omega
    generalize p + j = pj at *
    clear hr hx c0 c1 c2
    go_wp2_with fail
    refine wp_region_quiet_below (by kernel_rfl) (by kernel_rfl) ?_
    repeat (first | go_big_quiet_step (first | fail) | quiet_step (first | fail))
    refine wpQuiet_nil ?_
    intro _ hw'
    obtain ⟨⟨dq, osq⟩, hw''⟩ := hw'
    subst hw''
    have hY := below_regrown wr dq osq
    first | (change Exit.then _ _ Exit.normal _ (Sort.grow (redrawn wr dq) osq)) | skip
    generalize Sort.grow (redrawn wr dq) osq = W1 at hY ⊢
    have HR2 : Hid (Rr W1 rb s pj ∧ Kp (fun x => x = rb) w W1) := HE.out _ hY
    clear HE hY y0 y1
    obtain ⟨⟨c0, c1⟩, c2⟩ := HR2.out.1.cells
    go_wp2_with fail
    have HV : Hid (Rr (W1.setCell ⟨rb, 1, none⟩ (.int .i64 ((pj : Int) + 1))) rb s (p + (j + 1)) ∧ Kp (fun x => x = rb) w (W1.setCell ⟨rb, 1, none⟩ (.int .i64 ((pj : Int) + 1)))) := ⟨by rw [HPJ.out]; exact HR2.out.1.set (pj + 1), HR2.out.2.trans (kp_rb W1 rb 1 _) (fun _ _ q => q)⟩
    exact ⟨⟨j + 1, _, by omega, by go_num, rfl, by show _ = _; rw [← HN.out, u64w, u64w]; show _ = (_ % _ + 0) % _; omega, HV⟩, by simp [intOf]; omega⟩
/-- What text reads, and where it stands then. -/
def ldT (l : List UInt8) (p : Nat) : List UInt8 := ((l.drop (p + 1)).take (l.getD p 0).toNat)
def ldQ (l : List UInt8) (p : Nat) : Nat := p + 1 + (l.getD p 0).toNat
theorem pad1 (l : List UInt8) (p : Nat) : numV (padL l p 1) = ((l.getD p 0).toNat : Int) := by
  rw [padL_succ]
  show wrap64 (0 * 256) + _ = _
  have e : wrap64 (0 * 256) = 0 := by unfold wrap64; omega
  rw [e, Int.zero_add]
  rfl
set_option maxRecDepth 100000 in
set_option maxHeartbeats 2000000 in
theorem rtext_f (w : World) (rb p : Nat) (s : ByteArray) (h : Rr w rb s p) (hp : p ≤ 4611686018427387904) (hs : s.size ≤ 281474976710656) :
    Calls Tryz.prog 43 #[.pointer (some ⟨rb, 0, none⟩)] w fun e w' => e = .returned (.string (YtchinflkjcebjaaGreatDoor.bk (ldT (lt s) p))) ∧ Hid (Rr w' rb s (ldQ (lt s) p) ∧ Kp (fun x => x = rb) w w') := by
  have n1 := rnumber_f w rb 1 p s h (by omega)
  rw [pad1] at n1
  have hc := UInt8.toNat_lt ((lt s).getD p 0)
  have HT : Hid (ldT (lt s) p = ((lt s).drop (p + 1)).take ((lt s).getD p 0).toNat) := rfl
  have HQ : Hid (ldQ (lt s) p = p + 1 + ((lt s).getD p 0).toNat) := rfl
  generalize ((lt s).getD p 0).toNat = n at *
  have hsi : (s.size : Int) ≤ 281474976710656 := by omega
  clear h
  go_enter Tryz.func43, Tryz.ntmps43
  go_wp2_with fail
  refine n1.mono ?_
  rintro e W ⟨rfl, hW⟩
  obtain ⟨⟨c0, c1⟩, c2⟩ := hW.out.1.cells
  have HV : Hid (Rr (W.setCell ⟨rb, 1, none⟩ (.int .i64 (((p + 1 : Nat) : Int) + (n : Int)))) rb s (ldQ (lt s) p) ∧ Kp (fun x => x = rb) w (W.setCell ⟨rb, 1, none⟩ (.int .i64 (((p + 1 : Nat) : Int) + (n : Int))))) := ⟨by rw [HQ.out]; exact hW.out.1.set (p + 1 + n), hW.out.2.trans (kp_rb W rb 1 _) (fun _ _ q => q)⟩
  rw [HQ.out] at HV
  have HW2 : Hid (∀ W2, W2 = W.setCell ⟨rb, 1, none⟩ (.int .i64 (((p + 1 : Nat) : Int) + (n : Int))) → Rr W2 rb s (p + 1 + n) ∧ Kp (fun x => x = rb) w W2) := fun W2 e => by rw [e]; exact HV.out
  have hpi : ((p + 1 : Nat) : Int) + (n : Int) ≤ 9223372036854775807 := by omega
  have hp0 : (0 : Int) ≤ ((p + 1 : Nat) : Int) := by omega
  clear n1 HV hW
  generalize p + 1 = p1 at *
  go_upto_region 4 with fail
  obtain ⟨W2, hW2⟩ : ∃ W2, W2 = W.setCell ⟨rb, 1, none⟩ (.int .i64 ((p1 : Int) + (n : Int))) := ⟨_, rfl⟩
  rw [← hW2]
  have HR2 : Hid (Rr W2 rb s (p1 + n) ∧ Kp (fun x => x = rb) w W2) := HW2.out W2 hW2
  clear hW2 HW2 c0 c1 c2
  obtain ⟨⟨c0, c1⟩, c2⟩ := HR2.out.1.cells
  have hll := lt_len s
  by_cases h1 : s.size ≤ p1
  case pos =>
    have HF : Hid (ldT (lt s) p = []) := by
      show _ = _
      rw [HT.out, List.drop_eq_nil_of_le (by omega), List.take_nil]
    have g1 : (s.size : Int) ≤ (p1 : Int) := by omega
    have g2 : ¬ (p1 : Int) < (s.size : Int) := by omega
    clear hll
    go_wp2
    first | (change bodyPost Tryz.prog Tryz.f43 _ Exit.ret _ _) | (simp only [Exit.noGoto])
    go_ret
    exact ⟨by rw [HF.out]; rfl, by rw [HQ.out]; exact HR2⟩
  have g1 : (p1 : Int) < (s.size : Int) := by omega
  have g0 : ¬ (s.size : Int) ≤ (p1 : Int) := by omega
  have y0 := cell_regrown c0
  have y1 := cell_regrown c1
  by_cases h2 : s.size < p1 + n
  case pos =>
    have HF : Hid (YtchinflkjcebjaaGreatDoor.bk (ldT (lt s) p) = s.extract p1 s.size) := by
      show _ = _
      rw [HT.out, cut_lt, List.take_of_length_le (by rw [List.length_drop]; omega)]
    have g2 : (s.size : Int) < ((p1 + n : Nat) : Int) := by omega
    clear hll
    go_wp2_with fail
    refine wp_region_quiet_below (by kernel_rfl) (by kernel_rfl) ?_
    repeat (first | go_big_quiet_step (first | fail) | quiet_step (first | fail))
    refine wpQuiet_nil ?_
    intro _ hw'
    obtain ⟨⟨dq, osq⟩, hw''⟩ := hw'
    subst hw''
    have hY := below_regrown W2 dq osq
    first | (change Exit.then _ _ Exit.normal _ (Sort.grow (redrawn W2 dq) osq)) | skip
    generalize Sort.grow (redrawn W2 dq) osq = W3 at hY ⊢
    have HR3 : Hid (Rr W3 rb s (p1 + n) ∧ Kp (fun x => x = rb) w W3) := ⟨HR2.out.1.next hY, HR2.out.2.next hY⟩
    clear y0 y1 c0 c1 c2 hY HR2
    obtain ⟨⟨c0, c1⟩, c2⟩ := HR3.out.1.cells
    go_wp2
    first | (change bodyPost Tryz.prog Tryz.f43 _ Exit.ret _ _) | (simp only [Exit.noGoto])
    go_ret
    exact ⟨by rw [HF.out]; rfl, by rw [HQ.out]; exact HR3⟩
  have HF : Hid (YtchinflkjcebjaaGreatDoor.bk (ldT (lt s) p) = s.extract p1 (p1 + n)) := by
    show _ = _
    rw [HT.out, cut_mid, Nat.add_sub_cancel_left]
  have g2 : ¬ (s.size : Int) < ((p1 + n : Nat) : Int) := by omega
  have hu : Tryz.prog.underlying 9 = some .string := Tryz.underlying9.trans (by kernel_rfl)
  have sl : ∀ w : World, (Instr.slice 9 (.string s) (some (.int .i64 (p1 : Int))) (some (.int .i64 ((p1 + n : Nat) : Int))) none).run Tryz.prog w = .ok (.string (s.extract p1 (p1 + n))) w := fun w => by
    rw [run_slice_string (h := hu) (h0 := by omega) (h1 := by omega) (h2 := by omega), Int.toNat_natCast, Int.toNat_natCast]
  obtain ⟨T, HTT⟩ : ∃ T, Hid (T = YtchinflkjcebjaaGreatDoor.bk (ldT (lt s) p)) := ⟨_, (rfl : YtchinflkjcebjaaGreatDoor.bk (ldT (lt s) p) = _)⟩
  rw [← HF.out, ← HTT.out] at sl
  generalize p1 + n = p2 at *
  clear hll HF HT hu
  go_wp2_with fail
  refine wp_region_quiet_below (by kernel_rfl) (by kernel_rfl) ?_
  repeat (first | go_big_quiet_step (first | fail) | quiet_step (first | fail))
  refine wpQuiet_nil ?_
  intro _ hw'
  obtain ⟨⟨dq, osq⟩, hw''⟩ := hw'
  subst hw''
  have hY := below_regrown W2 dq osq
  first | (change Exit.then _ _ Exit.normal _ (Sort.grow (redrawn W2 dq) osq)) | skip
  generalize Sort.grow (redrawn W2 dq) osq = W3 at hY ⊢
  have HR3 : Hid (Rr W3 rb s p2 ∧ Kp (fun x => x = rb) w W3) := ⟨HR2.out.1.next hY, HR2.out.2.next hY⟩
  clear y0 y1 c0 c1 c2 hY HR2
  obtain ⟨⟨c0, c1⟩, c2⟩ := HR3.out.1.cells
  have y0 := cell_regrown c0
  have y1 := cell_regrown c1
  go_wp2_with fail
  refine wp_region_quiet_below (by kernel_rfl) (by kernel_rfl) ?_
  repeat (first | go_big_quiet_step (first | fail) | quiet_step (first | fail))
  refine wpQuiet_nil ?_
  intro _ hw'
  obtain ⟨⟨dq, osq⟩, hw''⟩ := hw'
  subst hw''
  have hY := below_regrown W3 dq osq
  first | (change Exit.then _ _ Exit.normal _ (Sort.grow (redrawn W3 dq) osq)) | skip
  generalize Sort.grow (redrawn W3 dq) osq = W4 at hY ⊢
  have HR4 : Hid (Rr W4 rb s p2 ∧ Kp (fun x => x = rb) w W4) := ⟨HR3.out.1.next hY, HR3.out.2.next hY⟩
  go_wp2
  first | (change bodyPost Tryz.prog Tryz.f43 _ Exit.ret _ _) | (simp only [Exit.noGoto])
  go_ret
  exact ⟨by rw [← HTT.out]; rfl, by rw [HQ.out]; exact HR4⟩
end Go.Proofs.YtchinflkjcebjaaGreatDoor
