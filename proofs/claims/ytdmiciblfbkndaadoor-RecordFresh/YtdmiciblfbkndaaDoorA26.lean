import Derived.Deep.DeepCutAuto
import Derived.Test.YtdmiciblfbkndaaDoorA25
namespace Go.Proofs.YtdmiciblfbkndaaDoor
open Go.RowKit

set_option maxRecDepth 100000 in
set_option maxHeartbeats 8000000 in
theorem salvaged_any (W : World) (b : ByteArray) (hb : b.size ≤ 140737488355328) : Calls Tryd.prog 19 #[.string b] W (SvP W b.data.toList) := by
  have hbl : b.data.toList.length = b.size := (Lib.size_eq b).symm
  have qb : (b.size : Int) ≤ 140737488355328 := by omega
  obtain ⟨X0, hX0⟩ : ∃ X, W.alloc (.cells #[.int .i64 0, .int .i64 0, .string ⟨#[]⟩, .int .i64 0, .slice none 0 0] 28) = X := ⟨_, rfl⟩
  obtain ⟨R0, hR0⟩ : ∃ R0, W.heap.size = R0 := ⟨_, rfl⟩
  have b0 : Below W.heap.size W X0 := by rw [← hX0]; exact (Below.refl _ W).alloc (Nat.le_refl _) _
  have f0 : Full X0 R0 28 rcZ := by rw [← hX0, ← hR0]; exact Full.new W _ _
  by_cases h2 : b.data.toList.take 2 = [82, 1]
  case neg =>
    have HS : Hid (sgS b.data.toList = (rc0, 0, false)) := by show sgS _ = _; unfold sgS followS; rw [if_neg h2]
    have f6 : Full (X0.setCells R0 0 [.int .i64 0, .int .i64 0, .string ⟨#[]⟩, .int .i64 0, .slice none 0 0]) R0 28 [.int .i64 0, .int .i64 0, .string ⟨#[]⟩, .int .i64 0, .slice none 0 0] := Full.put (a := []) (b := rcZ) (d := []) _ f0 rfl
    have b6 : Below W.heap.size W (X0.setCells R0 0 [.int .i64 0, .int .i64 0, .string ⟨#[]⟩, .int .i64 0, .slice none 0 0]) := below_sets b0 (Nat.le_of_eq hR0) _ _
    simp only [World.setCells, Nat.zero_add, Nat.reduceAdd] at f6 b6
    have HX : Hid (_ ∧ _) := ⟨f6, b6⟩
    unfold rcZ at f0
    obtain ⟨⟨⟨z0, y0⟩, ⟨z1, y1⟩, z2, y2⟩, ⟨z3, y3⟩, z4, y4⟩ := f0.five2
    by_cases h1 : b.size < 2
    · have q2 : (b.size : Int) < 2 := by omega
      clear f6 b6 f0 b0 h2 hbl h1
      go_enter Tryd.func19, Tryd.ntmps19
      go_wp2
      first | (change bodyPost Tryd.prog Tryd.f19 _ Exit.ret _ _) | (simp only [Exit.noGoto])
      refine bodyPost_ret (ret_sv HX.out.1 rfl rfl rfl) rfl ?_
      unfold SvP
      rw [HS.out]
      exact ⟨⟨_, rfl, RcA.zero _ _⟩, HX.out.2⟩
    · have q2 : ¬ (b.size : Int) < 2 := by omega
      obtain ⟨t2, ht2⟩ : ∃ x : ByteArray, x.data.toList = b.data.toList.take 2 := ⟨⟨(b.data.toList.take 2).toArray⟩, rfl⟩
      have R1 : ∀ wx : World, (Instr.slice 9 (.string b) none (some (.int .i64 2)) none).run Tryd.prog wx = .ok (.string t2) wx := sl_to (s := b) (x := t2) (k := 2) (by omega) ht2
      have hnq : (t2.toList == [82, 1]) = false := by rw [toL, ht2]; exact beq_eq_false_iff_ne.2 h2
      have hnr : ¬ t2.toList = [82, 1] := by rw [toL, ht2]; exact h2
      clear f6 b6 f0 b0 h2 hbl h1 ht2
      go_enter Tryd.func19, Tryd.ntmps19
      go_wp2
      first | (change bodyPost Tryd.prog Tryd.f19 _ Exit.ret _ _) | (simp only [Exit.noGoto])
      refine bodyPost_ret (ret_sv HX.out.1 rfl rfl rfl) rfl ?_
      unfold SvP
      rw [HS.out]
      exact ⟨⟨_, rfl, RcA.zero _ _⟩, HX.out.2⟩
  have g2 : 2 ≤ b.size := by
    have := congrArg List.length h2
    rw [List.length_take] at this
    simp at this
    omega
  have q2 : ¬ (b.size : Int) < 2 := by omega
  obtain ⟨t2, ht2⟩ : ∃ x : ByteArray, x.data.toList = b.data.toList.take 2 := ⟨⟨(b.data.toList.take 2).toArray⟩, rfl⟩
  have R1 : ∀ wx : World, (Instr.slice 9 (.string b) none (some (.int .i64 2)) none).run Tryd.prog wx = .ok (.string t2) wx := sl_to (s := b) (x := t2) (k := 2) (by omega) ht2
  have hnq : (t2.toList == [82, 1]) = true := by rw [toL, ht2, h2]; rfl
  have hnr : t2.toList = [82, 1] := by rw [toL, ht2, h2]
  obtain ⟨X1, hX1⟩ : ∃ X, X0.alloc (.cells #[.int .i64 0, .int .i64 0, .string ⟨#[]⟩, .int .i64 0, .slice none 0 0] 28) = X := ⟨_, rfl⟩
  obtain ⟨P, hP⟩ : ∃ P, X0.heap.size = P := ⟨_, rfl⟩
  have n1 : Below X0.heap.size X0 X1 := by rw [← hX1]; exact (Below.refl _ X0).alloc (Nat.le_refl _) _
  have H0 : Hid (SvI W R0 P (.slice none 0 0) [] X1) := ⟨b0.trans (n1.mono b0.size), f0.next n1, by rw [← hX1, ← hP]; exact Full.new X0 _ _, ⟨rfl, .inl ⟨rfl, rfl⟩⟩, Nat.le_of_eq hR0, by have := b0.size; omega, by have := f0.lt; omega⟩
  have HG : Hid (SgI b.data.toList [] 2) := SgI.start h2
  have HL : Hid (b.data.toList.length = b.size ∧ b.size ≤ 140737488355328) := ⟨hbl, hb⟩
  subst hX0 hX1
  clear b0 f0 h2 hbl ht2 n1 g2 hb
  go_enter Tryd.func19, Tryd.ntmps19
  go_wp2_with fail
  go_loopg [6] (b.size + 1) (fun gq av wr => ∃ (at_ : Nat) (evs : List Ev) (q : Option Addr) (cap : Nat), av = .int .i64 (at_ : Int) ∧ Hid (SvI W R0 P (.slice q evs.length cap) evs wr ∧ SgI b.data.toList evs at_ ∧ b.size - at_ < gq))
  case atStart => exact ⟨2, [], none, 0, rfl, H0.out, HG.out, by omega⟩
  case round =>
    clear H0 HG q2 R1 hnq hnr
    obtain ⟨at_, evs, q, cap, rfl, HI⟩ := hrel
    have hle := HI.out.2.1.le
    rw [HL.out.1] at hle
    have q0 : (0 : Int) ≤ (at_ : Int) := by omega
    have qle : (at_ : Int) ≤ (b.size : Int) := by omega
    by_cases h9 : b.size - at_ < 9
    · have g9 : ¬ (9 : Int) ≤ (b.size : Int) - (at_ : Int) := by omega
      have HS : Hid (sgS b.data.toList = (⟨0, 0, [], 0, evs⟩, at_, false)) := HI.out.2.1.none_ (first_short _ (by rw [List.length_drop, HL.out.1]; exact h9))
      have H1 : Hid (SvI W R0 P (.slice q evs.length cap) evs wr) := HI.out.1
      clear HI hle h9
      obtain ⟨f6, r6, b6⟩ := H1.out.out
      simp only [World.setCells, Nat.zero_add, Nat.reduceAdd] at f6 r6 b6
      have HX : Hid (_ ∧ _ ∧ _) := ⟨f6, r6, b6⟩
      obtain ⟨⟨⟨p0, -⟩, ⟨p1, -⟩, p2, -⟩, ⟨p3, -⟩, p4, -⟩ := H1.out.box.five2
      have hz0 := H1.out.res
      unfold rcZ at hz0
      obtain ⟨⟨⟨z0, y0⟩, ⟨z1, y1⟩, z2, y2⟩, ⟨z3, y3⟩, z4, y4⟩ := hz0.five2
      clear f6 r6 b6 hz0 H1
      go_wp2
      first | (change bodyPost Tryd.prog Tryd.f19 _ Exit.ret _ _) | (simp only [Exit.noGoto])
      refine bodyPost_ret (ret_sv HX.out.1 rfl rfl rfl) rfl ?_
      unfold SvP
      rw [HS.out]
      exact ⟨⟨_, rfl, HX.out.2.1⟩, HX.out.2.2⟩
    have g9 : (9 : Int) ≤ (b.size : Int) - (at_ : Int) := by omega
    obtain ⟨r, hr⟩ : ∃ r, b.data.toList.drop at_ = r := ⟨_, rfl⟩
    have hrl : r.length = b.size - at_ := by rw [← hr, List.length_drop, HL.out.1]
    obtain ⟨rb, hrb⟩ : ∃ rb, wr.heap.size = rb := ⟨_, rfl⟩
    obtain ⟨X2, hX2⟩ : ∃ X, wr.alloc (.cells #[.string b, .int .i64 (at_ : Int)] 70) = X := ⟨_, rfl⟩
    have n2 : Below wr.heap.size wr X2 := by rw [← hX2]; exact (Below.refl _ wr).alloc (Nat.le_refl _) _
    have rX : Rr X2 rb b at_ := by rw [← hX2, ← hrb]; exact Rr.new wr b at_
    have HC := rwide_f X2 rb 4 at_ b rX (by omega) (by decide)
    obtain ⟨n, hn⟩ : ∃ n, fxO (r.take 4) = n := ⟨_, rfl⟩
    have hnl : n < 4294967296 := by
      have := fxO_lt (r.take 4)
      rw [List.length_take, Nat.min_eq_left (by omega), hn] at this
      exact this
    rw [hr, wdR_is 4 r (by omega), hn] at HC
    have HI2 : Hid (∀ w3, Kp (fun x => x = rb) X2 w3 → SvI W R0 P (.slice q evs.length cap) evs w3) := fun w3 k => HI.out.1.next (n2.trans (k.below (B := wr.heap.size) (fun g e => by rw [e, hrb]; exact Nat.le_refl _) n2.size))
    have HG : Hid (SgI b.data.toList evs at_ ∧ b.data.toList.drop at_ = r ∧ r.length = b.size - at_ ∧ fxO (r.take 4) = n ∧ b.size - at_ < gk) := ⟨HI.out.2.1, hr, hrl, hn, HI.out.2.2⟩
    have e0 : IntKind.u64.wrap ((b.size : Int) - (at_ : Int) - 8) = (b.size : Int) - (at_ : Int) - 8 := by rw [u64w]; omega
    have e1 : IntKind.i64.wrap (n : Int) = (n : Int) := by rw [IntKind.wrap_i64]; omega
    have qn0 : (0 : Int) ≤ (n : Int) := by omega
    have qn1 : (n : Int) ≤ 4294967296 := by omega
    have HZ : Hid (at_ ≤ b.size ∧ 9 ≤ b.size - at_ ∧ n < 4294967296) := ⟨hle, by omega, hnl⟩
    subst hX2
    subst hrb
    clear n2 rX hr hrl hn HI h9 hle hnl
    go_wp2_with fail
    refine HC.mono ?_
    rintro e w3 ⟨rfl, hw3⟩
    have H3 : Hid (SvI W R0 P (.slice q evs.length cap) evs w3) := HI2.out w3 hw3.out.2
    clear HC hw3 HI2
    by_cases hn1 : n < 1
    · have q3 : (n : Int) < 1 := by omega
      have HS : Hid (sgS b.data.toList = (⟨0, 0, [], 0, evs⟩, at_, false)) := HG.out.1.none_ (by rw [HG.out.2.1]; exact first_bad _ (.inl (by rw [HG.out.2.2.2.1]; exact hn1)))
      clear hn1 HG
      obtain ⟨f6, r6, b6⟩ := H3.out.out
      simp only [World.setCells, Nat.zero_add, Nat.reduceAdd] at f6 r6 b6
      have HX : Hid (_ ∧ _ ∧ _) := ⟨f6, r6, b6⟩
      obtain ⟨⟨⟨p0, -⟩, ⟨p1, -⟩, p2, -⟩, ⟨p3, -⟩, p4, -⟩ := H3.out.box.five2
      have hz0 := H3.out.res
      unfold rcZ at hz0
      obtain ⟨⟨⟨z0, y0⟩, ⟨z1, y1⟩, z2, y2⟩, ⟨z3, y3⟩, z4, y4⟩ := hz0.five2
      clear f6 r6 b6 hz0 H3
      go_wp2
      first | (change bodyPost Tryd.prog Tryd.f19 _ Exit.ret _ _) | (simp only [Exit.noGoto])
      refine bodyPost_ret (ret_sv HX.out.1 rfl rfl rfl) rfl ?_
      unfold SvP
      rw [HS.out]
      exact ⟨⟨_, rfl, HX.out.2.1⟩, HX.out.2.2⟩
    have q3 : ¬ (n : Int) < 1 := by omega
    by_cases hn2 : b.size - at_ - 8 < n
    · have q4 : (b.size : Int) - (at_ : Int) - 8 < (n : Int) := by have := HZ.out; omega
      have HS : Hid (sgS b.data.toList = (⟨0, 0, [], 0, evs⟩, at_, false)) := HG.out.1.none_ (by rw [HG.out.2.1]; exact first_bad _ (.inr (by rw [HG.out.2.2.2.1, HG.out.2.2.1]; exact hn2)))
      clear hn1 hn2 HG
      obtain ⟨f6, r6, b6⟩ := H3.out.out
      simp only [World.setCells, Nat.zero_add, Nat.reduceAdd] at f6 r6 b6
      have HX : Hid (_ ∧ _ ∧ _) := ⟨f6, r6, b6⟩
      obtain ⟨⟨⟨p0, -⟩, ⟨p1, -⟩, p2, -⟩, ⟨p3, -⟩, p4, -⟩ := H3.out.box.five2
      have hz0 := H3.out.res
      unfold rcZ at hz0
      obtain ⟨⟨⟨z0, y0⟩, ⟨z1, y1⟩, z2, y2⟩, ⟨z3, y3⟩, z4, y4⟩ := hz0.five2
      clear f6 r6 b6 hz0 H3
      go_wp2
      first | (change bodyPost Tryd.prog Tryd.f19 _ Exit.ret _ _) | (simp only [Exit.noGoto])
      refine bodyPost_ret (ret_sv HX.out.1 rfl rfl rfl) rfl ?_
      unfold SvP
      rw [HS.out]
      exact ⟨⟨_, rfl, HX.out.2.1⟩, HX.out.2.2⟩
    have q4 : ¬ (b.size : Int) - (at_ : Int) - 8 < (n : Int) := by have := HZ.out; omega
    have q5 : (at_ : Int) + 8 + (n : Int) ≤ (b.size : Int) := by have := HZ.out; omega
    obtain ⟨body, hbody⟩ : ∃ x : ByteArray, x.data.toList = (r.take (4 + n)).drop 4 := ⟨⟨((r.take (4 + n)).drop 4).toArray⟩, rfl⟩
    obtain ⟨ch, hch⟩ : ∃ x : ByteArray, x.data.toList = r.take (8 + n) := ⟨⟨(r.take (8 + n)).toArray⟩, rfl⟩
    have RB : ∀ wx : World, (Instr.slice 9 (.string b) (some (.int .i64 ((at_ : Int) + 4))) (some (.int .i64 ((at_ : Int) + 8 + (n : Int) - 4))) none).run Tryd.prog wx = .ok (.string body) wx := by
      have h := sl_mid (s := b) (x := body) (i := at_ + 4) (k := at_ + 4 + n) .i64 .i64 (by omega) (by have := HZ.out; omega) (by
        rw [hbody, ← HG.out.2.1, List.take_drop, List.drop_drop, show at_ + (4 + n) = at_ + 4 + n by omega])
      rw [show ((at_ + 4 : Nat) : Int) = (at_ : Int) + 4 by omega, show ((at_ + 4 + n : Nat) : Int) = (at_ : Int) + 8 + (n : Int) - 4 by omega] at h
      exact h
    have RC : ∀ wx : World, (Instr.slice 9 (.string b) (some (.int .i64 (at_ : Int))) (some (.int .i64 ((at_ : Int) + 8 + (n : Int)))) none).run Tryd.prog wx = .ok (.string ch) wx := by
      have h := sl_mid (s := b) (x := ch) (i := at_) (k := at_ + (8 + n)) .i64 .i64 (by omega) (by have := HZ.out; omega) (by
        rw [hch, ← HG.out.2.1, List.take_drop])
      rw [show ((at_ + (8 + n) : Nat) : Int) = (at_ : Int) + 8 + (n : Int) by omega] at h
      exact h
    have hbn : body.data.toList.length = n := by
      rw [hbody, List.length_drop, List.length_take, HG.out.2.2.1]
      have := HZ.out
      omega
    have hbs : body.size = n := by rw [Lib.size_eq, hbn]
    obtain ⟨cb, hcb⟩ : ∃ x : ByteArray, (⟨(chS body.data.toList).toArray⟩ : ByteArray) = x := ⟨_, rfl⟩
    have hcl : cb.data.toList = chS body.data.toList := by rw [← hcb]
    have hfe := first_eq r n HG.out.2.2.2.1.symm (by rw [HG.out.2.2.1]; exact HZ.out.2.1) (by omega) (by rw [HG.out.2.2.1]; omega)
    rw [← hbody, ← hch, ← hcl] at hfe
    have HFE : Hid (firstS r = if ch.data.toList = cb.data.toList then some body.data.toList else none) := hfe
    have HBN : Hid (body.data.toList.length = n ∧ body.size = n ∧ 1 ≤ n ∧ at_ + 8 + n ≤ b.size) := ⟨hbn, hbs, by omega, by have := HZ.out; omega⟩
    have p1 : ∀ d os, Calls Tryd.prog 15 #[.string body] (Sort.grow (redrawn w3 d) os) fun e w'' => e = .returned (.string cb) ∧ ∃ p : Regrown, w'' = Sort.grow (redrawn w3 p.d) p.os := fun d os => Calls.regrown_of (by rw [← hcb]; exact rchunk_any _ body (by have := HBN.out.2.1; have := HZ.out.2.2; omega))
    clear hfe hcl hch hbody hbn hbs hn1 hn2 hcb
    by_cases hne : ch = cb
    case neg =>
      have HS : Hid (sgS b.data.toList = (⟨0, 0, [], 0, evs⟩, at_, false)) := HG.out.1.none_ (by rw [HG.out.2.1, HFE.out, if_neg (fun e => hne (ByteArray.ext (Array.ext' e)))])
      have nr : ¬ ch.toList = cb.toList := fun e => hne (by rw [toL, toL] at e; exact ByteArray.ext (Array.ext' e))
      have nq : (ch.toList == cb.toList) = false := beq_eq_false_iff_ne.2 nr
      clear hne HG HFE
      go_upto_region 12 with fail
      refine wp_region_quiet_below (by kernel_rfl) (by kernel_rfl) ?_
      repeat (first | go_big_quiet_step (first | with_reducible exact p1 _ _) | quiet_step (first | with_reducible exact p1 _ _))
      refine wpQuiet_nil ?_
      intro _ hw'
      obtain ⟨⟨dq, osq⟩, hw''⟩ := hw'
      subst hw''
      have hY := below_regrown w3 dq osq
      first | (change Exit.then _ _ Exit.normal _ (Sort.grow (redrawn w3 dq) osq)) | skip
      generalize Sort.grow (redrawn w3 dq) osq = w4 at hY ⊢
      have H4 : Hid (SvI W R0 P (.slice q evs.length cap) evs w4) := H3.out.next hY
      clear p1 nq nr H3 hY
      obtain ⟨f6, r6, b6⟩ := H4.out.out
      simp only [World.setCells, Nat.zero_add, Nat.reduceAdd] at f6 r6 b6
      have HX : Hid (_ ∧ _ ∧ _) := ⟨f6, r6, b6⟩
      obtain ⟨⟨⟨p0, -⟩, ⟨p1, -⟩, p2, -⟩, ⟨p3, -⟩, p4, -⟩ := H4.out.box.five2
      have hz0 := H4.out.res
      unfold rcZ at hz0
      obtain ⟨⟨⟨z0, y0⟩, ⟨z1, y1⟩, z2, y2⟩, ⟨z3, y3⟩, z4, y4⟩ := hz0.five2
      clear f6 r6 b6 hz0 H4
      go_wp2
      first | (change bodyPost Tryd.prog Tryd.f19 _ Exit.ret _ _) | (simp only [Exit.noGoto])
      refine bodyPost_ret (ret_sv HX.out.1 rfl rfl rfl) rfl ?_
      unfold SvP
      rw [HS.out]
      exact ⟨⟨_, rfl, HX.out.2.1⟩, HX.out.2.2⟩
    subst hne
    have HF : Hid (firstS r = some body.data.toList) := by show _ = _; rw [HFE.out, if_pos rfl]
    have nq : (ch.toList == ch.toList) = true := beq_self_eq_true _
    clear HFE
    go_upto_region 12 with fail
    refine wp_region_quiet_below (by kernel_rfl) (by kernel_rfl) ?_
    repeat (first | go_big_quiet_step (first | with_reducible exact p1 _ _) | quiet_step (first | with_reducible exact p1 _ _))
    refine wpQuiet_nil ?_
    intro _ hw'
    obtain ⟨⟨dq, osq⟩, hw''⟩ := hw'
    subst hw''
    have hY := below_regrown w3 dq osq
    first | (change Exit.then _ _ Exit.normal _ (Sort.grow (redrawn w3 dq) osq)) | skip
    generalize Sort.grow (redrawn w3 dq) osq = w4 at hY ⊢
    have H4 : Hid (SvI W R0 P (.slice q evs.length cap) evs w4) := H3.out.next hY
    clear p1 nq H3 hY
    have hb0 : 0 < body.size := by have := HBN.out; omega
    obtain ⟨c, hc⟩ : ∃ c, body[0]'hb0 = c := ⟨_, rfl⟩
    have hcR : (byteR body.data.toList).1 = c := by
      have h := byteR_at body.data.toList 0
      rw [List.drop_zero, List.getD_eq_getElem?_getD, List.getElem?_eq_getElem (by rw [← Lib.size_eq]; exact hb0)] at h
      rw [h, ← hc]
      rfl
    have HBR : Hid ((byteR body.data.toList).1 = c) := hcR
    clear hcR RB RC
    have gB : (n : Int) = (body.size : Int) := by rw [HBN.out.2.1]
    have qbs : (body.size : Int) ≤ 4294967296 := by rw [← gB]; exact qn1
    have HGF : Hid (SgI b.data.toList evs at_ ∧ firstS (b.data.toList.drop at_) = some body.data.toList) := ⟨HG.out.1, by rw [HG.out.2.1]; exact HF.out⟩
    have HGK : Hid (b.size - at_ < gk) := HG.out.2.2.2.2
    clear HF HG
    by_cases h2 : c = 2
    · have qc : (c.toNat : Int) = 2 := by rw [h2]; rfl
      have HC2 : Hid (c = 2) := h2
      clear h2
      obtain ⟨yb, hyb⟩ : ∃ yb, w4.heap.size = yb := ⟨_, rfl⟩
      obtain ⟨N, hN⟩ : ∃ N, evs.length = N := ⟨_, rfl⟩
      have HN : Hid (evs.length = N) := hN
      rw [hN] at H4
      obtain ⟨X5, hX5⟩ : ∃ X, w4.alloc (.cells #[.string body, .int .i64 1] 70) = X := ⟨_, rfl⟩
      have n5 : Below w4.heap.size w4 X5 := by rw [← hX5]; exact (Below.refl _ w4).alloc (Nat.le_refl _) _
      have r5 : Rr X5 yb body 1 := by rw [← hX5, ← hyb]; exact Rr.new w4 body 1
      have z5 : X5.heap.size = yb + 1 := by rw [← hX5, World.size_alloc, hyb]
      obtain ⟨Y0, hY0⟩ : ∃ Y, X5.alloc (.cells #[.int .i64 0, .int .i64 0, .string ⟨#[]⟩, .int .i64 0, .slice q N cap] 28) = Y := ⟨_, rfl⟩
      have nY : Below w4.heap.size w4 Y0 := by rw [← hY0]; exact n5.alloc n5.size _
      have rY : Rr Y0 yb body 1 := by rw [← hY0]; exact r5.next ((Below.refl _ _).alloc (Nat.le_refl _) _)
      have fY : Full Y0 (yb + 1) 28 [.int .i64 0, .int .i64 0, .string ⟨#[]⟩, .int .i64 0, .slice q N cap] := by
        have h := Full.new X5 #[.int .i64 0, .int .i64 0, .string ⟨#[]⟩, .int .i64 0, .slice q N cap] 28
        rw [hY0, z5] at h
        exact h
      obtain ⟨⟨⟨p0, -⟩, ⟨p1, -⟩, p2, -⟩, ⟨p3, -⟩, p4, -⟩ := (H4.out.next n5).box.five2
      have HY : Hid (LsI w4 yb body 1 [.int .i64 0, .int .i64 0, .string ⟨#[]⟩, .int .i64 0, .slice q N cap] Y0) := ⟨nY, rY, fY, Nat.le_of_eq hyb⟩
      have HC1 := rwide_f Y0 yb 1 1 body rY (by decide) (by decide)
      have hr1 : wdR 1 (body.data.toList.drop 1) 0 = (byteR (body.data.toList.drop 1)).1.toNat := by show 0 * 256 + _ = _; omega
      rw [hr1] at HC1
      obtain ⟨ph, hph⟩ : ∃ ph, (byteR (body.data.toList.drop 1)).1 = ph := ⟨_, rfl⟩
      obtain ⟨tr, htr⟩ : ∃ tr, (byteR (body.data.toList.drop 2)).1 = tr := ⟨_, rfl⟩
      obtain ⟨inp, hinp⟩ : ∃ inp, wdR 2 (body.data.toList.drop 3) 0 = inp := ⟨_, rfl⟩
      have hil : inp < 65536 := by
        have := wdR_lt 2 (body.data.toList.drop 3) 0 1 (by decide)
        rw [hinp] at this
        exact this
      rw [hph] at HC1
      have HV : Hid ((byteR (body.data.toList.drop 1)).1 = ph ∧ (byteR (body.data.toList.drop 2)).1 = tr ∧ wdR 2 (body.data.toList.drop 3) 0 = inp ∧ inp < 65536) := ⟨hph, htr, hinp, hil⟩
      have hpl := UInt8.toNat_lt ph
      have htl := UInt8.toNat_lt tr
      have e2 : IntKind.i64.wrap (ph.toNat : Int) = (ph.toNat : Int) := by rw [IntKind.wrap_i64]; omega
      have e3 : IntKind.i64.wrap (tr.toNat : Int) = (tr.toNat : Int) := by rw [IntKind.wrap_i64]; omega
      have e4 : IntKind.i64.wrap (inp : Int) = (inp : Int) := by rw [IntKind.wrap_i64]; omega
      clear hN n5 r5 nY rY fY hr1 hph htr hinp hil hpl htl
      go_wp2_with fail
      refine HC1.mono ?_
      rintro e w5 ⟨rfl, hw5⟩
      have h5 := HY.out.read hw5.out.2 hw5.out.1
      obtain ⟨⟨⟨s0, t0⟩, -⟩, -⟩ := h5.box.five2
      have HA5 : Hid (LsI w4 yb body 2 [.int .i64 (ph.toNat : Int), .int .i64 0, .string ⟨#[]⟩, .int .i64 0, .slice q N cap] (w5.setCell ⟨yb + 1, 0, none⟩ (.int .i64 (ph.toNat : Int)))) := h5.set (a := []) (d := [.int .i64 0, .string ⟨#[]⟩, .int .i64 0, .slice q N cap]) _
      clear HC1 hw5 h5 HY p0 p1 p2 p3 p4 hY0 hX5 z5
      go_wp2_with fail
      generalize w5.setCell ⟨yb + 1, 0, none⟩ (.int .i64 (ph.toNat : Int)) = A5 at HA5 ⊢
      have HC2 := rwide_f A5 yb 1 2 body HA5.out.rd (by decide) (by decide)
      have hr2 : wdR 1 (body.data.toList.drop 2) 0 = tr.toNat := by rw [← HV.out.2.1]; show 0 * 256 + _ = _; omega
      rw [hr2] at HC2
      clear hr2 s0 t0
      refine HC2.mono ?_
      rintro e w6 ⟨rfl, hw6⟩
      have h6 := HA5.out.read hw6.out.2 hw6.out.1
      obtain ⟨⟨-, ⟨s1, t1⟩, -⟩, -⟩ := h6.box.five2
      have HA6 : Hid (LsI w4 yb body 3 [.int .i64 (ph.toNat : Int), .int .i64 (tr.toNat : Int), .string ⟨#[]⟩, .int .i64 0, .slice q N cap] (w6.setCell ⟨yb + 1, 1, none⟩ (.int .i64 (tr.toNat : Int)))) := h6.set (a := [.int .i64 (ph.toNat : Int)]) (d := [.string ⟨#[]⟩, .int .i64 0, .slice q N cap]) _
      clear HC2 hw6 h6 HA5
      go_wp2_with fail
      generalize w6.setCell ⟨yb + 1, 1, none⟩ (.int .i64 (tr.toNat : Int)) = A6 at HA6 ⊢
      have HC3 := rwide_f A6 yb 2 3 body HA6.out.rd (by decide) (by decide)
      rw [HV.out.2.2.1] at HC3
      clear s1 t1
      refine HC3.mono ?_
      rintro e w7 ⟨rfl, hw7⟩
      have h7 := HA6.out.read hw7.out.2 hw7.out.1
      obtain ⟨-, ⟨s3, t3⟩, -⟩ := h7.box.five2
      have HA7 : Hid (LsI w4 yb body 5 [.int .i64 (ph.toNat : Int), .int .i64 (tr.toNat : Int), .string ⟨#[]⟩, .int .i64 (inp : Int), .slice q N cap] (w7.setCell ⟨yb + 1, 3, none⟩ (.int .i64 (inp : Int)))) := h7.set (a := [.int .i64 (ph.toNat : Int), .int .i64 (tr.toNat : Int), .string ⟨#[]⟩]) (d := [.slice q N cap]) _
      clear HC3 hw7 h7 HA6
      go_wp2_with fail
      generalize w7.setCell ⟨yb + 1, 3, none⟩ (.int .i64 (inp : Int)) = A7 at HA7 ⊢
      have HC4 := rwide_f A7 yb 4 5 body HA7.out.rd (by decide) (by decide)
      obtain ⟨zz4, hzz⟩ : ∃ z, wdR 4 (body.data.toList.drop 5) 0 = z := ⟨_, rfl⟩
      rw [hzz] at HC4
      clear s3 t3 hzz
      refine HC4.mono ?_
      rintro e w8 ⟨rfl, hw8⟩
      have HA8 : Hid (LsI w4 yb body 9 [.int .i64 (ph.toNat : Int), .int .i64 (tr.toNat : Int), .string ⟨#[]⟩, .int .i64 (inp : Int), .slice q N cap] w8) := HA7.out.read hw8.out.2 hw8.out.1
      have HS8 : Hid (SvI W R0 P (.slice q N cap) evs w8) := H4.out.next HA8.out.bel
      obtain ⟨⟨k0, k1⟩, k2⟩ := HA8.out.rd.cells
      have k9 : w8.cell? ⟨yb, 1, none⟩ = some (.int .i64 9) := k1
      have hbl2 : body.data.toList.length = body.size := (Lib.size_eq body).symm
      clear HC4 hw8 HA7 k1
      by_cases hs9 : body.size < 9
      · have q9 : (body.size : Int) < 9 := by omega
        have HS : Hid (sgS b.data.toList = (⟨0, 0, [], 0, evs⟩, at_, false)) := HGF.out.1.stop HGF.out.2 (take_two evs at_ _ (by rw [HBR.out, HC2.out]) (by omega))
        clear hs9 hbl2 HA8 H4
        obtain ⟨f6, r6, b6⟩ := HS8.out.out
        simp only [World.setCells, Nat.zero_add, Nat.reduceAdd] at f6 r6 b6
        have HX : Hid (_ ∧ _ ∧ _) := ⟨f6, r6, b6⟩
        obtain ⟨⟨⟨p0, -⟩, ⟨p1, -⟩, p2, -⟩, ⟨p3, -⟩, p4, -⟩ := HS8.out.box.five2
        have hz0 := HS8.out.res
        unfold rcZ at hz0
        obtain ⟨⟨⟨z0, y0⟩, ⟨z1, y1⟩, z2, y2⟩, ⟨z3, y3⟩, z4, y4⟩ := hz0.five2
        clear f6 r6 b6 hz0 HS8
        go_wp2
        first | (change bodyPost Tryd.prog Tryd.f19 _ Exit.ret _ _) | (simp only [Exit.noGoto])
        refine bodyPost_ret (ret_sv HX.out.1 rfl rfl rfl) rfl ?_
        unfold SvP
        rw [HS.out]
        exact ⟨⟨_, rfl, HX.out.2.1⟩, HX.out.2.2⟩
      have q9 : ¬ (body.size : Int) < 9 := by omega
      obtain ⟨ob, hob⟩ : ∃ x : ByteArray, x.data.toList = body.data.toList.drop 9 := ⟨⟨(body.data.toList.drop 9).toArray⟩, rfl⟩
      have RS : ∀ wx : World, (Instr.slice 9 (.string body) (some (.int .i64 9)) none none).run Tryd.prog wx = .ok (.string ob) wx := sl_from (s := body) (x := ob) (k := 9) (by omega) hob
      have hobs : ob.size = body.size - 9 := by rw [Lib.size_eq, hob, List.length_drop, hbl2]
      have hLR : lastR body.data.toList evs = ⟨(ph.toNat : Int), (tr.toNat : Int), ob.data.toList, (inp : Int), evs⟩ := by
        rw [last_eq _ _ (by omega), HV.out.1, HV.out.2.1, HV.out.2.2.1, hob]
      have ht2 := take_two2 evs at_ body.data.toList (by rw [HBR.out, HC2.out]) HGF.out.1.ok HGF.out.1.n
      rw [hLR] at ht2
      obtain ⟨rc, hrc⟩ : ∃ rc : Rc, (⟨(ph.toNat : Int), (tr.toNat : Int), ob.data.toList, (inp : Int), evs⟩ : Rc) = rc := ⟨_, rfl⟩
      rw [hrc] at ht2
      obtain ⟨⟨-, -, ⟨s2, t2'⟩⟩, -⟩ := HA8.out.box.five2
      have hA9 : LsI w4 yb body 9 [.int .i64 (ph.toNat : Int), .int .i64 (tr.toNat : Int), .string ob, .int .i64 (inp : Int), .slice q N cap] (w8.setCell ⟨yb + 1, 2, none⟩ (.string ob)) := HA8.out.set (a := [.int .i64 (ph.toNat : Int), .int .i64 (tr.toNat : Int)]) (d := [.int .i64 (inp : Int), .slice q N cap]) _
      obtain ⟨A9, hA9e⟩ : ∃ A, w8.setCell ⟨yb + 1, 2, none⟩ (.string ob) = A := ⟨_, rfl⟩
      rw [hA9e] at hA9
      have hS9 := H4.out.next hA9.bel
      have HA9 : Hid (LsI w4 yb body 9 [.int .i64 (ph.toNat : Int), .int .i64 (tr.toNat : Int), .string ob, .int .i64 (inp : Int), .slice q N cap] A9 ∧ SvI W R0 P (.slice q N cap) evs A9) := ⟨hA9, hS9⟩
      have hR9 : Row A9 A9.heap.size q evs.length (evs.flatMap ec) := by
        have := hS9.own
        rw [← HN.out] at this
        exact row_of_own this
      have HVd := rvalid_any A9 (ph.toNat : Int) (tr.toNat : Int) ob (inp : Int) q cap evs hR9 HGF.out.1.sz (by have := HGF.out.1.n; omega) (by omega)
      have HLa : endOk (ph.toNat : Int) (tr.toNat : Int) (inp : Int) = true → ob.size ≤ 16777216 → ∀ w, Calls Tryd.prog 16 #[.agg (recC (ph.toNat : Int) (tr.toNat : Int) ob (inp : Int) q N cap)] w fun e w' => e = .returned (.string ⟨(lastL rc).toArray⟩) ∧ Below w.heap.size w w' := fun h1 h2 w => by
        have h := rlast_any w (ph.toNat : Int) (tr.toNat : Int) ob (inp : Int) q N cap evs HN.out (by have := HGF.out.1.n; have := HN.out; omega) h1 (by omega)
        rw [hrc] at h
        exact h
      have hve := valid_eq rc (by rw [← hrc]; exact HGF.out.1.ok) (by rw [← hrc]; exact HGF.out.1.n)
      unfold recC at HVd HLa
      rw [hrc, HN.out] at HVd
      obtain ⟨er, her⟩ : ∃ er, (encS rc).2 = er := ⟨_, rfl⟩
      rw [her] at HVd ht2 hve
      have HRc : Hid (rc = ⟨(ph.toNat : Int), (tr.toNat : Int), ob.data.toList, (inp : Int), evs⟩) := hrc.symm
      have HT2 : Hid (takeS ⟨⟨0, 0, [], 0, evs⟩, at_, false⟩ body.data.toList = if er = 0 ∧ lastL rc = body.data.toList then some ⟨rc, at_, true⟩ else none) := by
        show _ = _
        rw [ht2]
      have HVe : Hid ((er = 0 ↔ rc.out.length ≤ 16777216 ∧ endOk rc.ph rc.tr rc.inp = true) ∧ (endOk (ph.toNat : Int) (tr.toNat : Int) (inp : Int) = true → ob.size ≤ 16777216 → ∀ w, Calls Tryd.prog 16 #[.agg #[.int .i64 (ph.toNat : Int), .int .i64 (tr.toNat : Int), .string ob, .int .i64 (inp : Int), .slice q N cap]] w fun e w' => e = .returned (.string ⟨(lastL rc).toArray⟩) ∧ Below w.heap.size w w')) := ⟨hve, HLa⟩
      obtain ⟨⟨⟨a0, b0⟩, ⟨a1, b1⟩, a2, b2⟩, ⟨a3, b3⟩, a4, b4⟩ := hA9.box.five2
      have HAe : Hid (w8.setCell ⟨yb + 1, 2, none⟩ (.string ob) = A9) := hA9e
      have HOb : Hid (ob.size ≤ 4294967296) := by show _ ≤ _; omega
      clear hA9 hS9 hR9 HLa hve her ht2 hLR hrc hob hobs hs9 hbl2 HA8 H4 HS8 hA9e
      go_upto_region 24 with fail
      rw [HAe.out]
      clear HAe s2 t2' RS k0 k2 k9
      go_wp2_with fail
      refine HVd.mono ?_
      rintro e wb ⟨rfl, hwb⟩
      have HB : Hid (LsI w4 yb body 9 [.int .i64 (ph.toNat : Int), .int .i64 (tr.toNat : Int), .string ob, .int .i64 (inp : Int), .slice q N cap] wb ∧ SvI W R0 P (.slice q N cap) evs wb) := ⟨HA9.out.1.next hwb, HA9.out.2.next hwb⟩
      clear HVd hwb HA9 a0 b0 a1 b1 a2 b2 a3 b3 a4 b4
      by_cases her : er = 0
      case neg =>
        have qe : (er == 0) = false := beq_eq_false_iff_ne.2 her
        have HS : Hid (sgS b.data.toList = (⟨0, 0, [], 0, evs⟩, at_, false)) := HGF.out.1.stop HGF.out.2 (by rw [HT2.out, if_neg (fun h => her h.1)])
        have HS9 : Hid (SvI W R0 P (.slice q N cap) evs wb) := HB.out.2
        clear HB HVe HT2
        obtain ⟨f6, r6, b6⟩ := HS9.out.out
        simp only [World.setCells, Nat.zero_add, Nat.reduceAdd] at f6 r6 b6
        have HX : Hid (_ ∧ _ ∧ _) := ⟨f6, r6, b6⟩
        obtain ⟨⟨⟨p0, -⟩, ⟨p1, -⟩, p2, -⟩, ⟨p3, -⟩, p4, -⟩ := HS9.out.box.five2
        have hz0 := HS9.out.res
        unfold rcZ at hz0
        obtain ⟨⟨⟨z0, y0⟩, ⟨z1, y1⟩, z2, y2⟩, ⟨z3, y3⟩, z4, y4⟩ := hz0.five2
        clear f6 r6 b6 hz0 HS9
        go_wp2
        first | (change bodyPost Tryd.prog Tryd.f19 _ Exit.ret _ _) | (simp only [Exit.noGoto])
        refine bodyPost_ret (ret_sv HX.out.1 rfl rfl rfl) rfl ?_
        unfold SvP
        rw [HS.out]
        exact ⟨⟨_, rfl, HX.out.2.1⟩, HX.out.2.2⟩
      subst her
      obtain ⟨hv1, hv2⟩ := HVe.out.1.1 rfl
      rw [HRc.out] at hv1 hv2
      simp only at hv1 hv2
      have HL9 := HVe.out.2 hv2 (by rw [Lib.size_eq]; exact hv1) wb
      obtain ⟨lb, hlb⟩ : ∃ x : ByteArray, (⟨(lastL rc).toArray⟩ : ByteArray) = x := ⟨_, rfl⟩
      have hlbl : lb.data.toList = lastL rc := by rw [← hlb]
      rw [hlb] at HL9
      have HT3 : Hid (takeS ⟨⟨0, 0, [], 0, evs⟩, at_, false⟩ body.data.toList = if lb = body then some ⟨rc, at_, true⟩ else none) := by
        show _ = _
        rw [HT2.out]
        by_cases q : lb = body
        · rw [if_pos q, if_pos ⟨rfl, by rw [← hlbl, q]⟩]
        · rw [if_neg q, if_neg (fun h => q (ByteArray.ext (Array.ext' (by rw [hlbl]; exact h.2))))]
      obtain ⟨⟨⟨a0, b0⟩, ⟨a1, b1⟩, a2, b2⟩, ⟨a3, b3⟩, a4, b4⟩ := HB.out.1.box.five2
      clear hv1 hv2 hlb hlbl HVe HT2
      go_wp2_with fail
      refine HL9.mono ?_
      rintro e wd ⟨rfl, hwd⟩
      have HD : Hid (LsI w4 yb body 9 [.int .i64 (ph.toNat : Int), .int .i64 (tr.toNat : Int), .string ob, .int .i64 (inp : Int), .slice q N cap] wd ∧ SvI W R0 P (.slice q N cap) evs wd) := ⟨HB.out.1.next hwd, HB.out.2.next hwd⟩
      clear HL9 hwd HB a0 b0 a1 b1 a2 b2 a3 b3 a4 b4
      by_cases hq : lb = body
      case neg =>
        have nr : ¬ lb.toList = body.toList := fun e => hq (by rw [toL, toL] at e; exact ByteArray.ext (Array.ext' e))
        have nq : (lb.toList == body.toList) = false := beq_eq_false_iff_ne.2 nr
        have HS : Hid (sgS b.data.toList = (⟨0, 0, [], 0, evs⟩, at_, false)) := HGF.out.1.stop HGF.out.2 (by rw [HT3.out, if_neg hq])
        have HS9 : Hid (SvI W R0 P (.slice q N cap) evs wd) := HD.out.2
        clear hq HD HT3
        obtain ⟨f6, r6, b6⟩ := HS9.out.out
        simp only [World.setCells, Nat.zero_add, Nat.reduceAdd] at f6 r6 b6
        have HX : Hid (_ ∧ _ ∧ _) := ⟨f6, r6, b6⟩
        obtain ⟨⟨⟨p0, -⟩, ⟨p1, -⟩, p2, -⟩, ⟨p3, -⟩, p4, -⟩ := HS9.out.box.five2
        have hz0 := HS9.out.res
        unfold rcZ at hz0
        obtain ⟨⟨⟨z0, y0⟩, ⟨z1, y1⟩, z2, y2⟩, ⟨z3, y3⟩, z4, y4⟩ := hz0.five2
        clear f6 r6 b6 hz0 HS9
        go_wp2
        first | (change bodyPost Tryd.prog Tryd.f19 _ Exit.ret _ _) | (simp only [Exit.noGoto])
        refine bodyPost_ret (ret_sv HX.out.1 rfl rfl rfl) rfl ?_
        unfold SvP
        rw [HS.out]
        exact ⟨⟨_, rfl, HX.out.2.1⟩, HX.out.2.2⟩
      subst hq
      have nq : (lb.toList == lb.toList) = true := beq_self_eq_true _
      have HS : Hid (sgS b.data.toList = (rc, at_ + (8 + lb.data.toList.length), true)) := HGF.out.1.fin HGF.out.2 (by rw [HT3.out, if_pos rfl])
      have hrcv := HRc.out
      have hSv := HD.out.2
      have hfo := SvI.outL (W := W) (R0 := R0) (P := P) (nv := .slice q N cap) (wr := wd) rc (by rw [hrcv]; exact hSv) ob (by rw [hrcv])
      rw [hrcv] at hfo
      simp only at hfo
      rw [← hrcv] at hfo
      obtain ⟨f6, r6, b6⟩ := hfo
      simp only [World.setCells, Nat.zero_add, Nat.reduceAdd] at f6 r6 b6
      have HX : Hid (_ ∧ _ ∧ _) := ⟨f6, r6, b6⟩
      obtain ⟨⟨⟨a0, -⟩, ⟨a1, -⟩, a2, -⟩, ⟨a3, -⟩, a4, -⟩ := HD.out.1.box.five2
      have hz0 := hSv.res
      unfold rcZ at hz0
      obtain ⟨⟨⟨z0, y0⟩, ⟨z1, y1⟩, z2, y2⟩, ⟨z3, y3⟩, z4, y4⟩ := hz0.five2
      clear f6 r6 b6 hz0 hSv hrcv HD HT3 HRc
      go_wp2
      first | (change bodyPost Tryd.prog Tryd.f19 _ Exit.ret _ _) | (simp only [Exit.noGoto])
      refine bodyPost_ret (ret_sv HX.out.1 rfl rfl rfl) rfl ?_
      unfold SvP
      rw [HS.out]
      refine ⟨⟨_, ?_, HX.out.2.1⟩, HX.out.2.2⟩
      have e9 : (((at_ + (8 + lb.data.toList.length) : Nat)) : Int) = (at_ : Int) + 8 + (lb.size : Int) := by rw [Lib.size_eq]; omega
      congr 4
      show _ = [Value.int IntKind.i64 ((at_ + (8 + lb.data.toList.length) : Nat) : Int), Value.bool true]
      rw [e9]
    · obtain ⟨kk, rfl⟩ : ∃ kk, gk = kk + 1 := ⟨gk - 1, by have := HGK.out; omega⟩
      have qc : ¬ (c.toNat : Int) = 2 := fun e => h2 (by
        have h : c.toNat = 2 := by omega
        exact UInt8.toNat_inj.1 h)
      have hc2 : (byteR body.data.toList).1 ≠ 2 := by rw [HBR.out]; exact h2
      have hbb : body.data.toList.length ≤ 140737488355328 := by have := HBN.out.1; have := HZ.out.2.2; omega
      obtain ⟨L, hL⟩ : ∃ L, bodyD body.data.toList = L := ⟨_, rfl⟩
      have hok := bodyD_ok body.data.toList
      rw [hL] at hok
      have HLz : Hid ((∀ e ∈ L, EvSz e) ∧ (∀ e ∈ L, -9223372036854775808 ≤ e.vn ∧ e.vn ≤ 9223372036854775807) ∧ L.length ≤ 4294967296) := ⟨fun e he => ⟨Nat.le_trans (hok.1 e he).1 hbb, Nat.le_trans (hok.1 e he).2 hbb⟩, hok.2.1, by have := hok.2.2; have := HBN.out.1; have := HZ.out.2.2; omega⟩
      have HTy : Hid ((EvsT evs body.data.toList → takeS ⟨⟨0, 0, [], 0, evs⟩, at_, false⟩ body.data.toList = some ⟨⟨0, 0, [], 0, evs ++ L⟩, at_, false⟩) ∧ (¬ EvsT evs body.data.toList → takeS ⟨⟨0, 0, [], 0, evs⟩, at_, false⟩ body.data.toList = none)) := ⟨fun k => by rw [← hL]; exact take_one evs at_ _ hbb k, take_not evs at_ _ hbb hc2 HGF.out.1.n⟩
      have HEt : Hid (EvsT evs body.data.toList ↔ ((L ≠ [] ∧ L.length ≤ 64 ∧ L.all evOk = true ∧ bodyL L = body.data.toList) ∧ evs.length % 64 = 0 ∧ evs.length + L.length ≤ 1048576)) := by show _ ↔ _; rw [← hL]; exact Iff.rfl
      have HE := revents_f w4 body (by have := HBN.out.2.1; have := HZ.out.2.2; omega) hb0
      rw [hL] at HE
      clear hc2 hbb hL hok h2
      go_wp2_with fail
      refine HE.mono ?_
      rintro e w5 ⟨lv, rfl, hw5⟩
      obtain ⟨ql, cl, rfl, hcl, -⟩ := own_slice hw5.out.1
      have hS5 := H4.out.next hw5.out.2
      have hsep : ∀ g, (Value.slice ql L.length cl).ownBlock = some g → (Value.slice q evs.length cap).ownBlock ≠ some g := fun g h1 h2 => by
        have a1 := (hw5.out.1.lt g h1).1
        have a2 := (H4.out.own.lt g h2).2
        omega
      obtain ⟨m, hm⟩ : ∃ m, L.length = m := ⟨_, rfl⟩
      have H5 : Hid (SvI W R0 P (.slice q evs.length cap) evs w5 ∧ w5.ownsRow W.heap.size 37 6 (.slice ql m cl) m (L.flatMap ec) ∧ (∀ g, (Value.slice ql m cl).ownBlock = some g → (Value.slice q evs.length cap).ownBlock ≠ some g)) := ⟨hS5, own_down (by rw [← hm]; exact hw5.out.1) H4.out.bel.size, by rw [← hm]; exact hsep⟩
      have HM : Hid (L.length = m) := hm
      have hR5 : Row w5 w5.heap.size ql L.length (L.flatMap ec) := by rw [hm]; exact row_of_own H5.out.2.1
      have HRt := right_any w5 ql cl L hR5 HLz.out.1 (by have := HLz.out.2.2; omega)
      obtain ⟨T, hT⟩ : ∃ T, rightS L = T := ⟨_, rfl⟩
      have HT : Hid (rightS L = T) := hT
      rw [hm, hT] at HRt
      rw [hm]
      clear HE hw5 hS5 hsep hm hR5 hT H4 hcl
      go_wp2_with fail
      refine HRt.mono ?_
      rintro e w6 ⟨rfl, hw6⟩
      have H6 : Hid (SvI W R0 P (.slice q evs.length cap) evs w6 ∧ w6.ownsRow W.heap.size 37 6 (.slice ql m cl) m (L.flatMap ec) ∧ (∀ g, (Value.slice ql m cl).ownBlock = some g → (Value.slice q evs.length cap).ownBlock ≠ some g)) := ⟨H5.out.1.next hw6, own_next H5.out.2.1 hw6, H5.out.2.2⟩
      clear HRt hw6 H5
      cases T with
      | false =>
        have HS : Hid (sgS b.data.toList = (⟨0, 0, [], 0, evs⟩, at_, false)) := HGF.out.1.stop HGF.out.2 (HTy.out.2 (fun k => by
          have k1 := (HEt.out.1 k).1
          have := HT.out
          unfold rightS at this
          rw [k1.2.2.1, decide_eq_true ⟨List.length_pos_iff.2 k1.1, k1.2.1⟩] at this
          cases this))
        have HS9 : Hid (SvI W R0 P (.slice q evs.length cap) evs w6) := H6.out.1
        clear H6
        obtain ⟨f6, r6, b6⟩ := HS9.out.out
        simp only [World.setCells, Nat.zero_add, Nat.reduceAdd] at f6 r6 b6
        have HX : Hid (_ ∧ _ ∧ _) := ⟨f6, r6, b6⟩
        obtain ⟨⟨⟨p0, -⟩, ⟨p1, -⟩, p2, -⟩, ⟨p3, -⟩, p4, -⟩ := HS9.out.box.five2
        have hz0 := HS9.out.res
        unfold rcZ at hz0
        obtain ⟨⟨⟨z0, y0⟩, ⟨z1, y1⟩, z2, y2⟩, ⟨z3, y3⟩, z4, y4⟩ := hz0.five2
        clear f6 r6 b6 hz0 HS9
        go_wp2
        first | (change bodyPost Tryd.prog Tryd.f19 _ Exit.ret _ _) | (simp only [Exit.noGoto])
        refine bodyPost_ret (ret_sv HX.out.1 rfl rfl rfl) rfl ?_
        unfold SvP
        rw [HS.out]
        exact ⟨⟨_, rfl, HX.out.2.1⟩, HX.out.2.2⟩
      | true =>
        have hrt : (1 ≤ m ∧ m ≤ 64) ∧ L.all evOk = true := by
          have := HT.out
          unfold rightS at this
          rw [Bool.and_eq_true, decide_eq_true_eq, HM.out] at this
          exact this
        have hRo : Row w6 w6.heap.size ql L.length (L.flatMap ec) := by rw [HM.out]; exact row_of_own H6.out.2.1
        have HBd := rbody_any w6 ql cl L hRo ⟨fun e he => ⟨List.all_eq_true.1 hrt.2 e he, HLz.out.2.1 e he⟩, by rw [HM.out]; exact hrt.1.2⟩
        obtain ⟨bd, hbd⟩ : ∃ x : ByteArray, (⟨(bodyL L).toArray⟩ : ByteArray) = x := ⟨_, rfl⟩
        have hbdl : bd.data.toList = bodyL L := by rw [← hbd]
        rw [hbd, HM.out] at HBd
        have HRT : Hid ((1 ≤ m ∧ m ≤ 64) ∧ L.all evOk = true ∧ bd.data.toList = bodyL L) := ⟨hrt.1, hrt.2, hbdl⟩
        clear hrt hRo hbd hbdl HT
        go_wp2_with fail
        refine HBd.mono ?_
        rintro e w7 ⟨rfl, hw7⟩
        have H7 : Hid (SvI W R0 P (.slice q evs.length cap) evs w7 ∧ w7.ownsRow W.heap.size 37 6 (.slice ql m cl) m (L.flatMap ec) ∧ (∀ g, (Value.slice ql m cl).ownBlock = some g → (Value.slice q evs.length cap).ownBlock ≠ some g)) := ⟨H6.out.1.next hw7, own_next H6.out.2.1 hw7, H6.out.2.2⟩
        clear HBd hw7 H6
        by_cases hq : bd = body
        case neg =>
          have nr : ¬ bd.toList = body.toList := fun e => hq (by rw [toL, toL] at e; exact ByteArray.ext (Array.ext' e))
          have nq : (bd.toList == body.toList) = false := beq_eq_false_iff_ne.2 nr
          have HS : Hid (sgS b.data.toList = (⟨0, 0, [], 0, evs⟩, at_, false)) := HGF.out.1.stop HGF.out.2 (HTy.out.2 (fun k => hq (ByteArray.ext (Array.ext' (by rw [HRT.out.2.2]; exact (HEt.out.1 k).1.2.2.2)))))
          have HS9 : Hid (SvI W R0 P (.slice q evs.length cap) evs w7) := H7.out.1
          clear H7 hq
          obtain ⟨f6, r6, b6⟩ := HS9.out.out
          simp only [World.setCells, Nat.zero_add, Nat.reduceAdd] at f6 r6 b6
          have HX : Hid (_ ∧ _ ∧ _) := ⟨f6, r6, b6⟩
          obtain ⟨⟨⟨p0, -⟩, ⟨p1, -⟩, p2, -⟩, ⟨p3, -⟩, p4, -⟩ := HS9.out.box.five2
          have hz0 := HS9.out.res
          unfold rcZ at hz0
          obtain ⟨⟨⟨z0, y0⟩, ⟨z1, y1⟩, z2, y2⟩, ⟨z3, y3⟩, z4, y4⟩ := hz0.five2
          clear f6 r6 b6 hz0 HS9
          go_wp2
          first | (change bodyPost Tryd.prog Tryd.f19 _ Exit.ret _ _) | (simp only [Exit.noGoto])
          refine bodyPost_ret (ret_sv HX.out.1 rfl rfl rfl) rfl ?_
          unfold SvP
          rw [HS.out]
          exact ⟨⟨_, rfl, HX.out.2.1⟩, HX.out.2.2⟩
        subst hq
        have nq : (bd.toList == bd.toList) = true := beq_self_eq_true _
        obtain ⟨N, hN⟩ : ∃ N, evs.length = N := ⟨_, rfl⟩
        have HN : Hid (evs.length = N) := hN
        have hn := HGF.out.1.n
        rw [hN] at H7 hn
        have qN : (N : Int) ≤ 1048576 := by omega
        have qm : (m : Int) ≤ 64 := by have := HRT.out.1.2; omega
        have qN0 : (0 : Int) ≤ (N : Int) := by omega
        clear hN hn
        by_cases h64 : N % 64 = 0
        case neg =>
          have g64 : ¬ (N : Int) % 64 = 0 := by omega
          have HS : Hid (sgS b.data.toList = (⟨0, 0, [], 0, evs⟩, at_, false)) := HGF.out.1.stop HGF.out.2 (HTy.out.2 (fun k => h64 (by rw [← HN.out]; exact (HEt.out.1 k).2.1)))
          have HS9 : Hid (SvI W R0 P (.slice q N cap) evs w7) := H7.out.1
          clear H7 h64
          obtain ⟨f6, r6, b6⟩ := HS9.out.out
          simp only [World.setCells, Nat.zero_add, Nat.reduceAdd] at f6 r6 b6
          have HX : Hid (_ ∧ _ ∧ _) := ⟨f6, r6, b6⟩
          obtain ⟨⟨⟨p0, -⟩, ⟨p1, -⟩, p2, -⟩, ⟨p3, -⟩, p4, -⟩ := HS9.out.box.five2
          have hz0 := HS9.out.res
          unfold rcZ at hz0
          obtain ⟨⟨⟨z0, y0⟩, ⟨z1, y1⟩, z2, y2⟩, ⟨z3, y3⟩, z4, y4⟩ := hz0.five2
          clear f6 r6 b6 hz0 HS9
          go_wp2
          first | (change bodyPost Tryd.prog Tryd.f19 _ Exit.ret _ _) | (simp only [Exit.noGoto])
          refine bodyPost_ret (ret_sv HX.out.1 rfl rfl rfl) rfl ?_
          unfold SvP
          rw [HS.out]
          exact ⟨⟨_, rfl, HX.out.2.1⟩, HX.out.2.2⟩
        have g64 : (N : Int) % 64 = 0 := by omega
        by_cases hmx : N + m ≤ 1048576
        case neg =>
          have gmx : (1048576 : Int) < (N : Int) + (m : Int) := by omega
          have HS : Hid (sgS b.data.toList = (⟨0, 0, [], 0, evs⟩, at_, false)) := HGF.out.1.stop HGF.out.2 (HTy.out.2 (fun k => hmx (by rw [← HN.out, ← HM.out]; exact (HEt.out.1 k).2.2)))
          have HS9 : Hid (SvI W R0 P (.slice q N cap) evs w7) := H7.out.1
          clear H7 h64 hmx
          obtain ⟨f6, r6, b6⟩ := HS9.out.out
          simp only [World.setCells, Nat.zero_add, Nat.reduceAdd] at f6 r6 b6
          have HX : Hid (_ ∧ _ ∧ _) := ⟨f6, r6, b6⟩
          obtain ⟨⟨⟨p0, -⟩, ⟨p1, -⟩, p2, -⟩, ⟨p3, -⟩, p4, -⟩ := HS9.out.box.five2
          have hz0 := HS9.out.res
          unfold rcZ at hz0
          obtain ⟨⟨⟨z0, y0⟩, ⟨z1, y1⟩, z2, y2⟩, ⟨z3, y3⟩, z4, y4⟩ := hz0.five2
          clear f6 r6 b6 hz0 HS9
          go_wp2
          first | (change bodyPost Tryd.prog Tryd.f19 _ Exit.ret _ _) | (simp only [Exit.noGoto])
          refine bodyPost_ret (ret_sv HX.out.1 rfl rfl rfl) rfl ?_
          unfold SvP
          rw [HS.out]
          exact ⟨⟨_, rfl, HX.out.2.1⟩, HX.out.2.2⟩
        have gmx : ¬ (1048576 : Int) < (N : Int) + (m : Int) := by omega
        have HGo : Hid (SgI b.data.toList (evs ++ L) (at_ + (8 + bd.data.toList.length))) := HGF.out.1.go HGF.out.2 HRT.out.2.1 (by rw [HN.out, HM.out]; exact hmx) HLz.out.2.1 HLz.out.1 (HTy.out.1 (HEt.out.2 ⟨⟨fun e => by have := HRT.out.1.1; rw [← HM.out, e] at this; simp at this, by rw [HM.out]; exact HRT.out.1.2, HRT.out.2.1, HRT.out.2.2.symm⟩, by rw [HN.out]; exact h64, by rw [HN.out, HM.out]; exact hmx⟩))
        have HNm : Hid (evs.length = N ∧ N + m ≤ 1048576) := ⟨HN.out, hmx⟩
        have hz0 := H7.out.1.box.five2
        obtain ⟨-, -, p4, -⟩ := hz0
        have HL0 : Hid (SlI W R0 P evs L (.slice ql m cl) m 0 w7) := ⟨.slice q N cap, by rw [List.take_zero, List.append_nil]; exact H7.out.1, H7.out.2.1, H7.out.2.2⟩
        clear h64 hmx H7
        go_wp2_with fail
        clear g64 gmx
        go_loopg [15] (m) (fun gq v wr2 => ∃ i : Nat, v = .int .i64 (i : Int) ∧ i + gq = m ∧ Hid (SlI W R0 P evs L (.slice ql m cl) m i wr2))
        case atStart => exact ⟨0, rfl, Nat.zero_add _, HL0⟩
        case round =>
          obtain ⟨i, rfl, him, HQ⟩ := hrel
          clear HL0 p4
          by_cases hlt : i < m
          · have qi : (i : Int) < (m : Int) := by omega
            have q0i : (0 : Int) ≤ (i : Int) := by omega
            obtain ⟨e, he⟩ : ∃ e, L[i]? = some e := ⟨L[i]'(by rw [HM.out]; exact hlt), List.getElem?_eq_getElem _⟩
            have HMem : Hid (L[i]? = some e) := he
            obtain ⟨wd, hwd⟩ : ∃ wd, wr.drew = wd := ⟨_, rfl⟩
            have bd2 : Below wr.heap.size wr wd := by rw [← hwd]; exact (Below.refl _ _).drew
            obtain ⟨nvi, t1, t2, t3⟩ := HQ.out
            have t1 := t1.next bd2
            have t2 := own_next t2 bd2
            obtain ⟨g, o, rfl, hgB, hrg⟩ := row_of_own t2 (by omega)
            have cc : ∀ j v, (ec e)[j]? = some v → wd.cell? ⟨g, o + (i * 6 + j), none⟩ = some v := fun j v hv => hrg (i * 6 + j) v (ec_at L i e he j v hv)
            obtain ⟨k, en, nm, vk, vn, vs⟩ := e
            have c0 := cc 0 _ rfl
            have c1 := cc 1 _ rfl
            have c2 := cc 2 _ rfl
            have c3 := cc 3 _ rfl
            have c4 := cc 4 _ rfl
            have c5 := cc 5 _ rfl
            simp only [← Nat.add_assoc, Nat.add_zero] at c0 c1 c2 c3 c4 c5
            unfold sV at c2 c5
            obtain ⟨qn, cn, rfl, -, -⟩ := own_slice t1.own
            obtain ⟨N2, hN2⟩ : ∃ N2, (evs ++ L.take i).length = N2 := ⟨_, rfl⟩
            have hNl : N2 + 1 ≤ 100000000 := by
              have h1 := HNm.out
              rw [List.length_append, List.length_take, h1.1] at hN2
              omega
            obtain ⟨q9, k9, w9, r9, d9, x9, HK⟩ := t1.app ⟨k, en, nm, vk, vn, vs⟩ (by rw [hN2]; exact hNl)
            rw [hN2] at r9 d9 HK
            obtain ⟨-, -, p4, -⟩ := t1.box.five2
            rw [hN2] at p4
            have HKs : Hid (SlI W R0 P evs L (.slice (some ⟨g, o, none⟩) m cl) m (i + 1) (w9.setCell ⟨P, 4, none⟩ (.slice q9 (N2 + 1) k9))) := by
              rw [hN2] at t3
              have h := HK.out.2 _ _ _ _ t2 t3
              exact ⟨_, by rw [List.take_add_one, he, ← List.append_assoc]; exact HK.out.1, h.1, h.2⟩
            have r9 : (Builtin.append_ #[26, 26] 26 #[.slice qn N2 cn, .slice (some ⟨wd.heap.size, 0, none⟩) 1 1]).run Tryd.prog (wd.alloc (.cells #[.int .i64 k, .int .i64 en, .string ⟨nm.toArray⟩, .int .i64 vk, .int .i64 vn, .string ⟨vs.toArray⟩] 37)) = .ok (.slice q9 (N2 + 1) k9) w9 := r9
            have p4' := (t1.next ((Below.refl _ wd).alloc (Nat.le_refl _) (.cells #[.int .i64 k, .int .i64 en, .string ⟨nm.toArray⟩, .int .i64 vk, .int .i64 vn, .string ⟨vs.toArray⟩] 37))).box.five2.2.2.1
            rw [hN2] at p4'
            subst hwd
            have p4' : (wr.alloc (.cells #[.int .i64 k, .int .i64 en, .string ⟨nm.toArray⟩, .int .i64 vk, .int .i64 vn, .string ⟨vs.toArray⟩] 37)).cell? ⟨P, 4, none⟩ = some (.slice qn N2 cn) := p4'
            have r9 : (Builtin.append_ #[26, 26] 26 #[.slice qn N2 cn, .slice (some ⟨wr.heap.size, 0, none⟩) 1 1]).run Tryd.prog (wr.alloc (.cells #[.int .i64 k, .int .i64 en, .string ⟨nm.toArray⟩, .int .i64 vk, .int .i64 vn, .string ⟨vs.toArray⟩] 37)).drew = .ok (.slice q9 (N2 + 1) k9) w9 := r9
            have p4 : wr.cell? ⟨P, 4, none⟩ = some (.slice qn N2 cn) := p4
            have c0 : wr.cell? ⟨g, o + i * 6, none⟩ = some (.int .i64 k) := c0
            have c1 : wr.cell? ⟨g, o + i * 6 + 1, none⟩ = some (.int .i64 en) := c1
            have c2 : wr.cell? ⟨g, o + i * 6 + 2, none⟩ = some (.string ⟨nm.toArray⟩) := c2
            have c3 : wr.cell? ⟨g, o + i * 6 + 3, none⟩ = some (.int .i64 vk) := c3
            have c4 : wr.cell? ⟨g, o + i * 6 + 4, none⟩ = some (.int .i64 vn) := c4
            have c5 : wr.cell? ⟨g, o + i * 6 + 5, none⟩ = some (.string ⟨vs.toArray⟩) := c5
            clear t1 t2 t3 cc hrg he hN2 HK bd2 HQ hgB
            go_upto_region 34 with fail
            go_region_law (first
              | (refine step_run (by rfl) 26 (.tmp 162) (.tmp 167) (by rfl) _ _ _ _ (by rfl) (by rfl) r9 ?_)
              | fail)
            all_goals
              clear r9 d9 x9 p4 p4' c0 c1 c2 c3 c4 c5
              go_wp2
              go_roundg (gk - 1)
              case measure => omega
              case rel => exact ⟨i + 1, by go_num, by omega, HKs⟩
          · obtain rfl : i = m := by omega
            have qi : ¬ (i : Int) < (i : Int) := by omega
            obtain ⟨nvf, t1, -, -⟩ := HQ.out
            rw [List.take_of_length_le (by rw [HM.out]; exact Nat.le_refl _)] at t1
            obtain ⟨qf, cf, rfl, -, -⟩ := own_slice t1.own
            have HNew : Hid (SvI W R0 P (.slice qf (evs ++ L).length cf) (evs ++ L) wr ∧ SgI b.data.toList (evs ++ L) (at_ + (8 + bd.data.toList.length)) ∧ b.size - (at_ + (8 + bd.data.toList.length)) < kk) := ⟨t1, HGo.out, by have := HGK.out; have := HZ.out.2.1; have := HBN.out; omega⟩
            have HAt : Hid ((((at_ + (8 + bd.data.toList.length) : Nat)) : Int) = (at_ : Int) + 8 + (bd.size : Int)) := by show _ = _; rw [Lib.size_eq]; omega
            clear t1 HQ HGo
            go_wp2_with fail
            go_roundg kk
            case measure => exact Nat.lt_succ_self _
            case rel => exact ⟨_, _, _, _, by rw [HAt.out], HNew⟩
end Go.Proofs.YtdmiciblfbkndaaDoor

namespace Go.Proofs.YtdmiciblfbkndaaDoor
open Go.RowKit

theorem ret_sal {w : World} {R : Nat} {a b c d e : Value} {n x : Int} {tm : Array Value} (h : Full w R 28 [a, b, c, d, e]) (h2 : tm[2]?.getD undef = .pointer (some ⟨R, 0, none⟩)) (h3 : tm[3]?.getD undef = .int .i64 n) (h4 : tm[4]?.getD undef = .int .i64 x) : (results Tryd.f7 tm).run Tryd.prog w = .ok (.tuple #[.agg #[a, b, c, d, e], .int .i64 n, .int .i64 x]) w := by
  obtain ⟨⟨⟨r0, g0⟩, ⟨r1, g1⟩, r2, g2⟩, ⟨r3, g3⟩, r4, g4⟩ := h.five2
  simp [results, Tryd.results7, go_sem, h2, h3, h4, r0, r1, r2, r3, r4]
set_option maxRecDepth 100000 in
set_option maxHeartbeats 2000000 in
theorem salvage_any (W : World) (b : ByteArray) (hT : SumT W) (hb : b.size ≤ 140737488355328) :
    Calls Tryd.prog 7 #[.string b] W fun e w' => (∃ v, e = .returned (.tuple #[v, .int .i64 ((salS b.data.toList).2.1 : Int), .int .i64 (salS b.data.toList).2.2]) ∧ RcA W.heap.size w' (salS b.data.toList).1 v) ∧ Below W.heap.size W w' := by
  obtain ⟨X1, hX1⟩ : ∃ X, W.alloc (.cells rcZ.toArray 28) = X := ⟨_, rfl⟩
  obtain ⟨R, hR⟩ : ∃ R, W.heap.size = R := ⟨_, rfl⟩
  have b1 : Below W.heap.size W X1 := by rw [← hX1]; exact (Below.refl _ W).alloc (Nat.le_refl _) _
  have f1 : Full X1 R 28 rcZ := by rw [← hX1, ← hR]; exact Full.new W _ _
  have HC := follow_any all_ev X1 b (hT.next b1) hb
  unfold FollowOf at HC
  have H1 : Hid (Below W.heap.size W X1 ∧ Full X1 R 28 rcZ ∧ W.heap.size = R ∧ b.data.toList.length = b.size) := ⟨b1, f1, hR, (Lib.size_eq b).symm⟩
  simp only [rcZ] at hX1
  cases hf : followS b.data.toList with
  | none =>
    rw [hf] at HC
    simp only [wyZ] at HC
    have HV : Hid (salS b.data.toList = (rc0, 0, 250)) := by show salS _ = _; unfold salS; rw [hf]
    clear hf b1 f1 hT hb
    go_enter Tryd.func7, Tryd.ntmps7
    go_wp2_with fail
    refine HC.mono ?_
    rintro e w2 ⟨hb2, rfl⟩
    have f2 := H1.out.2.1.next hb2
    have b2 : Below W.heap.size W w2 := H1.out.1.trans (hb2.mono H1.out.1.size)
    have nb : Below w2.heap.size w2 (w2.alloc (.cells #[.int .i64 0, .int .i64 0, .string ⟨#[]⟩, .int .i64 0, .slice none 0 0, .int .i64 0, .bool false] 53)) := (Below.refl _ w2).alloc (Nat.le_refl _) _
    have f3 := f2.next nb
    have H3 : Hid (Full (w2.alloc (.cells #[.int .i64 0, .int .i64 0, .string ⟨#[]⟩, .int .i64 0, .slice none 0 0, .int .i64 0, .bool false] 53)) R 28 rcZ ∧ Below W.heap.size W (w2.alloc (.cells #[.int .i64 0, .int .i64 0, .string ⟨#[]⟩, .int .i64 0, .slice none 0 0, .int .i64 0, .bool false] 53))) := ⟨f3, b2.trans (nb.mono b2.size)⟩
    obtain ⟨⟨⟨r0, g0⟩, ⟨r1, g1⟩, r2, g2⟩, ⟨r3, g3⟩, r4, g4⟩ := f3.five2
    clear HC hb2 f2 b2 nb f3 hX1
    go_wp2_with fail
    generalize w2.alloc (.cells #[.int .i64 0, .int .i64 0, .string ⟨#[]⟩, .int .i64 0, .slice none 0 0, .int .i64 0, .bool false] 53) = X3 at H3 ⊢
    have f4 : Full (X3.setCells R 0 rcZ) R 28 rcZ := Full.put (a := []) (b := rcZ) (d := []) rcZ H3.out.1 rfl
    have b4 : Below W.heap.size W (X3.setCells R 0 rcZ) := below_sets H3.out.2 (Nat.le_of_eq H1.out.2.2.1) 0 _
    simp only [World.setCells, rcZ, Nat.zero_add, Nat.reduceAdd] at f4 b4
    refine bodyPost_ret (ret_sal f4 rfl rfl rfl) rfl ?_
    rw [HV.out]
    exact ⟨⟨_, rfl, RcA.zero _ _⟩, b4⟩
  | some w =>
    rw [hf] at HC
    have HV : Hid (salS b.data.toList = (w.rc, w.len, 0)) := by show salS _ = _; unfold salS; rw [hf]
    clear hf b1 f1 hT hb
    go_enter Tryd.func7, Tryd.ntmps7
    go_wp2_with fail
    refine HC.mono ?_
    rintro e w2 ⟨hb2, nv, rfl, ho⟩
    obtain ⟨qe, ce, rfl, -, -⟩ := own_slice ho
    obtain ⟨ne, hne⟩ : ∃ ne, w.rc.evs.length = ne := ⟨_, rfl⟩
    rw [hne] at ho ⊢
    obtain ⟨rc, ln, fin⟩ := w
    simp only [wyC, sV] at hne ho HV ⊢
    have nb : Below w2.heap.size w2 (w2.alloc (.cells #[.int .i64 rc.ph, .int .i64 rc.tr, .string ⟨rc.out.toArray⟩, .int .i64 rc.inp, .slice qe ne ce, .int .i64 (ln : Int), .bool fin] 53)) := (Below.refl _ w2).alloc (Nat.le_refl _) _
    have HLt : Hid (R < w2.heap.size) := (H1.out.2.1.next hb2).lt
    have f2 := (H1.out.2.1.next hb2).next nb
    have fD := Full.new w2 #[.int .i64 rc.ph, .int .i64 rc.tr, .string ⟨rc.out.toArray⟩, .int .i64 rc.inp, .slice qe ne ce, .int .i64 (ln : Int), .bool fin] 53
    have HN : Hid (rc.evs.length = ne) := hne
    have o3 := own_next ho nb
    have b2 : Below W.heap.size W w2 := H1.out.1.trans (hb2.mono H1.out.1.size)
    have H3 : Hid (Full (w2.alloc (.cells #[.int .i64 rc.ph, .int .i64 rc.tr, .string ⟨rc.out.toArray⟩, .int .i64 rc.inp, .slice qe ne ce, .int .i64 (ln : Int), .bool fin] 53)) R 28 rcZ ∧ Below W.heap.size W (w2.alloc (.cells #[.int .i64 rc.ph, .int .i64 rc.tr, .string ⟨rc.out.toArray⟩, .int .i64 rc.inp, .slice qe ne ce, .int .i64 (ln : Int), .bool fin] 53)) ∧ (w2.alloc (.cells #[.int .i64 rc.ph, .int .i64 rc.tr, .string ⟨rc.out.toArray⟩, .int .i64 rc.inp, .slice qe ne ce, .int .i64 (ln : Int), .bool fin] 53)).ownsRow X1.heap.size 37 6 (.slice qe ne ce) ne (rc.evs.flatMap ec)) := ⟨f2, b2.trans (nb.mono b2.size), o3⟩
    obtain ⟨⟨⟨r0, g0⟩, ⟨r1, g1⟩, r2, g2⟩, ⟨r3, g3⟩, r4, g4⟩ := f2.five2
    obtain ⟨⟨⟨⟨c0, -⟩, ⟨c1, -⟩, c2, -⟩, ⟨c3, -⟩, ⟨c4, -⟩, c5, -⟩, c6, -⟩ := fD.seven2
    clear HC hb2 f2 b2 nb fD hX1 o3 ho hne
    go_upto_region 4 with fail
    obtain ⟨D, hD⟩ : ∃ D, w2.heap.size = D := ⟨_, rfl⟩
    have HDR : Hid (D ≠ R) := by have := HLt.out; show D ≠ R; omega
    clear HLt
    rw [hD] at c0 c1 c2 c3 c4 c5 c6 ⊢
    generalize w2.alloc (.cells #[.int .i64 rc.ph, .int .i64 rc.tr, .string ⟨rc.out.toArray⟩, .int .i64 rc.inp, .slice qe ne ce, .int .i64 (ln : Int), .bool fin] 53) = X3 at *
    clear hD c6
    have f4 : Full (X3.setCells R 0 [.int .i64 rc.ph, .int .i64 rc.tr, .string ⟨rc.out.toArray⟩, .int .i64 rc.inp, .slice qe ne ce]) R 28 [.int .i64 rc.ph, .int .i64 rc.tr, .string ⟨rc.out.toArray⟩, .int .i64 rc.inp, .slice qe ne ce] := Full.put (a := []) (b := rcZ) (d := []) [.int .i64 rc.ph, .int .i64 rc.tr, .string ⟨rc.out.toArray⟩, .int .i64 rc.inp, .slice qe ne ce] H3.out.1 rfl
    have b4 : Below W.heap.size W (X3.setCells R 0 [.int .i64 rc.ph, .int .i64 rc.tr, .string ⟨rc.out.toArray⟩, .int .i64 rc.inp, .slice qe ne ce]) := below_sets H3.out.2.1 (Nat.le_of_eq H1.out.2.2.1) 0 _
    have o4 : (X3.setCells R 0 [.int .i64 rc.ph, .int .i64 rc.tr, .string ⟨rc.out.toArray⟩, .int .i64 rc.inp, .slice qe ne ce]).ownsRow W.heap.size 37 6 (.slice qe ne ce) ne (rc.evs.flatMap ec) := own_down (own_same H3.out.2.2 fun g hg => sets_heap (fun e => (own_blk H3.out.2.2 g hg).ne (⟨_, H3.out.1, Nat.zero_le _⟩ : Blk X3 R 28 0) (by decide) e) _ 0 X3) H1.out.1.size
    obtain ⟨Z, hZ⟩ : ∃ Z, X3.setCells R 0 [.int .i64 rc.ph, .int .i64 rc.tr, .string ⟨rc.out.toArray⟩, .int .i64 rc.inp, .slice qe ne ce] = Z := ⟨_, rfl⟩
    rw [hZ] at f4 b4 o4
    have nz : Below Z.heap.size Z Z.drew := (Below.refl _ Z).drew
    have H4 : Hid (Full Z.drew R 28 [.int .i64 rc.ph, .int .i64 rc.tr, .string ⟨rc.out.toArray⟩, .int .i64 rc.inp, .slice qe ne ce] ∧ Below W.heap.size W Z.drew ∧ Z.drew.ownsRow W.heap.size 37 6 (.slice qe ne ce) ne (rc.evs.flatMap ec)) := ⟨f4.next nz, b4.trans (nz.mono b4.size), own_next o4 nz⟩
    have z5 : Z.cell? ⟨D, 5, none⟩ = some (.int .i64 (ln : Int)) := by rw [← hZ]; exact (World.cell?_of_block (w := X3) (a := ⟨D, 5, none⟩) (sets_heap HDR.out _ 0 X3)).trans c5
    have z5d : Z.drew.cell? ⟨D, 5, none⟩ = some (.int .i64 (ln : Int)) := z5
    clear f4 b4 o4 H3 nz
    simp only [World.setCells, Nat.zero_add, Nat.reduceAdd] at hZ
    go_region_law (first | fail)
    all_goals
      clear c0 c1 c2 c3 c4 c5 r0 r1 r2 r3 r4 g0 g1 g2 g3 g4
      go_wp2
      refine bodyPost_ret (ret_sal H4.out.1 rfl rfl rfl) rfl ?_
      rw [HV.out]
      have b4 := H4.out.2.1
      have o4 := H4.out.2.2
      simp only [H1.out.2.2.1] at b4 o4 ⊢
      exact ⟨⟨_, rfl, .slice qe ne ce, rfl, by rw [HN.out]; exact o4⟩, b4⟩
end Go.Proofs.YtdmiciblfbkndaaDoor
