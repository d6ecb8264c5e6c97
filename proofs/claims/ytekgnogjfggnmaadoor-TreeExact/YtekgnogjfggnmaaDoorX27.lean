import Derived.Deep.RegionHeld3
import Derived.Test.YtekgnogjfggnmaaDoorX18
import Derived.Test.YtekgnogjfggnmaaDoorX20
namespace Go.Proofs.YtekgnogjfggnmaaDoor
open Go.RowKit

theorem same_rel (w : World) (p : Option Addr) (n cap : Nat) (p' : Option Addr) (n' cap' : Nat) (ha : ∃ A, Reads w p n A) (hb : ∃ B, Reads w p' n' B) (hk : KwAt w) :
    Calls Tryd.prog 9 #[.agg #[.slice p n cap], .agg #[.slice p' n' cap']] w fun e w' => (∃ b, e = .returned (.bool b) ∧ Hid (∀ A B, Reads w p n A → Reads w p' n' B → b = sameS A B)) ∧ Below w.heap.size w w' := by
  obtain ⟨A, hA⟩ := ha
  obtain ⟨B, hB⟩ := hb
  exact (same_any w p n cap p' n' cap' A B hA hB hk).mono fun e w' h => ⟨⟨_, h.1, fun A' B' hA' hB' => by rw [hA.eq hA', hB.eq hB']⟩, h.2⟩

theorem deep_any (w : World) (p : Option Addr) (n cap : Nat) (L : List Nd) (h : Reads w p n L) :
    Calls Tryd.prog 6 #[.agg #[.slice p n cap]] w fun e w' => AnyB e ∧ Below w.heap.size w w' := by
  obtain ⟨hf, rfl, hr⟩ := h
  by_cases hn : L.length ≤ 65536
  · exact deep_small w p L.length cap hn
  · obtain ⟨g, o, rfl, hl⟩ := hr (fun e => by rw [e] at hn; simp at hn)
    exact deep_big w g o cap L hf.len (by omega) hl

theorem alike_refl (x : Nd) : alikeB x x = true := by simp [alikeB]
theorem same_refl (L : List Nd) : sameL L L = true := same_yes rfl fun _ _ => alike_refl _
theorem one_tree : treeS nameS typeS [oneNd] = true := by decide
theorem one_same : sameS [oneNd] [oneNd] = true := by unfold sameS; rw [one_tree, same_refl]; rfl

set_option maxRecDepth 100000 in
set_option maxHeartbeats 1000000 in
theorem treeSame_any (w : World) (p : Option Addr) (n cap : Nat) (L : List Nd) (N At Kd It : Int) (Nm : ByteArray) (h : Arg w p n cap L) (hk : KwAt w) (hNm : Nm.size ≤ 140737488355328) :
    Calls Tryd.prog 3 #[.agg #[.slice p n cap, .int .i64 N, .int .i64 At, .int .i64 Kd, .int .i64 It, .string Nm]] w fun e w' => e = .returned (.bool true) ∧ Below w.heap.size w w' := by
  obtain ⟨w1, hw1⟩ : ∃ w1, w.alloc (.cells #[.slice p n cap, .int .i64 N, .int .i64 At, .int .i64 Kd, .int .i64 It, .string Nm] 27) = w1 := ⟨_, rfl⟩
  have B1 : Hid (Below w.heap.size w w1) := by rw [← hw1]; exact (Below.refl _ w).alloc (Nat.le_refl _) _
  have z1 : w.heap.size < w1.heap.size := by rw [← hw1]; simp
  have c0 : w1.cell? ⟨w.heap.size, 0, none⟩ = some (.slice p n cap) := by rw [← hw1]; exact cell_new _ _ _ _ _ rfl
  have C : Hid (∀ w', Below w1.heap.size w1 w' → w'.cell? ⟨w.heap.size, 0, none⟩ = some (.slice p n cap) ∧ w'.cell? ⟨w.heap.size, 1, none⟩ = some (.int .i64 N) ∧ w'.cell? ⟨w.heap.size, 2, none⟩ = some (.int .i64 At) ∧ w'.cell? ⟨w.heap.size, 3, none⟩ = some (.int .i64 Kd) ∧ w'.cell? ⟨w.heap.size, 4, none⟩ = some (.int .i64 It) ∧ w'.cell? ⟨w.heap.size, 5, none⟩ = some (.string Nm)) := fun w' hb => by
    have q : ∀ (k : Nat) (v : Value), #[.slice p n cap, .int .i64 N, .int .i64 At, .int .i64 Kd, .int .i64 It, .string Nm][k]? = some v → w'.cell? ⟨w.heap.size, k, none⟩ = some v := fun k v hv =>
      (hb.cell (p := ⟨w.heap.size, k, none⟩) z1).trans (by rw [← hw1]; exact cell_new _ _ _ _ _ hv)
    exact ⟨q 0 _ rfl, q 1 _ rfl, q 2 _ rfl, q 3 _ rfl, q 4 _ rfl, q 5 _ rfl⟩
  have HA : Hid (Arg w1 p n cap L) := h.next B1.out
  have HK : Hid (KwAt w1) := hk.next B1.out
  have HD : Hid (Calls Tryd.prog 6 #[.agg #[.slice p n cap]] w1 fun e w' => AnyB e ∧ Below w1.heap.size w1 w') := deep_any w1 p n cap L HA.out.reads
  have HT : Hid (∀ w', Below w1.heap.size w1 w' → Calls Tryd.prog 8 #[.agg #[.slice p n cap]] w' fun e w'' => (∃ p' cap', e = .returned (.agg #[.slice p' n cap']) ∧ Hid (Twn w' w'' L p')) ∧ Below w'.heap.size w' w'') := fun w' hb => twin_any w' p n cap L (HA.out.next hb)
  have HF : Hid (Fine L ∧ L.length = n) := ⟨h.reads.1, h.reads.2.1⟩
  clear h hk
  obtain ⟨tr, htr⟩ : ∃ tr, treeS nameS typeS L = tr := ⟨_, rfl⟩
  have HTR : Hid (treeS nameS typeS L = tr) := htr
  have HV : Hid (∀ (w' : World) (p' : Option Addr) (cap' : Nat), Below w1.heap.size w1 w' → Reads w' p' n L → Calls Tryd.prog 7 #[.agg #[.slice p' n cap']] w' fun e w'' => e = .returned (.int .i64 (if tr then 0 else 30)) ∧ Below w'.heap.size w' w'') := fun w' p' cap' hb hr => by
    rw [← htr]
    exact valid_any w' p' n cap' L hr (HK.out.next hb)
  clear htr
  have HS : Hid (∀ (w' : World) (p : Option Addr) (n cap : Nat) (p' : Option Addr) (n' cap' : Nat) (A B : List Nd), Below w1.heap.size w1 w' → Reads w' p n A → Reads w' p' n' B → Calls Tryd.prog 9 #[.agg #[.slice p n cap], .agg #[.slice p' n' cap']] w' fun e w'' => e = .returned (.bool (sameS A B)) ∧ Below w'.heap.size w' w'') := fun w' p n cap p' n' cap' A B hb ha hb' => same_any w' p n cap p' n' cap' A B ha hb' (HK.out.next hb)
  go_enter Tryd.func3, Tryd.ntmps3
  go_upto_region 3 with (first
    | (go_at_call 6; refine HD.out.mono ?_; rintro e w2 ⟨⟨db, rfl⟩, hb2⟩; have c2 := (C.out w2 hb2).1)
    | go_in)
  · go_ret
    exact ⟨rfl, B1.out.trans (hb2.mono (by omega))⟩
  have R0 : Hid (∀ (w' w'' : World) (p' : Option Addr), Twn w' w'' L p' → Reads w'' p' n L) := fun w' w'' p' ht => by
    have := ht.reads HF.out.1
    rw [HF.out.2] at this
    exact this
  have SV : Hid (∀ w' : World, Below w1.heap.size w1 w' → w'.cell? ⟨w.heap.size, 0, none⟩ = some (.slice p n cap) ∧ Below w1.heap.size w1 w') := fun w' hb => ⟨(C.out w' hb).1, hb⟩
  cases tr with
  | false =>
    clear HD
    go_upto_region 4 with (first
      | (go_at_call 8; refine (HT.out w2 hb2).mono ?_; rintro e w3 ⟨⟨p3, cap3, rfl, ht3⟩, hb3⟩; have hc3 := hb2.trans (hb3.mono hb2.size))
      | (go_at_call 7; refine (HV.out w3 p3 cap3 hc3 (R0.out w2 w3 p3 ht3.out)).mono ?_; rintro e w4 ⟨rfl, hb4⟩; have hc4 := hc3.trans (hb4.mono hc3.size); have d0 := (C.out w4 hc4).1)
      | go_in)
    have hcd : Below w1.heap.size w1 w4.drew := hc4.drew
    have hLL : sameS L L = false := by unfold sameS; rw [HTR.out]; rfl
    have hOO : sameS [oneNd] [oneNd] = true := one_same
    clear c0 c2 HV hw1
    go_region_held3 (fun w' => w'.cell? ⟨w.heap.size, 0, none⟩ = some (.slice p n cap) ∧ Below w1.heap.size w1 w') (exact SV.out _ (by assumption))
      (first
      | (go_at_call 8; refine (HT.out _ hcd).mono ?_; rintro e w5 ⟨⟨p5, cap5, rfl, ht5⟩, hb5⟩; replace hcd := hcd.trans (hb5.mono hcd.size); have rt5 : Hid (Reads w5 p5 n L) := R0.out _ _ _ ht5.out; clear ht5)
      | (go_at_call 10; refine (one_any _).mono ?_; rintro e w5 ⟨⟨p5, cap5, rfl, rt5⟩, hb5⟩; replace hcd := hcd.trans (hb5.mono hcd.size))
      | (go_at_call 9; refine (HS.out _ _ _ _ _ _ _ ?_ ?_ hcd ?_ ?_).mono ?_; rotate_left 2; (first | exact Hid.out (by assumption) | exact Reads.next (Hid.out (by assumption)) (by assumption)); (first | exact Hid.out (by assumption) | exact Reads.next (Hid.out (by assumption)) (by assumption)); rintro e w6 ⟨rfl, hb6⟩; replace hcd := hcd.trans (hb6.mono hcd.size); (try rewrite [hLL]); (try rewrite [hOO])))
    go_wp2
    go_ret
    exact ⟨rfl, B1.out.trans (hcd.mono (by omega))⟩
  | true =>
    clear HD
    go_upto_region 5 with (first
      | (go_at_call 8; refine (HT.out w2 hb2).mono ?_; rintro e w3 ⟨⟨p3, cap3, rfl, ht3⟩, hb3⟩; have hc3 := hb2.trans (hb3.mono hb2.size))
      | (go_at_call 7; refine (HV.out w3 p3 cap3 hc3 (R0.out w2 w3 p3 ht3.out)).mono ?_; rintro e w4 ⟨rfl, hb4⟩; have hc4 := hc3.trans (hb4.mono hc3.size))
      | go_in)
    obtain ⟨d0, d1, d2, d3, d4, d5⟩ := C.out w4 hc4
    have HLL : Hid (sameS L L = true) := by show _ = _; unfold sameS; rw [HTR.out, same_refl]; rfl
    clear c0 c2 HV hw1 ht3
    have hcd : Below w1.heap.size w1 w4.drew := hc4.drew
    by_cases hcond : N < 0 ∨ (n : Int) ≤ N ∨ At < 0
    · have hLL := HLL.out
      go_upto_region 6 with fail
      all_goals
        go_region_held3 (fun w' => w'.cell? ⟨w.heap.size, 0, none⟩ = some (.slice p n cap) ∧ Below w1.heap.size w1 w') (exact SV.out _ (by assumption))
          (first
          | (go_at_call 8; refine (HT.out _ hcd).mono ?_; rintro e w5 ⟨⟨p5, cap5, rfl, ht5⟩, hb5⟩; replace hcd := hcd.trans (hb5.mono hcd.size); have rt5 : Hid (Reads w5 p5 n L) := R0.out _ _ _ ht5.out; clear ht5)
          | (go_at_call 9; refine (HS.out _ _ _ _ _ _ _ ?_ ?_ hcd ?_ ?_).mono ?_; rotate_left 2; (first | exact Hid.out (by assumption) | exact Reads.next (Hid.out (by assumption)) (by assumption)); (first | exact Hid.out (by assumption) | exact Reads.next (Hid.out (by assumption)) (by assumption)); rintro e w6 ⟨rfl, hb6⟩; replace hcd := hcd.trans (hb6.mono hcd.size); (try rewrite [hLL])))
        go_wp2
        go_ret
        exact ⟨rfl, B1.out.trans (hcd.mono (by omega))⟩
    · obtain ⟨k, rfl⟩ : ∃ k : Nat, N = (k : Int) := ⟨N.toNat, by omega⟩
      have hkn : k < n := by omega
      have hAt : 0 ≤ At := by omega
      have hkL : k < L.length := by rw [HF.out.2]; exact hkn
      have HNE : Hid (L ≠ []) := fun e => by rw [e] at hkL; simp at hkL
      have HSP : Hid (sameS (L.modify k (fPos At)) L = true ∧ sameS L (L.modify k (fPos At)) = true) := same_pos hkL hAt HTR.out
      have HSQ : Hid (sameS (((L.modify k (fKind Kd)).modify k (fInt It)).modify k (fName Nm)) L = eqB (nd L k) Kd It Nm) := same_put Kd It Nm hkL HTR.out
      clear hcd
      go_upto_region 7 with fail
      go_upto_region 8 with (first
        | (go_at_call 8; refine (HT.out w4 hc4).mono ?_; rintro e w5 ⟨⟨p5, ca, rfl, ht5⟩, hb5⟩; obtain ⟨Ba, rfl, hBa, hla, hta⟩ := ht5.out HNE.out; have hc5 := hc4.trans (hb5.mono hc4.size))
        | go_in)
      clear ht5
      obtain ⟨w6, hw6⟩ : ∃ w6, w5.alloc (.cells #[.slice (some ⟨Ba, 0, none⟩) n ca] 24) = w6 := ⟨_, rfl⟩
      have b6 : Below w5.heap.size w5 w6 := by rw [← hw6]; exact (Below.refl _ w5).alloc (Nat.le_refl _) _
      have hc6 := hc5.trans (b6.mono hc5.size)
      have a6 : w6.cell? ⟨w5.heap.size, 0, none⟩ = some (.slice (some ⟨Ba, 0, none⟩) n ca) := by rw [← hw6]; exact cell_new _ _ _ _ _ rfl
      have hla6 := hla.next b6
      have hta6 : w6.there Ba 0 (L.length * 9) := fun j hj => ⟨by rw [b6.cell (p := ⟨Ba, 0 + j, none⟩) hla.lt]; exact (hta j hj).1, by rw [b6.frozen (p := ⟨Ba, 0 + j, none⟩) hla.lt]; exact (hta j hj).2⟩
      obtain ⟨d0, d1, d2, d3, d4, d5⟩ := C.out w6 hc6
      have q1 := hla6.c k hkL 1 _ rfl
      rw [Nat.zero_add] at q1
      have q2 := (hta6 (k * 9 + 1) (by omega)).2
      rw [Nat.zero_add] at q2
      obtain ⟨w7, hw7⟩ : ∃ w7, w6.setCell ⟨Ba, k * 9 + 1, none⟩ (.int .i64 At) = w7 := ⟨_, rfl⟩
      obtain ⟨hla7, hta7⟩ := lay_put hla6 hta6 k 1 (.int .i64 At) (fPos At) hkL (by omega) (put_pos _ _)
      rw [hw7] at hla7 hta7
      have z5 := hc5.size
      have zBa : w1.heap.size ≤ Ba := Nat.le_trans hc4.size hBa
      have hc7 : Below w1.heap.size w1 w7 := by rw [← hw7]; exact hc6.setCell (p := ⟨Ba, k * 9 + 1, none⟩) zBa _
      have zlt := hla.lt
      have a7 : w7.cell? ⟨w5.heap.size, 0, none⟩ = some (.slice (some ⟨Ba, 0, none⟩) n ca) := by
        rw [← hw7, World.cell?_setCell_other _ _ _ _ (fun e => by have := congrArg Addr.block e; simp only at this; omega)]
        exact a6
      have z57 : w5.heap.size < w7.heap.size := by rw [← hw7, size_set, ← hw6]; simp
      have RA7 : Hid (Reads w7 (some ⟨Ba, 0, none⟩) n (L.modify k (fPos At))) := ⟨fine_put HF.out.1 k _ hkL (fun _ h => h), by rw [List.length_modify]; exact HF.out.2, fun _ => ⟨Ba, 0, rfl, hla7⟩⟩
      have HC7 : Hid (Below w1.heap.size w1 w7) := hc7
      have i0 : (0 : Int) ≤ (k : Int) := by omega
      have i1 : (k : Int) < (n : Int) := by omega
      generalize (nd L k).pos = ps at *
      clear hta hta6 hta7 hla hla6 hla7 hc6 b6
      go_upto_region 9 with fail
      clear hw6 hw7 q1 q2 d0 d1 d2 d3 d4 d5 a6
      have SV7 : Hid (∀ w' : World, Below w7.heap.size w7 w' → w'.cell? ⟨w.heap.size, 0, none⟩ = some (.slice p n cap) ∧ w'.cell? ⟨w5.heap.size, 0, none⟩ = some (.slice (some ⟨Ba, 0, none⟩) n ca) ∧ Below w7.heap.size w7 w') := fun w' hb =>
        ⟨(C.out w' (HC7.out.trans (hb.mono HC7.out.size))).1, (hb.cell (p := ⟨w5.heap.size, 0, none⟩) z57).trans a7, hb⟩
      have hce : Below w7.heap.size w7 w7.drew := (Below.refl _ w7).drew
      have hcd : Below w1.heap.size w1 w7.drew := hc7.drew
      have hS1 := HSP.out.1
      have hS2 := HSP.out.2
      obtain ⟨d0, d1, d2, d3, d4, d5⟩ := C.out w7 hc7
      go_region_held3 (fun w' => w'.cell? ⟨w.heap.size, 0, none⟩ = some (.slice p n cap) ∧ w'.cell? ⟨w5.heap.size, 0, none⟩ = some (.slice (some ⟨Ba, 0, none⟩) n ca) ∧ Below w7.heap.size w7 w') (exact SV7.out _ (by assumption))
        (first
        | (go_at_call 8; refine (HT.out _ hcd).mono ?_; rintro e w8 ⟨⟨p8, cap8, rfl, ht8⟩, hb8⟩; replace hcd := hcd.trans (hb8.mono hcd.size); replace hce := hce.trans (hb8.mono hce.size); have rt8 : Hid (Reads w8 p8 n L) := R0.out _ _ _ ht8.out; clear ht8)
        | (go_at_call 9; refine (HS.out _ _ _ _ _ _ _ ?_ ?_ hcd ?_ ?_).mono ?_; rotate_left 2; (first | exact Hid.out (by assumption) | exact Reads.next (Hid.out (by assumption)) (by assumption)); (first | exact Hid.out (by assumption) | exact Reads.next (Hid.out (by assumption)) (by assumption)); rintro e w9 ⟨rfl, hb9⟩; replace hcd := hcd.trans (hb9.mono hcd.size); replace hce := hce.trans (hb9.mono hce.size); (try rewrite [hS1]); (try rewrite [hS2])))
      have RT9 : Hid (Below w1.heap.size w1 w9) := hcd
      obtain ⟨gT, oT, rfl, hlT⟩ := HA.out.reads.2.2 HNE.out
      have HLT : Hid (Lay w1 gT oT L) := hlT
      clear hlT hce SV7 d0 d1 d2 d3 d4 d5 RA7 HC7 a7
      obtain ⟨d0, d1, d2, d3, d4, d5⟩ := C.out w9 hcd
      go_upto_region 11 with fail
      go_upto_region 12 with (first
        | (go_at_call 8; refine (HT.out w9 hcd).mono ?_; rintro e w10 ⟨⟨p10, cb, rfl, ht10⟩, hb10⟩; obtain ⟨Bb, rfl, hBb, hlb, htb⟩ := ht10.out HNE.out; have hc10 := hcd.trans (hb10.mono hcd.size))
        | go_in)
      clear ht10
      obtain ⟨w11, hw11⟩ : ∃ w11, w10.alloc (.cells #[.slice (some ⟨Bb, 0, none⟩) n cb] 24) = w11 := ⟨_, rfl⟩
      have b11 : Below w10.heap.size w10 w11 := by rw [← hw11]; exact (Below.refl _ w10).alloc (Nat.le_refl _) _
      have z11 : w10.heap.size < w11.heap.size := by rw [← hw11]; simp
      have hc11 := hc10.trans (b11.mono hc10.size)
      have a11 : w11.cell? ⟨w10.heap.size, 0, none⟩ = some (.slice (some ⟨Bb, 0, none⟩) n cb) := by rw [← hw11]; exact cell_new _ _ _ _ _ rfl
      have l11 := hlb.next b11
      have t11 : w11.there Bb 0 (L.length * 9) := fun j hj => ⟨by rw [b11.cell (p := ⟨Bb, 0 + j, none⟩) hlb.lt]; exact (htb j hj).1, by rw [b11.frozen (p := ⟨Bb, 0 + j, none⟩) hlb.lt]; exact (htb j hj).2⟩
      have zBb : w1.heap.size ≤ Bb := Nat.le_trans hcd.size hBb
      have zlb := hlb.lt
      obtain ⟨w12, hw12⟩ : ∃ w12, w11.setCell ⟨Bb, k * 9 + 0, none⟩ (.int .i64 Kd) = w12 := ⟨_, rfl⟩
      obtain ⟨l12, t12⟩ := lay_put l11 t11 k 0 (.int .i64 Kd) (fKind Kd) hkL (by omega) (put_kind _ _)
      rw [hw12] at l12 t12
      have k12 : k < (L.modify k (fKind Kd)).length := by simpa using hkL
      obtain ⟨w13, hw13⟩ : ∃ w13, w12.setCell ⟨Bb, k * 9 + 6, none⟩ (.int .i64 It) = w13 := ⟨_, rfl⟩
      obtain ⟨l13, t13⟩ := lay_put l12 t12 k 6 (.int .i64 It) (fInt It) k12 (by omega) (put_int _ _)
      rw [hw13] at l13 t13
      have k13 : k < ((L.modify k (fKind Kd)).modify k (fInt It)).length := by simpa using hkL
      obtain ⟨w14, hw14⟩ : ∃ w14, w13.setCell ⟨Bb, k * 9 + 2, none⟩ (.string Nm) = w14 := ⟨_, rfl⟩
      obtain ⟨l14, t14⟩ := lay_put l13 t13 k 2 (.string Nm) (fName Nm) k13 (by omega) (put_name _ _)
      rw [hw14] at l14 t14
      have s11 : ∃ v, w11.cell? ⟨Bb, k * 9, none⟩ = some v := by have := (t11 (k * 9) (by omega)).1; rw [Nat.zero_add] at this; exact Option.isSome_iff_exists.1 this
      have g11 : w11.frozen? ⟨Bb, k * 9, none⟩ = false := by have := (t11 (k * 9) (by omega)).2; rwa [Nat.zero_add] at this
      have n12 : (L.modify k (fKind Kd)).length * 9 = L.length * 9 := by simp
      have n13 : ((L.modify k (fKind Kd)).modify k (fInt It)).length * 9 = L.length * 9 := by simp
      have s12 : ∃ v, w12.cell? ⟨Bb, k * 9 + 6, none⟩ = some v := by have := (t12 (k * 9 + 6) (by omega)).1; rw [Nat.zero_add] at this; exact Option.isSome_iff_exists.1 this
      have g12 : w12.frozen? ⟨Bb, k * 9 + 6, none⟩ = false := by have := (t12 (k * 9 + 6) (by omega)).2; rwa [Nat.zero_add] at this
      have s13 : ∃ v, w13.cell? ⟨Bb, k * 9 + 2, none⟩ = some v := by have := (t13 (k * 9 + 2) (by omega)).1; rw [Nat.zero_add] at this; exact Option.isSome_iff_exists.1 this
      have g13 : w13.frozen? ⟨Bb, k * 9 + 2, none⟩ = false := by have := (t13 (k * 9 + 2) (by omega)).2; rwa [Nat.zero_add] at this
      obtain ⟨v11, s11⟩ := s11
      obtain ⟨v12, s12⟩ := s12
      obtain ⟨v13, s13⟩ := s13
      have hc12 : Below w1.heap.size w1 w12 := by rw [← hw12]; exact hc11.setCell (p := ⟨Bb, k * 9 + 0, none⟩) zBb _
      have hc13 : Below w1.heap.size w1 w13 := by rw [← hw13]; exact hc12.setCell (p := ⟨Bb, k * 9 + 6, none⟩) zBb _
      have hc14 : Below w1.heap.size w1 w14 := by rw [← hw14]; exact hc13.setCell (p := ⟨Bb, k * 9 + 2, none⟩) zBb _
      have ne : ∀ (W : World) (o : Nat) (v : Value), (W.setCell ⟨Bb, o, none⟩ v).cell? ⟨w10.heap.size, 0, none⟩ = W.cell? ⟨w10.heap.size, 0, none⟩ := fun W o v => World.cell?_setCell_other _ _ _ _ (fun e => by have := congrArg Addr.block e; simp only at this; omega)
      have a12 : w12.cell? ⟨w10.heap.size, 0, none⟩ = some (.slice (some ⟨Bb, 0, none⟩) n cb) := by rw [← hw12, ne]; exact a11
      have a13 : w13.cell? ⟨w10.heap.size, 0, none⟩ = some (.slice (some ⟨Bb, 0, none⟩) n cb) := by rw [← hw13, ne]; exact a12
      have a14 : w14.cell? ⟨w10.heap.size, 0, none⟩ = some (.slice (some ⟨Bb, 0, none⟩) n cb) := by rw [← hw14, ne]; exact a13
      have z14 : w10.heap.size < w14.heap.size := by rw [← hw14, size_set, ← hw13, size_set, ← hw12, size_set]; exact z11
      rw [Nat.add_zero] at hw12
      obtain ⟨x, hx⟩ : ∃ x, nd L k = x := ⟨_, rfl⟩
      have hx3 : nd (((L.modify k (fKind Kd)).modify k (fInt It)).modify k (fName Nm)) k = fName Nm (fInt It (fKind Kd x)) := by
        rw [nd_modify _ k k _ k13, if_pos rfl, nd_modify _ k k _ k12, if_pos rfl, nd_modify _ k k _ hkL, if_pos rfl, hx]
      have NB := l14.c k (by simpa using hkL)
      rw [hx3] at NB
      have NT := (HLT.out.next hc14).c k hkL
      rw [hx] at NT HSQ
      have RB14 : Hid (Reads w14 (some ⟨Bb, 0, none⟩) n (((L.modify k (fKind Kd)).modify k (fInt It)).modify k (fName Nm))) :=
        ⟨fine_put (fine_put (fine_put HF.out.1 k (fKind Kd) hkL (fun _ h => h)) k (fInt It) k12 (fun _ h => h)) k (fName Nm) k13 (fun _ h => ⟨hNm, h.2⟩), by simp only [List.length_modify]; exact HF.out.2, fun _ => ⟨Bb, 0, rfl, l14⟩⟩
      clear hx hx3 l11 l12 l13 t11 t12 t13 t14 hlb htb b11 ne
      obtain ⟨kd, ps', nm, lb, ty, op, it, tx, zz⟩ := x
      obtain ⟨d0, d1, d2, d3, d4, d5⟩ := C.out w11 hc11
      obtain ⟨e0, e1, e2, e3, e4, e5⟩ := C.out w12 hc12
      obtain ⟨f0, f1, f2, f3, f4, f5⟩ := C.out w13 hc13
      clear d0 d2 d4 d5 e0 e2 e3 e5 f0 f2 f3 f4
      go_upto_region 15 with fail
      have zT : gT < w14.heap.size := (HLT.out.next hc14).lt
      have zB : Bb < w14.heap.size := l14.lt
      have nb0 : w14.cell? ⟨Bb, k * 9, none⟩ = some (.int .i64 Kd) := by have := NB 0 _ rfl; rwa [Nat.zero_add] at this
      have nb1 : w14.cell? ⟨Bb, k * 9 + 1, none⟩ = some (.int .i64 ps') := by have := NB 1 _ rfl; rwa [Nat.zero_add] at this
      have nb2 : w14.cell? ⟨Bb, k * 9 + 2, none⟩ = some (.string Nm) := by have := NB 2 _ rfl; rwa [Nat.zero_add] at this
      have nb3 : w14.cell? ⟨Bb, k * 9 + 3, none⟩ = some (.string lb) := by have := NB 3 _ rfl; rwa [Nat.zero_add] at this
      have nb4 : w14.cell? ⟨Bb, k * 9 + 4, none⟩ = some (.string ty) := by have := NB 4 _ rfl; rwa [Nat.zero_add] at this
      have nb5 : w14.cell? ⟨Bb, k * 9 + 5, none⟩ = some (.int .i64 op) := by have := NB 5 _ rfl; rwa [Nat.zero_add] at this
      have nb6 : w14.cell? ⟨Bb, k * 9 + 6, none⟩ = some (.int .i64 It) := by have := NB 6 _ rfl; rwa [Nat.zero_add] at this
      have nb7 : w14.cell? ⟨Bb, k * 9 + 7, none⟩ = some (.string tx) := by have := NB 7 _ rfl; rwa [Nat.zero_add] at this
      have nb8 : w14.cell? ⟨Bb, k * 9 + 8, none⟩ = some (.int .i64 zz) := by have := NB 8 _ rfl; rwa [Nat.zero_add] at this
      have nt0 : w14.cell? ⟨gT, oT + k * 9, none⟩ = some (.int .i64 kd) := NT 0 _ rfl
      have nt1 : w14.cell? ⟨gT, oT + k * 9 + 1, none⟩ = some (.int .i64 ps') := NT 1 _ rfl
      have nt2 : w14.cell? ⟨gT, oT + k * 9 + 2, none⟩ = some (.string nm) := NT 2 _ rfl
      have nt3 : w14.cell? ⟨gT, oT + k * 9 + 3, none⟩ = some (.string lb) := NT 3 _ rfl
      have nt4 : w14.cell? ⟨gT, oT + k * 9 + 4, none⟩ = some (.string ty) := NT 4 _ rfl
      have nt5 : w14.cell? ⟨gT, oT + k * 9 + 5, none⟩ = some (.int .i64 op) := NT 5 _ rfl
      have nt6 : w14.cell? ⟨gT, oT + k * 9 + 6, none⟩ = some (.int .i64 it) := NT 6 _ rfl
      have nt7 : w14.cell? ⟨gT, oT + k * 9 + 7, none⟩ = some (.string tx) := NT 7 _ rfl
      have nt8 : w14.cell? ⟨gT, oT + k * 9 + 8, none⟩ = some (.int .i64 zz) := NT 8 _ rfl
      have SV14 : Hid (∀ w' : World, Below w14.heap.size w14 w' → w'.cell? ⟨w.heap.size, 0, none⟩ = some (.slice (some ⟨gT, oT, none⟩) n cap) ∧ w'.cell? ⟨w.heap.size, 1, none⟩ = some (.int .i64 (k : Int)) ∧ w'.cell? ⟨w10.heap.size, 0, none⟩ = some (.slice (some ⟨Bb, 0, none⟩) n cb) ∧ w'.cell? ⟨Bb, k * 9, none⟩ = some (.int .i64 Kd) ∧ w'.cell? ⟨Bb, k * 9 + 1, none⟩ = some (.int .i64 ps') ∧ w'.cell? ⟨Bb, k * 9 + 2, none⟩ = some (.string Nm) ∧ w'.cell? ⟨Bb, k * 9 + 3, none⟩ = some (.string lb) ∧ w'.cell? ⟨Bb, k * 9 + 4, none⟩ = some (.string ty) ∧ w'.cell? ⟨Bb, k * 9 + 5, none⟩ = some (.int .i64 op) ∧ w'.cell? ⟨Bb, k * 9 + 6, none⟩ = some (.int .i64 It) ∧ w'.cell? ⟨Bb, k * 9 + 7, none⟩ = some (.string tx) ∧ w'.cell? ⟨Bb, k * 9 + 8, none⟩ = some (.int .i64 zz) ∧ w'.cell? ⟨gT, oT + k * 9, none⟩ = some (.int .i64 kd) ∧ w'.cell? ⟨gT, oT + k * 9 + 1, none⟩ = some (.int .i64 ps') ∧ w'.cell? ⟨gT, oT + k * 9 + 2, none⟩ = some (.string nm) ∧ w'.cell? ⟨gT, oT + k * 9 + 3, none⟩ = some (.string lb) ∧ w'.cell? ⟨gT, oT + k * 9 + 4, none⟩ = some (.string ty) ∧ w'.cell? ⟨gT, oT + k * 9 + 5, none⟩ = some (.int .i64 op) ∧ w'.cell? ⟨gT, oT + k * 9 + 6, none⟩ = some (.int .i64 it) ∧ w'.cell? ⟨gT, oT + k * 9 + 7, none⟩ = some (.string tx) ∧ w'.cell? ⟨gT, oT + k * 9 + 8, none⟩ = some (.int .i64 zz) ∧ Below w14.heap.size w14 w') := fun w' hb =>
        ⟨(C.out w' (hc14.trans (hb.mono hc14.size))).1, (C.out w' (hc14.trans (hb.mono hc14.size))).2.1, (hb.cell (p := ⟨w10.heap.size, 0, none⟩) z14).trans a14, (hb.cell (p := ⟨Bb, k * 9, none⟩) zB).trans nb0, (hb.cell (p := ⟨Bb, k * 9 + 1, none⟩) zB).trans nb1, (hb.cell (p := ⟨Bb, k * 9 + 2, none⟩) zB).trans nb2, (hb.cell (p := ⟨Bb, k * 9 + 3, none⟩) zB).trans nb3, (hb.cell (p := ⟨Bb, k * 9 + 4, none⟩) zB).trans nb4, (hb.cell (p := ⟨Bb, k * 9 + 5, none⟩) zB).trans nb5, (hb.cell (p := ⟨Bb, k * 9 + 6, none⟩) zB).trans nb6, (hb.cell (p := ⟨Bb, k * 9 + 7, none⟩) zB).trans nb7, (hb.cell (p := ⟨Bb, k * 9 + 8, none⟩) zB).trans nb8, (hb.cell (p := ⟨gT, oT + k * 9, none⟩) zT).trans nt0, (hb.cell (p := ⟨gT, oT + k * 9 + 1, none⟩) zT).trans nt1, (hb.cell (p := ⟨gT, oT + k * 9 + 2, none⟩) zT).trans nt2, (hb.cell (p := ⟨gT, oT + k * 9 + 3, none⟩) zT).trans nt3, (hb.cell (p := ⟨gT, oT + k * 9 + 4, none⟩) zT).trans nt4, (hb.cell (p := ⟨gT, oT + k * 9 + 5, none⟩) zT).trans nt5, (hb.cell (p := ⟨gT, oT + k * 9 + 6, none⟩) zT).trans nt6, (hb.cell (p := ⟨gT, oT + k * 9 + 7, none⟩) zT).trans nt7, (hb.cell (p := ⟨gT, oT + k * 9 + 8, none⟩) zT).trans nt8, hb⟩
      obtain ⟨qq, hqq⟩ : ∃ qq, eqB ⟨kd, ps', nm, lb, ty, op, it, tx, zz⟩ Kd It Nm = qq := ⟨_, rfl⟩
      have hSQ := HSQ.out
      rw [hqq] at hSQ
      have HEQ : Hid (((Kd == kd) && (Nm.toList == nm.toList) && (It == it)) = qq) := hqq
      have heq : ∀ w : World, (binOp BinOp.eql 36 (.agg #[.int .i64 Kd, .int .i64 ps', .string Nm, .string lb, .string ty, .int .i64 op, .int .i64 It, .string tx, .int .i64 zz]) (.agg #[.int .i64 kd, .int .i64 ps', .string nm, .string lb, .string ty, .int .i64 op, .int .i64 it, .string tx, .int .i64 zz])).run Tryd.prog w = .ok (.bool qq) w := fun w => by
        rw [← HEQ.out]
        exact eql9 Kd It kd ps' op it zz Nm nm lb ty tx w
      clear hqq NB NT HSQ hw11 hw12 hw13 hw14 a11 a12 a13 s11 s12 s13 g11 g12 g13 d1 d3 e1 e4 f1 f5 hc11 hc12 hc13 l14
      have hce : Below w14.heap.size w14 w14.drew := (Below.refl _ w14).drew
      have hcd : Below w1.heap.size w1 w14.drew := hc14.drew
      go_region_held3 (fun w' => w'.cell? ⟨w.heap.size, 0, none⟩ = some (.slice (some ⟨gT, oT, none⟩) n cap) ∧ w'.cell? ⟨w.heap.size, 1, none⟩ = some (.int .i64 (k : Int)) ∧ w'.cell? ⟨w10.heap.size, 0, none⟩ = some (.slice (some ⟨Bb, 0, none⟩) n cb) ∧ w'.cell? ⟨Bb, k * 9, none⟩ = some (.int .i64 Kd) ∧ w'.cell? ⟨Bb, k * 9 + 1, none⟩ = some (.int .i64 ps') ∧ w'.cell? ⟨Bb, k * 9 + 2, none⟩ = some (.string Nm) ∧ w'.cell? ⟨Bb, k * 9 + 3, none⟩ = some (.string lb) ∧ w'.cell? ⟨Bb, k * 9 + 4, none⟩ = some (.string ty) ∧ w'.cell? ⟨Bb, k * 9 + 5, none⟩ = some (.int .i64 op) ∧ w'.cell? ⟨Bb, k * 9 + 6, none⟩ = some (.int .i64 It) ∧ w'.cell? ⟨Bb, k * 9 + 7, none⟩ = some (.string tx) ∧ w'.cell? ⟨Bb, k * 9 + 8, none⟩ = some (.int .i64 zz) ∧ w'.cell? ⟨gT, oT + k * 9, none⟩ = some (.int .i64 kd) ∧ w'.cell? ⟨gT, oT + k * 9 + 1, none⟩ = some (.int .i64 ps') ∧ w'.cell? ⟨gT, oT + k * 9 + 2, none⟩ = some (.string nm) ∧ w'.cell? ⟨gT, oT + k * 9 + 3, none⟩ = some (.string lb) ∧ w'.cell? ⟨gT, oT + k * 9 + 4, none⟩ = some (.string ty) ∧ w'.cell? ⟨gT, oT + k * 9 + 5, none⟩ = some (.int .i64 op) ∧ w'.cell? ⟨gT, oT + k * 9 + 6, none⟩ = some (.int .i64 it) ∧ w'.cell? ⟨gT, oT + k * 9 + 7, none⟩ = some (.string tx) ∧ w'.cell? ⟨gT, oT + k * 9 + 8, none⟩ = some (.int .i64 zz) ∧ Below w14.heap.size w14 w') (exact SV14.out _ (by assumption))
        (first
        | (go_at_call 8; refine (HT.out _ hcd).mono ?_; rintro e w15 ⟨⟨p15, cap15, rfl, ht15⟩, hb15⟩; replace hcd := hcd.trans (hb15.mono hcd.size); replace hce := hce.trans (hb15.mono hce.size); have rt15 : Hid (Reads w15 p15 n L) := R0.out _ _ _ ht15.out; clear ht15)
        | (go_at_call 9; refine (HS.out _ _ _ _ _ _ _ ?_ ?_ hcd ?_ ?_).mono ?_; rotate_left 2; (first | exact Hid.out (by assumption) | exact Reads.next (Hid.out (by assumption)) (by assumption)); (first | exact Hid.out (by assumption) | exact Reads.next (Hid.out (by assumption)) (by assumption)); rintro e w16 ⟨rfl, hb16⟩; replace hcd := hcd.trans (hb16.mono hcd.size); replace hce := hce.trans (hb16.mono hce.size); rewrite [hSQ]))
      go_wp2
      go_ret
      exact ⟨rfl, B1.out.trans (hcd.mono (by omega))⟩

end Go.Proofs.YtekgnogjfggnmaaDoor
