import Derived.Test.YtekgnogjfggnmaaGreatDoorN43
namespace Go.Proofs.YtekgnogjfggnmaaGreatDoor
open Go.RowKit
set_option maxRecDepth 100000
set_option maxHeartbeats 8000000
theorem next_no (r : List UInt8) (w : World) (T : TypeId) (p : Value) (h : RTab w T p) (hn : nxtW r = none) : Calls Tryz.prog 93 #[.string (bk r)] w fun e w' => Out e T p ∧ Below w.heap.size w w' := by
 have := nextWord_any (bk r) w T p h.n
 rw [bk_list, hn] at this
 exact this.mono fun e w' q => ⟨q.1.out, q.2⟩
theorem next_yes (r a b : List UInt8) (w : World) (T : TypeId) (p : Value) (h : RTab w T p) (hn : nxtW r = some (a, b)) : Calls Tryz.prog 93 #[.string (bk r)] w fun e w' => e = .returned (.tuple #[.string (bk a), .string (bk b)]) ∧ Below w.heap.size w w' := by
 have := nextWord_any (bk r) w T p h.n
 rw [bk_list, hn] at this
 exact this.mono fun e w' q => ⟨q.1.out, q.2⟩
theorem fill_no (a : List UInt8) (w : World) (T : TypeId) (p : Value) (h : RTab w T p) (ha : a.length ≤ 4194304) (hn : fillS a = none) : Calls Tryz.prog 94 #[.string (bk a)] w fun e w' => Out e T p ∧ Below w.heap.size w w' := by
 have := readFilled_any (bk a) w T p h.n (by rw [bk_size]; omega)
 rw [bk_list, hn] at this
 exact this.mono fun e w' q => ⟨q.1.out, q.2⟩
theorem fill_yes (a v : List UInt8) (w : World) (T : TypeId) (p : Value) (h : RTab w T p) (ha : a.length ≤ 4194304) (hn : fillS a = some v) : Calls Tryz.prog 94 #[.string (bk a)] w fun e w' => e = .returned (.string (bk v)) ∧ Below w.heap.size w w' := by
 have := readFilled_any (bk a) w T p h.n (by rw [bk_size]; omega)
 rw [bk_list, hn] at this
 exact this.mono fun e w' q => ⟨q.1.out, q.2⟩
theorem num_no (a : List UInt8) (w : World) (T : TypeId) (p : Value) (h : RTab w T p) (ha : a.length ≤ 4194304) (hn : numS a = none) : Calls Tryz.prog 64 #[.string (bk a)] w fun e w' => Out e T p ∧ Below w.heap.size w w' := by
 have := readNumber_any (bk a) w T p h.n h.d.ten h.size h.err (by rw [bk_size]; omega)
 rw [bk_list, hn] at this
 exact this.mono fun e w' q => ⟨q.1.out, q.2⟩
theorem num_yes (a : List UInt8) (v : Int) (w : World) (T : TypeId) (p : Value) (h : RTab w T p) (ha : a.length ≤ 4194304) (hn : numS a = some v) : Calls Tryz.prog 64 #[.string (bk a)] w fun e w' => e = .returned (.int .i64 v) ∧ Below w.heap.size w w' := by
 have := readNumber_any (bk a) w T p h.n h.d.ten h.size h.err (by rw [bk_size]; omega)
 rw [bk_list, hn] at this
 exact this.mono fun e w' q => ⟨q.1.out, q.2⟩
theorem oper_no (a : List UInt8) (lo hi : Int) (w : World) (T : TypeId) (p : Value) (h : RTab w T p) (b1 : 1 ≤ lo) (b2 : lo ≤ hi) (b3 : hi ≤ 15) (hn : opS lo hi a = none) : Calls Tryz.prog 95 #[.string (bk a), .int .i64 lo, .int .i64 hi] w fun e w' => Out e T p ∧ Below w.heap.size w w' := by
 have := readOp_any (bk a) lo hi w T p h.n h.d b1 b2 b3
 rw [bk_list, hn] at this
 exact this.mono fun e w' q => ⟨q.1.out, by rw [← q.2]; exact Below.refl _ _⟩
theorem oper_yes (a : List UInt8) (lo hi v : Int) (w : World) (T : TypeId) (p : Value) (h : RTab w T p) (b1 : 1 ≤ lo) (b2 : lo ≤ hi) (b3 : hi ≤ 15) (hn : opS lo hi a = some v) : Calls Tryz.prog 95 #[.string (bk a), .int .i64 lo, .int .i64 hi] w fun e w' => e = .returned (.int .i64 v) ∧ Below w.heap.size w w' := by
 have := readOp_any (bk a) lo hi w T p h.n h.d b1 b2 b3
 rw [bk_list, hn] at this
 exact this.mono fun e w' q => ⟨q.1.out, by rw [← q.2]; exact Below.refl _ _⟩
theorem text_no (r : List UInt8) (w : World) (T : TypeId) (p : Value) (h : RTab w T p) (hr : r.length ≤ 4194304) (hn : txtS (cutB r) = none) : Calls Tryz.prog 96 #[.string (bk r)] w fun e w' => Out e T p ∧ Below w.heap.size w w' := by
 have := readText_any (bk r) w T p h.n h.l (by rw [bk_size]; exact hr)
 rw [bk_list, hn] at this
 exact this.mono fun e w' q => ⟨q.1.out, q.2⟩
theorem text_yes (r v : List UInt8) (w : World) (T : TypeId) (p : Value) (h : RTab w T p) (hr : r.length ≤ 4194304) (hn : txtS (cutB r) = some v) : Calls Tryz.prog 96 #[.string (bk r)] w fun e w' => e = .returned (.string (bk v)) ∧ Below w.heap.size w w' := by
 have := readText_any (bk r) w T p h.n h.l (by rw [bk_size]; exact hr)
 rw [bk_list, hn] at this
 exact this.mono fun e w' q => ⟨q.1.out, q.2⟩
theorem readWords_any (s : ByteArray) (w : World) (T : TypeId) (p : Value) (h : RTab w T p) (hs : s.size ≤ 4194304) :
 Calls Tryz.prog 63 #[.string s] w fun e w' => Hid (Ans e T p ((wordsS s.data.toList).map fun x => .agg (ndV x))) ∧ Below w.heap.size w w' := by
 have hw15 := h.size
 rw [words_eq]
 obtain ⟨⟨a, b⟩, hab⟩ : ∃ q, fstW s.data.toList = q := ⟨_, rfl⟩
 have hlen := fst_len s.data.toList
 rw [← Lib.size_eq, hab] at hlen
 simp only at hlen
 have HF : Hid (∀ w', Calls Tryz.prog 91 #[.string s] w' fun e w'' => e = .returned (.tuple #[.string (bk a), .string (bk b)]) ∧ Below w'.heap.size w' w'') := fun w' => by
  have := firstWord_any s w'
  rw [hab] at this
  exact this
 rw [hab]
 simp only
 clear hab
 obtain ⟨w1, hw1⟩ : ∃ w1, w.alloc (.cells (ndV ⟨0, 0, ⟨#[]⟩, ⟨#[]⟩, ⟨#[]⟩, 0, 0, ⟨#[]⟩, 0⟩) 42) = w1 := ⟨_, rfl⟩
 have B1 : Hid (Below w.heap.size w w1) := by rw [← hw1]; exact (Below.refl _ w).alloc (Nat.le_refl _) _
 have A1 : Hid (NodeAt w1 w.heap.size ⟨0, 0, ⟨#[]⟩, ⟨#[]⟩, ⟨#[]⟩, 0, 0, ⟨#[]⟩, 0⟩) := by rw [← hw1]; exact NodeAt.new _ _ _
 have HT : Hid (∀ w', Below w.heap.size w w' → RTab w' T p) := fun w' hb => h.next hb
 clear h
 have HK : Hid (∀ w', Below w.heap.size w w' → Calls Tryz.prog 92 #[.string (bk a)] w' fun e w'' => Ans e T p ((kndS a).map fun (v : Nat) => Value.int .i64 (v : Int)) ∧ w' = w'') := fun w' hb => by
  have := readKind_any (bk a) w' T p (HT.out w' hb).n (HT.out w' hb).d
  rw [bk_list] at this
  refine this.mono fun e w'' q => ⟨?_, q.2⟩
  have h1 := q.1.out
  cases hka : kndS a with
  | none => rw [hka] at h1; exact h1
  | some k => rw [hka] at h1; exact h1
 unfold ndV at hw1
 simp only at hw1
 cases hk : kndS a with
 | none =>
  rw [hk] at HK
  go_enter Tryz.func63, Tryz.ntmps63
  go_wp2_with (first
   | (go_at_call 91; refine (HF.out _).mono ?_; rintro e w2 ⟨rfl, hb2⟩; have B2 : Below w.heap.size w w2 := B1.out.trans (hb2.mono B1.out.size))
   | (go_at_call 92; refine (HK.out _ B2).mono ?_; rintro e w3 ⟨he, hw3⟩; obtain rfl : e = _ := he; subst hw3)
   | go_in)
  exact ⟨rfl, (rfl : _ = _), B2⟩
 | some k =>
  rw [hk] at HK
  have hk31 := (knd_sound hk).2
  obtain ⟨sh, hsh⟩ : ∃ sh, (shp (k : Int)).1 = sh := ⟨_, rfl⟩
  obtain ⟨ok, hok⟩ : ∃ ok, (shp (k : Int)).2 = ok := ⟨_, rfl⟩
  have HSH : Hid (∀ w' : World, Calls Tryz.prog 28 #[.int .i64 (k : Int)] w' fun e w'' => e = .returned (.tuple #[.agg (shpV sh), .bool ok]) ∧ Below w'.heap.size w' w'') := fun w' => by
   rw [← hsh, ← hok]; exact shapeOf_any _ w'
  have HOP := shp_op_all ⟨k, hk31⟩
  simp only at HOP
  rw [Option.bind_some, hsh]
  rw [hsh] at HOP
  clear hsh hok hk
  obtain ⟨R, hR⟩ : ∃ R, g0 sh ⟨k, 0, ⟨#[]⟩, ⟨#[]⟩, ⟨#[]⟩, 0, 0, ⟨#[]⟩, 0⟩ b = R := ⟨_, rfl⟩
  rw [hR]
  have HR : Hid (g0 sh ⟨k, 0, ⟨#[]⟩, ⟨#[]⟩, ⟨#[]⟩, 0, 0, ⟨#[]⟩, 0⟩ b = R) := hR
  clear hR
  have hb4 : b.length ≤ 4194304 := by omega
  obtain ⟨sl, sn, st, si, sm, sf, so, sg, sw, sx⟩ := sh
  go_enter Tryz.func63, Tryz.ntmps63
  go_upto_if 24 with (first
   | (go_at_call 91; refine (HF.out _).mono ?_; rintro e w2 ⟨rfl, hb2⟩; have B2 : Below w.heap.size w w2 := B1.out.trans (hb2.mono B1.out.size))
   | (go_at_call 92; refine (HK.out _ B2).mono ?_; rintro e w3 ⟨he, hw3⟩; obtain rfl : e = _ := he; subst hw3)
   | (go_at_call 28; refine (HSH.out _).mono ?_; rintro e w4 ⟨rfl, hbS⟩; unfold shpV)
   | go_in)
  obtain ⟨wS, hwS⟩ : ∃ wS, w4.alloc (.cells (shpV ⟨sl, sn, st, si, sm, sf, so, sg, sw, sx⟩) 62) = wS := ⟨_, rfl⟩
  have BN : Below w2.heap.size w2 (w2.alloc (.cells (ndV ⟨k, 0, ⟨#[]⟩, ⟨#[]⟩, ⟨#[]⟩, 0, 0, ⟨#[]⟩, 0⟩) 42)) := (Below.refl _ w2).alloc (Nat.le_refl _) _
  have hbS : Below (w2.alloc (.cells (ndV ⟨k, 0, ⟨#[]⟩, ⟨#[]⟩, ⟨#[]⟩, 0, 0, ⟨#[]⟩, 0⟩) 42)).heap.size (w2.alloc (.cells (ndV ⟨k, 0, ⟨#[]⟩, ⟨#[]⟩, ⟨#[]⟩, 0, 0, ⟨#[]⟩, 0⟩) 42)) w4 := hbS
  have BA : Below w4.heap.size w4 wS := by rw [← hwS]; exact (Below.refl _ w4).alloc (Nat.le_refl _) _
  have hN2 : w2.heap.size < w4.heap.size := Nat.lt_of_lt_of_le (by simp) hbS.size
  have BW4 : Below w.heap.size w w4 := (B2.trans (BN.mono B2.size)).trans (hbS.mono (Nat.le_trans B2.size BN.size))
  have BWS : Below w.heap.size w wS := BW4.trans (BA.mono BW4.size)
  have hA1 : w.heap.size < w2.heap.size := Nat.lt_of_lt_of_le A1.out.lt hb2.size
  have ST : Hid (RSt w wS w.heap.size w2.heap.size w4.heap.size ⟨sl, sn, st, si, sm, sf, so, sg, sw, sx⟩ ⟨k, 0, ⟨#[]⟩, ⟨#[]⟩, ⟨#[]⟩, 0, 0, ⟨#[]⟩, 0⟩ T p) := by
   refine ⟨((NodeAt.new w2 _ 42).next hbS).next BA, (((A1.out.next hb2).next BN).next hbS).next BA, fun j u hu => by rw [← hwS]; exact cell_new _ _ _ _ _ hu, HT.out _ BWS, BWS, Nat.le_refl _, B2.size, by omega, by omega⟩
  clear BA BW4 BWS BN hbS B2 hb2 A1 B1 HF HK HSH HT
  obtain ⟨N, hN⟩ : ∃ N, w2.heap.size = N := ⟨_, rfl⟩
  obtain ⟨S, hS⟩ : ∃ S, w4.heap.size = S := ⟨_, rfl⟩
  unfold shpV at hwS
  rw [hwS]
  rw [hN, hS] at ST ⊢
  clear hwS hN2 hA1 hN hS hw1
  obtain ⟨xx, hxx⟩ : ∃ xx : Nd, ⟨k, 0, ⟨#[]⟩, ⟨#[]⟩, ⟨#[]⟩, 0, 0, ⟨#[]⟩, 0⟩ = xx := ⟨_, rfl⟩
  rw [hxx] at HR ST
  clear hxx
  go_cut [3, 4] (fun _ u4 wx => ∃ (r : List UInt8) (x : Nd), u4 = .string (bk r) ∧ r.length ≤ 4194304 ∧ Hid (g1 ⟨sl, sn, st, si, sm, sf, so, sg, sw, sx⟩ x r = R) ∧ Hid (RSt w wx w.heap.size N S ⟨sl, sn, st, si, sm, sf, so, sg, sw, sx⟩ x T p))
  case first =>
   by_cases hz : sl = 0
   ·have HG : Hid (g1 ⟨sl, sn, st, si, sm, sf, so, sg, sw, sx⟩ xx b = R) := by
     show _ = _
     rw [← HR.out]
     unfold g0
     exact (if_neg (fun q => q hz)).symm
    subst hz
    go_wp2
    go_meet
    case rel => exact ⟨_, _, rfl, hb4, HG, ST⟩
   ·have hzb : (sl == 0) = false := by rw [beq_eq_false_iff_ne]; exact hz
    have HG : Hid (((nxtW b).bind fun q => (fillS q.1).bind fun v => g1 ⟨sl, sn, st, si, sm, sf, so, sg, sw, sx⟩ { xx with label := bk v } q.2) = R) := by
     show _ = _
     rw [← HR.out]
     unfold g0
     exact (if_pos hz).symm
    cases hn : nxtW b with
    | none =>
     rw [hn] at HG
     have HC : Hid (Calls Tryz.prog 93 #[.string (bk b)] wS fun e w' => Out e T p ∧ Below wS.heap.size wS w') := next_no b wS T p ST.out.tab hn
     go_wp2_with (first
      | (go_at_call 93; refine HC.out.mono ?_; rintro e w5 ⟨he, hb5⟩; obtain rfl : e = _ := he)
      | go_in)
     exact ⟨rfl, (by rw [← HG.out]; exact (rfl : _ = _)), (ST.out.next hb5).bel⟩
    | some q =>
     obtain ⟨a1, b1⟩ := q
     have hl1 := nxt_len hn
     rw [hn, Option.bind_some] at HG
     simp only at HG
     have HC : Hid (Calls Tryz.prog 93 #[.string (bk b)] wS fun e w' => e = .returned (.tuple #[.string (bk a1), .string (bk b1)]) ∧ Below wS.heap.size wS w') := next_yes b a1 b1 wS T p ST.out.tab hn
     clear hn
     cases hf : fillS a1 with
     | none =>
      rw [hf] at HG
      have HD : Hid (∀ w5, Below wS.heap.size wS w5 → Calls Tryz.prog 94 #[.string (bk a1)] w5 fun e w' => Out e T p ∧ Below w5.heap.size w5 w') := fun w5 hb5 => fill_no a1 w5 T p (ST.out.next hb5).tab (by omega) hf
      clear hf
      go_wp2_with (first
       | (go_at_call 93; refine HC.out.mono ?_; rintro e w5 ⟨rfl, hb5⟩)
       | (go_at_call 94; refine (HD.out _ hb5).mono ?_; rintro e w6 ⟨he, hb6⟩; obtain rfl : e = _ := he)
       | go_in)
      exact ⟨rfl, (by rw [← HG.out]; exact (rfl : _ = _)), ((ST.out.next hb5).next hb6).bel⟩
     | some v =>
      rw [hf] at HG
      have HD : Hid (∀ w5, Below wS.heap.size wS w5 → Calls Tryz.prog 94 #[.string (bk a1)] w5 fun e w' => e = .returned (.string (bk v)) ∧ Below w5.heap.size w5 w') := fun w5 hb5 => fill_yes a1 v w5 T p (ST.out.next hb5).tab (by omega) hf
      clear hf
      go_wp2_with (first
       | (go_at_call 93; refine HC.out.mono ?_; rintro e w5 ⟨rfl, hb5⟩)
       | (go_at_call 94; refine (HD.out _ hb5).mono ?_; rintro e w6 ⟨rfl, hb6⟩; have ST6 : Hid (RSt w w6 w.heap.size N S ⟨sl, sn, st, si, sm, sf, so, sg, sw, sx⟩ xx T p) := (ST.out.next hb5).next hb6; have c5 := ST6.out.node.c 3 _ rfl; have f5 := ST6.out.node.f 3 (by omega))
       | go_in)
      go_meet
      case rel => exact ⟨b1, _, rfl, by omega, HG, ST6.out.put hw15 (ST6.out.node.pLabel (bk v))⟩
  case rest =>
   obtain ⟨rr, x, hu4, hr, HR, ST⟩ := hcut
   subst hu4
   have d4 := ST.out.sh 4 (.int .i64 sm) rfl
   go_upto_if 35 with fail
   clear d4
   go_cut [3, 4] (fun _ u4 wx => ∃ (r : List UInt8) (x : Nd), u4 = .string (bk r) ∧ r.length ≤ 4194304 ∧ Hid (g2 ⟨sl, sn, st, si, sm, sf, so, sg, sw, sx⟩ x r = R) ∧ Hid (RSt w wx w.heap.size N S ⟨sl, sn, st, si, sm, sf, so, sg, sw, sx⟩ x T p))
   case first =>
    by_cases hz : ¬ 0 < sm
    ·have HG : Hid (g2 ⟨sl, sn, st, si, sm, sf, so, sg, sw, sx⟩ x rr = R) := by
      show _ = _
      rw [← HR.out]
      unfold g1
      exact (if_neg (hz)).symm
     go_wp2
     go_meet
     case rel => exact ⟨_, _, rfl, hr, HG, ST⟩
    ·have hz : 0 < sm := by omega
     have HG : Hid (((nxtW rr).bind fun q => (numS q.1).bind fun v => g2 ⟨sl, sn, st, si, sm, sf, so, sg, sw, sx⟩ { x with int := v } q.2) = R) := by
      show _ = _
      rw [← HR.out]
      unfold g1
      exact (if_pos hz).symm
     cases hn : nxtW rr with
     | none =>
      rw [hn] at HG
      have HC : Hid (Calls Tryz.prog 93 #[.string (bk rr)] wc fun e w' => Out e T p ∧ Below wc.heap.size wc w') := next_no rr wc T p ST.out.tab hn
      go_wp2_with (first
       | (go_at_call 93; refine HC.out.mono ?_; rintro e w5 ⟨he, hb5⟩; obtain rfl : e = _ := he)
       | go_in)
      exact ⟨rfl, (by rw [← HG.out]; exact (rfl : _ = _)), (ST.out.next hb5).bel⟩
     | some q =>
      obtain ⟨a1, b1⟩ := q
      have hl1 := nxt_len hn
      rw [hn, Option.bind_some] at HG
      simp only at HG
      have HC : Hid (Calls Tryz.prog 93 #[.string (bk rr)] wc fun e w' => e = .returned (.tuple #[.string (bk a1), .string (bk b1)]) ∧ Below wc.heap.size wc w') := next_yes rr a1 b1 wc T p ST.out.tab hn
      clear hn
      cases hf : numS a1 with
      | none =>
       rw [hf] at HG
       have HD : Hid (∀ w5, Below wc.heap.size wc w5 → Calls Tryz.prog 64 #[.string (bk a1)] w5 fun e w' => Out e T p ∧ Below w5.heap.size w5 w') := fun w5 hb5 => num_no a1 w5 T p (ST.out.next hb5).tab (by omega) hf
       clear hf
       go_wp2_with (first
        | (go_at_call 93; refine HC.out.mono ?_; rintro e w5 ⟨rfl, hb5⟩)
        | (go_at_call 64; refine (HD.out _ hb5).mono ?_; rintro e w6 ⟨he, hb6⟩; obtain rfl : e = _ := he)
        | go_in)
       exact ⟨rfl, (by rw [← HG.out]; exact (rfl : _ = _)), ((ST.out.next hb5).next hb6).bel⟩
      | some v =>
       rw [hf] at HG
       have HD : Hid (∀ w5, Below wc.heap.size wc w5 → Calls Tryz.prog 64 #[.string (bk a1)] w5 fun e w' => e = .returned (.int .i64 v) ∧ Below w5.heap.size w5 w') := fun w5 hb5 => num_yes a1 v w5 T p (ST.out.next hb5).tab (by omega) hf
       clear hf
       go_wp2_with (first
        | (go_at_call 93; refine HC.out.mono ?_; rintro e w5 ⟨rfl, hb5⟩)
        | (go_at_call 64; refine (HD.out _ hb5).mono ?_; rintro e w6 ⟨rfl, hb6⟩; have ST6 : Hid (RSt w w6 w.heap.size N S ⟨sl, sn, st, si, sm, sf, so, sg, sw, sx⟩ x T p) := (ST.out.next hb5).next hb6; have c5 := ST6.out.node.c 6 _ rfl; have f5 := ST6.out.node.f 6 (by omega))
        | go_in)
       go_meet
       case rel => exact ⟨b1, _, rfl, by omega, HG, ST6.out.put hw15 (ST6.out.node.pInt (v))⟩
   case rest =>
    obtain ⟨rr, x, hu4, hr, HR, ST⟩ := hcut
    subst hu4
    have d4 := ST.out.sh 1 (.int .i64 sn) rfl
    go_upto_if 46 with fail
    clear d4
    go_cut [3, 4] (fun _ u4 wx => ∃ (r : List UInt8) (x : Nd), u4 = .string (bk r) ∧ r.length ≤ 4194304 ∧ Hid (g3 ⟨sl, sn, st, si, sm, sf, so, sg, sw, sx⟩ x r = R) ∧ Hid (RSt w wx w.heap.size N S ⟨sl, sn, st, si, sm, sf, so, sg, sw, sx⟩ x T p))
    case first =>
     by_cases hz : sn = 0
     ·have HG : Hid (g3 ⟨sl, sn, st, si, sm, sf, so, sg, sw, sx⟩ x rr = R) := by
       show _ = _
       rw [← HR.out]
       unfold g2
       exact (if_neg (fun q => q hz)).symm
      subst hz
      go_wp2
      go_meet
      case rel => exact ⟨_, _, rfl, hr, HG, ST⟩
     ·have hzb : (sn == 0) = false := by rw [beq_eq_false_iff_ne]; exact hz
      have HG : Hid (((nxtW rr).bind fun q => (fillS q.1).bind fun v => g3 ⟨sl, sn, st, si, sm, sf, so, sg, sw, sx⟩ { x with name := bk v } q.2) = R) := by
       show _ = _
       rw [← HR.out]
       unfold g2
       exact (if_pos hz).symm
      cases hn : nxtW rr with
      | none =>
       rw [hn] at HG
       have HC : Hid (Calls Tryz.prog 93 #[.string (bk rr)] wc fun e w' => Out e T p ∧ Below wc.heap.size wc w') := next_no rr wc T p ST.out.tab hn
       go_wp2_with (first
        | (go_at_call 93; refine HC.out.mono ?_; rintro e w5 ⟨he, hb5⟩; obtain rfl : e = _ := he)
        | go_in)
       exact ⟨rfl, (by rw [← HG.out]; exact (rfl : _ = _)), (ST.out.next hb5).bel⟩
      | some q =>
       obtain ⟨a1, b1⟩ := q
       have hl1 := nxt_len hn
       rw [hn, Option.bind_some] at HG
       simp only at HG
       have HC : Hid (Calls Tryz.prog 93 #[.string (bk rr)] wc fun e w' => e = .returned (.tuple #[.string (bk a1), .string (bk b1)]) ∧ Below wc.heap.size wc w') := next_yes rr a1 b1 wc T p ST.out.tab hn
       clear hn
       cases hf : fillS a1 with
       | none =>
        rw [hf] at HG
        have HD : Hid (∀ w5, Below wc.heap.size wc w5 → Calls Tryz.prog 94 #[.string (bk a1)] w5 fun e w' => Out e T p ∧ Below w5.heap.size w5 w') := fun w5 hb5 => fill_no a1 w5 T p (ST.out.next hb5).tab (by omega) hf
        clear hf
        go_wp2_with (first
         | (go_at_call 93; refine HC.out.mono ?_; rintro e w5 ⟨rfl, hb5⟩)
         | (go_at_call 94; refine (HD.out _ hb5).mono ?_; rintro e w6 ⟨he, hb6⟩; obtain rfl : e = _ := he)
         | go_in)
        exact ⟨rfl, (by rw [← HG.out]; exact (rfl : _ = _)), ((ST.out.next hb5).next hb6).bel⟩
       | some v =>
        rw [hf] at HG
        have HD : Hid (∀ w5, Below wc.heap.size wc w5 → Calls Tryz.prog 94 #[.string (bk a1)] w5 fun e w' => e = .returned (.string (bk v)) ∧ Below w5.heap.size w5 w') := fun w5 hb5 => fill_yes a1 v w5 T p (ST.out.next hb5).tab (by omega) hf
        clear hf
        go_wp2_with (first
         | (go_at_call 93; refine HC.out.mono ?_; rintro e w5 ⟨rfl, hb5⟩)
         | (go_at_call 94; refine (HD.out _ hb5).mono ?_; rintro e w6 ⟨rfl, hb6⟩; have ST6 : Hid (RSt w w6 w.heap.size N S ⟨sl, sn, st, si, sm, sf, so, sg, sw, sx⟩ x T p) := (ST.out.next hb5).next hb6; have c5 := ST6.out.node.c 2 _ rfl; have f5 := ST6.out.node.f 2 (by omega))
         | go_in)
        go_meet
        case rel => exact ⟨b1, _, rfl, by omega, HG, ST6.out.put hw15 (ST6.out.node.pName (bk v))⟩
    case rest =>
     obtain ⟨rr, x, hu4, hr, HR, ST⟩ := hcut
     subst hu4
     have d4 := ST.out.sh 2 (.int .i64 st) rfl
     go_upto_if 57 with fail
     clear d4
     go_cut [3, 4] (fun _ u4 wx => ∃ (r : List UInt8) (x : Nd), u4 = .string (bk r) ∧ r.length ≤ 4194304 ∧ Hid (g4 ⟨sl, sn, st, si, sm, sf, so, sg, sw, sx⟩ x r = R) ∧ Hid (RSt w wx w.heap.size N S ⟨sl, sn, st, si, sm, sf, so, sg, sw, sx⟩ x T p))
     case first =>
      by_cases hz : st = 0
      ·have HG : Hid (g4 ⟨sl, sn, st, si, sm, sf, so, sg, sw, sx⟩ x rr = R) := by
        show _ = _
        rw [← HR.out]
        unfold g3
        exact (if_neg (fun q => q hz)).symm
       subst hz
       go_wp2
       go_meet
       case rel => exact ⟨_, _, rfl, hr, HG, ST⟩
      ·have hzb : (st == 0) = false := by rw [beq_eq_false_iff_ne]; exact hz
       have HG : Hid (((nxtW rr).bind fun q => (fillS q.1).bind fun v => g4 ⟨sl, sn, st, si, sm, sf, so, sg, sw, sx⟩ { x with typ := bk v } q.2) = R) := by
        show _ = _
        rw [← HR.out]
        unfold g3
        exact (if_pos hz).symm
       cases hn : nxtW rr with
       | none =>
        rw [hn] at HG
        have HC : Hid (Calls Tryz.prog 93 #[.string (bk rr)] wc fun e w' => Out e T p ∧ Below wc.heap.size wc w') := next_no rr wc T p ST.out.tab hn
        go_wp2_with (first
         | (go_at_call 93; refine HC.out.mono ?_; rintro e w5 ⟨he, hb5⟩; obtain rfl : e = _ := he)
         | go_in)
        exact ⟨rfl, (by rw [← HG.out]; exact (rfl : _ = _)), (ST.out.next hb5).bel⟩
       | some q =>
        obtain ⟨a1, b1⟩ := q
        have hl1 := nxt_len hn
        rw [hn, Option.bind_some] at HG
        simp only at HG
        have HC : Hid (Calls Tryz.prog 93 #[.string (bk rr)] wc fun e w' => e = .returned (.tuple #[.string (bk a1), .string (bk b1)]) ∧ Below wc.heap.size wc w') := next_yes rr a1 b1 wc T p ST.out.tab hn
        clear hn
        cases hf : fillS a1 with
        | none =>
         rw [hf] at HG
         have HD : Hid (∀ w5, Below wc.heap.size wc w5 → Calls Tryz.prog 94 #[.string (bk a1)] w5 fun e w' => Out e T p ∧ Below w5.heap.size w5 w') := fun w5 hb5 => fill_no a1 w5 T p (ST.out.next hb5).tab (by omega) hf
         clear hf
         go_wp2_with (first
          | (go_at_call 93; refine HC.out.mono ?_; rintro e w5 ⟨rfl, hb5⟩)
          | (go_at_call 94; refine (HD.out _ hb5).mono ?_; rintro e w6 ⟨he, hb6⟩; obtain rfl : e = _ := he)
          | go_in)
         exact ⟨rfl, (by rw [← HG.out]; exact (rfl : _ = _)), ((ST.out.next hb5).next hb6).bel⟩
        | some v =>
         rw [hf] at HG
         have HD : Hid (∀ w5, Below wc.heap.size wc w5 → Calls Tryz.prog 94 #[.string (bk a1)] w5 fun e w' => e = .returned (.string (bk v)) ∧ Below w5.heap.size w5 w') := fun w5 hb5 => fill_yes a1 v w5 T p (ST.out.next hb5).tab (by omega) hf
         clear hf
         go_wp2_with (first
          | (go_at_call 93; refine HC.out.mono ?_; rintro e w5 ⟨rfl, hb5⟩)
          | (go_at_call 94; refine (HD.out _ hb5).mono ?_; rintro e w6 ⟨rfl, hb6⟩; have ST6 : Hid (RSt w w6 w.heap.size N S ⟨sl, sn, st, si, sm, sf, so, sg, sw, sx⟩ x T p) := (ST.out.next hb5).next hb6; have c5 := ST6.out.node.c 4 _ rfl; have f5 := ST6.out.node.f 4 (by omega))
          | go_in)
         go_meet
         case rel => exact ⟨b1, _, rfl, by omega, HG, ST6.out.put hw15 (ST6.out.node.pTyp (bk v))⟩
     case rest =>
      obtain ⟨rr, x, hu4, hr, HR, ST⟩ := hcut
      subst hu4
      have d4 := ST.out.sh 6 (.int .i64 so) rfl
      go_upto_if 68 with fail
      clear d4
      go_cut [3, 4] (fun _ u4 wx => ∃ (r : List UInt8) (x : Nd), u4 = .string (bk r) ∧ r.length ≤ 4194304 ∧ Hid (g5 ⟨sl, sn, st, si, sm, sf, so, sg, sw, sx⟩ x r = R) ∧ Hid (RSt w wx w.heap.size N S ⟨sl, sn, st, si, sm, sf, so, sg, sw, sx⟩ x T p))
      case first =>
       by_cases hz : ¬ 0 < so
       ·have HG : Hid (g5 ⟨sl, sn, st, si, sm, sf, so, sg, sw, sx⟩ x rr = R) := by
         show _ = _
         rw [← HR.out]
         unfold g4
         exact (if_neg (hz)).symm
        go_wp2
        go_meet
        case rel => exact ⟨_, _, rfl, hr, HG, ST⟩
       ·have hz : 0 < so := by omega
        have HG : Hid (((nxtW rr).bind fun q => (opS sf so q.1).bind fun v => g5 ⟨sl, sn, st, si, sm, sf, so, sg, sw, sx⟩ { x with op := v } q.2) = R) := by
         show _ = _
         rw [← HR.out]
         unfold g4
         exact (if_pos hz).symm
        cases hn : nxtW rr with
        | none =>
         rw [hn] at HG
         have HC : Hid (Calls Tryz.prog 93 #[.string (bk rr)] wc fun e w' => Out e T p ∧ Below wc.heap.size wc w') := next_no rr wc T p ST.out.tab hn
         go_wp2_with (first
          | (go_at_call 93; refine HC.out.mono ?_; rintro e w5 ⟨he, hb5⟩; obtain rfl : e = _ := he)
          | go_in)
         exact ⟨rfl, (by rw [← HG.out]; exact (rfl : _ = _)), (ST.out.next hb5).bel⟩
        | some q =>
         obtain ⟨a1, b1⟩ := q
         have hl1 := nxt_len hn
         rw [hn, Option.bind_some] at HG
         simp only at HG
         have HC : Hid (Calls Tryz.prog 93 #[.string (bk rr)] wc fun e w' => e = .returned (.tuple #[.string (bk a1), .string (bk b1)]) ∧ Below wc.heap.size wc w') := next_yes rr a1 b1 wc T p ST.out.tab hn
         clear hn
         have hop := HOP hz
         cases hf : opS sf so a1 with
         | none =>
          rw [hf] at HG
          have HD : Hid (∀ w5, Below wc.heap.size wc w5 → Calls Tryz.prog 95 #[.string (bk a1), .int .i64 sf, .int .i64 so] w5 fun e w' => Out e T p ∧ Below w5.heap.size w5 w') := fun w5 hb5 => oper_no a1 sf so w5 T p (ST.out.next hb5).tab (by omega) (by omega) (by omega) hf
          clear hf hop
          go_wp2_with (first
           | (go_at_call 93; refine HC.out.mono ?_; rintro e w5 ⟨rfl, hb5⟩; have e5 := (ST.out.next hb5).sh 5 (.int .i64 sf) rfl; have e6 := (ST.out.next hb5).sh 6 (.int .i64 so) rfl)
           | (go_at_call 95; refine (HD.out _ hb5).mono ?_; rintro e w6 ⟨he, hb6⟩; obtain rfl : e = _ := he)
           | go_in)
          exact ⟨rfl, (by rw [← HG.out]; exact (rfl : _ = _)), ((ST.out.next hb5).next hb6).bel⟩
         | some v =>
          rw [hf] at HG
          have HD : Hid (∀ w5, Below wc.heap.size wc w5 → Calls Tryz.prog 95 #[.string (bk a1), .int .i64 sf, .int .i64 so] w5 fun e w' => e = .returned (.int .i64 v) ∧ Below w5.heap.size w5 w') := fun w5 hb5 => oper_yes a1 sf so v w5 T p (ST.out.next hb5).tab (by omega) (by omega) (by omega) hf
          clear hf hop
          go_wp2_with (first
           | (go_at_call 93; refine HC.out.mono ?_; rintro e w5 ⟨rfl, hb5⟩; have e5 := (ST.out.next hb5).sh 5 (.int .i64 sf) rfl; have e6 := (ST.out.next hb5).sh 6 (.int .i64 so) rfl)
           | (go_at_call 95; refine (HD.out _ hb5).mono ?_; rintro e w6 ⟨rfl, hb6⟩; have ST6 : Hid (RSt w w6 w.heap.size N S ⟨sl, sn, st, si, sm, sf, so, sg, sw, sx⟩ x T p) := (ST.out.next hb5).next hb6; have c5 := ST6.out.node.c 5 _ rfl; have f5 := ST6.out.node.f 5 (by omega))
           | go_in)
          go_meet
          case rel => exact ⟨b1, _, rfl, by omega, HG, ST6.out.put hw15 (ST6.out.node.pOp (v))⟩
      case rest =>
       obtain ⟨rr, x, hu4, hr, HR, ST⟩ := hcut
       subst hu4
       have d4 := ST.out.sh 7 (.int .i64 sg) rfl
       go_upto_if 83 with fail
       clear d4
       go_cut [3, 4] (fun _ u4 wx => ∃ (r : List UInt8) (x : Nd), u4 = .string (bk r) ∧ r.length ≤ 4194304 ∧ Hid (g6 x r = R) ∧ Hid (RSt w wx w.heap.size N S ⟨sl, sn, st, si, sm, sf, so, sg, sw, sx⟩ x T p))
       case first =>
        by_cases hz : ¬ 0 < sg
        ·have HG : Hid (g6 x rr = R) := by
          show _ = _
          rw [← HR.out]
          unfold g5
          exact (if_neg (hz)).symm
         go_wp2
         go_meet
         case rel => exact ⟨_, _, rfl, hr, HG, ST⟩
        ·have hz : 0 < sg := by omega
         have HG : Hid ((txtS (cutB rr)).bind (fun v => g6 { x with text := bk v } []) = R) := by
          show _ = _
          rw [← HR.out]
          unfold g5
          exact (if_pos hz).symm
         cases hf : txtS (cutB rr) with
         | none =>
          rw [hf] at HG
          have HC : Hid (Calls Tryz.prog 96 #[.string (bk rr)] wc fun e w' => Out e T p ∧ Below wc.heap.size wc w') := text_no rr wc T p ST.out.tab hr hf
          go_wp2_with (first
           | (go_at_call 96; refine HC.out.mono ?_; rintro e w5 ⟨he, hb5⟩; obtain rfl : e = _ := he)
           | go_in)
          exact ⟨rfl, (by rw [← HG.out]; exact (rfl : _ = _)), (ST.out.next hb5).bel⟩
         | some v =>
          rw [hf] at HG
          have HC : Hid (Calls Tryz.prog 96 #[.string (bk rr)] wc fun e w' => e = .returned (.string (bk v)) ∧ Below wc.heap.size wc w') := text_yes rr v wc T p ST.out.tab hr hf
          clear hf
          go_wp2_with (first
           | (go_at_call 96; refine HC.out.mono ?_; rintro e w5 ⟨rfl, hb5⟩; have ST5 : Hid (RSt w w5 w.heap.size N S ⟨sl, sn, st, si, sm, sf, so, sg, sw, sx⟩ x T p) := ST.out.next hb5; have c5 := ST5.out.node.c 7 _ rfl; have f5 := ST5.out.node.f 7 (by omega))
           | go_in)
          go_meet
          case rel => exact ⟨[], _, rfl, by simp, HG, ST5.out.put hw15 (ST5.out.node.pText (bk v))⟩
       case rest =>
        obtain ⟨rr, x, hu4, hr, HR, ST⟩ := hcut
        subst hu4
        clear HOP hb4 hlen
        by_cases hz : rr = []
        ·have HG : Hid (R = some x) := by
          show _ = _
          rw [← HR.out]
          exact if_pos hz
         have he : (bk rr).toList.isEmpty = true := by rw [ByteArray.toList_eq, bk_list, hz]; rfl
         obtain ⟨bs, hbs⟩ : ∃ bs, bk rr = bs := ⟨_, rfl⟩
         rw [hbs] at he ⊢
         clear hbs hz
         have NN := ST.out.node
         have NA := ST.out.res
         have HNA : Hid (NodeAt wc w.heap.size ⟨0, 0, ⟨#[]⟩, ⟨#[]⟩, ⟨#[]⟩, 0, 0, ⟨#[]⟩, 0⟩) := NA
         have HBL : Hid (Below w.heap.size w wc) := ST.out.bel
         clear ST HR
         obtain ⟨kd, ps, nm, lb, ty, op, it, tx, zz⟩ := x
         have n0 : wc.cell? ⟨N, 0, none⟩ = some (.int .i64 kd) := NN.c 0 _ rfl
         have z0 : wc.cell? ⟨w.heap.size, 0, none⟩ = some (.int .i64 0) := NA.c 0 _ rfl
         have y0 := NA.f 0 (by omega)
         have n1 : wc.cell? ⟨N, 1, none⟩ = some (.int .i64 ps) := NN.c 1 _ rfl
         have z1 : wc.cell? ⟨w.heap.size, 1, none⟩ = some (.int .i64 0) := NA.c 1 _ rfl
         have y1 := NA.f 1 (by omega)
         have n2 : wc.cell? ⟨N, 2, none⟩ = some (.string nm) := NN.c 2 _ rfl
         have z2 : wc.cell? ⟨w.heap.size, 2, none⟩ = some (.string ⟨#[]⟩) := NA.c 2 _ rfl
         have y2 := NA.f 2 (by omega)
         have n3 : wc.cell? ⟨N, 3, none⟩ = some (.string lb) := NN.c 3 _ rfl
         have z3 : wc.cell? ⟨w.heap.size, 3, none⟩ = some (.string ⟨#[]⟩) := NA.c 3 _ rfl
         have y3 := NA.f 3 (by omega)
         have n4 : wc.cell? ⟨N, 4, none⟩ = some (.string ty) := NN.c 4 _ rfl
         have z4 : wc.cell? ⟨w.heap.size, 4, none⟩ = some (.string ⟨#[]⟩) := NA.c 4 _ rfl
         have y4 := NA.f 4 (by omega)
         have n5 : wc.cell? ⟨N, 5, none⟩ = some (.int .i64 op) := NN.c 5 _ rfl
         have z5 : wc.cell? ⟨w.heap.size, 5, none⟩ = some (.int .i64 0) := NA.c 5 _ rfl
         have y5 := NA.f 5 (by omega)
         have n6 : wc.cell? ⟨N, 6, none⟩ = some (.int .i64 it) := NN.c 6 _ rfl
         have z6 : wc.cell? ⟨w.heap.size, 6, none⟩ = some (.int .i64 0) := NA.c 6 _ rfl
         have y6 := NA.f 6 (by omega)
         have n7 : wc.cell? ⟨N, 7, none⟩ = some (.string tx) := NN.c 7 _ rfl
         have z7 : wc.cell? ⟨w.heap.size, 7, none⟩ = some (.string ⟨#[]⟩) := NA.c 7 _ rfl
         have y7 := NA.f 7 (by omega)
         have n8 : wc.cell? ⟨N, 8, none⟩ = some (.int .i64 zz) := NN.c 8 _ rfl
         have z8 : wc.cell? ⟨w.heap.size, 8, none⟩ = some (.int .i64 0) := NA.c 8 _ rfl
         have y8 := NA.f 8 (by omega)
         clear NN NA
         go_wp2
         try rw [Exit.noGoto_ret]
         refine bodyPost_ret (v := .agg (ndV ⟨kd, ps, nm, lb, ty, op, it, tx, zz⟩)) (by exact ret9 (HNA.out.set ⟨kd, ps, nm, lb, ty, op, it, tx, zz⟩) rfl) (by rfl) ?_
         refine ⟨?_, ?_⟩
         ·rw [HG.out]
          exact (rfl : _ = _)
         ·exact below_set9 HBL.out (Nat.le_refl _) _ _ _ _ _ _ _ _ _
        ·have HG : Hid (R = none) := by
          show _ = _
          rw [← HR.out]
          exact if_neg hz
         have he : (bk rr).toList.isEmpty = false := by rw [ByteArray.toList_eq, bk_list]; simpa using hz
         obtain ⟨bs, hbs⟩ : ∃ bs, bk rr = bs := ⟨_, rfl⟩
         rw [hbs] at he ⊢
         clear hbs hz
         have hn : wc.cell? ⟨0, 0, none⟩ = some (.iface T p) := ST.out.tab.n
         have HBL : Hid (Below w.heap.size w wc) := ST.out.bel
         clear ST HR
         go_wp2
         exact ⟨rfl, (by rw [HG.out]; exact (rfl : _ = _)), HBL.out⟩
end Go.Proofs.YtekgnogjfggnmaaGreatDoor
