import Derived.Test.YtekgnogjfggnmaaDoorPiece
import Derived.Test.YtekgnogjfggnmaaDoorLSame
namespace Go.Proofs.YtekgnogjfggnmaaDoor
open Go.RowKit

theorem last_out {L : List Nd} {N : Int} (h : ¬ (0 ≤ N ∧ N < (L.length : Int))) : lastS L N = -1 := by
  unfold lastS
  rw [show hasS L N = false from ?_]
  · rfl
  · unfold hasS
    cases h1 : decide (0 ≤ N) with
    | false => rfl
    | true =>
      cases h2 : decide (N < (L.length : Int)) with
      | false => rfl
      | true => exact absurd ⟨of_decide_eq_true h1, of_decide_eq_true h2⟩ h
theorem last_zero {L : List Nd} (ht : treeS nameS typeS L = true) : lastS L 0 = (L.length : Int) - 1 := by
  have := lastS_at ht (x := 0) (tr_of ht).pos
  rw [(tr_of ht).root] at this
  rw [show ((0 : Nat) : Int) = 0 from rfl] at this
  omega
theorem par_zero {L : List Nd} (ht : treeS nameS typeS L = true) : parS L 0 = -1 := by
  have := par_at' ht (x := 0) (tr_of ht).pos
  exact this
theorem has_not {L : List Nd} {N : Int} (ht : treeS nameS typeS L = false) : hasS L N = false := by
  unfold hasS
  rw [ht]
  simp

set_option maxRecDepth 100000 in
set_option maxHeartbeats 2000000 in
theorem pieces_any (w : World) (p : Option Addr) (n cap : Nat) (L : List Nd) (q2 : Option Addr) (n2 cap2 : Nat) (N : Int) (Tx : ByteArray) (h : Arg w p n cap L) (hcap : n ≤ cap) (hk : KwAt w) :
    Calls Tryd.prog 4 #[.agg #[.slice p n cap, .slice q2 n2 cap2, .int .i64 N, .string Tx]] w fun e w' => e = .returned (.bool true) ∧ Below w.heap.size w w' := by
  obtain ⟨w1, hw1⟩ : ∃ w1, (w.alloc (.cells #[.slice p n cap, .slice q2 n2 cap2, .int .i64 N, .string Tx] 39)).alloc (.cells #[.slice none 0 0] 24) = w1 := ⟨_, rfl⟩
  have z1 : w1.heap.size = w.heap.size + 2 := by rw [← hw1]; simp
  have b1 : Below w.heap.size w w1 := by rw [← hw1]; exact ((Below.refl _ w).alloc (Nat.le_refl _) _).alloc (by simp) _
  have c1 : w1.cell? ⟨w.heap.size, 2, none⟩ = some (.int .i64 N) := by rw [← hw1]; exact cell_old _ (cell_new _ _ _ _ _ rfl)
  have c2 : w1.cell? ⟨w.heap.size + 1, 0, none⟩ = some (.slice none 0 0) ∧ w1.frozen? ⟨w.heap.size + 1, 0, none⟩ = false := by rw [← hw1]; have := new_cell (w.alloc (.cells #[.slice p n cap, .slice q2 n2 cap2, .int .i64 N, .string Tx] 39)) (.slice none 0 0) 24; rwa [World.size_alloc] at this
  obtain ⟨c3, c4⟩ := c2
  obtain ⟨w2, hw2⟩ : ∃ w2, w1.setCell ⟨w.heap.size + 1, 0, none⟩ (.slice p n cap) = w2 := ⟨_, rfl⟩
  have b2 : Below w.heap.size w w2 := by rw [← hw2]; exact b1.setCell (p := ⟨w.heap.size + 1, 0, none⟩) (by show w.heap.size ≤ w.heap.size + 1; omega) _
  have z2 : w2.heap.size = w.heap.size + 2 := by rw [← hw2, size_set, z1]
  have d1 : w2.cell? ⟨w.heap.size, 2, none⟩ = some (.int .i64 N) := by rw [← hw2, World.cell?_setCell_other _ _ _ _ (fun e => by have := congrArg Addr.block e; simp at this)]; exact c1
  have d2 : w2.cell? ⟨w.heap.size + 1, 0, none⟩ = some (.slice p n cap) := by rw [← hw2]; exact World.cell?_setCell_same' _ _ _ (by rw [c3]; rfl)
  have B2 : Hid (Below w.heap.size w w2) := b2
  have C : Hid (∀ w', Below w2.heap.size w2 w' → w'.cell? ⟨w.heap.size, 2, none⟩ = some (.int .i64 N) ∧ w'.cell? ⟨w.heap.size + 1, 0, none⟩ = some (.slice p n cap) ∧ Below w2.heap.size w2 w') := fun w' hb =>
    ⟨(hb.cell (p := ⟨w.heap.size, 2, none⟩) (show w.heap.size < _ by omega)).trans d1, (hb.cell (p := ⟨w.heap.size + 1, 0, none⟩) (show w.heap.size + 1 < _ by omega)).trans d2, hb⟩
  have HA : Hid (Arg w2 p n cap L) := h.next B2.out
  have HK : Hid (KwAt w2) := hk.next B2.out
  have HD : Hid (Calls Tryd.prog 6 #[.agg #[.slice p n cap]] w2 fun e w' => AnyB e ∧ Below w2.heap.size w2 w') := deep_any w2 p n cap L HA.out.reads
  have H8 : Hid (∀ w', Below w2.heap.size w2 w' → Calls Tryd.prog 8 #[.agg #[.slice p n cap]] w' fun e w'' => (∃ p' cap', e = .returned (.agg #[.slice p' n cap']) ∧ n ≤ cap' ∧ Hid (Reads w'' p' n L)) ∧ Below w'.heap.size w' w'') := fun w' hb => twinC_any w' p n cap L (HA.out.next hb)
  have HL : Hid (Fine L ∧ L.length = n) := ⟨h.reads.1, h.reads.2.1⟩
  have hnb : n ≤ 1353245080300 := by have := h.reads.1.len; rw [h.reads.2.1] at this; exact this
  clear h hk
  obtain ⟨tr, htr⟩ : ∃ tr, treeS nameS typeS L = tr := ⟨_, rfl⟩
  have HV : Hid (∀ (w' : World) (p' : Option Addr) (cap' : Nat), Below w2.heap.size w2 w' → Reads w' p' n L → Calls Tryd.prog 7 #[.agg #[.slice p' n cap']] w' fun e w'' => e = .returned (.int .i64 (if tr then 0 else 30)) ∧ Below w'.heap.size w' w'') := fun w' p' cap' hb hr => by
    rw [← htr]
    exact valid_any w' p' n cap' L hr (HK.out.next hb)
  have HTR : Hid (treeS nameS typeS L = tr) := htr
  clear htr b1 b2
  go_enter Tryd.func4, Tryd.ntmps4
  go_upto_region 4 with (first
    | (go_at_call 6; refine HD.out.mono ?_; rintro e w3 ⟨⟨db, rfl⟩, hb3⟩; obtain ⟨e3, d3, _⟩ := C.out w3 hb3)
    | go_in)
  · go_ret
    exact ⟨rfl, B2.out.trans (hb3.mono (by omega))⟩
  have zz : Hid (w.heap.size ≤ w2.heap.size) := by show w.heap.size ≤ w2.heap.size; omega
  cases tr with
  | false =>
    clear HD hw1 hw2 c1 c3 c4 z1
    go_upto_region 5 with (first
      | (go_at_call 8; refine (H8.out w3 hb3).mono ?_; rintro e w4 ⟨⟨p4, cap4, rfl, hc4, rt4⟩, hb4⟩; have hd4 := hb3.trans (hb4.mono hb3.size))
      | (go_at_call 7; refine (HV.out w4 p4 cap4 hd4 rt4.out).mono ?_; rintro e w5 ⟨rfl, hb5⟩; have hd5 := hd4.trans (hb5.mono hd4.size); obtain ⟨e5, d5, _⟩ := C.out w5 hd5)
      | go_in)
    have R11 : Hid (∀ (w' : World) (p' : Option Addr) (cap' : Nat), Below w2.heap.size w2 w' → Reads w' p' n L → Calls Tryd.prog 11 #[.agg #[.slice p' n cap'], .int .i64 N] w' fun e w'' => e = .returned (.int .i64 (-1)) ∧ Below w'.heap.size w' w'') := fun w' p' cap' hb hr => by
      have := last_any w' p' n cap' L N hr (HK.out.next hb)
      unfold lastS at this
      rwa [has_not HTR.out] at this
    have R12 : Hid (∀ (w' : World) (p' : Option Addr) (cap' : Nat), Below w2.heap.size w2 w' → Reads w' p' n L → Calls Tryd.prog 12 #[.agg #[.slice p' n cap'], .int .i64 N] w' fun e w'' => e = .returned (.int .i64 (-1)) ∧ Below w'.heap.size w' w'') := fun w' p' cap' hb hr => by
      have := parent_any w' p' n cap' L N hr (HK.out.next hb)
      unfold parS at this
      rwa [has_not HTR.out] at this
    have R13 : Hid (∀ (w' : World) (p' : Option Addr) (cap' : Nat), Below w2.heap.size w2 w' → Reads w' p' n L → Calls Tryd.prog 13 #[.agg #[.slice p' n cap'], .int .i64 N] w' fun e w'' => (∃ pv cv, e = .returned (.slice pv 0 cv)) ∧ Below w'.heap.size w' w'') := fun w' p' cap' hb hr =>
      (kids_any w' p' n cap' L N hr (HK.out.next hb)).mono fun e w'' h => by
        obtain ⟨⟨v, e1, e2⟩, hb⟩ := h
        have : kidsA L N = [] := by unfold kidsA; rw [has_not HTR.out]; rfl
        rw [this] at e2
        obtain ⟨pv, cv, rfl, _⟩ := row_form e2.out
        exact ⟨⟨pv, cv, e1⟩, hb⟩
    have R14 : Hid (∀ (w' : World) (p' : Option Addr) (cap' : Nat), Below w2.heap.size w2 w' → Reads w' p' n L → Calls Tryd.prog 14 #[.agg #[.slice p' n cap'], .int .i64 N] w' fun e w'' => (∃ pv cv, e = .returned (.slice pv 0 cv)) ∧ Below w'.heap.size w' w'') := fun w' p' cap' hb hr =>
      (spine_any w' p' n cap' L N hr (HK.out.next hb)).mono fun e w'' h => by
        obtain ⟨⟨v, l, e1, e2, e3⟩, hb⟩ := h
        have hs := e3.out
        unfold SpineOk at hs
        rw [has_not HTR.out] at hs
        obtain rfl : l = [] := hs
        obtain ⟨pv, cv, rfl, _⟩ := row_form e2.out
        exact ⟨⟨pv, cv, e1⟩, hb⟩
    have R7 : Hid (∀ (w' : World) (p' : Option Addr) (cap' : Nat), Below w2.heap.size w2 w' → Reads w' p' 1 [oneNd] → Calls Tryd.prog 7 #[.agg #[.slice p' 1 cap']] w' fun e w'' => e = .returned (.int .i64 0) ∧ Below w'.heap.size w' w'') := fun w' p' cap' hb hr => by
      have := valid_any w' p' 1 cap' [oneNd] hr (HK.out.next hb)
      rwa [one_tree, if_pos rfl] at this
    have hcd : Below w2.heap.size w2 w5.drew := hd5.drew
    clear HV rt4 hb4 hb5 hd4 hd5 hb3 e3 d3 d1 d2
    go_region_held3 (fun w' => w'.cell? ⟨w.heap.size, 2, none⟩ = some (.int .i64 N) ∧ w'.cell? ⟨w.heap.size + 1, 0, none⟩ = some (.slice p n cap) ∧ Below w2.heap.size w2 w') (exact C.out _ (by assumption))
      (first
      | (go_at_call 8; refine (H8.out _ hcd).mono ?_; rintro e w6 ⟨⟨p6, cap6, rfl, hc6, rt6⟩, hb6⟩; replace hcd := hcd.trans (hb6.mono hcd.size))
      | (go_at_call 10; refine (one_any _).mono ?_; rintro e w6 ⟨⟨p6, cap6, rfl, rt6⟩, hb6⟩; replace hcd := hcd.trans (hb6.mono hcd.size))
      | (go_at_call 7; refine (R7.out _ _ _ hcd ?_).mono ?_; (first | exact Hid.out (by assumption) | exact Reads.next (Hid.out (by assumption)) (by assumption)); rintro e w7 ⟨rfl, hb7⟩; replace hcd := hcd.trans (hb7.mono hcd.size))
      | (go_at_call 11; refine (R11.out _ _ _ hcd ?_).mono ?_; (first | exact Hid.out (by assumption) | exact Reads.next (Hid.out (by assumption)) (by assumption)); rintro e w7 ⟨rfl, hb7⟩; replace hcd := hcd.trans (hb7.mono hcd.size))
      | (go_at_call 12; refine (R12.out _ _ _ hcd ?_).mono ?_; (first | exact Hid.out (by assumption) | exact Reads.next (Hid.out (by assumption)) (by assumption)); rintro e w7 ⟨rfl, hb7⟩; replace hcd := hcd.trans (hb7.mono hcd.size))
      | (go_at_call 13; refine (R13.out _ _ _ hcd ?_).mono ?_; (first | exact Hid.out (by assumption) | exact Reads.next (Hid.out (by assumption)) (by assumption)); rintro e w7 ⟨⟨pv, cv, rfl⟩, hb7⟩; replace hcd := hcd.trans (hb7.mono hcd.size))
      | (go_at_call 14; refine (R14.out _ _ _ hcd ?_).mono ?_; (first | exact Hid.out (by assumption) | exact Reads.next (Hid.out (by assumption)) (by assumption)); rintro e w7 ⟨⟨pv, cv, rfl⟩, hb7⟩; replace hcd := hcd.trans (hb7.mono hcd.size)))
    go_wp2
    go_ret
    exact ⟨rfl, B2.out.trans (hcd.mono zz.out)⟩
  | true =>
    clear HD hw1 hw2 c1 c3 c4 z1
    have hpos : 0 < n := by have := (tr_of HTR.out).pos; rwa [HL.out.2] at this
    obtain ⟨g, o, rfl, _⟩ := HA.out.reads.2.2 (fun e => by have := (tr_of HTR.out).pos; rw [e] at this; simp at this)
    have H15 : Hid (∀ (w' : World) (k : Nat), Below w2.heap.size w2 w' → k < n → Calls Tryd.prog 15 #[.agg #[.slice (some ⟨g, o, none⟩) n cap], .int .i64 (k : Int)] w' fun e w'' => e = .returned (.bool true) ∧ Below w'.heap.size w' w'') := fun w' k hb hk => by
      obtain ⟨hf, hlen, hr⟩ := (HA.out.next hb).reads
      obtain ⟨g', o', e', hl⟩ := hr (fun e => by have := (tr_of HTR.out).pos; rw [e] at this; simp at this)
      cases e'
      have := piece_any w' g o cap L k hf hl (by rw [hlen]; exact hcap) (HK.out.next hb) HTR.out (by rw [hlen]; exact hk)
      rwa [hlen] at this
    have R11 : Hid (∀ (w' : World) (p' : Option Addr) (cap' : Nat) (N' : Int), Below w2.heap.size w2 w' → Reads w' p' n L → Calls Tryd.prog 11 #[.agg #[.slice p' n cap'], .int .i64 N'] w' fun e w'' => e = .returned (.int .i64 (lastS L N')) ∧ Below w'.heap.size w' w'') := fun w' p' cap' N' hb hr => last_any w' p' n cap' L N' hr (HK.out.next hb)
    have R12 : Hid (∀ (w' : World) (p' : Option Addr) (cap' : Nat), Below w2.heap.size w2 w' → Reads w' p' n L → Calls Tryd.prog 12 #[.agg #[.slice p' n cap'], .int .i64 0] w' fun e w'' => e = .returned (.int .i64 (-1)) ∧ Below w'.heap.size w' w'') := fun w' p' cap' hb hr => by
      have := parent_any w' p' n cap' L 0 hr (HK.out.next hb)
      rwa [par_zero HTR.out] at this
    have HLA : Hid (lastS L (n : Int) = -1 ∧ lastS L (-1) = -1 ∧ lastS L 0 = (n : Int) - 1) := ⟨last_out (by rw [HL.out.2]; omega), last_out (by omega), by rw [last_zero HTR.out, HL.out.2]⟩
    have hN : (¬ (0 < N)) ∨ (0 < N ∧ ¬ N < (n : Int)) ∨ (0 < N ∧ N < (n : Int)) := by omega
    have i2 : IntKind.i64.wrap ((n : Int) - 1) = (n : Int) - 1 := by rw [IntKind.wrap_i64]; omega
    have HB3 : Hid (Below w2.heap.size w2 w3) := hb3
    go_upto_region 6 with (first
      | (go_at_call 8; refine (H8.out w3 HB3.out).mono ?_; rintro e w4 ⟨⟨p4, cap4, rfl, hc4, rt4⟩, hb4⟩; have hd4 := HB3.out.trans (hb4.mono HB3.out.size))
      | (go_at_call 7; refine (HV.out w4 p4 cap4 hd4 rt4.out).mono ?_; rintro e w5 ⟨rfl, hb5⟩; have hd5 := hd4.trans (hb5.mono hd4.size); obtain ⟨e5, d5, _⟩ := C.out w5 hd5)
      | go_in)
    have HB5 : Hid (Below w2.heap.size w2 w5) := hd5
    clear hd5 hd4 hb5 hb4 rt4 hb3 HV e3 d3 d1 d2
    have HCD : Hid (∀ w' : World, Below w5.heap.size w5 w' → Below w2.heap.size w2 w') := fun w' hb => HB5.out.trans (hb.mono HB5.out.size)
    clear HB3
    rcases hN with h1 | ⟨h1, h2⟩ | ⟨h1, h2⟩
    rotate_left 2
    · have i1 : IntKind.i64.wrap (N + 40) = N + 40 := by rw [IntKind.wrap_i64]; omega
      obtain ⟨F, hF⟩ : ∃ F : Nat, N = (F : Int) := ⟨N.toNat, by omega⟩
      have HFN : Hid (N = (F : Int)) := hF
      clear hF
      go_wp2
      go_loopw [5] (fun a wr => ∃ i : Nat, i ≤ n ∧ a = .int .i64 (i : Int) ∧ Hid (Below w5.heap.size w5 wr)) (fun a _ => n - (intOf a).toNat)
      case atStart => exact ⟨F, by have := HFN.out; omega, by rw [HFN.out], Below.refl _ _⟩
      case round =>
        obtain ⟨i, hi, rfl, hB⟩ := hrel
        have hcw := HCD.out _ hB.out
        obtain ⟨er, dr, _⟩ := C.out _ hcw
        by_cases hgo : (i : Int) < (n : Int) ∧ (i : Int) < N + 40
        · obtain ⟨hg1, hg2⟩ := hgo
          have j1 : IntKind.i64.wrap ((i : Int) + 1) = (i : Int) + 1 := by rw [IntKind.wrap_i64]; omega
          have hgn : i < n := by omega
          clear H8 R11 R12
          go_wp2_with (first
            | (go_at_call 15; refine (H15.out _ i hcw hgn).mono ?_; rintro e w6 ⟨rfl, hb6⟩)
            | go_in)
          exact ⟨⟨i + 1, by omega, by go_num, hB.out.trans (hb6.mono hB.out.size)⟩, by simp [intOf]; omega⟩
        · have hdone : ¬ (i : Int) < (n : Int) ∨ ((i : Int) < (n : Int) ∧ ¬ (i : Int) < N + 40) := by omega
          obtain ⟨l1, l2, l3⟩ := HLA.out
          have HL1 : Hid (lastS L (n : Int) = -1) := l1
          have HL2 : Hid (lastS L (-1) = -1) := l2
          have HL3 : Hid (lastS L 0 = (n : Int) - 1) := l3
          clear hgo H15 l1 l2 l3 HLA
          rcases hdone with k1 | ⟨k1, k2⟩
          all_goals go_upto_region 14 with fail
          all_goals (
            have hcd : Below w2.heap.size w2 (World.drew _) := hcw.drew
            go_region_held3 (fun w' => w'.cell? ⟨w.heap.size, 2, none⟩ = some (.int .i64 N) ∧ w'.cell? ⟨w.heap.size + 1, 0, none⟩ = some (.slice (some ⟨g, o, none⟩) n cap) ∧ Below w2.heap.size w2 w') (exact C.out _ (by assumption))
              (first
              | (go_at_call 8; refine (H8.out _ hcd).mono ?_; rintro e w6 ⟨⟨p6, cap6, rfl, hc6, rt6⟩, hb6⟩; replace hcd := hcd.trans (hb6.mono hcd.size))
              | (go_at_call 11; refine (R11.out _ _ _ _ hcd ?_).mono ?_; (first | exact Hid.out (by assumption) | exact Reads.next (Hid.out (by assumption)) (by assumption)); rintro e w7 ⟨rfl, hb7⟩; replace hcd := hcd.trans (hb7.mono hcd.size); (try rewrite [HL1.out]); (try rewrite [HL2.out]); (try rewrite [HL3.out]))
              | (go_at_call 12; refine (R12.out _ _ _ hcd ?_).mono ?_; (first | exact Hid.out (by assumption) | exact Reads.next (Hid.out (by assumption)) (by assumption)); rintro e w7 ⟨rfl, hb7⟩; replace hcd := hcd.trans (hb7.mono hcd.size)))
            go_wp2
            go_ret
            exact ⟨rfl, B2.out.trans (hcd.mono zz.out)⟩)
    all_goals (
      go_wp2
      go_loopw [5] (fun a wr => ∃ i : Nat, i ≤ n ∧ a = .int .i64 (i : Int) ∧ Hid (Below w5.heap.size w5 wr)) (fun a _ => n - (intOf a).toNat)
      case atStart => exact ⟨0, by omega, rfl, Below.refl _ _⟩
      case round =>
        obtain ⟨i, hi, rfl, hB⟩ := hrel
        have hcw := HCD.out _ hB.out
        obtain ⟨er, dr, _⟩ := C.out _ hcw
        by_cases hgo : (i : Int) < (n : Int) ∧ (i : Int) < 40
        · obtain ⟨hg1, hg2⟩ := hgo
          have j1 : IntKind.i64.wrap ((i : Int) + 1) = (i : Int) + 1 := by rw [IntKind.wrap_i64]; omega
          have hgn : i < n := by omega
          clear H8 R11 R12
          go_wp2_with (first
            | (go_at_call 15; refine (H15.out _ i hcw hgn).mono ?_; rintro e w6 ⟨rfl, hb6⟩)
            | go_in)
          exact ⟨⟨i + 1, by omega, by go_num, hB.out.trans (hb6.mono hB.out.size)⟩, by simp [intOf]; omega⟩
        · have hdone : ¬ (i : Int) < (n : Int) ∨ ((i : Int) < (n : Int) ∧ ¬ (i : Int) < 40) := by omega
          obtain ⟨l1, l2, l3⟩ := HLA.out
          have HL1 : Hid (lastS L (n : Int) = -1) := l1
          have HL2 : Hid (lastS L (-1) = -1) := l2
          have HL3 : Hid (lastS L 0 = (n : Int) - 1) := l3
          clear hgo H15 l1 l2 l3 HLA
          rcases hdone with k1 | ⟨k1, k2⟩
          all_goals go_upto_region 14 with fail
          all_goals (
            have hcd : Below w2.heap.size w2 (World.drew _) := hcw.drew
            go_region_held3 (fun w' => w'.cell? ⟨w.heap.size, 2, none⟩ = some (.int .i64 N) ∧ w'.cell? ⟨w.heap.size + 1, 0, none⟩ = some (.slice (some ⟨g, o, none⟩) n cap) ∧ Below w2.heap.size w2 w') (exact C.out _ (by assumption))
              (first
              | (go_at_call 8; refine (H8.out _ hcd).mono ?_; rintro e w6 ⟨⟨p6, cap6, rfl, hc6, rt6⟩, hb6⟩; replace hcd := hcd.trans (hb6.mono hcd.size))
              | (go_at_call 11; refine (R11.out _ _ _ _ hcd ?_).mono ?_; (first | exact Hid.out (by assumption) | exact Reads.next (Hid.out (by assumption)) (by assumption)); rintro e w7 ⟨rfl, hb7⟩; replace hcd := hcd.trans (hb7.mono hcd.size); (try rewrite [HL1.out]); (try rewrite [HL2.out]); (try rewrite [HL3.out]))
              | (go_at_call 12; refine (R12.out _ _ _ hcd ?_).mono ?_; (first | exact Hid.out (by assumption) | exact Reads.next (Hid.out (by assumption)) (by assumption)); rintro e w7 ⟨rfl, hb7⟩; replace hcd := hcd.trans (hb7.mono hcd.size)))
            go_wp2
            go_ret
            exact ⟨rfl, B2.out.trans (hcd.mono zz.out)⟩))
end Go.Proofs.YtekgnogjfggnmaaDoor
