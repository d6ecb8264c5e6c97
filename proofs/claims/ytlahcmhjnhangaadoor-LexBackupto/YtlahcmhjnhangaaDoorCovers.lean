import Derived.Test.YtlahcmhjnhangaaDoorGap
namespace Go.Proofs.YtlahcmhjnhangaaDoor
open Go.RowKit

theorem toksV_get : ∀ (l : List (Nat × Tk)) (n : Nat) (k : Nat) (x : Tk), l[n]? = some (k, x) → ∀ i, i < 5 → (toksV l)[n * 5 + i]? = (tkCells k x)[i]?
  | [], n, k, x, h, i, hi => by simp at h
  | p :: l, 0, k, x, h, i, hi => by
    simp only [List.getElem?_cons_zero, Option.some.injEq] at h
    subst h
    unfold toksV
    rw [List.flatMap_cons, List.getElem?_append_left (by simp [tkCells]; omega), Nat.zero_mul, Nat.zero_add]
  | p :: l, n + 1, k, x, h, i, hi => by
    rw [List.getElem?_cons_succ] at h
    have ih := toksV_get l n k x h i hi
    unfold toksV at ih ⊢
    rw [List.flatMap_cons, List.getElem?_append_right (by simp [tkCells]; omega)]
    rw [show (n + 1) * 5 + i - (tkCells p.1 p.2).length = n * 5 + i from by simp [tkCells]; omega]
    exact ih

theorem cov_cons {L : List UInt8} {a k : Nat} {x : Tk} {l : List (Nat × Tk)} (h : Cov L a ((k, x) :: l)) :
    a ≤ k ∧ k ≤ L.length ∧ gpS false ((L.take k).drop a) = k - a ∧ ((l = [] ∧ k = L.length ∧ x = ⟨0, 0, [], 0⟩) ∨
      (l ≠ [] ∧ 1 ≤ x.len ∧ k + x.len ≤ L.length ∧ scanS (x.len + 1) 0 ((L.drop k).take x.len) = .inr [(0, x), (x.len, ⟨0, 0, [], 0⟩)] ∧ Cov L (k + x.len) l)) := by
  match l, h with
  | [], h => exact ⟨h.1, by have := h.2.1; omega, h.2.2.2, Or.inl ⟨rfl, h.2.1, h.2.2.1⟩⟩
  | y :: l, h =>
    obtain ⟨h1, h2, h3, h4, ⟨c, r, h5, h6, h7, h8⟩, h9⟩ := h
    exact ⟨h1, by omega, h4, Or.inr ⟨by simp, h2, h3, piece_scan h5 h6 h7 h8, h9⟩⟩

set_option maxRecDepth 100000 in
set_option maxHeartbeats 8000000 in
theorem lexCovers_any (t : ByteArray) (w : World) (hT : Tabs w) :
    Calls Tryd.prog 6 #[.string t] w fun e w' => e = .returned (.bool true) ∧ Below w.heap.size w w' := by
  have H1 : Hid (Calls Tryd.prog 13 #[] w fun e w' => e = .returned (.bool true) ∧ Below w.heap.size w w') := one_any w hT
  have HT : Hid (Tabs w) := hT
  clear hT
  by_cases hz : 4194304 < t.size
  · have HC := scan_over t hz
    go_enter Tryd.func6, Tryd.ntmps6
    go_wp2_with (first
      | (go_at_call 13; refine H1.out.mono ?_; rintro e w1 ⟨rfl, hb1⟩)
      | (go_at_call 14; refine (HC.out w1).mono ?_; rintro e w2 ⟨rfl, hb2⟩)
      | go_in)
    go_ret
    exact ⟨rfl, (hb1.trans (hb2.mono hb1.size)).alloc (Nat.le_trans hb1.size hb2.size) _⟩
  · have ht : t.size ≤ 4194304 := by omega
    cases hr : scanS (t.size + 1) 0 t.data.toList with
    | inl p =>
      obtain ⟨e, k⟩ := p
      have HC := scan_no t ht e k hr
      obtain ⟨m, hm0, hm, c, r, hd, hb, h35, hk, _⟩ := scan_err _ _ _ _ _ (by rw [← Lib.size_eq]; omega) hr
      have herr := tok_err hk
      have he0 : ((e : Int) == 0) = false := by rw [beq_eq_false_iff_ne]; omega
      clear hr hm0 hm hd hb h35 hk herr hz
      go_enter Tryd.func6, Tryd.ntmps6
      go_wp2_with (first
        | (go_at_call 13; refine H1.out.mono ?_; rintro e w1 ⟨rfl, hb1⟩)
        | (go_at_call 14; refine (HC.out w1 (HT.out.next hb1)).mono ?_; rintro e w2 ⟨rfl, hb2⟩)
        | go_in)
      go_ret
      exact ⟨rfl, (hb1.trans (hb2.mono hb1.size)).alloc (Nat.le_trans hb1.size hb2.size) _⟩
    | inr toks =>
      have HC := scan_yes t ht toks hr
      have hne := scan_some _ _ _ _ hr
      have hsz := Lib.size_eq t
      have HCov : Hid (Cov t.data.toList 0 toks) := cov_of_scan t.data.toList (t.data.toList.length + 1) (t.size + 1) 0 toks (by omega) (by omega) (by rw [List.drop_zero]; omega) (by rw [List.drop_zero]; exact hr)
      have hlen : 0 < toks.length := List.length_pos_iff.2 hne
      have hl0 : ((toks.length : Int) == 0) = false := by rw [beq_eq_false_iff_ne]; omega
      have hlen2 : toks.length ≤ 4194305 := scan_count t ht toks hr
      have HSz : Hid (t.size = t.data.toList.length) := hsz
      clear hr hne hz hsz
      go_enter Tryd.func6, Tryd.ntmps6
      go_wp2_with (first
        | (go_at_call 13; refine H1.out.mono ?_; rintro e w1 ⟨rfl, hb1⟩)
        | (go_at_call 14; refine (HC.out w1 (HT.out.next hb1)).mono ?_; rintro e w2 ⟨v, rfl, ho, hb2⟩; obtain ⟨g, cap, rfl, hcap, hg0, hg1, hcell⟩ := toks_at ho hlen; have HCell : Hid (∀ j u, (toksV toks)[j]? = some u → w2.cell? ⟨g, j, none⟩ = some u) := hcell; clear hcell ho)
        | go_in)
      have HT2 : Hid (Tabs w2) := (HT.out.next hb1).next hb2
      have HB2 : Hid (Below w.heap.size w w2) := hb1.trans (hb2.mono hb1.size)
      clear HC H1 HT hb1 hb2
      go_loopw [5, 32] (fun at_ i wr => ∃ (n a : Nat), n < toks.length ∧ i = .int .i64 (n : Int) ∧ at_ = .int .i64 (a : Int) ∧ Hid (Cov t.data.toList a (toks.drop n)) ∧ Hid (Below w2.heap.size w2 wr)) (fun _ i _ => toks.length - (intOf i).toNat)
      case atStart => exact ⟨0, 0, hlen, rfl, rfl, by rw [List.drop_zero]; exact HCov, (Below.refl _ _).alloc (Nat.le_refl _) _⟩
      case round =>
        obtain ⟨n, a, hn, rfl, rfl, hcov, hB⟩ := hrel
        obtain ⟨⟨k, x⟩, hkx⟩ : ∃ p, toks[n]? = some p := ⟨_, List.getElem?_eq_getElem hn⟩
        have hdn : toks.drop n = (k, x) :: toks.drop (n + 1) := by
          rw [List.drop_eq_getElem_cons hn]
          rw [List.getElem?_eq_getElem hn] at hkx
          rw [Option.some.inj hkx]
        have hcc := hcov.out
        rw [hdn] at hcc
        obtain ⟨hak, hkl, hgp, hrest⟩ := cov_cons hcc
        rw [← HSz.out] at hkl
        obtain ⟨E, hE⟩ : ∃ E, k + x.len = E := ⟨_, rfl⟩
        obtain ⟨S, hS⟩ : ∃ S, (⟨x.text.toArray⟩ : ByteArray) = S := ⟨_, rfl⟩
        have hc : ∀ i u, i < 5 → (tkCells k x)[i]? = some u → wr.cell? ⟨g, n * 5 + i, none⟩ = some u := fun i u hi hu => (hB.out.cell (p := ⟨g, n * 5 + i, none⟩) hg1).trans (HCell.out _ _ (by rw [toksV_get toks n k x hkx i hi]; exact hu))
        have c0 : wr.cell? ⟨g, n * 5, none⟩ = some (.int .i64 (x.kind : Int)) := hc 0 _ (by omega) rfl
        have c1 := hc 1 _ (by omega) rfl
        have c2 : wr.cell? ⟨g, n * 5 + 2, none⟩ = some (.int .i64 (E : Int)) := by
          have := hc 2 _ (by omega) rfl
          rwa [show (k : Int) + (x.len : Int) = (E : Int) from by omega] at this
        have c3 := hc 3 _ (by omega) rfl
        rw [hS] at c3
        have c4 := hc 4 _ (by omega) rfl
        have n0 : (0 : Int) ≤ (n : Int) := by omega
        have n1 : (n : Int) < (toks.length : Int) := by omega
        have a1 : ¬ (k : Int) < (a : Int) := by omega
        have a2 : ¬ (t.size : Int) < (k : Int) := by omega
        have hgr : g < wr.heap.size := Nat.lt_of_lt_of_le hg1 hB.out.size
        have HG : Hid (∀ w, Calls Tryd.prog 15 #[.string t, .int .i64 (a : Int), .int .i64 (k : Int)] w fun e w' => e = .returned (.bool true) ∧ w = w') := fun w => gap_any t a k w (by omega) hak hkl hgp
        have HBw : Hid (Below w.heap.size w wr) := HB2.out.trans (hB.out.mono HB2.out.size)
        rcases hrest with ⟨hl, hk2, hx⟩ | ⟨hl, hx1, hx2, hps, hcov2⟩
        · subst hx
          have hS' : S = ⟨#[]⟩ := hS.symm
          subst hS'
          have hkt : k = t.size := by rw [HSz.out]; exact hk2
          have hEt : E = t.size := by simp only at hE; omega
          have hlast : n + 1 = toks.length := by
            have := congrArg List.length hl
            rw [List.length_drop] at this
            simp at this
            omega
          have hq : ((n : Int) == (toks.length : Int) - 1) = true := by rw [beq_iff_eq]; omega
          subst hkt hEt
          clear hc hkx hdn hcc hcov hgp hl hk2 hE hS hcap hlast HCell HCov
          go_wp2_with (first
            | (go_at_call 15; refine (HG.out _).mono ?_; rintro e w4 ⟨rfl, hw4⟩; subst hw4)
            | go_in)
          go_ret
          exact ⟨rfl, HBw.out.alloc HBw.out.size _⟩
        · have hlast : n + 1 < toks.length := by
            have := List.length_pos_iff.2 hl
            rw [List.length_drop] at this
            omega
          have hq : ((n : Int) == (toks.length : Int) - 1) = false := by rw [beq_eq_false_iff_ne]; omega
          rw [hE] at hcov2 hx2
          rw [← HSz.out] at hx2
          have HCov2 : Hid (Cov t.data.toList E (toks.drop (n + 1))) := hcov2
          have HT4 : Hid (Tabs wr) := HT2.out.next hB.out
          have HP : Hid (∀ w, Tabs w → Calls Tryd.prog 16 #[.string t, .agg #[.int .i64 (x.kind : Int), .int .i64 (k : Int), .int .i64 (E : Int), .string S, .int .i64 x.int]] w fun e w' => e = .returned (.bool true) ∧ Below w.heap.size w w') := fun w hw => piece_any t k E x S hE hS w ht hx1 (by omega) hw hps
          have HTa : Hid (Tabs (wr.alloc (.cells #[.int .i64 (x.kind : Int), .int .i64 (k : Int), .int .i64 (E : Int), .string S, .int .i64 x.int] 35))) := HT4.out.next ((Below.refl _ wr).alloc (Nat.le_refl _) _)
          have F0 : Hid (Five (wr.alloc (.cells #[.int .i64 (x.kind : Int), .int .i64 (k : Int), .int .i64 (E : Int), .string S, .int .i64 x.int] 35)) wr.heap.size _ _ _ _ _) := five_new wr (.int .i64 (x.kind : Int)) (.int .i64 (k : Int)) (.int .i64 (E : Int)) (.string S) (.int .i64 x.int) 35
          have hl4 : wr.heap.size < (wr.alloc (.cells #[.int .i64 (x.kind : Int), .int .i64 (k : Int), .int .i64 (E : Int), .string S, .int .i64 x.int] 35)).heap.size := World.block_lt_of_cell? _ _ F0.out.c0
          have HBa : Hid (Below w2.heap.size w2 (wr.alloc (.cells #[.int .i64 (x.kind : Int), .int .i64 (k : Int), .int .i64 (E : Int), .string S, .int .i64 x.int] 35))) := hB.out.alloc hB.out.size _
          clear hc hkx hdn hcc hcov hgp hl hE hS hcap HCell HCov hps hcov2
          go_wp2_with (first
            | (go_at_call 15; refine (HG.out _).mono ?_; rintro e w4 ⟨rfl, hw4⟩; subst hw4)
            | (go_at_call 16; refine (HP.out _ HTa.out).mono ?_; rintro e w5 ⟨rfl, hb5⟩; obtain ⟨_, _, d2, _, _, _⟩ := F0.out.below hb5 hl4)
            | go_in)
          exact ⟨⟨n + 1, E, hlast, by go_num, rfl, HCov2, HBa.out.trans (hb5.mono HBa.out.size)⟩, by simp [intOf]; omega⟩
end Go.Proofs.YtlahcmhjnhangaaDoor
