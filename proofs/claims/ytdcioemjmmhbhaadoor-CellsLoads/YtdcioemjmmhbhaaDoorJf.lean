import Derived.Test.YtdcioemjmmhbhaaDoorRH
import Derived.BigQuiet
import Derived.Lib.QuietBelow
import Derived.Test.YtdcioemjmmhbhaaDoorJb
namespace Go.Proofs.YtdcioemjmmhbhaaDoor
open Go.RowKit

theorem may4 (k n : Int) (s : ByteArray) (cnt : Nat) : mayS (k, n, s) 4 cnt = ((((k == 4) && s.toList.isEmpty) && decide (0 ≤ n)) && decide (n ≤ (cnt : Int))) := by
  unfold mayS okV
  simp only
  by_cases hk : k = 4
  · subst hk
    cases hs : s.toList with
    | nil => simp
    | cons a l => simp
  · have : (k == 4) = false := by simpa using hk
    rw [this]
    simp

set_option maxRecDepth 100000 in
set_option maxHeartbeats 2000000 in
theorem refers_any {w : World} {p lim : Nat} {Md : List Mr} {Ps : List Dn} {mv pv : Value} {F : Nat → Prop} (h : RHeap w p lim Md Ps mv pv F) (k n : Int) (s : ByteArray) :
    Calls Tryd.prog 58 #[.pointer (some ⟨p, 0, none⟩), .agg #[.int .i64 k, .int .i64 n, .string s]] w fun e w' => e = .returned (.bool (mayS (k, n, s) 4 Md.length)) ∧ Below w.heap.size w w' := by
  have B0 : Below w.heap.size w (w.alloc (.cells #[.int .i64 k, .int .i64 n, .string s] 37)) := (Below.refl _ w).alloc (Nat.le_refl _) _
  obtain ⟨⟨⟨x0, -⟩, ⟨x1, -⟩⟩, x2, -⟩ := Box3.new w k n s 37
  have c1 := (h.next B0).c1
  obtain ⟨q, c, rfl, -⟩ := h.mdAt
  have hl := h.len.1
  rw [may4]
  clear h
  go_enter Tryd.func58, Tryd.ntmps58
  go_upto_region 1 with fail
  generalize w.alloc (.cells #[.int .i64 k, .int .i64 n, .string s] 37) = X at B0 x0 x1 x2 c1 ⊢
  have y0 := cell_regrown x0
  have y1 := cell_regrown x1
  have y2 := cell_regrown x2
  have y3 := cell_regrown c1
  go_wp2_with fail
  clear x0 x1 x2 c1
  by_cases hk : k = 4
  · subst hk
    by_cases hs0 : s.toList = []
    case neg =>
      have sb2 : s.toList.isEmpty = false := by simp [hs0]
      have sb3 : (s.toList == []) = false := by simpa using hs0
      refine wp_region_quiet_below (by kernel_rfl) (by kernel_rfl) ?_
      repeat (first | go_big_quiet_step (first | fail) | quiet_step (first | fail))
      refine wpQuiet_nil ?_
      intro _ hw'
      obtain ⟨⟨dq, osq⟩, hw''⟩ := hw'
      subst hw''
      have hY := below_regrown X dq osq
      change Exit.then _ _ Exit.normal _ (Sort.grow (redrawn X dq) osq)
      generalize Sort.grow (redrawn X dq) osq = Y at hY ⊢
      go_wp2
      go_ret
      exact ⟨by simp [sb2], below2 B0 hY⟩
    case pos =>
      obtain rfl := eq_e0 hs0
      unfold e0 at *
      by_cases h0 : 0 ≤ n
      · have h0' : decide (0 ≤ n) = true := decide_eq_true h0
        by_cases h1 : n ≤ (Md.length : Int)
        · have h1' : decide (n ≤ (Md.length : Int)) = true := decide_eq_true h1
          refine wp_region_quiet_below (by kernel_rfl) (by kernel_rfl) ?_
          repeat (first | go_big_quiet_step (first | fail) | quiet_step (first | fail))
          refine wpQuiet_nil ?_
          intro _ hw'
          obtain ⟨⟨dq, osq⟩, hw''⟩ := hw'
          subst hw''
          have hY := below_regrown X dq osq
          change Exit.then _ _ Exit.normal _ (Sort.grow (redrawn X dq) osq)
          generalize Sort.grow (redrawn X dq) osq = Y at hY ⊢
          go_wp2
          go_ret
          exact ⟨by simp [h0, h1], below2 B0 hY⟩
        · have h1' : decide (n ≤ (Md.length : Int)) = false := decide_eq_false h1
          refine wp_region_quiet_below (by kernel_rfl) (by kernel_rfl) ?_
          repeat (first | go_big_quiet_step (first | fail) | quiet_step (first | fail))
          refine wpQuiet_nil ?_
          intro _ hw'
          obtain ⟨⟨dq, osq⟩, hw''⟩ := hw'
          subst hw''
          have hY := below_regrown X dq osq
          change Exit.then _ _ Exit.normal _ (Sort.grow (redrawn X dq) osq)
          generalize Sort.grow (redrawn X dq) osq = Y at hY ⊢
          go_wp2
          go_ret
          exact ⟨by simp, below2 B0 hY⟩
      · have h0' : decide (0 ≤ n) = false := decide_eq_false h0
        refine wp_region_quiet_below (by kernel_rfl) (by kernel_rfl) ?_
        repeat (first | go_big_quiet_step (first | fail) | quiet_step (first | fail))
        refine wpQuiet_nil ?_
        intro _ hw'
        obtain ⟨⟨dq, osq⟩, hw''⟩ := hw'
        subst hw''
        have hY := below_regrown X dq osq
        change Exit.then _ _ Exit.normal _ (Sort.grow (redrawn X dq) osq)
        generalize Sort.grow (redrawn X dq) osq = Y at hY ⊢
        go_wp2
        go_ret
        exact ⟨by simp, below2 B0 hY⟩
  · have hk' : (k == 4) = false := by simpa using hk
    refine wp_region_quiet_below (by kernel_rfl) (by kernel_rfl) ?_
    repeat (first | go_big_quiet_step (first | fail) | quiet_step (first | fail))
    refine wpQuiet_nil ?_
    intro _ hw'
    obtain ⟨⟨dq, osq⟩, hw''⟩ := hw'
    subst hw''
    have hY := below_regrown X dq osq
    change Exit.then _ _ Exit.normal _ (Sort.grow (redrawn X dq) osq)
    generalize Sort.grow (redrawn X dq) osq = Y at hY ⊢
    go_wp2
    go_ret
    exact ⟨by simp [hk'], below2 B0 hY⟩

set_option maxHeartbeats 1000000 in
set_option maxRecDepth 100000 in
theorem length_any {w : World} {p lim : Nat} {Md : List Mr} {Ps : List Dn} {mv pv : Value} {F : Nat → Prop} (h : RHeap w p lim Md Ps mv pv F) (n : Nat) (hn : n ≤ Md.length) :
    Calls Tryd.prog 59 #[.pointer (some ⟨p, 0, none⟩), .int .i64 (n : Int)] w fun e w' => e = .returned (.int .i64 (((if n = 0 then 0 else (Md.getD (n - 1) (0, 0)).2 : Nat)) : Int)) ∧ w' = w := by
  obtain ⟨q, c, rfl, hat⟩ := h.mdAt
  have c1 := h.c1
  have hlen := h.len.1
  clear h
  by_cases h0 : n = 0
  · subst h0
    go_enter Tryd.func59, Tryd.ntmps59
    go_wp2
    go_ret
    exact ⟨rfl, rfl⟩
  · obtain ⟨m, rfl⟩ : ∃ m, n = m + 1 := ⟨n - 1, by omega⟩
    rw [if_neg (by omega)]
    have hm : m < Md.length := by omega
    obtain ⟨g, rfl, e0', e1'⟩ := hat m hm
    have hd : Md.getD (m + 1 - 1) (0, 0) = Md[m] := by rw [Nat.add_sub_cancel, List.getD_eq_getElem?_getD, List.getElem?_eq_getElem hm]; rfl
    rw [hd]
    generalize Md[m] = y at e0' e1' ⊢
    have i1 : IntKind.i64.wrap (((m + 1 : Nat) : Int) - 1) = (m : Int) := by rw [IntKind.wrap_i64]; omega
    have i1' : IntKind.i64.wrap ((m : Int) + 1 - 1) = (m : Int) := by rw [IntKind.wrap_i64]; omega
    have i2 : (((m + 1 : Nat) : Int) == 0) = false := by simp; omega
    have i2' : ((m : Int) + 1 == 0) = false := by simp; omega
    have k0 : (0 : Int) ≤ (m : Int) := by omega
    have k1 : (m : Int) < (Md.length : Int) := by omega
    clear hat
    go_enter Tryd.func59, Tryd.ntmps59
    go_wp2
    go_ret
    exact ⟨rfl, rfl⟩
end Go.Proofs.YtdcioemjmmhbhaaDoor
namespace Go.Proofs.YtdcioemjmmhbhaaDoor
open Go.RowKit

set_option maxRecDepth 100000 in
set_option maxHeartbeats 2000000 in
theorem relem_any {w : World} {p lim : Nat} {Md : List Mr} {Ps : List Dn} {mv pv : Value} {F : Nat → Prop} (h : RHeap w p lim Md Ps mv pv F) (n i : Nat) (m : Mr) (hm : Md[n]? = some m) (hPl : Ps.length ≤ 4611686018427387904) :
    Calls Tryd.prog 49 #[.pointer (some ⟨p, 0, none⟩), .int .i64 ((n : Int) + 1), .int .i64 (i : Int)] w fun e w' => e = .returned (.agg (vc (elemP Ps (n + 1) i (m.1, 0, e0) Ps.length)).toArray) ∧ Below w.heap.size w w' := by
  have b1 := Box3.new w 0 0 e0 37
  have B0 : Below w.heap.size w (w.alloc (.cells #[.int .i64 0, .int .i64 0, .string e0] 37)) := (Below.refl _ w).alloc (Nat.le_refl _) _
  obtain ⟨R, hR⟩ : ∃ R, elemP Ps (n + 1) i (m.1, 0, e0) Ps.length = R := ⟨_, rfl⟩
  have HR : Hid (elemP Ps (n + 1) i (m.1, 0, e0) Ps.length = R) := hR
  rw [hR]
  clear hR
  have hnl : n < Md.length := (List.getElem?_eq_some_iff.1 hm).1
  have hme : Md[n] = m := (List.getElem?_eq_some_iff.1 hm).2
  have hml := h.len.1
  go_enter Tryd.func49, Tryd.ntmps49
  go_upto_region 1 with fail
  generalize w.alloc (.cells #[.int .i64 0, .int .i64 0, .string e0] 37) = X at b1 B0 ⊢
  replace h := h.next B0
  have hc1 := h.c1
  have hc2 := h.c2
  obtain ⟨mq, mcp, rfl, hmat⟩ := h.mdAt
  obtain ⟨pq, pcp, rfl, hpat⟩ := h.psAt
  obtain ⟨⟨⟨y0, g0⟩, ⟨y1, g1⟩⟩, y2, g2⟩ := id b1
  have i1 : IntKind.i64.wrap ((Ps.length : Int) - 1) = (Ps.length : Int) - 1 := by rw [IntKind.wrap_i64]; omega
  clear h hm
  go_wp2_with fail
  clear i1
  go_loopw [7] (fun v wr => ∃ k : Nat, k ≤ Ps.length ∧ v = .int .i64 ((k : Int) - 1) ∧ Hid (elemP Ps (n + 1) i (m.1, 0, e0) k = R) ∧ wr = X) (fun v _ => (intOf v + 1).toNat)
  case atStart => exact ⟨Ps.length, Nat.le_refl _, rfl, HR, rfl⟩
  case round =>
    obtain ⟨k, hk, hv, hE, rfl⟩ := hrel
    cases k with
    | zero =>
      have hv' : u7 = .int .i64 (-1) := hv
      subst hv'
      clear hv
      have hE' : (m.1, 0, e0) = R := hE.out
      obtain ⟨g, rfl, a0, a1⟩ := hmat n hnl
      rw [hme] at a0 a1
      obtain ⟨mk, mn⟩ := m
      subst hE'
      simp only at a0 a1
      have j0 : IntKind.i64.wrap ((n : Int) + 1 - 1) = (n : Int) := by rw [IntKind.wrap_i64]; omega
      have j1 : (0 : Int) ≤ (n : Int) := by omega
      have j2 : (n : Int) < (Md.length : Int) := by omega
      clear hmat hpat hE HR
      go_wp2
      have mm := b1.put mk 0 e0
      have B1 := below_put3 B0 (Nat.le_refl _) mk 0 e0
      change bodyPost Tryd.prog _ _ _ _ (put3 wr w.heap.size _ _ _)
      generalize put3 wr w.heap.size mk 0 e0 = Z at mm B1 ⊢
      obtain ⟨⟨⟨p0, -⟩, ⟨p1, -⟩⟩, p2, -⟩ := mm
      exact bodyPost_ret (v := .agg #[.int .i64 mk, .int .i64 0, .string e0]) (by simp [results, Tryd.results49, go_sem, p0, p1, p2]) rfl ⟨rfl, B1⟩
    | succ j =>
      have hv' : u7 = .int .i64 (j : Int) := by rw [hv]; congr 1; omega
      subst hv'
      clear hv
      have hj : j < Ps.length := by omega
      have hgd : Ps.getD j (0, 0, zv) = Ps[j] := by rw [List.getD_eq_getElem?_getD, List.getElem?_eq_getElem hj]; rfl
      have hE2 : (if (Ps.getD j (0, 0, zv)).1 = n + 1 ∧ (Ps.getD j (0, 0, zv)).2.1 = i then (Ps.getD j (0, 0, zv)).2.2 else elemP Ps (n + 1) i (m.1, 0, e0) j) = R := hE.out
      rw [hgd] at hE2
      obtain ⟨g, rfl, d0, d1, d2, d3, d4⟩ := hpat j hj
      generalize Ps[j] = d at hE2 d0 d1 d2 d3 d4
      obtain ⟨da, di, dk, dn, ds⟩ := d
      simp only at hE2 d0 d1 d2 d3 d4
      have j0 : (0 : Int) ≤ (j : Int) := by omega
      have j1 : (j : Int) < (Ps.length : Int) := by omega
      have j2 : IntKind.i64.wrap ((j : Int) - 1) = (j : Int) - 1 := by rw [IntKind.wrap_i64]; omega
      by_cases e1 : da = n + 1
      · have e1' : ((da : Int) == (n : Int) + 1) = true := by simp; omega
        by_cases e2 : di = i
        · have e2' : ((di : Int) == (i : Int)) = true := by simp; omega
          rw [if_pos ⟨e1, e2⟩] at hE2
          subst hE2
          clear hmat hpat hE HR e1 e2
          go_wp2
          have mm := b1.put dk dn ds
          have B1 := below_put3 B0 (Nat.le_refl _) dk dn ds
          change bodyPost Tryd.prog _ _ _ _ (put3 wr w.heap.size _ _ _)
          generalize put3 wr w.heap.size dk dn ds = Z at mm B1 ⊢
          obtain ⟨⟨⟨p0, -⟩, ⟨p1, -⟩⟩, p2, -⟩ := mm
          exact bodyPost_ret (v := .agg #[.int .i64 dk, .int .i64 dn, .string ds]) (by simp [results, Tryd.results49, go_sem, p0, p1, p2]) rfl ⟨rfl, B1⟩
        · have e2' : ((di : Int) == (i : Int)) = false := by simp; omega
          rw [if_neg (fun q => e2 q.2)] at hE2
          have HE2 : Hid (elemP Ps (n + 1) i (m.1, 0, e0) j = R) := hE2
          clear hmat hpat hE HR hE2 e1 e2
          go_wp2
          exact ⟨⟨j, by omega, rfl, HE2, by first | rfl | trivial⟩, by simp [intOf]⟩
      · have e1' : ((da : Int) == (n : Int) + 1) = false := by simp; omega
        rw [if_neg (fun q => e1 q.1)] at hE2
        have HE2 : Hid (elemP Ps (n + 1) i (m.1, 0, e0) j = R) := hE2
        clear hmat hpat hE HR hE2 e1
        go_wp2
        exact ⟨⟨j, by omega, rfl, HE2, by first | rfl | trivial⟩, by simp [intOf]⟩

set_option maxRecDepth 100000 in
set_option maxHeartbeats 2000000 in
theorem rmay_any {w : World} {p lim : Nat} {Md : List Mr} {Ps : List Dn} {mv pv : Value} {F : Nat → Prop} (h : RHeap w p lim Md Ps mv pv F) (kind k n : Int) (s : ByteArray) (hk : 1 ≤ kind ∧ kind ≤ 4) (hs : s.size ≤ 9223372036854775807) :
    Calls Tryd.prog 56 #[.pointer (some ⟨p, 0, none⟩), .int .i64 kind, .agg #[.int .i64 k, .int .i64 n, .string s]] w fun e w' => e = .returned (.bool (mayS (k, n, s) kind Md.length)) ∧ Below w.heap.size w w' := by
  have B0 : Below w.heap.size w (w.alloc (.cells #[.int .i64 k, .int .i64 n, .string s] 37)) := (Below.refl _ w).alloc (Nat.le_refl _) _
  obtain ⟨⟨⟨x0, -⟩, ⟨x1, -⟩⟩, x2, -⟩ := Box3.new w k n s 37
  by_cases e : k = kind
  · subst e
    have : k = 1 ∨ k = 2 ∨ k = 3 ∨ k = 4 := by omega
    rcases this with rfl | rfl | rfl | rfl
    · by_cases hs0 : s.toList = []
      · obtain rfl := eq_e0 hs0
        go_enter Tryd.func56, Tryd.ntmps56
        unfold e0 at *
        go_wp2
        go_ret
        exact ⟨by simp [mayS, okV], B0⟩
      · have sb : (s.toList == []) = false := by simp [hs0]
        have sb2 : s.toList.isEmpty = false := by simp [hs0]
        go_enter Tryd.func56, Tryd.ntmps56
        go_wp2
        go_ret
        exact ⟨by simp [mayS, okV, hs0], B0⟩
    · by_cases hs0 : s.toList = []
      · obtain rfl := eq_e0 hs0
        by_cases h0 : 0 ≤ n
        · by_cases h1 : n ≤ 1
          · have hn : n = 0 ∨ n = 1 := by omega
            go_enter Tryd.func56, Tryd.ntmps56
            unfold e0 at *
            go_wp2
            go_ret
            rcases hn with rfl | rfl <;> exact ⟨by simp [mayS, okV], B0⟩
          · have hn : n ≠ 0 ∧ n ≠ 1 := by omega
            go_enter Tryd.func56, Tryd.ntmps56
            unfold e0 at *
            go_wp2
            go_ret
            exact ⟨by simp [mayS, okV, hn.1, hn.2], B0⟩
        · have hn : n ≠ 0 ∧ n ≠ 1 := by omega
          go_enter Tryd.func56, Tryd.ntmps56
          unfold e0 at *
          go_wp2
          go_ret
          exact ⟨by simp [mayS, okV, hn.1, hn.2], B0⟩
      · have sb : (s.toList == []) = false := by simp [hs0]
        have sb2 : s.toList.isEmpty = false := by simp [hs0]
        go_enter Tryd.func56, Tryd.ntmps56
        go_wp2
        go_ret
        exact ⟨by simp [mayS, okV, hs0], B0⟩
    · by_cases h0 : n = 0
      · subst h0
        by_cases h1 : (s.size : Int) ≤ 256
        · have h2 : s.size ≤ 256 := by omega
          go_enter Tryd.func56, Tryd.ntmps56
          go_wp2
          go_ret
          exact ⟨by simp [mayS, okV, h2], B0⟩
        · have h2 : ¬ (s.size ≤ 256) := by omega
          go_enter Tryd.func56, Tryd.ntmps56
          go_wp2
          go_ret
          exact ⟨by simp [mayS, okV, h2], B0⟩
      · have h0' : (n == 0) = false := by simpa using h0
        go_enter Tryd.func56, Tryd.ntmps56
        go_wp2
        go_ret
        exact ⟨by simp [mayS, okV, h0], B0⟩
    · have hr := refers_any (h.next B0) 4 n s
      go_enter Tryd.func56, Tryd.ntmps56
      go_wp2_with (first | (go_at_call 58; refine hr.mono ?_; rintro e w1 ⟨rfl, hb⟩) | go_in)
      go_ret
      exact ⟨rfl, below2 B0 hb⟩
  · have e' : (k != kind) = true := by simpa using e
    have e2 : (k == kind) = false := by simpa using e
    go_enter Tryd.func56, Tryd.ntmps56
    go_wp2
    go_ret
    exact ⟨by simp [mayS, e2], B0⟩
end Go.Proofs.YtdcioemjmmhbhaaDoor
