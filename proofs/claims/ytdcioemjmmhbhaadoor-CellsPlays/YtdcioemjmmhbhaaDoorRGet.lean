import Derived.Test.YtdcioemjmmhbhaaDoorRH
import Derived.BigQuiet
import Derived.Lib.QuietBelow
namespace Go.Proofs.YtdcioemjmmhbhaaDoor
open Go.RowKit

theorem may4 (k n : Int) (s : ByteArray) (cnt : Nat) : mayS (k, n, s) 4 cnt = ((((k == 4) && s.toList.isEmpty) && decide (0 ≤ n)) && decide (n ≤ (cnt : Int))) := by
  unfold mayS okV
  simp only
  by_cases hk : k = 4
  · subst hk
    cases hs : s.toList with
    | nil => simp
    | cons a l => simp
  · have : (k == 4) = false := by simpa using hk
    rw [this]
    simp

set_option maxRecDepth 100000 in
set_option maxHeartbeats 2000000 in
theorem refers_any {w : World} {p lim : Nat} {Md : List Mr} {Ps : List Dn} {mv pv : Value} {F : Nat → Prop} (h : RHeap w p lim Md Ps mv pv F) (k n : Int) (s : ByteArray) :
    Calls Tryd.prog 58 #[.pointer (some ⟨p, 0, none⟩), .agg #[.int .i64 k, .int .i64 n, .string s]] w fun e w' => e = .returned (.bool (mayS (k, n, s) 4 Md.length)) ∧ Below w.heap.size w w' := by
  have B0 : Below w.heap.size w (w.alloc (.cells #[.int .i64 k, .int .i64 n, .string s] 37)) := (Below.refl _ w).alloc (Nat.le_refl _) _
  obtain ⟨⟨⟨x0, -⟩, ⟨x1, -⟩⟩, x2, -⟩ := Box3.new w k n s 37
  have c1 := (h.next B0).c1
  obtain ⟨q, c, rfl, -⟩ := h.mdAt
  have hl := h.len.1
  rw [may4]
  clear h
  go_enter Tryd.func58, Tryd.ntmps58
  go_upto_region 1 with fail
  generalize w.alloc (.cells #[.int .i64 k, .int .i64 n, .string s] 37) = X at B0 x0 x1 x2 c1 ⊢
  have y0 := cell_regrown x0
  have y1 := cell_regrown x1
  have y2 := cell_regrown x2
  have y3 := cell_regrown c1
  go_wp2_with fail
  clear x0 x1 x2 c1
  by_cases hk : k = 4
  · subst hk
    by_cases hs0 : s.toList = []
    case neg =>
      have sb2 : s.toList.isEmpty = false := by simp [hs0]
      have sb3 : (s.toList == []) = false := by simpa using hs0
      refine wp_region_quiet_below (by kernel_rfl) (by kernel_rfl) ?_
      repeat (first | go_big_quiet_step (first | fail) | quiet_step (first | fail))
      refine wpQuiet_nil ?_
      intro _ hw'
      obtain ⟨⟨dq, osq⟩, hw''⟩ := hw'
      subst hw''
      have hY := below_regrown X dq osq
      change Exit.then _ _ Exit.normal _ (Sort.grow (redrawn X dq) osq)
      generalize Sort.grow (redrawn X dq) osq = Y at hY ⊢
      go_wp2
      go_ret
      exact ⟨by simp [sb2], below2 B0 hY⟩
    case pos =>
      obtain rfl := eq_e0 hs0
      unfold e0 at *
      by_cases h0 : 0 ≤ n
      · have h0' : decide (0 ≤ n) = true := decide_eq_true h0
        by_cases h1 : n ≤ (Md.length : Int)
        · have h1' : decide (n ≤ (Md.length : Int)) = true := decide_eq_true h1
          refine wp_region_quiet_below (by kernel_rfl) (by kernel_rfl) ?_
          repeat (first | go_big_quiet_step (first | fail) | quiet_step (first | fail))
          refine wpQuiet_nil ?_
          intro _ hw'
          obtain ⟨⟨dq, osq⟩, hw''⟩ := hw'
          subst hw''
          have hY := below_regrown X dq osq
          change Exit.then _ _ Exit.normal _ (Sort.grow (redrawn X dq) osq)
          generalize Sort.grow (redrawn X dq) osq = Y at hY ⊢
          go_wp2
          go_ret
          exact ⟨by simp [h0, h1], below2 B0 hY⟩
        · have h1' : decide (n ≤ (Md.length : Int)) = false := decide_eq_false h1
          refine wp_region_quiet_below (by kernel_rfl) (by kernel_rfl) ?_
          repeat (first | go_big_quiet_step (first | fail) | quiet_step (first | fail))
          refine wpQuiet_nil ?_
          intro _ hw'
          obtain ⟨⟨dq, osq⟩, hw''⟩ := hw'
          subst hw''
          have hY := below_regrown X dq osq
          change Exit.then _ _ Exit.normal _ (Sort.grow (redrawn X dq) osq)
          generalize Sort.grow (redrawn X dq) osq = Y at hY ⊢
          go_wp2
          go_ret
          exact ⟨by simp, below2 B0 hY⟩
      · have h0' : decide (0 ≤ n) = false := decide_eq_false h0
        refine wp_region_quiet_below (by kernel_rfl) (by kernel_rfl) ?_
        repeat (first | go_big_quiet_step (first | fail) | quiet_step (first | fail))
        refine wpQuiet_nil ?_
        intro _ hw'
        obtain ⟨⟨dq, osq⟩, hw''⟩ := hw'
        subst hw''
        have hY := below_regrown X dq osq
        change Exit.then _ _ Exit.normal _ (Sort.grow (redrawn X dq) osq)
        generalize Sort.grow (redrawn X dq) osq = Y at hY ⊢
        go_wp2
        go_ret
        exact ⟨by simp, below2 B0 hY⟩
  · have hk' : (k == 4) = false := by simpa using hk
    refine wp_region_quiet_below (by kernel_rfl) (by kernel_rfl) ?_
    repeat (first | go_big_quiet_step (first | fail) | quiet_step (first | fail))
    refine wpQuiet_nil ?_
    intro _ hw'
    obtain ⟨⟨dq, osq⟩, hw''⟩ := hw'
    subst hw''
    have hY := below_regrown X dq osq
    change Exit.then _ _ Exit.normal _ (Sort.grow (redrawn X dq) osq)
    generalize Sort.grow (redrawn X dq) osq = Y at hY ⊢
    go_wp2
    go_ret
    exact ⟨by simp [hk'], below2 B0 hY⟩

set_option maxHeartbeats 1000000 in
set_option maxRecDepth 100000 in
theorem length_any {w : World} {p lim : Nat} {Md : List Mr} {Ps : List Dn} {mv pv : Value} {F : Nat → Prop} (h : RHeap w p lim Md Ps mv pv F) (n : Nat) (hn : n ≤ Md.length) :
    Calls Tryd.prog 59 #[.pointer (some ⟨p, 0, none⟩), .int .i64 (n : Int)] w fun e w' => e = .returned (.int .i64 (((if n = 0 then 0 else (Md.getD (n - 1) (0, 0)).2 : Nat)) : Int)) ∧ w' = w := by
  obtain ⟨q, c, rfl, hat⟩ := h.mdAt
  have c1 := h.c1
  have hlen := h.len.1
  clear h
  by_cases h0 : n = 0
  · subst h0
    go_enter Tryd.func59, Tryd.ntmps59
    go_wp2
    go_ret
    exact ⟨rfl, rfl⟩
  · obtain ⟨m, rfl⟩ : ∃ m, n = m + 1 := ⟨n - 1, by omega⟩
    rw [if_neg (by omega)]
    have hm : m < Md.length := by omega
    obtain ⟨g, rfl, e0', e1'⟩ := hat m hm
    have hd : Md.getD (m + 1 - 1) (0, 0) = Md[m] := by rw [Nat.add_sub_cancel, List.getD_eq_getElem?_getD, List.getElem?_eq_getElem hm]; rfl
    rw [hd]
    generalize Md[m] = y at e0' e1' ⊢
    have i1 : IntKind.i64.wrap (((m + 1 : Nat) : Int) - 1) = (m : Int) := by rw [IntKind.wrap_i64]; omega
    have i1' : IntKind.i64.wrap ((m : Int) + 1 - 1) = (m : Int) := by rw [IntKind.wrap_i64]; omega
    have i2 : (((m + 1 : Nat) : Int) == 0) = false := by simp; omega
    have i2' : ((m : Int) + 1 == 0) = false := by simp; omega
    have k0 : (0 : Int) ≤ (m : Int) := by omega
    have k1 : (m : Int) < (Md.length : Int) := by omega
    clear hat
    go_enter Tryd.func59, Tryd.ntmps59
    go_wp2
    go_ret
    exact ⟨rfl, rfl⟩
end Go.Proofs.YtdcioemjmmhbhaaDoor
