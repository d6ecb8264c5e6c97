import Derived.Test.YtekgnogjfggnmaaDoorTSame
import Derived.Test.YtekgnogjfggnmaaDoorPieceMath
namespace Go.Proofs.YtekgnogjfggnmaaDoor
open Go.RowKit

/-- Is it the number of a node of a tree? -/
def hasS (L : List Nd) (N : Int) : Bool := decide (0 ≤ N) && decide (N < (L.length : Int)) && treeS nameS typeS L
theorem has_tree {L : List Nd} {N : Int} (h : hasS L N = true) : ∃ k : Nat, N = (k : Int) ∧ k < L.length ∧ treeS nameS typeS L = true := by
  unfold hasS at h
  simp only [Bool.and_eq_true, decide_eq_true_eq] at h
  exact ⟨N.toNat, by omega, by omega, h.2⟩

set_option maxRecDepth 100000 in
set_option maxHeartbeats 1000000 in
theorem hasNode_any (w : World) (p : Option Addr) (n cap : Nat) (L : List Nd) (N : Int) (h : Reads w p n L) (hk : KwAt w) :
    Calls Tryd.prog 33 #[.agg #[.slice p n cap], .int .i64 N] w fun e w' => e = .returned (.bool (hasS L N)) ∧ Below w.heap.size w w' := by
  obtain ⟨w1, hw1⟩ : ∃ w1, w.alloc (.cells #[.slice p n cap] 24) = w1 := ⟨_, rfl⟩
  have B1 : Hid (Below w.heap.size w w1) := by rw [← hw1]; exact (Below.refl _ w).alloc (Nat.le_refl _) _
  have c1 : w1.cell? ⟨w.heap.size, 0, none⟩ = some (.slice p n cap) := by rw [← hw1]; exact cell_new _ _ _ _ _ rfl
  have H : Hid (Calls Tryd.prog 30 #[.slice p n cap] w1 fun e w' => e = .returned (.bool (treeS nameS typeS L)) ∧ Below w1.heap.size w1 w') := by
    have hr := h.next B1.out
    obtain ⟨hf, rfl, hr⟩ := hr
    exact isTree_any w1 p cap L hf hr (hk.next B1.out)
  obtain ⟨r, hr⟩ : ∃ r, hasS L N = r := ⟨_, rfl⟩
  have HR : Hid ((decide (0 ≤ N) && decide (N < (n : Int)) && treeS nameS typeS L) = r) := by rw [← h.2.1]; exact hr
  rw [hr]
  clear h hk hr
  generalize treeS nameS typeS L = b at *
  go_enter Tryd.func33, Tryd.ntmps33
  go_wp2_with (first
    | (go_at_call 30; refine H.out.mono ?_; rintro e w2 ⟨rfl, hb2⟩)
    | go_in)
  all_goals rw [← HR.out]
  all_goals clear HR H
  all_goals go_ret
  · refine ⟨?_, B1.out.trans (hb2.mono B1.out.size)⟩
    simp [*]
  · refine ⟨?_, B1.out⟩
    simp_all
    intros
    exfalso
    omega
  · refine ⟨?_, B1.out⟩
    simp_all
    intros
    exfalso
    omega

/-- The last node of a subtree. -/
def lastS (L : List Nd) (N : Int) : Int := if hasS L N then N + sz L N.toNat - 1 else -1

set_option maxRecDepth 100000 in
set_option maxHeartbeats 1000000 in
theorem last_any (w : World) (p : Option Addr) (n cap : Nat) (L : List Nd) (N : Int) (h : Reads w p n L) (hk : KwAt w) :
    Calls Tryd.prog 11 #[.agg #[.slice p n cap], .int .i64 N] w fun e w' => e = .returned (.int .i64 (lastS L N)) ∧ Below w.heap.size w w' := by
  obtain ⟨w1, hw1⟩ : ∃ w1, w.alloc (.cells #[.slice p n cap] 24) = w1 := ⟨_, rfl⟩
  have B1 : Hid (Below w.heap.size w w1) := by rw [← hw1]; exact (Below.refl _ w).alloc (Nat.le_refl _) _
  have z1 : w.heap.size < w1.heap.size := by rw [← hw1]; simp
  have c1 : w1.cell? ⟨w.heap.size, 0, none⟩ = some (.slice p n cap) := by rw [← hw1]; exact cell_new _ _ _ _ _ rfl
  have RD : Hid (Reads w1 p n L) := h.next B1.out
  have H : Hid (Calls Tryd.prog 33 #[.agg #[.slice p n cap], .int .i64 N] w1 fun e w' => e = .returned (.bool (hasS L N)) ∧ Below w1.heap.size w1 w') := hasNode_any w1 p n cap L N RD.out (hk.next B1.out)
  clear h hk
  cases hh : hasS L N with
  | false =>
    have e : lastS L N = -1 := by unfold lastS; rw [hh]; rfl
    rw [e]
    rw [hh] at H
    clear hh e
    go_enter Tryd.func11, Tryd.ntmps11
    go_wp2_with (first
      | (go_at_call 33; refine H.out.mono ?_; rintro e w2 ⟨rfl, hb2⟩)
      | go_in)
    go_ret
    exact ⟨rfl, B1.out.trans (hb2.mono B1.out.size)⟩
  | true =>
    have e : lastS L N = N + sz L N.toNat - 1 := by unfold lastS; rw [hh]; rfl
    rw [e]
    rw [hh] at H
    obtain ⟨k, rfl, hkl, ht⟩ := has_tree hh
    obtain ⟨g1, g2⟩ := (tr_of ht).good k hkl
    obtain ⟨hf, hlen, hrd⟩ := RD.out
    have hLb := hf.len
    obtain ⟨g, o, rfl, hl⟩ := hrd (fun e => by rw [e] at hkl; simp at hkl)
    have i0 : (0 : Int) ≤ (k : Int) := by omega
    have i1 : (k : Int) < (n : Int) := by omega
    have d := hl.size hkl
    rw [Int.toNat_natCast]
    unfold sz at *
    generalize (nd L k).size = s at *
    clear hh e
    have HL : Hid (Lay w1 g o L) := hl
    clear hl
    go_enter Tryd.func11, Tryd.ntmps11
    go_wp2_with (first
      | (go_at_call 33; refine H.out.mono ?_; rintro e w2 ⟨rfl, hb2⟩; have c2 := (hb2.cell (p := ⟨w.heap.size, 0, none⟩) z1).trans c1; have d2 := (hb2.cell (p := ⟨g, o + k * 9 + 8, none⟩) HL.out.lt).trans d)
      | go_in)
    go_ret
    exact ⟨rfl, B1.out.trans (hb2.mono B1.out.size)⟩

/-- The parent of a node. -/
def parS (L : List Nd) (N : Int) : Int := if hasS L N then par L N.toNat N.toNat else -1
theorem par_bounds (L : List Nd) (n : Nat) : ∀ q : Nat, -1 ≤ par L n q ∧ par L n q < q
  | 0 => by unfold par; omega
  | q + 1 => by
    have := par_bounds L n q
    unfold par
    split <;> omega

set_option maxRecDepth 100000 in
set_option maxHeartbeats 1000000 in
theorem parent_any (w : World) (p : Option Addr) (n cap : Nat) (L : List Nd) (N : Int) (h : Reads w p n L) (hk : KwAt w) :
    Calls Tryd.prog 12 #[.agg #[.slice p n cap], .int .i64 N] w fun e w' => e = .returned (.int .i64 (parS L N)) ∧ Below w.heap.size w w' := by
  obtain ⟨w1, hw1⟩ : ∃ w1, w.alloc (.cells #[.slice p n cap] 24) = w1 := ⟨_, rfl⟩
  have B1 : Hid (Below w.heap.size w w1) := by rw [← hw1]; exact (Below.refl _ w).alloc (Nat.le_refl _) _
  have z1 : w.heap.size < w1.heap.size := by rw [← hw1]; simp
  have c1 : w1.cell? ⟨w.heap.size, 0, none⟩ = some (.slice p n cap) := by rw [← hw1]; exact cell_new _ _ _ _ _ rfl
  have RD : Hid (Reads w1 p n L) := h.next B1.out
  have H : Hid (Calls Tryd.prog 33 #[.agg #[.slice p n cap], .int .i64 N] w1 fun e w' => e = .returned (.bool (hasS L N)) ∧ Below w1.heap.size w1 w') := hasNode_any w1 p n cap L N RD.out (hk.next B1.out)
  clear h hk
  cases hh : hasS L N with
  | false =>
    have e : parS L N = -1 := by unfold parS; rw [hh]; rfl
    rw [e]
    rw [hh] at H
    clear hh e
    go_enter Tryd.func12, Tryd.ntmps12
    go_wp2_with (first
      | (go_at_call 33; refine H.out.mono ?_; rintro e w2 ⟨rfl, hb2⟩)
      | go_in)
    go_ret
    exact ⟨rfl, B1.out.trans (hb2.mono B1.out.size)⟩
  | true =>
    have e : parS L N = par L N.toNat N.toNat := by unfold parS; rw [hh]; rfl
    rw [e]
    rw [hh] at H
    obtain ⟨k, rfl, hkl, ht⟩ := has_tree hh
    have HT : Hid (Tr L) := tr_of ht
    obtain ⟨hf, hlen, hrd⟩ := RD.out
    have hLb := hf.len
    obtain ⟨g, o, rfl, hl⟩ := hrd (fun e => by rw [e] at hkl; simp at hkl)
    rw [Int.toNat_natCast]
    obtain ⟨r, hr⟩ : ∃ r, par L k k = r := ⟨_, rfl⟩
    rw [hr]
    have HR : Hid (par L k k = r) := hr
    clear hh e ht hr
    have HL : Hid (Lay w1 g o L) := hl
    clear hl
    go_enter Tryd.func12, Tryd.ntmps12
    go_upto_region 3 with (first
      | (go_at_call 33; refine H.out.mono ?_; rintro e w2 ⟨rfl, hb2⟩; have c2 := (hb2.cell (p := ⟨w.heap.size, 0, none⟩) z1).trans c1)
      | go_in)
    go_wp2
    go_loop [5] (fun v => ∃ q : Nat, q ≤ k ∧ v = .int .i64 ((q : Int) - 1) ∧ Hid (par L k q = r)) (fun v => (intOf v + 1).toNat)
    case atStart => exact ⟨k, Nat.le_refl _, rfl, HR⟩
    case round =>
      obtain ⟨q, hq, rfl, hp⟩ := hrel
      cases q with
      | zero =>
        have HP : Hid (r = -1) := hp.out.symm
        clear hp
        have m0 : ((0 : Nat) : Int) - 1 = -1 := rfl
        go_wp2
        rw [HP.out]
        go_ret
        exact ⟨rfl, B1.out.trans (hb2.mono B1.out.size)⟩
      | succ q =>
        have hql : q < L.length := by omega
        have d2 := (HL.out.next hb2).size hql
        obtain ⟨g1, g2⟩ := HT.out.good q hql
        have hp' := hp.out
        unfold par at hp'
        have m1 : ((q + 1 : Nat) : Int) - 1 = (q : Int) := by omega
        have m2 : (0 : Int) ≤ (q : Int) := by omega
        have m3 : (q : Int) < (n : Int) := by omega
        unfold sz at *
        generalize (nd L q).size = s at *
        by_cases hs : (q : Int) + s ≤ (k : Int)
        · rw [if_pos hs] at hp'
          have HP : Hid (par L k q = r) := hp'
          clear hp hp'
          rw [m1]
          go_wp2
          exact ⟨⟨q, by omega, rfl, HP⟩, by simp [intOf]⟩
        · rw [if_neg hs] at hp'
          have HP : Hid (r = (q : Int)) := hp'.symm
          clear hp hp'
          rw [m1]
          go_wp2
          rw [HP.out]
          go_ret
          exact ⟨rfl, B1.out.trans (hb2.mono B1.out.size)⟩

end Go.Proofs.YtekgnogjfggnmaaDoor
