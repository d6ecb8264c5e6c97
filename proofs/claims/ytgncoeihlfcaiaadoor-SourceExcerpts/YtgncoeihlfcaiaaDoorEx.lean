import Derived.RangeFuncBox
import Derived.OwnWalkIn
import Derived.Maps.AppendAt
import Derived.Sort.CutIn
import Derived.Test.YtgncoeihlfcaiaaDoorOps
import Derived.Test.YtgncoeihlfcaiaaDoorIterG
import Derived.Test.YtgncoeihlfcaiaaDoorRefEx
namespace Go.Proofs.YtgncoeihlfcaiaaDoor
open Go.RowKit Go.Shelf
attribute [local go_sem] Oper.semAt_some

set_option maxRecDepth 100000 in
set_option maxHeartbeats 2000000 in
theorem ex_no (s : ByteArray) (at_ ar : Int) (w : World) (hs : s.size ≤ 140737488355328) (h1 : at_ < 0 ∨ (s.size : Int) < at_) :
    Calls Tryd.prog 4 #[.string s, .int .i64 at_, .int .i64 ar] w fun e w' => e = .returned (.tuple #[.slice none 0 0, .int .i64 10]) ∧ Below w.heap.size w w' := by
  obtain ⟨w1, hw1⟩ : ∃ w1, w.alloc (.cells #[.int .i64 ar] 3) = w1 := ⟨_, rfl⟩
  have B1 : Hid (Below w.heap.size w w1) := by show Below _ _ _; rw [← hw1]; exact (Below.refl _ w).alloc (Nat.le_refl _) _
  have H8 : Hid (Calls Tryd.prog 8 #[.string s, .int .i64 at_] w1 fun e w' => e = .returned (.tuple #[.agg #[.int .i64 0, .int .i64 0], .int .i64 10]) ∧ Below w1.heap.size w1 w') := where_no s at_ w1 hs h1
  clear h1
  go_enter Tryd.func4, Tryd.ntmps4
  go_wp2_with (first
    | (go_at_call 8; refine H8.out.mono ?_; rintro e w2 ⟨rfl, hb2⟩)
    | go_in)
  have hb : Below w.heap.size w w2 := B1.out.trans (hb2.mono B1.out.size)
  exact bodyPost_ret (v := .tuple #[.slice none 0 0, .int .i64 10]) (by simp [results, Tryd.results4, go_sem]) rfl ⟨rfl, hb.alloc hb.size _⟩

set_option maxRecDepth 100000 in
set_option maxHeartbeats 2000000 in
theorem ex_arg (s : ByteArray) (k : Nat) (ar : Int) (w : World) (hs : s.size ≤ 140737488355328) (hk : k ≤ s.size) (h2 : ar < 0 ∨ 20 < ar) :
    Calls Tryd.prog 4 #[.string s, .int .i64 (k : Int), .int .i64 ar] w fun e w' => e = .returned (.tuple #[.slice none 0 0, .int .i64 1]) ∧ Below w.heap.size w w' := by
  obtain ⟨w1, hw1⟩ : ∃ w1, w.alloc (.cells #[.int .i64 ar] 3) = w1 := ⟨_, rfl⟩
  have B1 : Hid (Below w.heap.size w w1) := by show Below _ _ _; rw [← hw1]; exact (Below.refl _ w).alloc (Nat.le_refl _) _
  have z1 : w.heap.size < w1.heap.size := by rw [← hw1]; simp
  have c1 : w1.cell? ⟨w.heap.size, 0, none⟩ = some (.int .i64 ar) := by have := (new_cell w (.int .i64 ar) 3).1; rwa [hw1] at this
  obtain ⟨L, C, hp⟩ : ∃ L C : Nat, Src.pl (s.data.toList.take k) = (L, C) := ⟨_, _, rfl⟩
  have H8 : Hid (Calls Tryd.prog 8 #[.string s, .int .i64 (k : Int)] w1 fun e w' => e = .returned (.tuple #[.agg #[.int .i64 (L : Int), .int .i64 (C : Int)], .int .i64 0]) ∧ Below w1.heap.size w1 w') := where_at s k L C w1 hs hk (by rw [hp]; exact ⟨rfl, rfl⟩)
  have h2' : ar < 0 ∨ (¬ ar < 0 ∧ 20 < ar) := by omega
  clear h2 hp
  go_enter Tryd.func4, Tryd.ntmps4
  go_upto_region 4 with (first
    | (go_at_call 8; refine H8.out.mono ?_; rintro e w2 ⟨rfl, hb2⟩; have c2 := (hb2.cell (p := ⟨w.heap.size, 0, none⟩) z1).trans c1)
    | go_in)
  obtain ⟨w3, hw3⟩ : ∃ w3, w2.alloc (.cells #[.int .i64 (L : Int), .int .i64 (C : Int)] 23) = w3 := ⟨_, rfl⟩
  have B3 : Hid (Below w2.heap.size w2 w3) := by show Below _ _ _; rw [← hw3]; exact (Below.refl _ w2).alloc (Nat.le_refl _) _
  have z2 := hb2.size
  have c3 := (B3.out.cell (p := ⟨w.heap.size, 0, none⟩) (by show w.heap.size < _; omega)).trans c2
  have hb : Below w.heap.size w w2 := B1.out.trans (hb2.mono B1.out.size)
  have HBB : Hid (Below w.heap.size w w3) := hb.trans (B3.out.mono hb.size)
  rw [hw3]
  clear hw3 c2
  rcases h2' with h2 | ⟨h2, h3⟩
  all_goals go_wp2
  all_goals exact bodyPost_ret (v := .tuple #[.slice none 0 0, .int .i64 1]) (by simp [results, Tryd.results4, go_sem]) rfl ⟨rfl, HBB.out⟩

theorem keeps_below {W W' : World} (h : Below W.heap.size W W') : KeepsOthers W W' := ⟨h.size, fun k _ hk _ => (h.block k (Array.getElem?_eq_some_iff.1 hk).1).trans hk⟩
theorem boxed_next {W W' : World} {B : Nat} {t : TypeId} {v : Value} (h : Boxed W B t v) (hb : Below W.heap.size W W') : Boxed W' B t v := (hb.block B (Array.getElem?_eq_some_iff.1 h).1).trans h

def RPost (W : World) (P1 : World → Prop) (P2 : Prop) : Exit → Act → World → Prop := fun e _ W' => (e = .normal ∧ P1 W') ∨ (e = .exit 0 ∧ P2 ∧ W = W')

theorem nx_at {ls : List (List UInt8)} {pre : List (Nat × ByteArray)} {x : Nat × ByteArray} (h : pre ++ [x] <+: Src.rows 1 ls) : ∃ hm : pre.length < ls.length, x = (1 + pre.length, ⟨(ls[pre.length]).toArray⟩) := by
  obtain ⟨t, ht⟩ := h
  have hlen : pre.length < ls.length := by
    have := congrArg List.length ht
    rw [rows_length] at this
    simp at this
    omega
  refine ⟨hlen, ?_⟩
  have h1 := rows_at ls 1 pre.length hlen
  rw [← ht] at h1
  simpa using h1

set_option maxRecDepth 100000 in
set_option maxHeartbeats 2000000 in
theorem ex_yes (s : ByteArray) (k a : Nat) (w : World) (hs : s.size ≤ 140737488355328) (hk : k ≤ s.size) (ha : a ≤ 20) (ht : Tab w) :
    Calls Tryd.prog 4 #[.string s, .int .i64 (k : Int), .int .i64 (a : Int)] w fun e w' => (∃ v, e = .returned (.tuple #[v, .int .i64 0]) ∧ Hid (w'.ownsRow w.heap.size 9 1 v (exR s k a).length (tc (exR s k a)))) ∧ Below w.heap.size w w' := by
  obtain ⟨L, C, hp⟩ : ∃ L C : Nat, Src.pl (s.data.toList.take k) = (L, C) := ⟨_, _, rfl⟩
  have hpl := Src.pl_le (s.data.toList.take k)
  have htl := List.length_take_le k s.data.toList
  rw [hp] at hpl
  simp only at hpl
  have hsl : s.data.toList.length = s.size := (Lib.size_eq s).symm
  obtain ⟨ls, hls⟩ : ∃ ls, Src.lns s.data.toList = ls := ⟨_, rfl⟩
  have hM := Src.lns_len s.data.toList
  have hMl := Src.pl_le s.data.toList
  obtain ⟨lst, hlst⟩ : ∃ lst, lastN s k a = lst := ⟨_, rfl⟩
  have e1 : exR s k a = accN L C a (itB lst).size ls lst := by
    unfold exR
    rw [hlst, hp, hls]
  rw [e1]
  have hlq : lst = min (L + a) ls.length := by rw [← hlst]; unfold lastN; rw [hp, hls]
  rw [hls] at hM
  obtain ⟨M, hMM⟩ : ∃ M, (Src.pl s.data.toList).1 = M := ⟨_, rfl⟩
  rw [hMM] at hM hMl
  have HLS : Hid (Src.lns s.data.toList = ls) := hls
  have HLQ : Hid (lst = min (L + a) M) := by show lst = _; rw [hlq, hM]
  have HLEN : Hid (ls.length = M) := hM
  obtain ⟨b, HBI⟩ := hid_pair (itB (lst : Int))
  have HBW : Hid ((itB (lst : Int)).size = b.size) := by show _ = _; rw [HBI.out]
  rw [HBW.out]
  have hM1 : M ≤ 140737488355329 := by omega
  have hL1 : L ≤ 140737488355329 := by omega
  have hL0 : 1 ≤ L := by omega
  have hC1 : 1 ≤ C ∧ C ≤ 140737488355329 := by omega
  have hM0 : 1 ≤ M := by omega
  have hlst1 : lst ≤ M := by have := HLQ.out; omega
  have hlst0 : 1 ≤ lst := by have := HLQ.out; omega
  have hlstL : lst ≤ L + a := by have := HLQ.out; omega
  have hb21 : b.size ≤ 21 := by rw [HBI.out]; exact itB_size lst (by omega) (by omega)
  have q1 : IntKind.i64.wrap ((L : Int) + (a : Int)) = (L : Int) + (a : Int) := by rw [IntKind.wrap_i64]; omega
  have q2 : IntKind.i64.wrap ((L : Int) - (a : Int)) = (L : Int) - (a : Int) := by rw [IntKind.wrap_i64]; omega
  have H9 : Hid (∀ w' : World, Calls Tryd.prog 9 #[.string s] w' fun e w'' => e = .returned (.int .i64 (M : Int)) ∧ Below w'.heap.size w' w'') := fun w' => by
    have := lines_any s w' hs
    rwa [hls, hM] at this
  obtain ⟨w1, hw1⟩ : ∃ w1, w.alloc (.cells #[.int .i64 (a : Int)] 3) = w1 := ⟨_, rfl⟩
  have B1 : Hid (Below w.heap.size w w1) := by show Below _ _ _; rw [← hw1]; exact (Below.refl _ w).alloc (Nat.le_refl _) _
  have z1 : w.heap.size < w1.heap.size := by rw [← hw1]; simp
  have c1 : w1.cell? ⟨w.heap.size, 0, none⟩ = some (.int .i64 (a : Int)) := by have := (new_cell w (.int .i64 (a : Int)) 3).1; rwa [hw1] at this
  have H8 : Hid (Calls Tryd.prog 8 #[.string s, .int .i64 (k : Int)] w1 fun e w' => e = .returned (.tuple #[.agg #[.int .i64 (L : Int), .int .i64 (C : Int)], .int .i64 0]) ∧ Below w1.heap.size w1 w') := where_at s k L C w1 hs hk (by rw [hp]; exact ⟨rfl, rfl⟩)
  have HT : Hid (Tab w) := ht
  have ha0 : ¬ (a : Int) < 0 := by omega
  have ha1 : ¬ (20 : Int) < (a : Int) := by omega
  clear e1 ht hpl htl hsl hls hM hMl hlst hlq hMM hp
  refine (callsIn_wide (n := 6)).1 ?_
  refine callsIn_of_wp_marks Tryd.func4 rfl trivial ?_ rfl
  simp only [Tryd.ntmps4, List.size_toArray, List.length_cons, List.length_nil, Nat.reduceAdd, Nat.reduceSub, Array.replicate_succ, Array.replicate_zero, List.push_toArray, List.append_toArray, List.nil_append, List.cons_append]
  gi_upto_region 4 with (refine ⟨trivial, ?_⟩; gi_at_call 8; refine (callsIn_wide.2 H8.out).mono ?_; rintro e w2 ⟨rfl, hb2⟩; have c2 := (hb2.cell (p := ⟨w.heap.size, 0, none⟩) z1).trans c1)
  obtain ⟨w3, hw3⟩ : ∃ w3, w2.alloc (.cells #[.int .i64 (L : Int), .int .i64 (C : Int)] 23) = w3 := ⟨_, rfl⟩
  have B3 : Hid (Below w2.heap.size w2 w3) := by show Below _ _ _; rw [← hw3]; exact (Below.refl _ w2).alloc (Nat.le_refl _) _
  have z2 := hb2.size
  have c3 := (B3.out.cell (p := ⟨w.heap.size, 0, none⟩) (by show w.heap.size < _; omega)).trans c2
  have z3 : w2.heap.size < w3.heap.size := by rw [← hw3]; simp
  have np := new_pair w2 (.int .i64 (L : Int)) (.int .i64 (C : Int)) 23
  rw [hw3] at np
  have p0 : w3.cell? ⟨w2.heap.size, 0, none⟩ = some (.int .i64 (L : Int)) := np.1.1
  have p1 : w3.cell? ⟨w2.heap.size, 1, none⟩ = some (.int .i64 (C : Int)) := np.2.1
  have HBB : Hid (Below w.heap.size w w3) := (B1.out.trans (hb2.mono B1.out.size)).trans (B3.out.mono (by have := B1.out.size; omega))
  have HC3 : Hid (∀ w' : World, Below w3.heap.size w3 w' → w'.cell? ⟨w.heap.size, 0, none⟩ = some (.int .i64 (a : Int)) ∧ w'.cell? ⟨w2.heap.size, 0, none⟩ = some (.int .i64 (L : Int)) ∧ w'.cell? ⟨w2.heap.size, 1, none⟩ = some (.int .i64 (C : Int)) ∧ Below w3.heap.size w3 w') := fun w' hb =>
    ⟨(hb.cell (p := ⟨w.heap.size, 0, none⟩) (by show w.heap.size < _; omega)).trans c3, (hb.cell (p := ⟨w2.heap.size, 0, none⟩) z3).trans p0, (hb.cell (p := ⟨w2.heap.size, 1, none⟩) z3).trans p1, hb⟩
  rw [hw3]
  clear hw3 c2 np hw1 c1 H8 hb2
  gi_upto_region 6 with fail
  have hmin : min ((L : Int) + (a : Int)) (M : Int) = (lst : Int) := by have := HLQ.out; omega
  refine wpIn_mono (Q := fun e a' w' => e = .normal ∧ ∃ B : Nat, (w3.heap.size ≤ B ∧ B < w'.heap.size ∧ w'.cell? ⟨B, 0, none⟩ = some (.int .i64 (lst : Int)) ∧ Below w3.heap.size w3 w') ∧ a' = { tmps := ((.string s) :: (.int .i64 (k : Int)) :: (.int .i64 (a : Int)) :: undef :: undef :: (.pointer (some ⟨w.heap.size, 0, none⟩)) :: (.slice none 0 0) :: (.int .i64 0) :: (.pointer (some ⟨w2.heap.size, 0, none⟩)) :: (.int .i64 0) :: (.pointer (some ⟨B, 0, none⟩)) :: undef :: undef :: undef :: undef :: (.tuple #[.agg #[.int .i64 (L : Int), .int .i64 (C : Int)], .int .i64 0]) :: (.string s) :: (.int .i64 (k : Int)) :: (.tuple #[.agg #[.int .i64 (L : Int), .int .i64 (C : Int)], .int .i64 0]) :: (.agg #[.int .i64 (L : Int), .int .i64 (C : Int)]) :: (.int .i64 0) :: (.int .i64 0) :: (.bool false) :: undef :: (.int .i64 (a : Int)) :: (.bool (decide ((a : Int) < 0))) :: (.bool (decide ((a : Int) < 0))) :: (.int .i64 (a : Int)) :: (.bool (decide (20 < (a : Int)))) :: (.bool (decide ((a : Int) < 0) || decide (20 < (a : Int)))) :: (.pointer (some ⟨w2.heap.size, 0, none⟩)) :: (.int .i64 (L : Int)) :: (.int .i64 (a : Int)) :: (.int .i64 ((L : Int) + (a : Int))) :: (.string s) :: (.int .i64 (M : Int)) :: (.int .i64 (lst : Int)) :: undef :: undef :: undef :: undef :: undef :: undef :: undef :: undef :: undef :: undef :: undef :: undef :: undef :: undef :: undef :: undef :: undef :: undef :: undef :: undef :: undef :: undef :: undef :: undef :: undef :: undef :: undef :: undef :: undef :: undef :: undef :: undef :: undef :: undef :: undef :: []).toArray, defers := [] }) ?_ ?_
  · refine wpIn_wide.2 ?_
    have hcd : Below w3.heap.size w3 w3.drew := (Below.refl _ w3).drew
    go_region_held3 (fun w' => w'.cell? ⟨w.heap.size, 0, none⟩ = some (.int .i64 (a : Int)) ∧ w'.cell? ⟨w2.heap.size, 0, none⟩ = some (.int .i64 (L : Int)) ∧ w'.cell? ⟨w2.heap.size, 1, none⟩ = some (.int .i64 (C : Int)) ∧ Below w3.heap.size w3 w') (exact HC3.out _ (by first | assumption | exact hcd.alloc (by simp) _ | exact hc4.alloc hc4.size _ | exact hc4.setCell (by simp) _ | exact (hc4.alloc hc4.size _).setCell hc4.size _))
      (first
      | (go_at_call 9; refine (H9.out _).mono ?_; rintro e w4 ⟨rfl, hb4⟩; have hc4 : Below w3.heap.size w3 w4 := Below.trans (by first | exact hcd | exact hcd.alloc (by simp) _) (hb4.mono (by simp)); (try have kc : w4.cell? ⟨w3.heap.size, 0, none⟩ = some (.int .i64 0) := (hb4.cell (p := ⟨w3.heap.size, 0, none⟩) (by simp)).trans (new_cell w3.drew _ _).1); (try have kf : w4.frozen? ⟨w3.heap.size, 0, none⟩ = false := (hb4.frozen (p := ⟨w3.heap.size, 0, none⟩) (by simp)).trans (new_cell w3.drew _ _).2)))
    all_goals first
      | exact ⟨rfl, w3.heap.size, ⟨Nat.le_refl _, by (have := hb4.size; simp at this ⊢; omega), World.cell?_setCell_same' _ _ _ (by rw [kc]; rfl), hc4.setCell (p := ⟨w3.heap.size, 0, none⟩) (Nat.le_refl _) _⟩, rfl⟩
      | exact ⟨rfl, w4.heap.size, ⟨hc4.size, by simp, (new_cell _ _ _).1, hc4.alloc hc4.size _⟩, rfl⟩
  rintro e a4 w4 ⟨rfl, B, ⟨hB1, hB2, hcB, hb4⟩, rfl⟩
  have HB4 : Hid (Below w3.heap.size w3 w4) := hb4
  have HT4 : Hid (Tab w4) := (HT.out.below HBB.out).below hb4
  have hl0 : (0 : Int) ≤ (lst : Int) := by omega
  have hl1 : (lst : Int) ≤ 140737488355350 := by omega
  clear hb4 H9 p0 p1 c3
  gi_upto_region 8 with (refine ⟨trivial, ?_⟩; gi_at_call 10; refine (callsIn_wide.2 (itoa_any (lst : Int) b _ hl0 hl1 HBI HT4.out)).mono ?_; rintro e w5 ⟨rfl, hb5⟩)
  obtain ⟨w6, hw6⟩ : ∃ w6, w5.alloc (.cells #[.int .i64 (b.size : Int)] 3) = w6 := ⟨_, rfl⟩
  have z5 := hb5.size
  have z56 : w5.heap.size < w6.heap.size := by rw [← hw6]; simp
  have hb56 : Below w5.heap.size w5 w6 := by rw [← hw6]; exact (Below.refl _ w5).alloc (Nat.le_refl _) _
  have hb46 : Below w4.heap.size w4 w6 := hb5.trans (hb56.mono z5)
  have HB6 : Hid (Below w3.heap.size w3 w6) := HB4.out.trans (hb46.mono HB4.out.size)
  have HT6 : Hid (Tab w6) := HT4.out.below hb46
  have HW6 : Hid (∀ W : World, Below w6.heap.size w6 W → w5.heap.size < W.heap.size ∧ W.cell? ⟨w.heap.size, 0, none⟩ = some (.int .i64 (a : Int)) ∧ W.cell? ⟨w2.heap.size, 0, none⟩ = some (.int .i64 (L : Int)) ∧ W.cell? ⟨w2.heap.size, 1, none⟩ = some (.int .i64 (C : Int)) ∧ W.cell? ⟨B, 0, none⟩ = some (.int .i64 (lst : Int)) ∧ W.cell? ⟨w5.heap.size, 0, none⟩ = some (.int .i64 (b.size : Int))) := fun W hb => by
    obtain ⟨k1, k2, k3, _⟩ := HC3.out W (HB6.out.trans (hb.mono HB6.out.size))
    refine ⟨Nat.lt_of_lt_of_le z56 hb.size, k1, k2, k3, (hb.cell (p := ⟨B, 0, none⟩) (by show B < _; omega)).trans ((hb46.cell (p := ⟨B, 0, none⟩) hB2).trans hcB), (hb.cell (p := ⟨w5.heap.size, 0, none⟩) z56).trans ?_⟩
    rw [← hw6]
    exact (new_cell _ _ _).1
  rw [hw6]
  clear hw6 hb46 hb56 hb5 z5 hcB HC3
  gi_wp2_with (refine ⟨trivial, ?_⟩; gi_at_call 11; refine (callsIn_wide.2 (seq_any s _)).mono ?_; rintro e w7 ⟨rfl, rfl⟩)
  have bO := Boxed.new w6 26 (.slice none 0 0)
  have hB0 : Below w6.heap.size w6 ((w6.alloc (.cells #[.slice none 0 0] 26)).alloc (.cells #[.string s] 9)) := ((Below.refl _ w6).alloc (Nat.le_refl _) _).alloc (by simp) _
  have hcT : ((w6.alloc (.cells #[.slice none 0 0] 26)).alloc (.cells #[.string s] 9)).cell? ⟨w6.heap.size + 1, 0, none⟩ = some (.string s) := by have := (new_cell (w6.alloc (.cells #[.slice none 0 0] 26)) (.string s) 9).1; rwa [World.size_alloc] at this
  refine wpIn_range_guard rfl (by omega) (gf := 21) (lb := #[.pointer (some ⟨w6.heap.size + 1, 0, none⟩)]) rfl trivial (enters_of Tryd.func21 (by kernel_rfl) rfl)
    (it_guard 5 (by omega) (w6.heap.size + 1) s _ hs (by simp) hcT) (Below.refl _ _) (fun _ => rfl)
    (fun pre W => ((∃ v, Boxed W w6.heap.size 26 v ∧ W.ownsRow w6.heap.size 9 1 v (accN L C a b.size ls pre.length).length (tc (accN L C a b.size ls pre.length)) ∧ True) ∧ pre.length ≤ lst) ∧ Below w6.heap.size w6 W)
    (fun c _ W => ((∃ v, Boxed W w6.heap.size 26 v ∧ W.ownsRow w6.heap.size 9 1 v (accN L C a b.size ls lst).length (tc (accN L C a b.size ls lst)) ∧ True) ∧ c = .exit 0) ∧ Below w6.heap.size w6 W)
    (OwnFrom.and (Own.from (fun s A B' row hs hg hr => ⟨holdsRow_own w6.heap.size w6.heap.size 26 9 1 (fun pre : List (Nat × ByteArray) => (accN L C a b.size ls pre.length).length) (fun pre => tc (accN L C a b.size ls pre.length)) (fun _ _ => True) s A B' row hs.1 hg hr, hs.2⟩) _) (ownFrom_below (Nat.le_refl _) (by simp; omega)))
    (fun c => OwnFrom.and (Own.from (fun s A B' row hs hg hr => ⟨holdsRow_own w6.heap.size w6.heap.size 26 9 1 (fun _ : List (Nat × ByteArray) => (accN L C a b.size ls lst).length) (fun _ => tc (accN L C a b.size ls lst)) (fun _ _ => True) s A B' row hs.1 hg hr, hs.2⟩) _) (ownFrom_below (Nat.le_refl _) (by simp; omega)))
    ⟨⟨⟨_, bO.alloc _, World.ownsRow_nil _ _ _ _, trivial⟩, Nat.zero_le _⟩, hB0⟩ (fun _ _ _ => trivial) (fun _ _ _ _ => trivial)
    (fun x => { tmps := ((.string s) :: (.int .i64 (k : Int)) :: (.int .i64 (a : Int)) :: undef :: undef :: (.pointer (some ⟨w.heap.size, 0, none⟩)) :: (.slice none 0 0) :: (.int .i64 0) :: (.pointer (some ⟨w2.heap.size, 0, none⟩)) :: (.int .i64 0) :: (.pointer (some ⟨B, 0, none⟩)) :: (.pointer (some ⟨w5.heap.size, 0, none⟩)) :: (.pointer (some ⟨w6.heap.size, 0, none⟩)) :: (.int .i64 (x.1 : Int)) :: (.string x.2) :: (.tuple #[.agg #[.int .i64 (L : Int), .int .i64 (C : Int)], .int .i64 0]) :: (.string s) :: (.int .i64 (k : Int)) :: (.tuple #[.agg #[.int .i64 (L : Int), .int .i64 (C : Int)], .int .i64 0]) :: (.agg #[.int .i64 (L : Int), .int .i64 (C : Int)]) :: (.int .i64 0) :: (.int .i64 0) :: (.bool false) :: undef :: (.int .i64 (a : Int)) :: (.bool (decide ((a : Int) < 0))) :: (.bool (decide ((a : Int) < 0))) :: (.int .i64 (a : Int)) :: (.bool (decide (20 < (a : Int)))) :: (.bool (decide ((a : Int) < 0) || decide (20 < (a : Int)))) :: (.pointer (some ⟨w2.heap.size, 0, none⟩)) :: (.int .i64 (L : Int)) :: (.int .i64 (a : Int)) :: (.int .i64 ((L : Int) + (a : Int))) :: (.string s) :: (.int .i64 (M : Int)) :: (.int .i64 (lst : Int)) :: (.int .i64 (lst : Int)) :: (.string b) :: (.int .i64 (b.size : Int)) :: (.string s) :: (.func (.func 21) #[] #[.pointer (some ⟨w6.heap.size + 1, 0, none⟩)]) :: (.int .i64 (x.1 : Int)) :: (.string x.2) :: undef :: undef :: undef :: undef :: undef :: undef :: undef :: undef :: undef :: undef :: undef :: undef :: undef :: undef :: undef :: undef :: undef :: undef :: undef :: undef :: undef :: undef :: undef :: undef :: undef :: undef :: undef :: undef :: []).toArray, defers := [] }) ?assign ?body ?done ?stop
  case assign =>
    intro l x W K hK
    gi_wp2
    simpa [enc2] using hK
  case body =>
    rintro l pre x W ⟨⟨⟨v, hv, hrow, _⟩, hpl⟩, hB⟩ hnx
    rw [HLS.out] at hnx
    obtain ⟨hml, rfl⟩ := nx_at hnx
    generalize hm : pre.length = m at *
    obtain ⟨hw5, k1, k2, k3, k4, k5⟩ := HW6.out W hB
    obtain ⟨line, HLN⟩ := hid_pair (⟨(ls[m]).toArray⟩ : ByteArray)
    have HST : Hid (accN L C a b.size ls (m + 1) = accN L C a b.size ls m ++ blk L C a b.size (1 + m, line)) := by show _ = _; rw [HLN.out]; exact accN_succ L C a b.size ls m hml
    have HPL : Hid ((pre ++ [(1 + m, (⟨(ls[m]).toArray⟩ : ByteArray))]).length = m + 1) := by show _ = _; simp [hm]
    have hll : line.size ≤ 140737488355328 := by
      rw [HLN.out, Lib.size_eq]
      have := lns_short s.data.toList (ls[m]) (by rw [HLS.out]; exact List.getElem_mem hml)
      rw [← Lib.size_eq] at this
      simp only
      omega
    refine wpIn_mono (Q := RPost W (fun W' => KeepsOthers W W' ∧ (∃ v, Boxed W' w6.heap.size 26 v ∧ Hid (W'.ownsRow w6.heap.size 9 1 v (accN L C a b.size ls (m + 1)).length (tc (accN L C a b.size ls (m + 1))))) ∧ m + 1 ≤ lst ∧ Below w6.heap.size w6 W') (lst = m)) ?_ ?_
    rotate_left
    · rintro e a' W' (⟨rfl, hk, ⟨v', hv', ho'⟩, hml', hB'⟩ | ⟨rfl, rfl, rfl⟩)
      · show KeepsOthers W W' ∧ _
        refine ⟨hk, ⟨⟨⟨v', hv', ?_, trivial⟩, ?_⟩, hB'⟩⟩
        · rw [HPL.out]; exact ho'
        · rw [HPL.out]; exact hml'
      · show KeepsOthers W W ∧ _
        exact ⟨KeepsOthers.refl _, ⟨⟨⟨v, hv, hrow, trivial⟩, rfl⟩, hB⟩⟩
    dsimp only
    rw [← HLN.out]
    obtain ⟨n, hn⟩ : ∃ n, 1 + m = n := ⟨_, rfl⟩
    rw [hn] at HST ⊢
    have HN : Hid (1 + m = n) := hn
    have hn1 : n ≤ 140737488355330 := by have := HLEN.out; omega
    have hn0 : 1 ≤ n := by omega
    clear hn hnx HPL
    by_cases hend : (lst : Int) < (n : Int)
    · gi_wp2
      have := HN.out
      exact .inr ⟨rfl, by omega, rfl⟩
    · by_cases hsk : (n : Int) < (L : Int) - (a : Int)
      · have HE : Hid (accN L C a b.size ls (m + 1) = accN L C a b.size ls m) := by
          show _ = _
          rw [HST.out]
          unfold blk
          rw [if_pos (by show n + a < L; omega)]
          simp
        clear HST
        gi_wp2
        have := HN.out
        exact .inl ⟨rfl, KeepsOthers.refl _, ⟨v, hv, by rw [HE.out]; exact hrow⟩, by omega, hB⟩
      · gi_wp2
        obtain ⟨r, HR⟩ := hid_pair (rowB (n : Int) b.size line)
        have R12 : Hid (∀ w' : World, Below w6.heap.size w6 w' → Calls Tryd.prog 12 #[.int .i64 (n : Int), .int .i64 (b.size : Int), .string line] w' fun e w'' => e = .returned (.string r) ∧ Below w'.heap.size w' w'') := fun w' hb =>
          nrow_any (n : Int) b.size line r w' (by omega) (by omega) hb21 (by rw [HBI.out]; exact itB_mono n lst (by omega)) hll HR (HT6.out.below hb)
        obtain ⟨acc, hacc⟩ : ∃ acc, accN L C a b.size ls m = acc := ⟨_, rfl⟩
        have hfew : acc.length ≤ 90 := by rw [← hacc]; have := accN_few L C a b.size ls m; have := HN.out; omega
        rw [hacc] at hrow HST
        have hbx := hv.cell
        have HBX : Hid (Boxed W w6.heap.size 26 v) := hv
        have HRW : Hid (W.ownsRow w6.heap.size 9 1 v acc.length (tc acc)) := hrow
        have HWB : Hid (Below w6.heap.size w6 W) := hB
        have SV : Hid (∀ w' : World, Below w6.heap.size w6 w' → w'.cell? ⟨w5.heap.size, 0, none⟩ = some (.int .i64 (b.size : Int)) ∧ w'.cell? ⟨w2.heap.size, 1, none⟩ = some (.int .i64 (C : Int))) := fun w' hb => ⟨(HW6.out w' hb).2.2.2.2.2, (HW6.out w' hb).2.2.2.1⟩
        clear hv hrow hB hacc k1 k4
        refine wpIn_mono (Q := fun e a' W' => e = .normal ∧ ∃ (v' : Value) (H : Nat), (Boxed W' w6.heap.size 26 v' ∧ Hid (W'.ownsRow w6.heap.size 9 1 v' (acc ++ [r]).length (tc (acc ++ [r]))) ∧ KeepsOthers W W' ∧ Below w6.heap.size w6 W') ∧ a' = { tmps := ((.string s) :: (.int .i64 (k : Int)) :: (.int .i64 (a : Int)) :: undef :: undef :: (.pointer (some ⟨w.heap.size, 0, none⟩)) :: (.slice none 0 0) :: (.int .i64 0) :: (.pointer (some ⟨w2.heap.size, 0, none⟩)) :: (.int .i64 0) :: (.pointer (some ⟨B, 0, none⟩)) :: (.pointer (some ⟨w5.heap.size, 0, none⟩)) :: (.pointer (some ⟨w6.heap.size, 0, none⟩)) :: (.int .i64 (n : Int)) :: (.string line) :: (.tuple #[.agg #[.int .i64 (L : Int), .int .i64 (C : Int)], .int .i64 0]) :: (.string s) :: (.int .i64 (k : Int)) :: (.tuple #[.agg #[.int .i64 (L : Int), .int .i64 (C : Int)], .int .i64 0]) :: (.agg #[.int .i64 (L : Int), .int .i64 (C : Int)]) :: (.int .i64 0) :: (.int .i64 0) :: (.bool false) :: undef :: (.int .i64 (a : Int)) :: (.bool (decide ((a : Int) < 0))) :: (.bool (decide ((a : Int) < 0))) :: (.int .i64 (a : Int)) :: (.bool (decide (20 < (a : Int)))) :: (.bool (decide ((a : Int) < 0) || decide (20 < (a : Int)))) :: (.pointer (some ⟨w2.heap.size, 0, none⟩)) :: (.int .i64 (L : Int)) :: (.int .i64 (a : Int)) :: (.int .i64 ((L : Int) + (a : Int))) :: (.string s) :: (.int .i64 (M : Int)) :: (.int .i64 (lst : Int)) :: (.int .i64 (lst : Int)) :: (.string b) :: (.int .i64 (b.size : Int)) :: (.string s) :: (.func (.func 21) #[] #[.pointer (some ⟨w6.heap.size + 1, 0, none⟩)]) :: (.int .i64 (n : Int)) :: (.string line) :: (.int .i64 (n : Int)) :: (.int .i64 (lst : Int)) :: (.bool false) :: (.int .i64 (n : Int)) :: (.pointer (some ⟨w2.heap.size, 0, none⟩)) :: (.int .i64 (L : Int)) :: (.int .i64 (a : Int)) :: (.int .i64 ((L : Int) - (a : Int))) :: (.bool false) :: v :: (.int .i64 (n : Int)) :: (.int .i64 (b.size : Int)) :: (.string line) :: (.string r) :: (.slice (some ⟨H, 0, none⟩) 1 1) :: v' :: undef :: undef :: undef :: undef :: undef :: undef :: undef :: undef :: undef :: undef :: undef :: undef :: []).toArray, defers := [] }) ?_ ?_
        · refine region_in (S := fun w' => w'.cell? ⟨w5.heap.size, 0, none⟩ = some (.int .i64 (b.size : Int)) ∧ w'.cell? ⟨w2.heap.size, 1, none⟩ = some (.int .i64 (C : Int))) ?nd (by kernel_rfl) ?_
          case nd => intro o ho c; simp only [List.mem_cons, List.not_mem_nil, or_false] at ho; rcases ho with rfl | rfl | rfl | rfl | rfl | rfl | rfl | rfl <;> simp
          have hbd : Below w6.heap.size w6 W.drew := HWB.out.drew
          have hS := SV.out _ hbd
          have hbx' : W.drew.cell? ⟨w6.heap.size, 0, none⟩ = some v := hbx
          refine wpAnyH_take (i := 1) (oi := { dst := some 54, op := Op.move (Operand.tmp 13), type := 3, pos := "source.go:78", after := #[], guard := none }) (v := .int .i64 (n : Int)) rfl (by kernel_rfl) (by kernel_rfl) (by kernel_rfl) (fun _ _ _ h => (by cases h.1)) (Or.inl ⟨by rfl, fun w' hS' => by go_simp⟩) hS ?_
          refine wpAnyH_take (i := 3) (oi := { dst := some 56, op := Op.move (Operand.tmp 14), type := 9, pos := "source.go:78", after := #[], guard := none }) (v := .string line) rfl (by kernel_rfl) (by kernel_rfl) (by kernel_rfl) (fun _ _ _ h => (by cases h.1)) (Or.inl ⟨by rfl, fun w' hS' => by go_simp⟩) hS ?_
          refine wpAnyH_take (i := 2) (oi := { dst := some 55, op := Op.load 3 (Operand.tmp 11), type := 3, pos := "source.go:78", after := #[], guard := none }) (v := .int .i64 (b.size : Int)) rfl (by kernel_rfl) (by kernel_rfl) (by kernel_rfl) (fun _ _ _ h => (by cases h.1)) (Or.inl ⟨by rfl, fun w' hS' => by obtain ⟨s1, s2⟩ := hS'; go_simp⟩) hS ?_
          simp only [Act.put, List.setIfInBounds_toArray, List.set_cons_zero, List.set_cons_succ]
          refine held_two (i := 0) (j := 4) (o := { dst := some 53, op := Op.load 26 (Operand.tmp 12), type := 26, pos := "source.go:78", after := #[], guard := none }) (p := { dst := some 57, op := Op.call { callee := Callee.value (Operand.func 12), args := #[Operand.tmp 54, Operand.tmp 55, Operand.tmp 56], argTypes := #[3, 3, 9] }, type := 9, pos := "source.go:78", after := #[{ on := 1, ground := Ground.data }, { on := 2, ground := Ground.data }, { on := 3, ground := Ground.data }], guard := none }) (by kernel_rfl) rfl rfl rfl rfl (fun K hK => ?_) (fun K hK => ?_)
          · go_simp
            refine hK _ _ hS ?_
            clear hK K
            refine held_one (i := 4) (o := { dst := some 57, op := Op.call { callee := Callee.value (Operand.func 12), args := #[Operand.tmp 54, Operand.tmp 55, Operand.tmp 56], argTypes := #[3, 3, 9] }, type := 9, pos := "source.go:78", after := #[{ on := 1, ground := Ground.data }, { on := 2, ground := Ground.data }, { on := 3, ground := Ground.data }], guard := none }) (by kernel_rfl) rfl rfl (fun K hK => ?_)
            refine op_call 12 [.tmp 54, .tmp 55, .tmp 56] #[3, 3, 9] [.int .i64 (n : Int), .int .i64 (b.size : Int), .string line] (.string r) rfl rfl (call12 _ _ _ _) (R12.out _ hbd) (fun w8 hb8 => ?_)
            have hbd8 : Below w6.heap.size w6 w8 := hbd.trans (hb8.mono hbd.size)
            have hS8 := SV.out _ hbd8
            have HBX8 : Hid (Boxed w8 w6.heap.size 26 v) := boxed_next HBX.out ((Below.refl _ W).drew.trans hb8)
            have HRW8 : Hid (w8.ownsRow w6.heap.size 9 1 v (acc).length (tc (acc))) := own_stays HRW.out ((Below.refl _ W).drew.trans hb8)
            have hbx8 := HBX8.out.cell
            have hbxa : (w8.alloc (.cells #[.string r] 9)).cell? ⟨w6.heap.size, 0, none⟩ = some v := cell_alloc_l _ hbx8
            have hba := hbd8.alloc hbd8.size (.cells #[.string r] 9)
            have hSa := SV.out _ hba
            refine hK _ _ hS8 ?_
            clear hK K
            simp only [Act.put, List.setIfInBounds_toArray, List.set_cons_zero, List.set_cons_succ]
            refine held_one (i := 5) (o := { dst := some 58, op := Op.buildSlice 26 1 #[(0, Operand.tmp 57)], type := 26, pos := "source.go:78", after := #[{ on := 4, ground := Ground.data }], guard := none }) (by kernel_rfl) rfl rfl (fun K hK => ?_)
            go_simp
            refine hK _ _ hSa ?_
            clear hK K
            refine held_one (i := 6) (o := { dst := some 59, op := Op.call { callee := Callee.builtin Builtin.append, args := #[Operand.tmp 53, Operand.tmp 58], argTypes := #[26, 26] }, type := 26, pos := "source.go:78", after := #[{ on := 0, ground := Ground.data }, { on := 5, ground := Ground.data }, { on := 4, ground := Ground.chain }], guard := none }) (by kernel_rfl) rfl rfl (fun K hK => ?_)
            refine op_app (.tmp 53) (.tmp 58) rfl w6.heap.size v (acc) rfl (HRW8.out.alloc _) ⟨w8.heap.size, 0, none⟩ 1 r rfl (new_cell _ _ _).1 (by first | omega | (simp; omega)) (by have := hbd8.size; simp; omega) (fun v9 w9 ho9 hg9 => ?_)
            obtain ⟨N9, hN9⟩ : ∃ N9, (acc ++ [r]).length = N9 := ⟨_, rfl⟩
            have HN9 : Hid _ := hN9
            rw [hN9] at ho9
            obtain ⟨ov9, cap9, rfl, hov⟩ := own_form ho9
            obtain ⟨g9, rfl⟩ := hov (by rw [← hN9]; simp)
            clear hN9 hov
            obtain ⟨hv1, hv2, hr2, hk2, hb2⟩ := HBX8.out.appended (by decide) HRW8.out hbd8.size (Nat.le_refl _) ho9 hg9
            have hb9 : Below w6.heap.size w6 w9 := hba.trans ((Below.refl _ _).grown hg9 (by have := hbd8.size; simp; omega) (own_ge HRW8.out))
            refine hK _ _ (SV.out _ hb9) ?_
            clear hK K
            simp only [Act.put, List.setIfInBounds_toArray, List.set_cons_zero, List.set_cons_succ]
            have hc9 := hv1.cell
            have hf9 := hv1.frozen
            refine held_one (i := 7) (o := { dst := none, op := Op.store 26 (Operand.tmp 12) (Operand.tmp 59), type := 0, pos := "source.go:78", after := #[{ on := 6, ground := Ground.data }, { on := 6, ground := Ground.chain }, { on := 0, ground := Ground.phase }, { on := 1, ground := Ground.phase }, { on := 2, ground := Ground.phase }, { on := 3, ground := Ground.phase }, { on := 4, ground := Ground.phase }, { on := 5, ground := Ground.phase }, { on := 6, ground := Ground.phase }], guard := none }) (by kernel_rfl) rfl rfl (fun K hK => ?_)
            go_simp
            refine hK _ _ (SV.out _ (hbd8.trans hb2)) ?_
            clear hK K
            refine wpAnyH_done (by kernel_rfl) ?_ _
            exact ⟨rfl, rfl, _, w8.heap.size, ⟨hv2, (by rw [HN9.out]; exact hr2), (keeps_below ((Below.refl _ W).drew.trans hb8)).trans hk2, hbd8.trans hb2⟩, rfl⟩
          · refine op_call 12 [.tmp 54, .tmp 55, .tmp 56] #[3, 3, 9] [.int .i64 (n : Int), .int .i64 (b.size : Int), .string line] (.string r) rfl rfl (call12 _ _ _ _) (R12.out _ hbd) (fun w8 hb8 => ?_)
            have hbd8 : Below w6.heap.size w6 w8 := hbd.trans (hb8.mono hbd.size)
            have hS8 := SV.out _ hbd8
            have HBX8 : Hid (Boxed w8 w6.heap.size 26 v) := boxed_next HBX.out ((Below.refl _ W).drew.trans hb8)
            have HRW8 : Hid (w8.ownsRow w6.heap.size 9 1 v (acc).length (tc (acc))) := own_stays HRW.out ((Below.refl _ W).drew.trans hb8)
            have hbx8 := HBX8.out.cell
            have hbxa : (w8.alloc (.cells #[.string r] 9)).cell? ⟨w6.heap.size, 0, none⟩ = some v := cell_alloc_l _ hbx8
            have hba := hbd8.alloc hbd8.size (.cells #[.string r] 9)
            have hSa := SV.out _ hba
            refine hK _ _ hS8 ?_
            clear hK K
            simp only [Act.put, List.setIfInBounds_toArray, List.set_cons_zero, List.set_cons_succ]
            refine held_two (i := 0) (j := 5) (o := { dst := some 53, op := Op.load 26 (Operand.tmp 12), type := 26, pos := "source.go:78", after := #[], guard := none }) (p := { dst := some 58, op := Op.buildSlice 26 1 #[(0, Operand.tmp 57)], type := 26, pos := "source.go:78", after := #[{ on := 4, ground := Ground.data }], guard := none }) (by kernel_rfl) rfl rfl rfl rfl (fun K hK => ?_) (fun K hK => ?_)
            · go_simp
              refine hK _ _ hS8 ?_
              clear hK K
              refine held_one (i := 5) (o := { dst := some 58, op := Op.buildSlice 26 1 #[(0, Operand.tmp 57)], type := 26, pos := "source.go:78", after := #[{ on := 4, ground := Ground.data }], guard := none }) (by kernel_rfl) rfl rfl (fun K hK => ?_)
              go_simp
              refine hK _ _ hSa ?_
              clear hK K
              refine held_one (i := 6) (o := { dst := some 59, op := Op.call { callee := Callee.builtin Builtin.append, args := #[Operand.tmp 53, Operand.tmp 58], argTypes := #[26, 26] }, type := 26, pos := "source.go:78", after := #[{ on := 0, ground := Ground.data }, { on := 5, ground := Ground.data }, { on := 4, ground := Ground.chain }], guard := none }) (by kernel_rfl) rfl rfl (fun K hK => ?_)
              refine op_app (.tmp 53) (.tmp 58) rfl w6.heap.size v (acc) rfl (HRW8.out.alloc _) ⟨w8.heap.size, 0, none⟩ 1 r rfl (new_cell _ _ _).1 (by first | omega | (simp; omega)) (by have := hbd8.size; simp; omega) (fun v9 w9 ho9 hg9 => ?_)
              obtain ⟨N9, hN9⟩ : ∃ N9, (acc ++ [r]).length = N9 := ⟨_, rfl⟩
              have HN9 : Hid _ := hN9
              rw [hN9] at ho9
              obtain ⟨ov9, cap9, rfl, hov⟩ := own_form ho9
              obtain ⟨g9, rfl⟩ := hov (by rw [← hN9]; simp)
              clear hN9 hov
              obtain ⟨hv1, hv2, hr2, hk2, hb2⟩ := HBX8.out.appended (by decide) HRW8.out hbd8.size (Nat.le_refl _) ho9 hg9
              have hb9 : Below w6.heap.size w6 w9 := hba.trans ((Below.refl _ _).grown hg9 (by have := hbd8.size; simp; omega) (own_ge HRW8.out))
              refine hK _ _ (SV.out _ hb9) ?_
              clear hK K
              simp only [Act.put, List.setIfInBounds_toArray, List.set_cons_zero, List.set_cons_succ]
              have hc9 := hv1.cell
              have hf9 := hv1.frozen
              refine held_one (i := 7) (o := { dst := none, op := Op.store 26 (Operand.tmp 12) (Operand.tmp 59), type := 0, pos := "source.go:78", after := #[{ on := 6, ground := Ground.data }, { on := 6, ground := Ground.chain }, { on := 0, ground := Ground.phase }, { on := 1, ground := Ground.phase }, { on := 2, ground := Ground.phase }, { on := 3, ground := Ground.phase }, { on := 4, ground := Ground.phase }, { on := 5, ground := Ground.phase }, { on := 6, ground := Ground.phase }], guard := none }) (by kernel_rfl) rfl rfl (fun K hK => ?_)
              go_simp
              refine hK _ _ (SV.out _ (hbd8.trans hb2)) ?_
              clear hK K
              refine wpAnyH_done (by kernel_rfl) ?_ _
              exact ⟨rfl, rfl, _, w8.heap.size, ⟨hv2, (by rw [HN9.out]; exact hr2), (keeps_below ((Below.refl _ W).drew.trans hb8)).trans hk2, hbd8.trans hb2⟩, rfl⟩
            · go_simp
              refine hK _ _ hSa ?_
              clear hK K
              refine held_one (i := 0) (o := { dst := some 53, op := Op.load 26 (Operand.tmp 12), type := 26, pos := "source.go:78", after := #[], guard := none }) (by kernel_rfl) rfl rfl (fun K hK => ?_)
              go_simp
              refine hK _ _ hSa ?_
              clear hK K
              refine held_one (i := 6) (o := { dst := some 59, op := Op.call { callee := Callee.builtin Builtin.append, args := #[Operand.tmp 53, Operand.tmp 58], argTypes := #[26, 26] }, type := 26, pos := "source.go:78", after := #[{ on := 0, ground := Ground.data }, { on := 5, ground := Ground.data }, { on := 4, ground := Ground.chain }], guard := none }) (by kernel_rfl) rfl rfl (fun K hK => ?_)
              refine op_app (.tmp 53) (.tmp 58) rfl w6.heap.size v (acc) rfl (HRW8.out.alloc _) ⟨w8.heap.size, 0, none⟩ 1 r rfl (new_cell _ _ _).1 (by first | omega | (simp; omega)) (by have := hbd8.size; simp; omega) (fun v9 w9 ho9 hg9 => ?_)
              obtain ⟨N9, hN9⟩ : ∃ N9, (acc ++ [r]).length = N9 := ⟨_, rfl⟩
              have HN9 : Hid _ := hN9
              rw [hN9] at ho9
              obtain ⟨ov9, cap9, rfl, hov⟩ := own_form ho9
              obtain ⟨g9, rfl⟩ := hov (by rw [← hN9]; simp)
              clear hN9 hov
              obtain ⟨hv1, hv2, hr2, hk2, hb2⟩ := HBX8.out.appended (by decide) HRW8.out hbd8.size (Nat.le_refl _) ho9 hg9
              have hb9 : Below w6.heap.size w6 w9 := hba.trans ((Below.refl _ _).grown hg9 (by have := hbd8.size; simp; omega) (own_ge HRW8.out))
              refine hK _ _ (SV.out _ hb9) ?_
              clear hK K
              simp only [Act.put, List.setIfInBounds_toArray, List.set_cons_zero, List.set_cons_succ]
              have hc9 := hv1.cell
              have hf9 := hv1.frozen
              refine held_one (i := 7) (o := { dst := none, op := Op.store 26 (Operand.tmp 12) (Operand.tmp 59), type := 0, pos := "source.go:78", after := #[{ on := 6, ground := Ground.data }, { on := 6, ground := Ground.chain }, { on := 0, ground := Ground.phase }, { on := 1, ground := Ground.phase }, { on := 2, ground := Ground.phase }, { on := 3, ground := Ground.phase }, { on := 4, ground := Ground.phase }, { on := 5, ground := Ground.phase }, { on := 6, ground := Ground.phase }], guard := none }) (by kernel_rfl) rfl rfl (fun K hK => ?_)
              go_simp
              refine hK _ _ (SV.out _ (hbd8.trans hb2)) ?_
              clear hK K
              refine wpAnyH_done (by kernel_rfl) ?_ _
              exact ⟨rfl, rfl, _, w8.heap.size, ⟨hv2, (by rw [HN9.out]; exact hr2), (keeps_below ((Below.refl _ W).drew.trans hb8)).trans hk2, hbd8.trans hb2⟩, rfl⟩
        · rintro e a8 W8 ⟨rfl, v8, H8, ⟨hv8, ho8, hk8, hbw8⟩, rfl⟩
          obtain ⟨_, _, m2, _, _, _⟩ := HW6.out W8 hbw8
          have HBL : Hid (blk L C a b.size (n, line) = r :: (if n = L then [markB b.size C] else [])) := by
            show _ = _
            unfold blk
            rw [if_neg (by show ¬ n + a < L; omega), HR.out]
          clear k2 k3 k5 hbx
          by_cases hnL : n = L
          · subst hnL
            obtain ⟨mk, HMK⟩ := hid_pair (markB b.size C)
            have R13 : Hid (∀ w' : World, Calls Tryd.prog 13 #[.int .i64 (b.size : Int), .int .i64 (C : Int)] w' fun e w'' => e = .returned (.string mk) ∧ Below w'.heap.size w' w'') := fun w' => mark_any b.size C mk w' hb21 hC1.1 hC1.2 HMK
            have HE : Hid (accN n C a b.size ls (m + 1) = (acc ++ [r]) ++ [mk]) := by
              show _ = _
              rw [HST.out, HBL.out, if_pos rfl, ← HMK.out]
              simp
            have hbx8 := hv8.cell
            have HBX8o : Hid (Boxed W8 w6.heap.size 26 v8) := hv8
            have HRW8o : Hid (W8.ownsRow w6.heap.size 9 1 v8 (acc ++ [r]).length (tc (acc ++ [r]))) := ho8
            have HWB8 : Hid (Below w6.heap.size w6 W8) := hbw8
            have HK8 : Hid (KeepsOthers W W8) := hk8
            clear HST HBL hv8 ho8 hk8 hbw8
            gi_wp2
            refine wpIn_mono (Q := fun e a' W' => e = .normal ∧ ∃ (v' : Value) (H : Nat), (Boxed W' w6.heap.size 26 v' ∧ Hid (W'.ownsRow w6.heap.size 9 1 v' ((acc ++ [r]) ++ [mk]).length (tc ((acc ++ [r]) ++ [mk]))) ∧ KeepsOthers W8 W' ∧ Below w6.heap.size w6 W') ∧ a' = { tmps := ((.string s) :: (.int .i64 (k : Int)) :: (.int .i64 (a : Int)) :: undef :: undef :: (.pointer (some ⟨w.heap.size, 0, none⟩)) :: (.slice none 0 0) :: (.int .i64 0) :: (.pointer (some ⟨w2.heap.size, 0, none⟩)) :: (.int .i64 0) :: (.pointer (some ⟨B, 0, none⟩)) :: (.pointer (some ⟨w5.heap.size, 0, none⟩)) :: (.pointer (some ⟨w6.heap.size, 0, none⟩)) :: (.int .i64 (n : Int)) :: (.string line) :: (.tuple #[.agg #[.int .i64 (n : Int), .int .i64 (C : Int)], .int .i64 0]) :: (.string s) :: (.int .i64 (k : Int)) :: (.tuple #[.agg #[.int .i64 (n : Int), .int .i64 (C : Int)], .int .i64 0]) :: (.agg #[.int .i64 (n : Int), .int .i64 (C : Int)]) :: (.int .i64 0) :: (.int .i64 0) :: (.bool false) :: undef :: (.int .i64 (a : Int)) :: (.bool (decide ((a : Int) < 0))) :: (.bool (decide ((a : Int) < 0))) :: (.int .i64 (a : Int)) :: (.bool (decide (20 < (a : Int)))) :: (.bool (decide ((a : Int) < 0) || decide (20 < (a : Int)))) :: (.pointer (some ⟨w2.heap.size, 0, none⟩)) :: (.int .i64 (n : Int)) :: (.int .i64 (a : Int)) :: (.int .i64 ((n : Int) + (a : Int))) :: (.string s) :: (.int .i64 (M : Int)) :: (.int .i64 (lst : Int)) :: (.int .i64 (lst : Int)) :: (.string b) :: (.int .i64 (b.size : Int)) :: (.string s) :: (.func (.func 21) #[] #[.pointer (some ⟨w6.heap.size + 1, 0, none⟩)]) :: (.int .i64 (n : Int)) :: (.string line) :: (.int .i64 (n : Int)) :: (.int .i64 (lst : Int)) :: (.bool false) :: (.int .i64 (n : Int)) :: (.pointer (some ⟨w2.heap.size, 0, none⟩)) :: (.int .i64 (n : Int)) :: (.int .i64 (a : Int)) :: (.int .i64 ((n : Int) - (a : Int))) :: (.bool false) :: v :: (.int .i64 (n : Int)) :: (.int .i64 (b.size : Int)) :: (.string line) :: (.string r) :: (.slice (some ⟨H8, 0, none⟩) 1 1) :: v8 :: (.int .i64 (n : Int)) :: (.pointer (some ⟨w2.heap.size, 0, none⟩)) :: (.int .i64 (n : Int)) :: (.bool true) :: v8 :: (.int .i64 (b.size : Int)) :: (.pointer (some ⟨w2.heap.size, 1, none⟩)) :: (.int .i64 (C : Int)) :: (.string mk) :: (.slice (some ⟨H, 0, none⟩) 1 1) :: v' :: undef :: []).toArray, defers := [] }) ?_ ?_
            · refine region_in (S := fun w' => w'.cell? ⟨w5.heap.size, 0, none⟩ = some (.int .i64 (b.size : Int)) ∧ w'.cell? ⟨w2.heap.size, 1, none⟩ = some (.int .i64 (C : Int))) ?nd (by kernel_rfl) ?_
              case nd => intro o ho c; simp only [List.mem_cons, List.not_mem_nil, or_false] at ho; rcases ho with rfl | rfl | rfl | rfl | rfl | rfl | rfl | rfl <;> simp
              have hbd : Below w6.heap.size w6 W8.drew := HWB8.out.drew
              have hS := SV.out _ hbd
              have hbx' : W8.drew.cell? ⟨w6.heap.size, 0, none⟩ = some v8 := hbx8
              refine wpAnyH_take (i := 2) (oi := { dst := some 66, op := Op.fieldAddr 23 (Operand.tmp 8) 1, type := 0, pos := "source.go:80", after := #[], guard := none }) (v := .pointer (some ⟨w2.heap.size, 1, none⟩)) rfl (by kernel_rfl) (by kernel_rfl) (by kernel_rfl) (fun _ _ _ h => (by cases h.1)) (Or.inl ⟨by rfl, fun w' hS' => by go_simp⟩) hS ?_
              refine wpAnyH_take (i := 1) (oi := { dst := some 65, op := Op.load 3 (Operand.tmp 11), type := 3, pos := "source.go:80", after := #[], guard := none }) (v := .int .i64 (b.size : Int)) rfl (by kernel_rfl) (by kernel_rfl) (by kernel_rfl) (fun _ _ _ h => (by cases h.1)) (Or.inl ⟨by rfl, fun w' hS' => by obtain ⟨s1, s2⟩ := hS'; go_simp⟩) hS ?_
              refine wpAnyH_take (i := 3) (oi := { dst := some 67, op := Op.load 3 (Operand.tmp 66), type := 3, pos := "source.go:80", after := #[{ on := 2, ground := Ground.data }], guard := none }) (v := .int .i64 (C : Int)) rfl (by kernel_rfl) (by kernel_rfl) (by kernel_rfl) (fun _ _ _ h => (by cases h.1)) (Or.inl ⟨by rfl, fun w' hS' => by obtain ⟨s1, s2⟩ := hS'; go_simp⟩) hS ?_
              simp only [Act.put, List.setIfInBounds_toArray, List.set_cons_zero, List.set_cons_succ]
              refine held_two (i := 0) (j := 4) (o := { dst := some 64, op := Op.load 26 (Operand.tmp 12), type := 26, pos := "source.go:80", after := #[], guard := none }) (p := { dst := some 68, op := Op.call { callee := Callee.value (Operand.func 13), args := #[Operand.tmp 65, Operand.tmp 67], argTypes := #[3, 3] }, type := 9, pos := "source.go:80", after := #[{ on := 1, ground := Ground.data }, { on := 3, ground := Ground.data }], guard := none }) (by kernel_rfl) rfl rfl rfl rfl (fun K hK => ?_) (fun K hK => ?_)
              · go_simp
                refine hK _ _ hS ?_
                clear hK K
                refine held_one (i := 4) (o := { dst := some 68, op := Op.call { callee := Callee.value (Operand.func 13), args := #[Operand.tmp 65, Operand.tmp 67], argTypes := #[3, 3] }, type := 9, pos := "source.go:80", after := #[{ on := 1, ground := Ground.data }, { on := 3, ground := Ground.data }], guard := none }) (by kernel_rfl) rfl rfl (fun K hK => ?_)
                refine op_call 13 [.tmp 65, .tmp 67] #[3, 3] [.int .i64 (b.size : Int), .int .i64 (C : Int)] (.string mk) rfl rfl (call13 _ _ _) (R13.out _) (fun w8 hb8 => ?_)
                have hbd8 : Below w6.heap.size w6 w8 := hbd.trans (hb8.mono hbd.size)
                have hS8 := SV.out _ hbd8
                have HBX8 : Hid (Boxed w8 w6.heap.size 26 v8) := boxed_next HBX8o.out ((Below.refl _ W8).drew.trans hb8)
                have HRW8 : Hid (w8.ownsRow w6.heap.size 9 1 v8 (acc ++ [r]).length (tc (acc ++ [r]))) := own_stays HRW8o.out ((Below.refl _ W8).drew.trans hb8)
                have hbx8 := HBX8.out.cell
                have hbxa : (w8.alloc (.cells #[.string mk] 9)).cell? ⟨w6.heap.size, 0, none⟩ = some v8 := cell_alloc_l _ hbx8
                have hba := hbd8.alloc hbd8.size (.cells #[.string mk] 9)
                have hSa := SV.out _ hba
                refine hK _ _ hS8 ?_
                clear hK K
                simp only [Act.put, List.setIfInBounds_toArray, List.set_cons_zero, List.set_cons_succ]
                refine held_one (i := 5) (o := { dst := some 69, op := Op.buildSlice 26 1 #[(0, Operand.tmp 68)], type := 26, pos := "source.go:80", after := #[{ on := 4, ground := Ground.data }], guard := none }) (by kernel_rfl) rfl rfl (fun K hK => ?_)
                go_simp
                refine hK _ _ hSa ?_
                clear hK K
                refine held_one (i := 6) (o := { dst := some 70, op := Op.call { callee := Callee.builtin Builtin.append, args := #[Operand.tmp 64, Operand.tmp 69], argTypes := #[26, 26] }, type := 26, pos := "source.go:80", after := #[{ on := 0, ground := Ground.data }, { on := 5, ground := Ground.data }, { on := 4, ground := Ground.chain }], guard := none }) (by kernel_rfl) rfl rfl (fun K hK => ?_)
                refine op_app (.tmp 64) (.tmp 69) rfl w6.heap.size v8 (acc ++ [r]) rfl (HRW8.out.alloc _) ⟨w8.heap.size, 0, none⟩ 1 mk rfl (new_cell _ _ _).1 (by first | omega | (simp; omega)) (by have := hbd8.size; simp; omega) (fun v9 w9 ho9 hg9 => ?_)
                obtain ⟨N9, hN9⟩ : ∃ N9, (acc ++ [r] ++ [mk]).length = N9 := ⟨_, rfl⟩
                have HN9 : Hid _ := hN9
                rw [hN9] at ho9
                obtain ⟨ov9, cap9, rfl, hov⟩ := own_form ho9
                obtain ⟨g9, rfl⟩ := hov (by rw [← hN9]; simp)
                clear hN9 hov
                obtain ⟨hv1, hv2, hr2, hk2, hb2⟩ := HBX8.out.appended (by decide) HRW8.out hbd8.size (Nat.le_refl _) ho9 hg9
                have hb9 : Below w6.heap.size w6 w9 := hba.trans ((Below.refl _ _).grown hg9 (by have := hbd8.size; simp; omega) (own_ge HRW8.out))
                refine hK _ _ (SV.out _ hb9) ?_
                clear hK K
                simp only [Act.put, List.setIfInBounds_toArray, List.set_cons_zero, List.set_cons_succ]
                have hc9 := hv1.cell
                have hf9 := hv1.frozen
                refine held_one (i := 7) (o := { dst := none, op := Op.store 26 (Operand.tmp 12) (Operand.tmp 70), type := 0, pos := "source.go:80", after := #[{ on := 6, ground := Ground.data }, { on := 6, ground := Ground.chain }, { on := 0, ground := Ground.phase }, { on := 1, ground := Ground.phase }, { on := 2, ground := Ground.phase }, { on := 3, ground := Ground.phase }, { on := 4, ground := Ground.phase }, { on := 5, ground := Ground.phase }, { on := 6, ground := Ground.phase }], guard := none }) (by kernel_rfl) rfl rfl (fun K hK => ?_)
                go_simp
                refine hK _ _ (SV.out _ (hbd8.trans hb2)) ?_
                clear hK K
                refine wpAnyH_done (by kernel_rfl) ?_ _
                exact ⟨rfl, rfl, _, w8.heap.size, ⟨hv2, (by rw [HN9.out]; exact hr2), (keeps_below ((Below.refl _ W8).drew.trans hb8)).trans hk2, hbd8.trans hb2⟩, rfl⟩
              · refine op_call 13 [.tmp 65, .tmp 67] #[3, 3] [.int .i64 (b.size : Int), .int .i64 (C : Int)] (.string mk) rfl rfl (call13 _ _ _) (R13.out _) (fun w8 hb8 => ?_)
                have hbd8 : Below w6.heap.size w6 w8 := hbd.trans (hb8.mono hbd.size)
                have hS8 := SV.out _ hbd8
                have HBX8 : Hid (Boxed w8 w6.heap.size 26 v8) := boxed_next HBX8o.out ((Below.refl _ W8).drew.trans hb8)
                have HRW8 : Hid (w8.ownsRow w6.heap.size 9 1 v8 (acc ++ [r]).length (tc (acc ++ [r]))) := own_stays HRW8o.out ((Below.refl _ W8).drew.trans hb8)
                have hbx8 := HBX8.out.cell
                have hbxa : (w8.alloc (.cells #[.string mk] 9)).cell? ⟨w6.heap.size, 0, none⟩ = some v8 := cell_alloc_l _ hbx8
                have hba := hbd8.alloc hbd8.size (.cells #[.string mk] 9)
                have hSa := SV.out _ hba
                refine hK _ _ hS8 ?_
                clear hK K
                simp only [Act.put, List.setIfInBounds_toArray, List.set_cons_zero, List.set_cons_succ]
                refine held_two (i := 0) (j := 5) (o := { dst := some 64, op := Op.load 26 (Operand.tmp 12), type := 26, pos := "source.go:80", after := #[], guard := none }) (p := { dst := some 69, op := Op.buildSlice 26 1 #[(0, Operand.tmp 68)], type := 26, pos := "source.go:80", after := #[{ on := 4, ground := Ground.data }], guard := none }) (by kernel_rfl) rfl rfl rfl rfl (fun K hK => ?_) (fun K hK => ?_)
                · go_simp
                  refine hK _ _ hS8 ?_
                  clear hK K
                  refine held_one (i := 5) (o := { dst := some 69, op := Op.buildSlice 26 1 #[(0, Operand.tmp 68)], type := 26, pos := "source.go:80", after := #[{ on := 4, ground := Ground.data }], guard := none }) (by kernel_rfl) rfl rfl (fun K hK => ?_)
                  go_simp
                  refine hK _ _ hSa ?_
                  clear hK K
                  refine held_one (i := 6) (o := { dst := some 70, op := Op.call { callee := Callee.builtin Builtin.append, args := #[Operand.tmp 64, Operand.tmp 69], argTypes := #[26, 26] }, type := 26, pos := "source.go:80", after := #[{ on := 0, ground := Ground.data }, { on := 5, ground := Ground.data }, { on := 4, ground := Ground.chain }], guard := none }) (by kernel_rfl) rfl rfl (fun K hK => ?_)
                  refine op_app (.tmp 64) (.tmp 69) rfl w6.heap.size v8 (acc ++ [r]) rfl (HRW8.out.alloc _) ⟨w8.heap.size, 0, none⟩ 1 mk rfl (new_cell _ _ _).1 (by first | omega | (simp; omega)) (by have := hbd8.size; simp; omega) (fun v9 w9 ho9 hg9 => ?_)
                  obtain ⟨N9, hN9⟩ : ∃ N9, (acc ++ [r] ++ [mk]).length = N9 := ⟨_, rfl⟩
                  have HN9 : Hid _ := hN9
                  rw [hN9] at ho9
                  obtain ⟨ov9, cap9, rfl, hov⟩ := own_form ho9
                  obtain ⟨g9, rfl⟩ := hov (by rw [← hN9]; simp)
                  clear hN9 hov
                  obtain ⟨hv1, hv2, hr2, hk2, hb2⟩ := HBX8.out.appended (by decide) HRW8.out hbd8.size (Nat.le_refl _) ho9 hg9
                  have hb9 : Below w6.heap.size w6 w9 := hba.trans ((Below.refl _ _).grown hg9 (by have := hbd8.size; simp; omega) (own_ge HRW8.out))
                  refine hK _ _ (SV.out _ hb9) ?_
                  clear hK K
                  simp only [Act.put, List.setIfInBounds_toArray, List.set_cons_zero, List.set_cons_succ]
                  have hc9 := hv1.cell
                  have hf9 := hv1.frozen
                  refine held_one (i := 7) (o := { dst := none, op := Op.store 26 (Operand.tmp 12) (Operand.tmp 70), type := 0, pos := "source.go:80", after := #[{ on := 6, ground := Ground.data }, { on := 6, ground := Ground.chain }, { on := 0, ground := Ground.phase }, { on := 1, ground := Ground.phase }, { on := 2, ground := Ground.phase }, { on := 3, ground := Ground.phase }, { on := 4, ground := Ground.phase }, { on := 5, ground := Ground.phase }, { on := 6, ground := Ground.phase }], guard := none }) (by kernel_rfl) rfl rfl (fun K hK => ?_)
                  go_simp
                  refine hK _ _ (SV.out _ (hbd8.trans hb2)) ?_
                  clear hK K
                  refine wpAnyH_done (by kernel_rfl) ?_ _
                  exact ⟨rfl, rfl, _, w8.heap.size, ⟨hv2, (by rw [HN9.out]; exact hr2), (keeps_below ((Below.refl _ W8).drew.trans hb8)).trans hk2, hbd8.trans hb2⟩, rfl⟩
                · go_simp
                  refine hK _ _ hSa ?_
                  clear hK K
                  refine held_one (i := 0) (o := { dst := some 64, op := Op.load 26 (Operand.tmp 12), type := 26, pos := "source.go:80", after := #[], guard := none }) (by kernel_rfl) rfl rfl (fun K hK => ?_)
                  go_simp
                  refine hK _ _ hSa ?_
                  clear hK K
                  refine held_one (i := 6) (o := { dst := some 70, op := Op.call { callee := Callee.builtin Builtin.append, args := #[Operand.tmp 64, Operand.tmp 69], argTypes := #[26, 26] }, type := 26, pos := "source.go:80", after := #[{ on := 0, ground := Ground.data }, { on := 5, ground := Ground.data }, { on := 4, ground := Ground.chain }], guard := none }) (by kernel_rfl) rfl rfl (fun K hK => ?_)
                  refine op_app (.tmp 64) (.tmp 69) rfl w6.heap.size v8 (acc ++ [r]) rfl (HRW8.out.alloc _) ⟨w8.heap.size, 0, none⟩ 1 mk rfl (new_cell _ _ _).1 (by first | omega | (simp; omega)) (by have := hbd8.size; simp; omega) (fun v9 w9 ho9 hg9 => ?_)
                  obtain ⟨N9, hN9⟩ : ∃ N9, (acc ++ [r] ++ [mk]).length = N9 := ⟨_, rfl⟩
                  have HN9 : Hid _ := hN9
                  rw [hN9] at ho9
                  obtain ⟨ov9, cap9, rfl, hov⟩ := own_form ho9
                  obtain ⟨g9, rfl⟩ := hov (by rw [← hN9]; simp)
                  clear hN9 hov
                  obtain ⟨hv1, hv2, hr2, hk2, hb2⟩ := HBX8.out.appended (by decide) HRW8.out hbd8.size (Nat.le_refl _) ho9 hg9
                  have hb9 : Below w6.heap.size w6 w9 := hba.trans ((Below.refl _ _).grown hg9 (by have := hbd8.size; simp; omega) (own_ge HRW8.out))
                  refine hK _ _ (SV.out _ hb9) ?_
                  clear hK K
                  simp only [Act.put, List.setIfInBounds_toArray, List.set_cons_zero, List.set_cons_succ]
                  have hc9 := hv1.cell
                  have hf9 := hv1.frozen
                  refine held_one (i := 7) (o := { dst := none, op := Op.store 26 (Operand.tmp 12) (Operand.tmp 70), type := 0, pos := "source.go:80", after := #[{ on := 6, ground := Ground.data }, { on := 6, ground := Ground.chain }, { on := 0, ground := Ground.phase }, { on := 1, ground := Ground.phase }, { on := 2, ground := Ground.phase }, { on := 3, ground := Ground.phase }, { on := 4, ground := Ground.phase }, { on := 5, ground := Ground.phase }, { on := 6, ground := Ground.phase }], guard := none }) (by kernel_rfl) rfl rfl (fun K hK => ?_)
                  go_simp
                  refine hK _ _ (SV.out _ (hbd8.trans hb2)) ?_
                  clear hK K
                  refine wpAnyH_done (by kernel_rfl) ?_ _
                  exact ⟨rfl, rfl, _, w8.heap.size, ⟨hv2, (by rw [HN9.out]; exact hr2), (keeps_below ((Below.refl _ W8).drew.trans hb8)).trans hk2, hbd8.trans hb2⟩, rfl⟩
            · rintro e a9 W9 ⟨rfl, v9, H9, ⟨hv9, ho9, hk9, hbw9⟩, rfl⟩
              gi_wp2
              have := HN.out
              exact .inl ⟨rfl, HK8.out.trans hk9, ⟨v9, hv9, by rw [HE.out]; exact ho9⟩, by omega, hbw9⟩
          · have hnL' : ((n : Int) == (L : Int)) = false := by rw [beq_eq_false_iff_ne]; omega
            have HE : Hid (accN L C a b.size ls (m + 1) = acc ++ [r]) := by
              show _ = _
              rw [HST.out, HBL.out, if_neg hnL]
            have HV8 : Hid (Boxed W8 w6.heap.size 26 v8) := hv8
            have HK8 : Hid (KeepsOthers W W8) := hk8
            have HWB8 : Hid (Below w6.heap.size w6 W8) := hbw8
            clear HST HBL hnL hv8 hk8 hbw8
            gi_wp2
            have := HN.out
            exact .inl ⟨rfl, HK8.out, ⟨v8, HV8.out, by rw [HE.out]; exact ho8⟩, by omega, HWB8.out⟩
  case done =>
    rintro D ys W hD hS ⟨⟨⟨v, hv, hrow, _⟩, hpl⟩, hB⟩ hK
    have hyl : ys.length = lst := by
      have h1 := congrArg List.length hS
      rw [HLS.out, rows_length, HLEN.out] at h1
      omega
    rw [hyl] at hrow
    clear hyl hS hpl
    have hBw : Below w.heap.size w W := (HBB.out.trans (HB6.out.mono HBB.out.size)).trans (hB.mono (Nat.le_trans HBB.out.size HB6.out.size))
    have hzw : w.heap.size ≤ w6.heap.size := Nat.le_trans HBB.out.size HB6.out.size
    have HO : Hid (W.ownsRow w.heap.size 9 1 v (accN L C a b.size ls lst).length (tc (accN L C a b.size ls lst))) := own_low hrow hzw
    have HBW' : Hid (Below w.heap.size w W) := hBw
    have hc := hv.cell
    clear hrow hB hBw hv
    gi_wp2
    refine ⟨by simp, .inl ⟨_, _, rfl, run_takeDeferred hK, ?_⟩⟩
    exact ⟨.tuple #[v, .int .i64 0], by simp [results, Tryd.results4, go_sem], ⟨v, rfl, ownsRow_putObj HO.out _ hK rfl⟩, HBW'.out.trans (belowK_b (w := w) (Nat.le_refl _) W D _ _ (by simp at hD; omega) hK rfl rfl)⟩
  case stop =>
    rintro D c pre W hD ⟨⟨⟨v, hv, hrow, _⟩, rfl⟩, hB⟩ hK
    have hBw : Below w.heap.size w W := (HBB.out.trans (HB6.out.mono HBB.out.size)).trans (hB.mono (Nat.le_trans HBB.out.size HB6.out.size))
    have hzw : w.heap.size ≤ w6.heap.size := Nat.le_trans HBB.out.size HB6.out.size
    have HO : Hid (W.ownsRow w.heap.size 9 1 v (accN L C a b.size ls lst).length (tc (accN L C a b.size ls lst))) := own_low hrow hzw
    have HBW' : Hid (Below w.heap.size w W) := hBw
    have hc := hv.cell
    clear hrow hB hBw hv
    gi_wp2
    refine ⟨by simp, .inl ⟨_, _, rfl, run_takeDeferred hK, ?_⟩⟩
    exact ⟨.tuple #[v, .int .i64 0], by simp [results, Tryd.results4, go_sem], ⟨v, rfl, ownsRow_putObj HO.out _ hK rfl⟩, HBW'.out.trans (belowK_b (w := w) (Nat.le_refl _) W D _ _ (by simp at hD; omega) hK rfl rfl)⟩
end Go.Proofs.YtgncoeihlfcaiaaDoor
