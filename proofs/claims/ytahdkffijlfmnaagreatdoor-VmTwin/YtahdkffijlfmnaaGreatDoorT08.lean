import Derived.Deep.RegionWith
import Derived.Test.YtahdkffijlfmnaaGreatDoorT05
import Derived.Test.YtahdkffijlfmnaaGreatDoorT03
namespace Go.Proofs.YtahdkffijlfmnaaGreatDoor.Hp
open Go.RowKit
theorem below2 {w w1 w2 : World} (h : Below w.heap.size w w1) (k : Below w1.heap.size w1 w2) : Below w.heap.size w w2 := h.trans (k.mono h.size)
set_option maxRecDepth 100000 in
set_option maxHeartbeats 1000000 in
theorem mayBe_any (k n : Int) (s : ByteArray) (kind : Int) (cnt : Nat) (w : World) (hs : s.size ≤ 9223372036854775807) :
    Calls Tryz.prog 124 #[.agg #[.int .i64 k, .int .i64 n, .string s], .int .i64 kind, .int .i64 (cnt : Int)] w fun e w' => e = .returned (.bool (mayS (k, n, s) kind cnt)) ∧ Below w.heap.size w w' := by
  have B0 : Below w.heap.size w (w.alloc (.cells #[.int .i64 k, .int .i64 n, .string s] 52)) := (Below.refl _ w).alloc (Nat.le_refl _) _
  obtain ⟨⟨⟨x0, -⟩, ⟨x1, -⟩⟩, x2, -⟩ := Box3.new w k n s 52
  unfold mayS
  simp only
  by_cases hk : k = kind
  · subst hk
    rw [show (k == k) = true by simp, Bool.true_and]
    have hv := fun W : World => valid_any k n s W hs
    cases hq : okV k n s with
    | false =>
      rw [hq] at hv
      rw [Bool.false_and]
      go_enter Tryz.func124, Tryz.ntmps124
      go_wp2_with (first | (go_at_call 70; refine (hv _).mono ?_; rintro e w1 ⟨rfl, hb⟩) | go_in)
      go_ret
      exact ⟨rfl, below2 B0 hb⟩
    | true =>
      rw [hq] at hv
      rw [Bool.true_and]
      by_cases h4 : k = 4
      · subst h4
        rw [show ((4 : Int) != 4) = false by decide, Bool.false_or]
        by_cases hn : n ≤ (cnt : Int)
        all_goals
          go_enter Tryz.func124, Tryz.ntmps124
          go_wp2_with (first | (go_at_call 70; refine (hv _).mono ?_; rintro e w1 ⟨rfl, hb⟩; have y1 := (hb.cell (p := ⟨w.heap.size, 1, none⟩) (by simp)).trans x1) | go_in)
          go_ret
          exact ⟨by simp [hn], below2 B0 hb⟩
      · have h4' : (k != 4) = true := by simpa using h4
        rw [h4', Bool.true_or]
        go_enter Tryz.func124, Tryz.ntmps124
        go_wp2_with (first | (go_at_call 70; refine (hv _).mono ?_; rintro e w1 ⟨rfl, hb⟩) | go_in)
        go_ret
        exact ⟨rfl, below2 B0 hb⟩
  · rw [show (k == kind) = false by simpa using hk, Bool.false_and, Bool.false_and]
    have hk' : (k == kind) = false := by simpa using hk
    go_enter Tryz.func124, Tryz.ntmps124
    go_wp2
    go_ret
    exact ⟨rfl, B0⟩
theorem _root_.Go.Proofs.YtahdkffijlfmnaaGreatDoor.Box3.set {W : World} {B : Nat} {k n : Int} {s : ByteArray} (h : Box3 W B k n s) (a : Addr) (u : Value) (hne : a.block ≠ B) : Box3 (W.setCell a u) B k n s := by
  have e : (W.setCell a u).heap[B]? = W.heap[B]? := set_heap (Ne.symm hne)
  have c := fun o => World.cell?_of_block (w := W) (w' := W.setCell a u) (a := ⟨B, o, none⟩) e
  have f := fun o => World.frozen?_of_block (w := W) (w' := W.setCell a u) (a := ⟨B, o, none⟩) e
  exact ⟨⟨⟨(c 0).trans h.1.1.1, (f 0).trans h.1.1.2⟩, ⟨(c 1).trans h.1.2.1, (f 1).trans h.1.2.2⟩⟩, (c 2).trans h.2.1, (f 2).trans h.2.2⟩
set_option maxHeartbeats 400000 in
theorem clone_any (s : ByteArray) (w : World) (hs : s.size ≤ 281474976710656) : Calls Tryz.prog 48 #[.string s] w fun e w' => e = .returned (.string s) ∧ Below w.heap.size w w' := by
  go_enter Tryz.func48, Tryz.ntmps48
  go_wp2_with (go_at_call 69; refine (Tryz.stringslite_Clone s w hs).mono ?_; rintro e w1 ⟨rfl, hb1⟩)
  go_ret
  exact ⟨rfl, hb1⟩
set_option maxHeartbeats 1000000 in
theorem copied_any (k n : Int) (s : ByteArray) (w : World) (hs : s.size ≤ 281474976710656) :
    Calls Tryz.prog 71 #[.agg #[.int .i64 k, .int .i64 n, .string s]] w fun e w' => e = .returned (.agg #[.int .i64 k, .int .i64 n, .string s]) ∧ Below w.heap.size w w' := by
  have b0 := Box3.new w k n s 52
  have b1 := Box3.new (w.alloc (.cells #[.int .i64 k, .int .i64 n, .string s] 52)) 0 0 e0 52
  rw [World.size_alloc] at b1
  replace b0 := b0.alloc (.cells #[.int .i64 0, .int .i64 0, .string e0] 52)
  have B0 : Below w.heap.size w ((w.alloc (.cells #[.int .i64 k, .int .i64 n, .string s] 52)).alloc (.cells #[.int .i64 0, .int .i64 0, .string e0] 52)) := ((Below.refl _ w).alloc (Nat.le_refl _) _).alloc (by simp) _
  have z0 : ((w.alloc (.cells #[.int .i64 k, .int .i64 n, .string s] 52)).alloc (.cells #[.int .i64 0, .int .i64 0, .string e0] 52)).heap.size = w.heap.size + 2 := by simp
  go_enter Tryz.func71, Tryz.ntmps71
  go_wp2_with fail
  generalize (w.alloc (.cells #[.int .i64 k, .int .i64 n, .string s] 52)).alloc (.cells #[.int .i64 0, .int .i64 0, .string e0] 52) = X at b0 b1 B0 z0 ⊢
  obtain ⟨⟨⟨x0, f0⟩, ⟨x1, f1⟩⟩, x2, f2⟩ := id b0
  go_wp2_with fail
  refine (clone_any s _ hs).mono ?_
  rintro e w1 ⟨rfl, hb⟩
  replace b0 := b0.below hb (by omega)
  replace b1 := b1.below hb (by omega)
  replace B0 := below2 B0 hb
  clear x0 x1 x2 f0 f1 f2 z0 hb
  obtain ⟨⟨⟨x0, f0⟩, ⟨x1, f1⟩⟩, x2, f2⟩ := id b0
  obtain ⟨⟨⟨y0, g0⟩, ⟨y1, g1⟩⟩, y2, g2⟩ := id b1
  go_wp2
  have m := (b1.set ⟨w.heap.size, 2, none⟩ (.string s) (by show w.heap.size ≠ w.heap.size + 1; omega)).put k n s
  have B1 := below_put3 (B0.setCell (p := ⟨w.heap.size, 2, none⟩) (Nat.le_refl _) (.string s)) (Nat.le_succ _) k n s
  change bodyPost Tryz.prog _ _ _ _ (put3 (w1.setCell ⟨w.heap.size, 2, none⟩ (.string s)) (w.heap.size + 1) _ _ _)
  generalize put3 (w1.setCell ⟨w.heap.size, 2, none⟩ (.string s)) (w.heap.size + 1) k n s = Z at m B1 ⊢
  obtain ⟨⟨⟨p0, -⟩, ⟨p1, -⟩⟩, p2, -⟩ := m
  exact bodyPost_ret (v := .agg #[.int .i64 k, .int .i64 n, .string s]) (by simp [results, Tryz.results71, go_sem, p0, p1, p2]) rfl ⟨rfl, B1⟩
end Go.Proofs.YtahdkffijlfmnaaGreatDoor.Hp

namespace Go.Proofs.YtahdkffijlfmnaaGreatDoor.Hp
open Go.RowKit
def Box2 (W : World) (B : Nat) (a b : Value) : Prop := (W.cell? ⟨B, 0, none⟩ = some a ∧ W.frozen? ⟨B, 0, none⟩ = false) ∧ (W.cell? ⟨B, 1, none⟩ = some b ∧ W.frozen? ⟨B, 1, none⟩ = false)
theorem Box2.new (W : World) (a b : Value) (t : TypeId) : Box2 (W.alloc (.cells #[a, b] t)) W.heap.size a b := by
  have h := World.alloc_heap_new W (.cells #[a, b] t)
  refine ⟨⟨?_, ?_⟩, ?_, ?_⟩
  all_goals first | (unfold World.cell?; rw [h]; rfl) | (unfold World.frozen?; rw [h]; rfl)
theorem Box2.same {W W' : World} {B : Nat} {a b : Value} (h : Box2 W B a b) (e : W'.heap[B]? = W.heap[B]?) : Box2 W' B a b := by
  have c := fun o => World.cell?_of_block (w := W) (w' := W') (a := ⟨B, o, none⟩) e
  have f := fun o => World.frozen?_of_block (w := W) (w' := W') (a := ⟨B, o, none⟩) e
  exact ⟨⟨(c 0).trans h.1.1, (f 0).trans h.1.2⟩, (c 1).trans h.2.1, (f 1).trans h.2.2⟩
theorem Box2.below {W W' : World} {B D : Nat} {a b : Value} (h : Box2 W B a b) (hb : Below D W W') (hB : B < D) : Box2 W' B a b := h.same (hb.block B hB)
theorem Box2.alloc {W : World} {B : Nat} {a b : Value} (h : Box2 W B a b) (o : Obj) (hB : B < W.heap.size) : Box2 (W.alloc o) B a b := h.same (Below.heap_alloc W o B hB)
def put2 (W : World) (B : Nat) (a b : Value) : World := (W.setCell ⟨B, 0, none⟩ a).setCell ⟨B, 1, none⟩ b
theorem Box2.put {W : World} {B : Nat} {a b : Value} (h : Box2 W B a b) (a' b' : Value) : Box2 (put2 W B a' b') B a' b' := by
  obtain ⟨⟨h0, f0⟩, h1, f1⟩ := h
  have e1 : (W.setCell ⟨B, 0, none⟩ a').cell? ⟨B, 1, none⟩ = some b := by rw [World.cell?_setCell_other _ _ _ _ (by simp)]; exact h1
  unfold put2
  refine ⟨⟨?_, ?_⟩, ?_, ?_⟩
  · rw [World.cell?_setCell_other _ _ _ _ (by simp)]
    exact World.cell?_setCell_same' _ _ _ (by rw [h0]; rfl)
  · rw [World.frozen?_setCell, World.frozen?_setCell]; exact f0
  · exact World.cell?_setCell_same' _ _ _ (by rw [e1]; rfl)
  · rw [World.frozen?_setCell, World.frozen?_setCell]; exact f1
theorem below_put2 {W W0 : World} {B D : Nat} (h : Below D W0 W) (hB : D ≤ B) (a b : Value) : Below D W0 (put2 W B a b) := (h.setCell (p := ⟨B, 0, none⟩) hB _).setCell (p := ⟨B, 1, none⟩) hB _
def arV (a : Ar) : Value := .agg #[.int .i64 a.kind, .slice a.q a.els.length a.els.length]
def za : Ar := ⟨0, [], none, 0, 0⟩
def findA (As : List Ar) (v : V) : Ar × Int := if mayS v 4 As.length = false then (za, 7) else if v.2.1 = 0 then (za, 0) else (As.getD (v.2.1.toNat - 1) za, 0)
theorem may_ref {v : V} {n : Nat} (h : mayS v 4 n = true) : v.1 = 4 ∧ 0 ≤ v.2.1 ∧ v.2.1 ≤ (n : Int) ∧ v.2.2 = e0 := by
  unfold mayS at h
  simp only [Bool.and_eq_true, beq_iff_eq, Bool.or_eq_true, decide_eq_true_eq] at h
  obtain ⟨⟨h1, h2⟩, h3⟩ := h
  rw [h1] at h2
  unfold okV at h2
  simp at h2
  refine ⟨h1, h2.1, ?_, eq_e0 h2.2⟩
  rcases h3 with h3 | h3
  · simp at h3
  · exact h3
set_option maxRecDepth 100000 in
set_option maxHeartbeats 2000000 in
theorem find_any {w : World} {p : Hpt} {lim : Nat} {As : List Ar} {rq : Option Addr} {rn rg ro : Nat} {av : Value} {F : Nat → Prop} (h : HeapAt w p lim As rq rn rg ro av F) (k n : Int) (s : ByteArray) (hs : s.size ≤ 9223372036854775807) :
    Calls Tryz.prog 125 #[.pointer (some ⟨p.b, p.o, none⟩), .agg #[.int .i64 k, .int .i64 n, .string s]] w fun e w' => e = .returned (.tuple #[arV (findA As (k, n, s)).1, .int .i64 (findA As (k, n, s)).2]) ∧ Below w.heap.size w w' := by
  have b0 := Box3.new w k n s 52
  have b1 := Box2.new (w.alloc (.cells #[.int .i64 k, .int .i64 n, .string s] 52)) (.int .i64 0) (.slice none 0 0) 117
  rw [World.size_alloc] at b1
  replace b0 := b0.alloc (.cells #[.int .i64 0, .slice none 0 0] 117)
  have B0 : Below w.heap.size w ((w.alloc (.cells #[.int .i64 k, .int .i64 n, .string s] 52)).alloc (.cells #[.int .i64 0, .slice none 0 0] 117)) := ((Below.refl _ w).alloc (Nat.le_refl _) _).alloc (by simp) _
  have z0 : ((w.alloc (.cells #[.int .i64 k, .int .i64 n, .string s] 52)).alloc (.cells #[.int .i64 0, .slice none 0 0] 117)).heap.size = w.heap.size + 2 := by simp
  have hR := may_ref (v := (k, n, s)) (n := As.length)
  have HF : Hid (findA As (k, n, s) = if mayS (k, n, s) 4 As.length = false then (za, 7) else if n = 0 then (za, 0) else (As.getD (n.toNat - 1) za, 0)) := rfl
  have hM := fun W : World => mayBe_any k n s 4 As.length W hs
  generalize mayS (k, n, s) 4 As.length = mb at hM hR HF
  generalize findA As (k, n, s) = R at HF ⊢
  go_enter Tryz.func125, Tryz.ntmps125
  go_wp2_with fail
  generalize (w.alloc (.cells #[.int .i64 k, .int .i64 n, .string s] 52)).alloc (.cells #[.int .i64 0, .slice none 0 0] 117) = X at b0 b1 B0 z0 ⊢
  replace h := h.next B0
  have y0 := cell_regrown b0.1.1.1
  have y1 := cell_regrown b0.1.2.1
  have y2 := cell_regrown b0.2.1
  have c1 : ∀ d os, Calls Tryz.prog 59 #[.pointer (some ⟨p.b, p.o, none⟩)] (Sort.grow (redrawn X d) os) fun e w'' => e = .returned (.int .i64 (As.length : Int)) ∧ ∃ z : Regrown, w'' = Sort.grow (redrawn X z.d) z.os := fun d os =>
    Calls.regrown_of ((count_any (h.next (below_regrown X d os))).mono fun e w' q => ⟨q.1, by rw [q.2]; exact Below.refl _ _⟩)
  have c2 : ∀ d os, Calls Tryz.prog 124 #[.agg #[.int .i64 k, .int .i64 n, .string s], .int .i64 4, .int .i64 (As.length : Int)] (Sort.grow (redrawn X d) os) fun e w'' => e = .returned (.bool mb) ∧ ∃ z : Regrown, w'' = Sort.grow (redrawn X z.d) z.os := fun d os =>
    Calls.regrown_of (hM _)
  refine wp_region_quiet_below (by kernel_rfl) (by kernel_rfl) ?_
  repeat (first | go_big_quiet_step (first | with_reducible exact c1 _ _ | with_reducible exact c2 _ _) | quiet_step (first | with_reducible exact c1 _ _ | with_reducible exact c2 _ _))
  refine wpQuiet_nil ?_
  intro _ hw'
  obtain ⟨⟨dq, osq⟩, hw''⟩ := hw'
  subst hw''
  have hY := below_regrown X dq osq
  change Exit.then _ _ Exit.normal _ (Sort.grow (redrawn X dq) osq)
  generalize Sort.grow (redrawn X dq) osq = Y at hY ⊢
  clear c1 c2
  clear y0 y1 y2
  replace h := h.next hY
  replace b0 := b0.below hY (by omega)
  replace b1 := b1.below hY (by omega)
  replace B0 := below2 B0 hY
  have z1 := hY.size
  clear hY
  obtain ⟨⟨⟨x0, f0⟩, ⟨x1, f1⟩⟩, x2, f2⟩ := id b0
  obtain ⟨⟨y0, g0⟩, ⟨y1, g1⟩⟩ := id b1
  have HB : Hid (∀ a b, Below w.heap.size w (put2 Y (w.heap.size + 1) a b) ∧ Box2 (put2 Y (w.heap.size + 1) a b) (w.heap.size + 1) a b) := fun a b => ⟨below_put2 B0 (Nat.le_succ _) _ _, b1.put a b⟩
  clear b0 b1 B0
  cases mb with
  | false =>
    rw [if_pos rfl] at HF
    clear h hR
    go_wp2
    change bodyPost Tryz.prog _ _ _ _ (put2 Y (w.heap.size + 1) (.int .i64 0) (.slice none 0 0))
    obtain ⟨hB, hb⟩ := HB.out (.int .i64 0) (.slice none 0 0)
    generalize put2 Y (w.heap.size + 1) (.int .i64 0) (.slice none 0 0) = Z at hB hb ⊢
    obtain ⟨⟨p0, -⟩, p1, -⟩ := hb
    exact bodyPost_ret (v := .tuple #[arV za, .int .i64 7]) (by simp [results, Tryz.results125, go_sem, p0, p1, arV, za]) rfl ⟨by rw [HF.out], hB⟩
  | true =>
    obtain ⟨-, r1, r2, -⟩ := hR rfl
    rw [if_neg (by decide)] at HF
    clear hR
    by_cases hn : n = 0
    · rw [if_pos hn] at HF
      subst hn
      clear h r1 r2
      go_wp2
      change bodyPost Tryz.prog _ _ _ _ (put2 Y (w.heap.size + 1) (.int .i64 0) (.slice none 0 0))
      obtain ⟨hB, hb⟩ := HB.out (.int .i64 0) (.slice none 0 0)
      generalize put2 Y (w.heap.size + 1) (.int .i64 0) (.slice none 0 0) = Z at hB hb ⊢
      obtain ⟨⟨p0, -⟩, p1, -⟩ := hb
      exact bodyPost_ret (v := .tuple #[arV za, .int .i64 0]) (by simp [results, Tryz.results125, go_sem, p0, p1, arV, za]) rfl ⟨by rw [HF.out], hB⟩
    · rw [if_neg hn] at HF
      obtain ⟨i, rfl⟩ : ∃ i : Nat, n = (i : Int) + 1 := ⟨n.toNat - 1, by omega⟩
      have hi : i < As.length := by omega
      have hl := h.len.1
      rw [show ((i : Int) + 1).toNat - 1 = i by omega, List.getD_eq_getElem?_getD, List.getElem?_eq_getElem hi, Option.getD_some] at HF
      have h3 := h.c3
      obtain ⟨q, cap, rfl, hcap, hr⟩ := own_slice h.arrs
      obtain ⟨ag, rfl, hr2⟩ := hr (by omega)
      obtain ⟨x, hx⟩ : ∃ x, As[i] = x := ⟨_, rfl⟩
      have e0' := flat_at ac 2 (fun _ => rfl) As i 0 hi (by decide)
      have e1' := flat_at ac 2 (fun _ => rfl) As i 1 hi (by decide)
      rw [hx] at e0' e1' HF
      have a0 : Y.cell? ⟨ag, i * 2, none⟩ = some (.int .i64 x.kind) := by
        have := hr2 (i * 2 + 0) (.int .i64 x.kind) (e0'.trans rfl)
        rwa [Nat.zero_add, Nat.add_zero] at this
      have a1 : Y.cell? ⟨ag, i * 2 + 1, none⟩ = some (.slice x.q x.els.length x.els.length) := by
        have := hr2 (i * 2 + 1) (.slice x.q x.els.length x.els.length) (e1'.trans rfl)
        rwa [Nat.zero_add] at this
      have hw : IntKind.i64.wrap (i : Int) = (i : Int) := by rw [IntKind.wrap_i64]; omega
      have hw' : wrap64 (i : Int) = (i : Int) := by unfold wrap64; omega
      have i0 : (0 : Int) ≤ (i : Int) := by omega
      have i1 : (i : Int) < (As.length : Int) := by omega
      have hnz : ((i : Int) + 1 == 0) = false := by simp; omega
      have HR : Hid (Value.tuple #[arV R.1, .int .i64 R.2] = .tuple #[.agg #[.int .i64 x.kind, .slice x.q x.els.length x.els.length], .int .i64 0]) := by rw [HF.out]; rfl
      clear h hr hr2 e0' e1' hx r1 r2 hn hl hi HF
      generalize x.kind = kk at a0 HR
      generalize x.q = qq at a1 HR
      generalize x.els.length = ll at a1 HR
      go_wp2_with fail
      go_region
      change Exit.then _ _ Exit.normal _ (put2 Y (w.heap.size + 1) (.int .i64 kk) (.slice qq ll ll)).drew
      obtain ⟨hB, hb⟩ := HB.out (.int .i64 kk) (.slice qq ll ll)
      replace hB := hB.drew
      replace hb : Box2 (put2 Y (w.heap.size + 1) (.int .i64 kk) (.slice qq ll ll)).drew (w.heap.size + 1) (.int .i64 kk) (.slice qq ll ll) := hb
      generalize (put2 Y (w.heap.size + 1) (.int .i64 kk) (.slice qq ll ll)).drew = Z at hB hb ⊢
      obtain ⟨⟨p0, -⟩, p1, -⟩ := hb
      clear x0 x1 x2 f0 f1 f2 y0 y1 g0 g1 h3 a0 a1 HB
      go_wp2
      exact bodyPost_ret (v := .tuple #[.agg #[.int .i64 kk, .slice qq ll ll], .int .i64 0]) (by simp [results, Tryz.results125, go_sem, p0, p1]) rfl ⟨by rw [HR.out], hB⟩
end Go.Proofs.YtahdkffijlfmnaaGreatDoor.Hp

namespace Go.Proofs.YtahdkffijlfmnaaGreatDoor.Hp
open Go.RowKit
def placeA (As : List Ar) (v : V) (i : Int) : Ar × Int := if (findA As v).2 = 0 ∧ (i < 0 ∨ ((findA As v).1.els.length : Int) ≤ i) then (za, 2) else findA As v
theorem find_els {w : World} {p : Hpt} {lim : Nat} {As : List Ar} {rq : Option Addr} {rn rg ro : Nat} {av : Value} {F : Nat → Prop} (h : HeapAt w p lim As rq rn rg ro av F) (v : V) : (findA As v).1.els.length ≤ 100000 := by
  unfold findA
  split
  · exact Nat.zero_le _
  split
  · exact Nat.zero_le _
  · rw [List.getD_eq_getElem?_getD]
    cases hq : As[v.2.1.toNat - 1]? with
    | none => exact Nat.zero_le _
    | some a => exact h.len.2 a (List.mem_of_getElem? hq)
set_option maxRecDepth 100000 in
set_option maxHeartbeats 2000000 in
theorem place_any {w : World} {p : Hpt} {lim : Nat} {As : List Ar} {rq : Option Addr} {rn rg ro : Nat} {av : Value} {F : Nat → Prop} (h : HeapAt w p lim As rq rn rg ro av F) (k n : Int) (s : ByteArray) (i : Int) (hs : s.size ≤ 9223372036854775807) :
    Calls Tryz.prog 134 #[.pointer (some ⟨p.b, p.o, none⟩), .agg #[.int .i64 k, .int .i64 n, .string s], .int .i64 i] w fun e w' => e = .returned (.tuple #[arV (placeA As (k, n, s) i).1, .int .i64 (placeA As (k, n, s) i).2]) ∧ Below w.heap.size w w' := by
  have b0 := Box3.new w k n s 52
  have b1 := Box2.new (w.alloc (.cells #[.int .i64 k, .int .i64 n, .string s] 52)) (.int .i64 0) (.slice none 0 0) 117
  rw [World.size_alloc] at b1
  replace b0 := b0.alloc (.cells #[.int .i64 0, .slice none 0 0] 117)
  have B0 : Below w.heap.size w ((w.alloc (.cells #[.int .i64 k, .int .i64 n, .string s] 52)).alloc (.cells #[.int .i64 0, .slice none 0 0] 117)) := ((Below.refl _ w).alloc (Nat.le_refl _) _).alloc (by simp) _
  have z0 : ((w.alloc (.cells #[.int .i64 k, .int .i64 n, .string s] 52)).alloc (.cells #[.int .i64 0, .slice none 0 0] 117)).heap.size = w.heap.size + 2 := by simp
  have HF : Hid (placeA As (k, n, s) i = if (findA As (k, n, s)).2 = 0 ∧ (i < 0 ∨ ((findA As (k, n, s)).1.els.length : Int) ≤ i) then (za, 2) else findA As (k, n, s)) := rfl
  have hel := find_els h (k, n, s)
  generalize placeA As (k, n, s) i = R at HF ⊢
  go_enter Tryz.func134, Tryz.ntmps134
  go_wp2_with fail
  generalize (w.alloc (.cells #[.int .i64 k, .int .i64 n, .string s] 52)).alloc (.cells #[.int .i64 0, .slice none 0 0] 117) = X at b0 b1 B0 z0 ⊢
  replace h := h.next B0
  obtain ⟨⟨⟨x0, f0⟩, ⟨x1, f1⟩⟩, x2, f2⟩ := id b0
  have hc := find_any h k n s hs
  generalize findA As (k, n, s) = T at hc HF hel
  obtain ⟨⟨kk, el, qq, gg, oo⟩, t⟩ := T
  have HR : Hid (Value.tuple #[arV R.1, .int .i64 R.2] = if t = 0 ∧ (i < 0 ∨ (el.length : Int) ≤ i) then .tuple #[.agg #[.int .i64 0, .slice none 0 0], .int .i64 2] else .tuple #[.agg #[.int .i64 kk, .slice qq el.length el.length], .int .i64 t]) := by
    rw [HF.out]
    simp only
    split <;> rfl
  unfold arV at hc
  simp only at hc hel
  clear HF
  generalize el.length = ll at hc HR hel
  go_wp2_with fail
  refine hc.mono ?_
  rintro e w1 ⟨rfl, hb⟩
  replace b1 := (b1.below hb (by omega)).alloc (.cells #[.int .i64 kk, .slice qq ll ll] 117) (by have := hb.size; omega)
  have b2 := Box2.new w1 (.int .i64 kk) (.slice qq ll ll) 117
  have z1 : w.heap.size + 2 ≤ w1.heap.size := by have := hb.size; omega
  replace B0 := (below2 B0 hb).alloc (by omega) (.cells #[.int .i64 kk, .slice qq ll ll] 117)
  clear hc h b0 x0 x1 x2 f0 f1 f2 z0 hb
  generalize hY : w1.alloc (.cells #[.int .i64 kk, .slice qq ll ll] 117) = Y at b1 b2 B0
  obtain ⟨⟨y0, g0⟩, ⟨y1, g1⟩⟩ := id b1
  obtain ⟨⟨u0, -⟩, ⟨u1, -⟩⟩ := id b2
  have HB : Hid (∀ a b, Below w.heap.size w (put2 Y (w.heap.size + 1) a b) ∧ Box2 (put2 Y (w.heap.size + 1) a b) (w.heap.size + 1) a b) := fun a b => ⟨below_put2 B0 (Nat.le_succ _) _ _, b1.put a b⟩
  clear b1 b2 B0
  by_cases ht : t = 0
  · subst ht
    by_cases hi : i < 0
    · rw [if_pos ⟨rfl, .inl hi⟩] at HR
      go_wp2
      change bodyPost Tryz.prog _ _ _ _ (put2 Y (w.heap.size + 1) (.int .i64 0) (.slice none 0 0))
      obtain ⟨hB, hb⟩ := HB.out (.int .i64 0) (.slice none 0 0)
      generalize put2 Y (w.heap.size + 1) (.int .i64 0) (.slice none 0 0) = Z at hB hb ⊢
      obtain ⟨⟨p0, -⟩, p1, -⟩ := hb
      exact bodyPost_ret (v := .tuple #[.agg #[.int .i64 0, .slice none 0 0], .int .i64 2]) (by simp [results, Tryz.results134, go_sem, p0, p1]) rfl ⟨by rw [HR.out], hB⟩
    · by_cases hi2 : (ll : Int) ≤ i
      · rw [if_pos ⟨rfl, .inr hi2⟩] at HR
        go_wp2
        change bodyPost Tryz.prog _ _ _ _ (put2 Y (w.heap.size + 1) (.int .i64 0) (.slice none 0 0))
        obtain ⟨hB, hb⟩ := HB.out (.int .i64 0) (.slice none 0 0)
        generalize put2 Y (w.heap.size + 1) (.int .i64 0) (.slice none 0 0) = Z at hB hb ⊢
        obtain ⟨⟨p0, -⟩, p1, -⟩ := hb
        exact bodyPost_ret (v := .tuple #[.agg #[.int .i64 0, .slice none 0 0], .int .i64 2]) (by simp [results, Tryz.results134, go_sem, p0, p1]) rfl ⟨by rw [HR.out], hB⟩
      · rw [if_neg (by rintro ⟨_, q | q⟩; exact hi q; exact hi2 q)] at HR
        go_wp2
        change bodyPost Tryz.prog _ _ _ _ (put2 Y (w.heap.size + 1) (.int .i64 kk) (.slice qq ll ll))
        obtain ⟨hB, hb⟩ := HB.out (.int .i64 kk) (.slice qq ll ll)
        generalize put2 Y (w.heap.size + 1) (.int .i64 kk) (.slice qq ll ll) = Z at hB hb ⊢
        obtain ⟨⟨p0, -⟩, p1, -⟩ := hb
        exact bodyPost_ret (v := .tuple #[.agg #[.int .i64 kk, .slice qq ll ll], .int .i64 0]) (by simp [results, Tryz.results134, go_sem, p0, p1]) rfl ⟨by rw [HR.out], hB⟩
  · rw [if_neg (fun q => ht q.1)] at HR
    have ht' : (t == 0) = false := by simpa using ht
    go_wp2
    change bodyPost Tryz.prog _ _ _ _ (put2 Y (w.heap.size + 1) (.int .i64 kk) (.slice qq ll ll))
    obtain ⟨hB, hb⟩ := HB.out (.int .i64 kk) (.slice qq ll ll)
    generalize put2 Y (w.heap.size + 1) (.int .i64 kk) (.slice qq ll ll) = Z at hB hb ⊢
    obtain ⟨⟨p0, -⟩, p1, -⟩ := hb
    exact bodyPost_ret (v := .tuple #[.agg #[.int .i64 kk, .slice qq ll ll], .int .i64 t]) (by simp [results, Tryz.results134, go_sem, p0, p1]) rfl ⟨by rw [HR.out], hB⟩
set_option maxRecDepth 100000 in
set_option maxHeartbeats 2000000 in
theorem len_any {w : World} {p : Hpt} {lim : Nat} {As : List Ar} {rq : Option Addr} {rn rg ro : Nat} {av : Value} {F : Nat → Prop} (h : HeapAt w p lim As rq rn rg ro av F) (k n : Int) (s : ByteArray) (hs : s.size ≤ 9223372036854775807) :
    Calls Tryz.prog 103 #[.pointer (some ⟨p.b, p.o, none⟩), .agg #[.int .i64 k, .int .i64 n, .string s]] w fun e w' => e = .returned (.tuple #[.int .i64 ((findA As (k, n, s)).1.els.length : Int), .int .i64 (findA As (k, n, s)).2]) ∧ Below w.heap.size w w' := by
  have b0 := Box3.new w k n s 52
  have B0 : Below w.heap.size w (w.alloc (.cells #[.int .i64 k, .int .i64 n, .string s] 52)) := (Below.refl _ w).alloc (Nat.le_refl _) _
  have hel := find_els h (k, n, s)
  have hc := fun W (B : Below w.heap.size w W) => find_any (h.next B) k n s hs
  generalize findA As (k, n, s) = T at hc hel ⊢
  obtain ⟨⟨kk, el, qq, gg, oo⟩, t⟩ := T
  unfold arV at hc
  simp only at hc hel ⊢
  generalize el.length = ll at hc hel ⊢
  go_enter Tryz.func103, Tryz.ntmps103
  go_wp2_with fail
  replace hc := hc _ B0
  obtain ⟨⟨⟨x0, -⟩, ⟨x1, -⟩⟩, x2, -⟩ := b0
  go_wp2_with fail
  refine hc.mono ?_
  rintro e w1 ⟨rfl, hb⟩
  obtain ⟨⟨u0, -⟩, ⟨u1, -⟩⟩ := Box2.new w1 (.int .i64 kk) (.slice qq ll ll) 117
  have B1 := below2 B0 hb
  replace B1 := B1.alloc B1.size (.cells #[.int .i64 kk, .slice qq ll ll] 117)
  clear hc h x0 x1 x2 hb B0
  go_wp2
  exact bodyPost_ret (v := .tuple #[.int .i64 (ll : Int), .int .i64 t]) (by simp [results, Tryz.results103, go_sem]) rfl ⟨rfl, B1⟩
end Go.Proofs.YtahdkffijlfmnaaGreatDoor.Hp

namespace Go.Proofs.YtahdkffijlfmnaaGreatDoor.Hp
open Go.RowKit
def zv : V := (0, 0, e0)
def findH (A : Hp) (v : V) : (Int × List V) × Int := if mayS v 4 A.length = false then ((0, []), 7) else if v.2.1 = 0 then ((0, []), 0) else (A.getD (v.2.1.toNat - 1) (0, []), 0)
def placeH (A : Hp) (v : V) (i : Int) : (Int × List V) × Int := if (findH A v).2 = 0 ∧ (i < 0 ∨ ((findH A v).1.2.length : Int) ≤ i) then ((0, []), 2) else findH A v
def getH (A : Hp) (v : V) (i : Int) : V × Int := if (placeH A v i).2 = 0 then ((placeH A v i).1.2.getD i.toNat zv, 0) else (zv, (placeH A v i).2)
theorem find_abs (As : List Ar) (v : V) : findH (absA As) v = (((findA As v).1.kind, (findA As v).1.els), (findA As v).2) := by
  unfold findH findA
  rw [abs_len]
  split
  · rfl
  split
  · rfl
  · rw [List.getD_eq_getElem?_getD, List.getD_eq_getElem?_getD]
    unfold absA
    rw [List.getElem?_map]
    cases As[v.2.1.toNat - 1]? <;> rfl
theorem place_abs (As : List Ar) (v : V) (i : Int) : placeH (absA As) v i = (((placeA As v i).1.kind, (placeA As v i).1.els), (placeA As v i).2) := by
  unfold placeH placeA
  rw [find_abs]
  simp only
  split <;> rfl
theorem place_ok {As : List Ar} {v : V} {i : Int} (h : (placeA As v i).2 = 0) : ∃ (j : Nat) (m : Nat), v.2.1 = (j : Int) + 1 ∧ i = (m : Int) ∧ mayS v 4 As.length = true ∧ ∃ (hj : j < As.length), (placeA As v i).1 = As[j] ∧ m < As[j].els.length := by
  unfold placeA at h
  split at h
  · cases h
  · rename_i hq
    have hp : placeA As v i = findA As v := by unfold placeA; rw [if_neg hq]
    rw [hp]
    have hq2 : ¬ (i < 0 ∨ ((findA As v).1.els.length : Int) ≤ i) := fun q => hq ⟨h, q⟩
    clear hp hq
    unfold findA at h hq2 ⊢
    split at h
    · cases h
    rename_i hm
    rw [if_neg hm] at hq2 ⊢
    have hm' : mayS v 4 As.length = true := by simpa using hm
    obtain ⟨_, r1, r2, _⟩ := may_ref hm'
    split at h
    · rename_i hz
      rw [if_pos hz] at hq2
      exfalso
      apply hq2
      simp only [za, List.length_nil]
      omega
    · rename_i hz
      rw [if_neg hz] at hq2 ⊢
      have hj : v.2.1.toNat - 1 < As.length := by omega
      rw [List.getD_eq_getElem?_getD, List.getElem?_eq_getElem hj, Option.getD_some] at hq2 ⊢
      exact ⟨v.2.1.toNat - 1, i.toNat, by omega, by omega, hm', hj, rfl, by simp only at hq2; omega⟩
theorem ok_small {k n : Int} {s : ByteArray} (h : okV k n s = true) : s.size ≤ 256 := by
  have h0 : s.toList = [] → s.size ≤ 256 := fun e => by rw [eq_e0 e]; decide
  unfold okV at h
  repeat' split at h
  all_goals simp at h
  · exact h0 h.2
  · exact h0 h
  · exact h0 h.2
  · omega
  · exact h0 h.2
theorem may_small {v : V} {kind : Int} {n : Nat} (h : mayS v kind n = true) : v.2.2.size ≤ 256 := by
  unfold mayS at h
  simp only [Bool.and_eq_true] at h
  exact ok_small h.1.2
set_option maxRecDepth 100000 in
set_option maxHeartbeats 2000000 in
theorem get_at {w : World} {p : Hpt} {lim : Nat} {As : List Ar} {rq : Option Addr} {rn rg ro : Nat} {av : Value} {F : Nat → Prop} (h : HeapAt w p lim As rq rn rg ro av F) (k n : Int) (s : ByteArray) (i : Int) (hs : s.size ≤ 9223372036854775807) :
    Calls Tryz.prog 117 #[.pointer (some ⟨p.b, p.o, none⟩), .agg #[.int .i64 k, .int .i64 n, .string s], .int .i64 i] w fun e w' => e = .returned (.tuple #[.agg (vc (getH (absA As) (k, n, s) i).1).toArray, .int .i64 (getH (absA As) (k, n, s) i).2]) ∧ Below w.heap.size w w' := by
  have b0 := Box3.new w k n s 52
  have b1 := Box3.new (w.alloc (.cells #[.int .i64 k, .int .i64 n, .string s] 52)) 0 0 e0 52
  rw [World.size_alloc] at b1
  replace b0 := b0.alloc (.cells #[.int .i64 0, .int .i64 0, .string e0] 52)
  have B0 : Below w.heap.size w ((w.alloc (.cells #[.int .i64 k, .int .i64 n, .string s] 52)).alloc (.cells #[.int .i64 0, .int .i64 0, .string e0] 52)) := ((Below.refl _ w).alloc (Nat.le_refl _) _).alloc (by simp) _
  have z0 : ((w.alloc (.cells #[.int .i64 k, .int .i64 n, .string s] 52)).alloc (.cells #[.int .i64 0, .int .i64 0, .string e0] 52)).heap.size = w.heap.size + 2 := by simp
  have HG : Hid (getH (absA As) (k, n, s) i = if (placeA As (k, n, s) i).2 = 0 then ((placeA As (k, n, s) i).1.els.getD i.toNat zv, 0) else (zv, (placeA As (k, n, s) i).2)) := by
    show getH (absA As) (k, n, s) i = _
    unfold getH
    rw [place_abs]
  generalize getH (absA As) (k, n, s) i = R at HG ⊢
  have HP : Hid ((placeA As (k, n, s) i).2 = 0 → ∃ (j : Nat) (m : Nat), n = (j : Int) + 1 ∧ i = (m : Int) ∧ mayS (k, n, s) 4 As.length = true ∧ ∃ (hj : j < As.length), (placeA As (k, n, s) i).1 = As[j] ∧ m < As[j].els.length) := place_ok (v := (k, n, s))
  go_enter Tryz.func117, Tryz.ntmps117
  go_wp2_with fail
  generalize (w.alloc (.cells #[.int .i64 k, .int .i64 n, .string s] 52)).alloc (.cells #[.int .i64 0, .int .i64 0, .string e0] 52) = X at b0 b1 B0 z0 ⊢
  replace h := h.next B0
  obtain ⟨⟨⟨x0, f0⟩, ⟨x1, f1⟩⟩, x2, f2⟩ := id b0
  have hc := place_any h k n s i hs
  generalize placeA As (k, n, s) i = T at hc HG HP
  obtain ⟨⟨kk, el, qq, gg, oo⟩, t⟩ := T
  unfold arV at hc
  simp only at hc HG HP
  go_wp2_with fail
  refine hc.mono ?_
  rintro e w1 ⟨rfl, hb⟩
  replace h := (h.next hb).next ((Below.refl _ w1).alloc (Nat.le_refl _) (.cells #[.int .i64 kk, .slice qq el.length el.length] 117))
  replace b1 := (b1.below hb (by omega)).alloc (.cells #[.int .i64 kk, .slice qq el.length el.length] 117)
  have b2 := Box2.new w1 (.int .i64 kk) (.slice qq el.length el.length) 117
  have z1 : w.heap.size + 2 ≤ w1.heap.size := by have := hb.size; omega
  replace B0 := (below2 B0 hb).alloc (by omega) (.cells #[.int .i64 kk, .slice qq el.length el.length] 117)
  have z2 : (w1.alloc (.cells #[.int .i64 kk, .slice qq el.length el.length] 117)).heap.size = w1.heap.size + 1 := by simp
  clear hc b0 x0 x1 x2 f0 f1 f2 z0 hb
  generalize hY : w1.alloc (.cells #[.int .i64 kk, .slice qq el.length el.length] 117) = Y at h b1 b2 B0 z2
  obtain ⟨⟨⟨y0, g0⟩, ⟨y1, g1⟩⟩, y2, g2⟩ := id b1
  obtain ⟨⟨u0, -⟩, ⟨u1, -⟩⟩ := id b2
  by_cases ht : t = 0
  · subst ht
    rw [if_pos rfl] at HG
    obtain ⟨j, m, -, hi, -, hj, ha, hm⟩ := HP.out rfl
    have hmem : As[j] ∈ As := List.getElem_mem hj
    have hok := (h.ok _ hmem).2
    have hel := h.len.2 _ hmem
    obtain ⟨e1, e2, e3, -⟩ := h.els _ hmem (fun q => by rw [q] at hm; simp at hm)
    rw [← ha] at hm hok hel e1 e2 e3
    simp only at hm hok hel e1 e2 e3
    subst e1
    subst hi
    have hv := may_small (hok el[m] (List.getElem_mem hm))
    have e4 := vcs_get e3 m hm
    rw [Int.toNat_natCast, List.getD_eq_getElem?_getD, List.getElem?_eq_getElem hm, Option.getD_some] at HG
    generalize el[m] = v at hv e4 HG
    obtain ⟨vk, vn, vs⟩ := v
    simp only at hv
    have a0 : Y.cell? ⟨gg, oo + m * 3, none⟩ = some (.int .i64 vk) := e4 0 _ rfl
    have a1 : Y.cell? ⟨gg, oo + m * 3 + 1, none⟩ = some (.int .i64 vn) := e4 1 _ rfl
    have a2 : Y.cell? ⟨gg, oo + m * 3 + 2, none⟩ = some (.string vs) := e4 2 _ rfl
    have HR : Hid (Value.tuple #[.agg (vc R.1).toArray, .int .i64 R.2] = .tuple #[.agg #[.int .i64 vk, .int .i64 vn, .string vs], .int .i64 0]) := by rw [HG.out]; rfl
    have i0 : (0 : Int) ≤ (m : Int) := by omega
    have i1 : (m : Int) < (el.length : Int) := by omega
    clear HG HP ha hj hmem hok e2 e3 e4 hm h
    generalize el.length = ll at *
    go_wp2_with fail
    refine (copied_any vk vn vs _ (by omega)).mono ?_
    rintro e w2 ⟨rfl, hb⟩
    replace b1 := b1.below hb (by omega)
    replace B0 := below2 B0 hb
    clear y0 y1 y2 g0 g1 g2 a0 a1 a2 u0 u1
    obtain ⟨⟨⟨y0, g0⟩, ⟨y1, g1⟩⟩, y2, g2⟩ := id b1
    go_wp2
    have mm := b1.put vk vn vs
    have B1 := below_put3 B0 (Nat.le_succ _) vk vn vs
    change bodyPost Tryz.prog _ _ _ _ (put3 w2 (w.heap.size + 1) _ _ _)
    generalize put3 w2 (w.heap.size + 1) vk vn vs = Z at mm B1 ⊢
    obtain ⟨⟨⟨p0, -⟩, ⟨p1, -⟩⟩, p2, -⟩ := mm
    exact bodyPost_ret (v := .tuple #[.agg #[.int .i64 vk, .int .i64 vn, .string vs], .int .i64 0]) (by simp [results, Tryz.results117, go_sem, p0, p1, p2]) rfl ⟨by rw [HR.out], B1⟩
  · rw [if_neg ht] at HG
    have HR : Hid (Value.tuple #[.agg (vc R.1).toArray, .int .i64 R.2] = .tuple #[.agg #[.int .i64 0, .int .i64 0, .string e0], .int .i64 t]) := by rw [HG.out]; rfl
    clear HG HP h
    have ht' : (t != 0) = true := by simpa using ht
    go_wp2
    have mm := b1.put 0 0 e0
    have B1 := below_put3 B0 (Nat.le_succ _) 0 0 e0
    change bodyPost Tryz.prog _ _ _ _ (put3 Y (w.heap.size + 1) _ _ _)
    generalize put3 Y (w.heap.size + 1) 0 0 e0 = Z at mm B1 ⊢
    obtain ⟨⟨⟨p0, -⟩, ⟨p1, -⟩⟩, p2, -⟩ := mm
    exact bodyPost_ret (v := .tuple #[.agg #[.int .i64 0, .int .i64 0, .string e0], .int .i64 t]) (by simp [results, Tryz.results117, go_sem, p0, p1, p2]) rfl ⟨by rw [HR.out], B1⟩
theorem get_any {w : World} {p : Hpt} {lim : Nat} {A : Hp} {F : Nat → Prop} (h : HeapOf w p lim A F) (v : V) (i : Int) (hs : v.2.2.size ≤ 9223372036854775807) :
    Calls Tryz.prog 117 #[.pointer (some ⟨p.b, p.o, none⟩), .agg #[.int .i64 v.1, .int .i64 v.2.1, .string v.2.2], .int .i64 i] w fun e w' => e = .returned (.tuple #[.agg (vc (getH A v i).1).toArray, .int .i64 (getH A v i).2]) ∧ Below w.heap.size w w' := by
  obtain ⟨As, rq, rn, rg, ro, av, rfl, h⟩ := h
  exact get_at h v.1 v.2.1 v.2.2 i hs
theorem lenH_any {w : World} {p : Hpt} {lim : Nat} {A : Hp} {F : Nat → Prop} (h : HeapOf w p lim A F) (v : V) (hs : v.2.2.size ≤ 9223372036854775807) :
    Calls Tryz.prog 103 #[.pointer (some ⟨p.b, p.o, none⟩), .agg #[.int .i64 v.1, .int .i64 v.2.1, .string v.2.2]] w fun e w' => e = .returned (.tuple #[.int .i64 ((findH A v).1.2.length : Int), .int .i64 (findH A v).2]) ∧ Below w.heap.size w w' := by
  obtain ⟨As, rq, rn, rg, ro, av, rfl, h⟩ := h
  rw [find_abs]
  exact len_any h v.1 v.2.1 v.2.2 hs
end Go.Proofs.YtahdkffijlfmnaaGreatDoor.Hp

namespace Go.Proofs.YtahdkffijlfmnaaGreatDoor.Hp
open Go.RowKit
def putH (A : Hp) (v : V) (i : Int) (x : V) : Hp × Int :=
  if (placeH A v i).2 = 0 then (if mayS x (placeH A v i).1.1 A.length = false then (A, 7) else (A.modify (v.2.1.toNat - 1) fun a => (a.1, a.2.set i.toNat x), 0)) else (A, (placeH A v i).2)
theorem used_congr : ∀ {A B : Hp}, A.map (fun a => a.2.length) = B.map (fun a => a.2.length) → usedS A = usedS B
  | [], [], _ => rfl
  | [], _ :: _, h => by simp at h
  | _ :: _, [], h => by simp at h
  | a :: A, b :: B, h => by
    simp only [List.map_cons, List.cons.injEq] at h
    rw [usedS, usedS, h.1, used_congr h.2]
theorem map_set_same {α β : Type} (f : α → β) (l : List α) (j : Nat) (hj : j < l.length) (x : α) (h : f x = f l[j]) : (l.set j x).map f = l.map f := by
  rw [List.map_set, h]
  apply List.ext_getElem?
  intro i
  rw [List.getElem?_set]
  split
  · rename_i e
    subst e
    simp [hj]
  · rfl
theorem flatMap_set_same {α β : Type} (f : α → List β) (l : List α) (j : Nat) (hj : j < l.length) (x : α) (h : f x = f l[j]) : (l.set j x).flatMap f = l.flatMap f := by
  show ((l.set j x).map f).flatten = (l.map f).flatten
  rw [map_set_same f l j hj x h]
theorem abs_put (As : List Ar) (j m : Nat) (hj : j < As.length) (x : V) : absA (As.set j { As[j] with els := As[j].els.set m x }) = (absA As).modify j fun a => (a.1, a.2.set m x) := by
  unfold absA
  apply List.ext_getElem?
  intro i
  rw [List.getElem?_modify, List.getElem?_map, List.getElem?_map, List.getElem?_set]
  by_cases e : j = i
  · subst e
    simp [hj]
  · simp [e]
theorem HeapG.put {w : World} {p : Hpt} {lim : Nat} {As : List Ar} {rq : Option Addr} {rn rg ro : Nat} {av : Value} {F : Nat → Prop} {u : Nat × Nat} (h : HeapG w p lim As rq rn rg ro av F u) (j m : Nat) (hj : j < As.length) (hm : m < As[j].els.length) (x : V) (hx : mayS x As[j].kind u.2 = true) :
    HeapG (w.setCells As[j].g (As[j].o + m * 3) (vc x)) p lim (As.set j { As[j] with els := As[j].els.set m x }) rq rn rg ro av F u := by
  have hmem : As[j] ∈ As := List.getElem_mem hj
  have hne : As[j].els ≠ [] := fun q => by rw [q] at hm; simp at hm
  obtain ⟨e1, e2, e3, e4⟩ := h.els _ hmem hne
  have hp : p.b ≠ As[j].g := h.blk.ne e2 h.tn.2.1
  have hav : ∀ g, av.ownBlock = some g → g ≠ As[j].g := fun g hg e => own_ne h.arrs e2 (by decide) (e ▸ hg)
  have hs : ∀ k, k ≠ As[j].g → (w.setCells As[j].g (As[j].o + m * 3) (vc x)).heap[k]? = w.heap[k]? := fun k hk => sets_heap hk _ _ _
  have hc := fun o => World.cell?_of_block (w := w) (w' := w.setCells As[j].g (As[j].o + m * 3) (vc x)) (a := ⟨p.b, o, none⟩) (hs p.b hp)
  have hgo : ∀ l (hl : l < As.length), ∃ els', (As.set j { As[j] with els := As[j].els.set m x })[l]'(by simpa using hl) = { As[l] with els := els' } ∧ els'.length = As[l].els.length ∧ (l ≠ j → els' = As[l].els) ∧ (l = j → els' = As[l].els.set m x) := fun l hl => by
    rw [List.getElem_set]
    by_cases e : j = l
    · subst e
      rw [if_pos rfl]
      exact ⟨_, rfl, by simp, fun q => absurd rfl q, fun _ => rfl⟩
    · rw [if_neg e]
      exact ⟨As[l].els, rfl, rfl, fun _ => rfl, fun q => absurd q.symm e⟩
  have hof : ∀ a ∈ As.set j { As[j] with els := As[j].els.set m x }, ∃ l, ∃ (hl : l < As.length), ∃ els', a = { As[l] with els := els' } ∧ els'.length = As[l].els.length ∧ (l ≠ j → els' = As[l].els) ∧ (l = j → els' = As[l].els.set m x) := fun a ha => by
    obtain ⟨l, hl, rfl⟩ := List.mem_iff_getElem.1 ha
    have hl' : l < As.length := by simpa using hl
    obtain ⟨els', q⟩ := hgo l hl'
    exact ⟨l, hl', els', q⟩
  have hnn : ∀ {a b : List V}, a.length = b.length → a ≠ [] → b ≠ [] := fun e q r => q (by rw [r] at e; exact List.length_eq_zero_iff.1 e)
  have hpw := List.pairwise_iff_getElem.1 h.sep
  exact {
    blk := h.blk.setCells _ _ _
    c0 := (hc p.o).trans h.c0
    c1 := (hc (p.o + 1)).trans h.c1
    c2 := (hc (p.o + 2)).trans h.c2
    c3 := (hc (p.o + 3)).trans h.c3
    arrs := by
      have e : acs (As.set j { As[j] with els := As[j].els.set m x }) = acs As := flatMap_set_same ac As j hj _ (by simp [ac])
      rw [e, List.length_set]
      exact own_same h.arrs fun g hg => hs g (hav g hg)
    els := fun a ha hn => by
      obtain ⟨l, hl, els', rfl, q1, q2, q3⟩ := hof a ha
      simp only at hn ⊢
      obtain ⟨r1, r2, r3, r4⟩ := h.els As[l] (List.getElem_mem hl) (hnn q1 hn)
      refine ⟨r1, by rw [q1]; exact r2.setCells _ _ _, ?_, r4⟩
      by_cases e : l = j
      · subst e
        rw [q3 rfl]
        intro u y hy
        have hfs := flat_set vc 3 (fun _ => rfl) As[l].els m hm x u
        unfold vcs at hy
        rw [hfs] at hy
        split at hy
        · rename_i hu
          have := World.rangeAt_setCells_same w As[l].g (As[l].o + m * 3) (vc x) (e2.there _ _ (by show _ + 3 ≤ _; omega)) (u - m * 3) y hy
          rwa [show As[l].o + m * 3 + (u - m * 3) = As[l].o + u by omega] at this
        · rename_i hu
          rw [World.cell?_setCells_out _ _ _ _ _ (fun _ _ => by show As[l].o + u < As[l].o + m * 3 ∨ As[l].o + m * 3 + 3 ≤ As[l].o + u; omega)]
          exact r3 u y hy
      · rw [q2 e]
        refine World.rangeAt_setCells_apart r3 _ _ _ ?_
        rw [vcs_len]
        show _ ∨ _ ∨ As[j].o + m * 3 + 3 ≤ _
        rcases Nat.lt_or_gt_of_ne e with e | e
        · rcases hpw l j hl hj e (hnn q1 hn) hne with q | q
          · exact .inl q
          · exact .inr (.inl (by omega))
        · rcases hpw j l hj hl e hne (hnn q1 hn) with q | q
          · exact .inl (Ne.symm q)
          · exact .inr (.inr (by omega))
    room := fun hn => by obtain ⟨r1, r2, r3⟩ := h.room hn; exact ⟨r1, r2.setCells _ _ _, r3⟩
    sep := List.pairwise_iff_getElem.2 fun a b ha hb hab => by
      have ha' : a < As.length := by simpa using ha
      have hb' : b < As.length := by simpa using hb
      obtain ⟨ea, qa, pa, -⟩ := hgo a ha'
      obtain ⟨eb, qb, pb, -⟩ := hgo b hb'
      rw [qa, qb]
      intro na nb
      simp only at na nb ⊢
      rw [pa]
      exact hpw a b ha' hb' hab (hnn pa na) (hnn pb nb)
    sepr := fun a ha hn hr => by
      obtain ⟨l, hl, els', rfl, q1, -, -⟩ := hof a ha
      simp only at hn ⊢
      rw [q1]
      exact h.sepr As[l] (List.getElem_mem hl) (hnn q1 hn) hr
    fp := h.fp
    fa := h.fa
    flt := fun g hg => by rw [sets_size]; exact h.flt g hg
    le := by
      rw [used_congr (A := absA (As.set j _)) (B := absA As)]
      · exact h.le
      · unfold absA
        rw [List.map_map, List.map_map, map_set_same _ As j hj]
        simp
    top := h.top
    small := h.small
    ok := fun a ha => by
      obtain ⟨l, hl, els', rfl, q1, q2, q3⟩ := hof a ha
      obtain ⟨k1, k2⟩ := h.ok As[l] (List.getElem_mem hl)
      refine ⟨k1, fun y hy => ?_⟩
      simp only at hy ⊢
      by_cases e : l = j
      · subst e
        rw [q3 rfl] at hy
        rcases List.mem_or_eq_of_mem_set hy with hy | rfl
        · exact k2 y hy
        · exact hx
      · rw [q2 e] at hy
        exact k2 y hy
    tn := h.tn
    rs := fun x hx => ⟨(h.rs x hx).1, (hc x.1).trans (h.rs x hx).2⟩ }
theorem HeapAt.put {w : World} {p : Hpt} {lim : Nat} {As : List Ar} {rq : Option Addr} {rn rg ro : Nat} {av : Value} {F : Nat → Prop} (h : HeapAt w p lim As rq rn rg ro av F) (j m : Nat) (hj : j < As.length) (hm : m < As[j].els.length) (x : V) (hx : mayS x As[j].kind As.length = true) :
    HeapAt (w.setCells As[j].g (As[j].o + m * 3) (vc x)) p lim (As.set j { As[j] with els := As[j].els.set m x }) rq rn rg ro av F := by
  have q := HeapG.put h j m hj hm x hx
  have e : usedS (absA (As.set j { As[j] with els := As[j].els.set m x })) = usedS (absA As) := by
    apply used_congr
    unfold absA
    rw [List.map_map, List.map_map, map_set_same _ As j hj]
    simp
  unfold HeapAt
  rw [e, List.length_set]
  exact q
end Go.Proofs.YtahdkffijlfmnaaGreatDoor.Hp

namespace Go.Proofs.YtahdkffijlfmnaaGreatDoor.Hp
open Go.RowKit
set_option maxRecDepth 100000 in
set_option maxHeartbeats 4000000 in
theorem put_at {w : World} {p : Hpt} {lim : Nat} {As : List Ar} {rq : Option Addr} {rn rg ro : Nat} {av : Value} {F : Nat → Prop} (h : HeapAt w p lim As rq rn rg ro av F) (k n : Int) (s : ByteArray) (i : Int) (hs : s.size ≤ 9223372036854775807) (xk xn : Int) (xs : ByteArray) (hxs : xs.size ≤ 9223372036854775807) :
    Calls Tryz.prog 118 #[.pointer (some ⟨p.b, p.o, none⟩), .agg #[.int .i64 k, .int .i64 n, .string s], .int .i64 i, .agg #[.int .i64 xk, .int .i64 xn, .string xs]] w fun e w' => e = .returned (.int .i64 (putH (absA As) (k, n, s) i (xk, xn, xs)).2) ∧ HeapOf w' p lim (putH (absA As) (k, n, s) i (xk, xn, xs)).1 F ∧ Kp (fun b => F b ∧ (putH (absA As) (k, n, s) i (xk, xn, xs)).2 = 0) w w' := by
  have b0 := Box3.new w k n s 52
  have b1 := Box3.new (w.alloc (.cells #[.int .i64 k, .int .i64 n, .string s] 52)) xk xn xs 52
  rw [World.size_alloc] at b1
  replace b0 := b0.alloc (.cells #[.int .i64 xk, .int .i64 xn, .string xs] 52)
  have B0 : Below w.heap.size w ((w.alloc (.cells #[.int .i64 k, .int .i64 n, .string s] 52)).alloc (.cells #[.int .i64 xk, .int .i64 xn, .string xs] 52)) := ((Below.refl _ w).alloc (Nat.le_refl _) _).alloc (by simp) _
  have z0 : ((w.alloc (.cells #[.int .i64 k, .int .i64 n, .string s] 52)).alloc (.cells #[.int .i64 xk, .int .i64 xn, .string xs] 52)).heap.size = w.heap.size + 2 := by simp
  have HG : Hid (putH (absA As) (k, n, s) i (xk, xn, xs) = if (placeA As (k, n, s) i).2 = 0 then (if mayS (xk, xn, xs) (placeA As (k, n, s) i).1.kind As.length = false then (absA As, 7) else ((absA As).modify (n.toNat - 1) fun a => (a.1, a.2.set i.toNat (xk, xn, xs)), 0)) else (absA As, (placeA As (k, n, s) i).2)) := by
    show putH (absA As) (k, n, s) i (xk, xn, xs) = _
    unfold putH
    rw [place_abs, abs_len]
  generalize putH (absA As) (k, n, s) i (xk, xn, xs) = R at HG ⊢
  have HP : Hid ((placeA As (k, n, s) i).2 = 0 → ∃ (j : Nat) (m : Nat), n = (j : Int) + 1 ∧ i = (m : Int) ∧ mayS (k, n, s) 4 As.length = true ∧ ∃ (hj : j < As.length), (placeA As (k, n, s) i).1 = As[j] ∧ m < As[j].els.length) := place_ok (v := (k, n, s))
  have HH : Hid (HeapAt w p lim As rq rn rg ro av F) := h
  go_enter Tryz.func118, Tryz.ntmps118
  go_wp2_with fail
  generalize (w.alloc (.cells #[.int .i64 k, .int .i64 n, .string s] 52)).alloc (.cells #[.int .i64 xk, .int .i64 xn, .string xs] 52) = X at b0 b1 B0 z0 ⊢
  replace h := h.next B0
  obtain ⟨⟨⟨x0, f0⟩, ⟨x1, f1⟩⟩, x2, f2⟩ := id b0
  have hc := place_any h k n s i hs
  generalize placeA As (k, n, s) i = T at hc HG HP
  obtain ⟨⟨kk, el, qq, gg, oo⟩, t⟩ := T
  unfold arV at hc
  simp only at hc HG HP
  go_wp2_with fail
  refine hc.mono ?_
  rintro e w1 ⟨rfl, hb⟩
  replace h := (h.next hb).next ((Below.refl _ w1).alloc (Nat.le_refl _) (.cells #[.int .i64 kk, .slice qq el.length el.length] 117))
  replace b1 := (b1.below hb (by omega)).alloc (.cells #[.int .i64 kk, .slice qq el.length el.length] 117)
  have b2 := Box2.new w1 (.int .i64 kk) (.slice qq el.length el.length) 117
  have z1 : w.heap.size + 2 ≤ w1.heap.size := by have := hb.size; omega
  replace B0 := (below2 B0 hb).alloc (by omega) (.cells #[.int .i64 kk, .slice qq el.length el.length] 117)
  have z2 : (w1.alloc (.cells #[.int .i64 kk, .slice qq el.length el.length] 117)).heap.size = w1.heap.size + 1 := by simp
  clear hc b0 x0 x1 x2 f0 f1 f2 z0 hb
  generalize hY : w1.alloc (.cells #[.int .i64 kk, .slice qq el.length el.length] 117) = Y at h b1 b2 B0 z2
  by_cases ht : t = 0
  · subst ht
    rw [if_pos rfl] at HG
    have y0 := cell_regrown b1.1.1.1
    have y1 := cell_regrown b1.1.2.1
    have y2 := cell_regrown b1.2.1
    have u0 := cell_regrown b2.1.1
    have u1 := cell_regrown b2.2.1
    have c1 : ∀ d os, Calls Tryz.prog 59 #[.pointer (some ⟨p.b, p.o, none⟩)] (Sort.grow (redrawn Y d) os) fun e w'' => e = .returned (.int .i64 (As.length : Int)) ∧ ∃ z : Regrown, w'' = Sort.grow (redrawn Y z.d) z.os := fun d os =>
      Calls.regrown_of ((count_any (h.next (below_regrown Y d os))).mono fun e w' q => ⟨q.1, by rw [q.2]; exact Below.refl _ _⟩)
    have c2 : ∀ d os, Calls Tryz.prog 124 #[.agg #[.int .i64 xk, .int .i64 xn, .string xs], .int .i64 kk, .int .i64 (As.length : Int)] (Sort.grow (redrawn Y d) os) fun e w'' => e = .returned (.bool (mayS (xk, xn, xs) kk As.length)) ∧ ∃ z : Regrown, w'' = Sort.grow (redrawn Y z.d) z.os := fun d os =>
      Calls.regrown_of (mayBe_any xk xn xs kk As.length _ hxs)
    have HM : Hid (mayS (xk, xn, xs) kk As.length = true → xs.size ≤ 256) := fun q => may_small q
    have HX : Hid (∀ b, b = mayS (xk, xn, xs) kk As.length → b = true → mayS (xk, xn, xs) kk As.length = true) := fun b e q => by rw [← e, q]
    cases hmb : mayS (xk, xn, xs) kk As.length with
    | false =>
      rw [if_pos hmb] at HG
      rw [hmb] at c2
      clear HM HX hmb HP
      go_wp2_with fail
      refine wp_region_quiet_below (by kernel_rfl) (by kernel_rfl) ?_
      repeat (first | go_big_quiet_step (first | with_reducible exact c1 _ _ | with_reducible exact c2 _ _) | quiet_step (first | with_reducible exact c1 _ _ | with_reducible exact c2 _ _))
      refine wpQuiet_nil ?_
      intro _ hw'
      obtain ⟨⟨dq, osq⟩, hw''⟩ := hw'
      subst hw''
      have hY := below_regrown Y dq osq
      change Exit.then _ _ Exit.normal _ (Sort.grow (redrawn Y dq) osq)
      generalize Sort.grow (redrawn Y dq) osq = Y2 at hY ⊢
      clear c1 c2
      clear y0 y1 y2 u0 u1 b1 b2
      go_wp2
      go_ret
      refine ⟨by rw [HG.out]; rfl, ?_, ?_⟩
      · rw [HG.out]
        exact ⟨_, _, _, _, _, _, rfl, h.next hY⟩
      · exact Kp.of (below2 B0 hY)
    | true =>
      rw [if_neg (by rw [hmb]; decide)] at HG
      rw [hmb] at c2
      have hsm := HM.out hmb
      obtain ⟨j, m, hn, hi, -, hj, ha, hm⟩ := HP.out rfl
      clear HM HX HP
      go_wp2_with fail
      refine wp_region_quiet_below (by kernel_rfl) (by kernel_rfl) ?_
      repeat (first | go_big_quiet_step (first | with_reducible exact c1 _ _ | with_reducible exact c2 _ _) | quiet_step (first | with_reducible exact c1 _ _ | with_reducible exact c2 _ _))
      refine wpQuiet_nil ?_
      intro _ hw'
      obtain ⟨⟨dq, osq⟩, hw''⟩ := hw'
      subst hw''
      have hY := below_regrown Y dq osq
      change Exit.then _ _ Exit.normal _ (Sort.grow (redrawn Y dq) osq)
      generalize Sort.grow (redrawn Y dq) osq = Y2 at hY ⊢
      clear c1 c2
      clear y0 y1 y2 u0 u1
      replace h := h.next hY
      replace b1 := b1.below hY (by omega)
      replace b2 := b2.below hY (by omega)
      replace B0 := below2 B0 hY
      have z3 := hY.size
      clear hY
      have hmem : As[j] ∈ As := List.getElem_mem hj
      obtain ⟨e1, e2, e3, e4⟩ := h.els _ hmem (fun q => by rw [q] at hm; simp at hm)
      have hel := h.len.2 _ hmem
      have eg : As[j].g = gg := by rw [← ha]
      have eo : As[j].o = oo := by rw [← ha]
      have ek : As[j].kind = kk := by rw [← ha]
      have eq : As[j].q = qq := by rw [← ha]
      have ee : As[j].els = el := by rw [← ha]
      have HFIN : Hid (∀ w', Below Y2.heap.size Y2 w' → HeapOf (w'.setCells gg (oo + m * 3) (vc (xk, xn, xs))) p lim R.1 F ∧ Kp F w (w'.setCells gg (oo + m * 3) (vc (xk, xn, xs)))) := fun w' hb => by
        have q := HeapAt.put (h.next hb) j m hj hm (xk, xn, xs) (by rw [ek]; exact hmb)
        rw [eg, eo] at q
        refine ⟨⟨_, _, _, _, _, _, ?_, q⟩, Kp.setCells (.inl (eg ▸ e4)) _ _ (Kp.of (below2 B0 hb))⟩
        rw [abs_put, HG.out, hn, hi]
        rw [show ((j : Int) + 1).toNat - 1 = j by omega, Int.toNat_natCast]
      rw [eg, eo, ee] at e3
      rw [eg, eo, ee] at e2
      rw [ee] at hm hel
      rw [eg, eo, eq] at e1
      have e5 := vcs_get e3 m hm
      have hb1 := b1
      generalize el[m] = v at e5
      obtain ⟨vk, vn, vs⟩ := v
      have hR0 : R.2 = 0 := by rw [HG.out]
      have HD : Hid (∀ w', Below Y2.heap.size Y2 w' → (w'.cell? ⟨gg, oo + m * 3, none⟩ = some (.int .i64 vk) ∧ w'.cell? ⟨gg, oo + m * 3 + 1, none⟩ = some (.int .i64 vn) ∧ w'.cell? ⟨gg, oo + m * 3 + 2, none⟩ = some (.string vs)) ∧ (w'.frozen? ⟨gg, oo + m * 3, none⟩ = false ∧ w'.frozen? ⟨gg, oo + m * 3 + 1, none⟩ = false ∧ w'.frozen? ⟨gg, oo + m * 3 + 2, none⟩ = false) ∧ w'.cell? ⟨w1.heap.size, 1, none⟩ = some (.slice qq el.length el.length)) := fun w' hb => by
        have hlt := e2.lt
        have e6 := e2.next hb
        refine ⟨⟨(hb.cell (p := ⟨gg, _, none⟩) hlt).trans (e5 0 _ rfl), (hb.cell (p := ⟨gg, _, none⟩) hlt).trans (e5 1 _ rfl), (hb.cell (p := ⟨gg, _, none⟩) hlt).trans (e5 2 _ rfl)⟩, ⟨e6.unfrozen _, e6.unfrozen _, e6.unfrozen _⟩, ?_⟩
        exact (hb.cell (p := ⟨w1.heap.size, 1, none⟩) (by show w1.heap.size < _; omega)).trans b2.2.1
      obtain ⟨⟨⟨y0, -⟩, ⟨y1, -⟩⟩, y2, -⟩ := id b1
      have u1 := b2.2.1
      have i0 : (0 : Int) ≤ (m : Int) := by omega
      have i1 : (m : Int) < (el.length : Int) := by omega
      have HZ : Hid (Below Y2.heap.size Y2 Y2.drew) := (Below.refl _ _).drew
      subst hi
      subst e1
      clear h b1 b2 hb1 B0 hmem ha eg eo ek eq ee e2 e3 e4 e5 hm HG HH hmb hn
      generalize el.length = ll at *
      go_wp2_with fail
      go_region_with (first
        | (go_at_call 71; refine (copied_any xk xn xs _ (by omega)).mono ?_; rintro e w3 ⟨rfl, hb3⟩; have hb4 : Below Y2.heap.size Y2 w3 := HZ.out.trans (hb3.mono (Nat.le_refl _)); obtain ⟨⟨d0, d1, d2⟩, ⟨g0, g1, g2⟩, v1⟩ := HD.out w3 hb4))
      all_goals
        change Exit.then _ _ Exit.normal _ (w3.setCells gg (oo + m * 3) (vc (xk, xn, xs)))
        obtain ⟨q1, q2⟩ := HFIN.out w3 hb4
        generalize w3.setCells gg (oo + m * 3) (vc (xk, xn, xs)) = Z at q1 q2 ⊢
        clear d0 d1 d2 g0 g1 g2 v1 y0 y1 y2 u1 HD HFIN hb3 hb4
        go_wp2
        go_ret
        exact ⟨by rw [hR0]; rfl, q1, ⟨q2.os, q2.tape, q2.output, q2.size, fun b hb hn => q2.block b hb fun q => hn ⟨q, hR0⟩⟩⟩
  · rw [if_neg ht] at HG
    clear HP
    have ht' : (t != 0) = true := by simpa using ht
    go_wp2
    go_ret
    refine ⟨by rw [HG.out]; rfl, ?_, ?_⟩
    · rw [HG.out]
      exact ⟨_, _, _, _, _, _, rfl, h⟩
    · exact Kp.of B0
theorem put_any {w : World} {p : Hpt} {lim : Nat} {A : Hp} {F : Nat → Prop} (h : HeapOf w p lim A F) (v : V) (i : Int) (x : V) (hs : v.2.2.size ≤ 9223372036854775807) (hx : x.2.2.size ≤ 9223372036854775807) :
    Calls Tryz.prog 118 #[.pointer (some ⟨p.b, p.o, none⟩), .agg #[.int .i64 v.1, .int .i64 v.2.1, .string v.2.2], .int .i64 i, .agg #[.int .i64 x.1, .int .i64 x.2.1, .string x.2.2]] w fun e w' => e = .returned (.int .i64 (putH A v i x).2) ∧ HeapOf w' p lim (putH A v i x).1 F ∧ Kp (fun b => F b ∧ (putH A v i x).2 = 0) w w' := by
  obtain ⟨As, rq, rn, rg, ro, av, rfl, h⟩ := h
  exact put_at h v.1 v.2.1 v.2.2 i hs x.1 x.2.1 x.2.2 hx
end Go.Proofs.YtahdkffijlfmnaaGreatDoor.Hp
