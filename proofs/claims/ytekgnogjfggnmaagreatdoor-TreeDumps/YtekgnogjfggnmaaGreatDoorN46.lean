import Derived.Test.YtekgnogjfggnmaaGreatDoorN45
import Derived.Test.YtekgnogjfggnmaaGreatDoorN44
import Derived.Test.YtekgnogjfggnmaaGreatDoorN11
namespace Go.Proofs.YtekgnogjfggnmaaGreatDoor
open Go.RowKit
set_option maxRecDepth 100000
set_option maxHeartbeats 4000000
theorem words_no (l : List UInt8) (w : World) (T : TypeId) (p : Value) (h : RTab w T p) (hl : l.length ≤ 4194304) (hn : wordsS l = none) : Calls Tryz.prog 63 #[.string (bk l)] w fun e w' => Out e T p ∧ Below w.heap.size w w' := by
 have := readWords_any (bk l) w T p h (by rw [bk_size]; exact hl)
 rw [bk_list, hn] at this
 exact this.mono fun e w' q => ⟨q.1.out, q.2⟩
theorem words_yes (l : List UInt8) (x : Nd) (w : World) (T : TypeId) (p : Value) (h : RTab w T p) (hl : l.length ≤ 4194304) (hn : wordsS l = some x) : Calls Tryz.prog 63 #[.string (bk l)] w fun e w' => e = .returned (.agg (ndV x)) ∧ Below w.heap.size w w' := by
 have := readWords_any (bk l) w T p h (by rw [bk_size]; exact hl)
 rw [bk_list, hn] at this
 exact this.mono fun e w' q => ⟨q.1.out, q.2⟩
theorem ret9i {w : World} {B : Nat} {y : Nd} {d : Value} {tm : Array Value} (h : NodeAt w B y) (h2 : tm[2]?.getD undef = .pointer (some ⟨B, 0, none⟩)) (h3 : tm[3]?.getD undef = d) : (results Tryz.f35 tm).run Tryz.prog w = .ok (.tuple #[.agg (ndV y), d]) w := by
 obtain ⟨kd, ps, nm, lb, ty, op, it, tx, zz⟩ := y
 have c0 : w.cell? ⟨B, 0, none⟩ = some (.int .i64 kd) := h.c 0 _ rfl
 have c1 : w.cell? ⟨B, 1, none⟩ = some (.int .i64 ps) := h.c 1 _ rfl
 have c2 : w.cell? ⟨B, 2, none⟩ = some (.string nm) := h.c 2 _ rfl
 have c3 : w.cell? ⟨B, 3, none⟩ = some (.string lb) := h.c 3 _ rfl
 have c4 : w.cell? ⟨B, 4, none⟩ = some (.string ty) := h.c 4 _ rfl
 have c5 : w.cell? ⟨B, 5, none⟩ = some (.int .i64 op) := h.c 5 _ rfl
 have c6 : w.cell? ⟨B, 6, none⟩ = some (.int .i64 it) := h.c 6 _ rfl
 have c7 : w.cell? ⟨B, 7, none⟩ = some (.string tx) := h.c 7 _ rfl
 have c8 : w.cell? ⟨B, 8, none⟩ = some (.int .i64 zz) := h.c 8 _ rfl
 simp [results, Tryz.results35, go_sem, h2, h3, c0, c1, c2, c3, c4, c5, c6, c7, c8, ndV]
theorem readLine_any (s : ByteArray) (w : World) (T : TypeId) (p : Value) (h : RTab w T p) (hs : s.size ≤ 4194304) :
 Calls Tryz.prog 35 #[.string s] w fun e w' => Hid (Ans e T p ((lineS s.data.toList).map fun q => .tuple #[.agg (ndV q.1), .int .i64 ((q.2 : Nat) : Int)])) ∧ Below w.heap.size w w' := by
 have hw15 := h.size
 have hz := Lib.size_eq s
 obtain ⟨l, hl⟩ : ∃ l, s.data.toList = l := ⟨_, rfl⟩
 rw [hl] at hz ⊢
 obtain ⟨t, ht⟩ : ∃ t, told l = t := ⟨_, rfl⟩
 have htl := told_le l
 have hbn : bln l = l.length - t.length := by rw [← ht]; rfl
 rw [ht] at htl
 obtain ⟨bt, hbt⟩ : ∃ bt, bk t = bt := ⟨_, rfl⟩
 have hbs : bt.size = t.length := by rw [← hbt]; exact bk_size t
 have HTL : Hid (∀ w', Calls Tryz.prog 61 #[.string s, .string ⟨#[32]⟩] w' fun e w'' => e = .returned (.string bt) ∧ w'' = w') := fun w' => by
  have := Tryz.strings_TrimLeft_one s 32 (by decide) w'
  rw [hl, told_trim, ht] at this
  rw [← hbt]
  exact this
 have HLI : Hid (∀ w', Calls Tryz.prog 62 #[.string bt, .string ⟨#[32, 64]⟩] w' fun e w'' => e = .returned (.int .i64 (Lib.lastIndex t [32, 64])) ∧ w'' = w') := fun w' => by
  have := Tryz.strings_LastIndex bt ⟨#[32, 64]⟩ (by omega) w'
  rw [← hbt, bk_list] at this
  rw [← hbt]
  exact this
 obtain ⟨w1, hw1⟩ : ∃ w1, w.alloc (.cells (ndV ⟨0, 0, ⟨#[]⟩, ⟨#[]⟩, ⟨#[]⟩, 0, 0, ⟨#[]⟩, 0⟩) 42) = w1 := ⟨_, rfl⟩
 have B1 : Hid (Below w.heap.size w w1) := by rw [← hw1]; exact (Below.refl _ w).alloc (Nat.le_refl _) _
 have A1 : Hid (NodeAt w1 w.heap.size ⟨0, 0, ⟨#[]⟩, ⟨#[]⟩, ⟨#[]⟩, 0, 0, ⟨#[]⟩, 0⟩) := by rw [← hw1]; exact NodeAt.new _ _ _
 have hn1 : w1.cell? ⟨0, 0, none⟩ = some (.iface T p) := h.n.next B1.out
 have HT : Hid (∀ w', Below w.heap.size w w' → RTab w' T p) := fun w' hb => h.next hb
 obtain ⟨n, hn⟩ : ∃ n, bln l = n := ⟨_, rfl⟩
 have hwr : IntKind.i64.wrap ((s.size : Int) - (bt.size : Int)) = (n : Int) := by rw [IntKind.wrap_i64]; omega
 have HR : Hid (lineS l = if n % 2 ≠ 0 then none else (lastSp t).bind fun q => (wordsS q.1).bind fun x => (numS q.2).map fun v => ({ x with pos := v }, n / 2)) := by
  show _ = _
  unfold lineS
  rw [hn, ht]
 have HN : Hid (n = l.length - t.length) := by rw [← hn]; exact hbn
 have HBT : Hid (bk t = bt) := hbt
 have HZ : Hid (s.size = l.length) := hz
 have HBS : Hid (bt.size = t.length) := hbs
 clear h hl ht hbt hn hbn hz hbs
 unfold ndV at hw1
 simp only at hw1
 by_cases hodd : n % 2 ≠ 0
 ·have HR2 : Hid (lineS l = none) := HR.out.trans (if_pos hodd)
  have hm : ((n : Int).tmod 2 == 0) = false := by rw [beq_eq_false_iff_ne, Int.tmod_eq_emod_of_nonneg (by omega)]; omega
  go_enter Tryz.func35, Tryz.ntmps35
  go_wp2_with (first
   | (go_at_call 61; refine (HTL.out _).mono ?_; rintro e w2 ⟨rfl, rfl⟩)
   | (go_at_call 62; refine (HLI.out _).mono ?_; rintro e w3 ⟨rfl, rfl⟩)
   | go_in)
  exact ⟨rfl, (by show Ans _ T p _; rw [HR2.out]; exact (rfl : _ = _)), B1.out⟩
 ·have hev : (n : Int) % 2 = 0 := by omega
  have HR2 : Hid (lineS l = (lastSp t).bind fun q => (wordsS q.1).bind fun x => (numS q.2).map fun v => ({ x with pos := v }, n / 2)) := HR.out.trans (if_neg hodd)
  clear HR hodd
  rcases last_ix t with ⟨hix, hsp⟩ | ⟨k, hix, hkl, hsp⟩
  ·have HR3 : Hid (lineS l = none) := by rw [HR2.out, hsp]; rfl
   rw [hix] at HLI
   clear hsp hix
   go_enter Tryz.func35, Tryz.ntmps35
   go_wp2_with (first
    | (go_at_call 61; refine (HTL.out _).mono ?_; rintro e w2 ⟨rfl, rfl⟩)
    | (go_at_call 62; refine (HLI.out _).mono ?_; rintro e w3 ⟨rfl, rfl⟩)
    | go_in)
   exact ⟨rfl, (by show Ans _ T p _; rw [HR3.out]; exact (rfl : _ = _)), B1.out⟩
  ·rw [hix] at HLI
   have hk0 : ¬ (k : Int) < 0 := by omega
   have hk1 : (0 : Int) ≤ (k : Int) := by omega
   have hk2 : IntKind.i64.wrap ((k : Int) + 2) = (k : Int) + 2 := by rw [IntKind.wrap_i64]; have := HZ.out; omega
   have hk3 : (k : Int) ≤ (bt.size : Int) := by have := HBS.out; omega
   have hk4 : (0 : Int) ≤ (k : Int) + 2 := by omega
   have hk5 : (k : Int) + 2 ≤ (bt.size : Int) := by have := HBS.out; omega
   have R1 : ∀ wx : World, (Instr.slice 9 (.string bt) none (some (.int .i64 (k : Int))) none).run Tryz.prog wx = .ok (.string (bk (t.take k))) wx := fun wx => by
    have e1 := ext_take bt k
    rw [← HBT.out, bk_list] at e1
    rw [← e1, HBT.out]
    simp [go_sem, Tryz.underlying9, hk1, hk3]
   have R2 : ∀ wx : World, (Instr.slice 9 (.string bt) (some (.int .i64 ((k : Int) + 2))) none none).run Tryz.prog wx = .ok (.string (bk (t.drop (k + 2)))) wx := fun wx => by
    have e1 := ext_drop bt (k + 2) bt.size (Nat.le_refl _)
    rw [← HBT.out, bk_list] at e1
    rw [← e1, HBT.out]
    have e2 : ((k : Int) + 2).toNat = k + 2 := by omega
    simp [go_sem, Tryz.underlying9, hk4, hk5, e2]
   rw [hsp, Option.bind_some] at HR2
   simp only at HR2
   have hlt1 : (t.take k).length ≤ 4194304 := by rw [List.length_take]; have := HZ.out; omega
   have hlt2 : (t.drop (k + 2)).length ≤ 4194304 := by rw [List.length_drop]; have := HZ.out; omega
   generalize t.take k = t1 at R1 HR2 hlt1
   generalize t.drop (k + 2) = t2 at R2 HR2 hlt2
   clear hsp hix hkl
   cases hwd : wordsS t1 with
   | none =>
    have HR3 : Hid (lineS l = none) := by rw [HR2.out, hwd]; rfl
    have HW : Hid (Calls Tryz.prog 63 #[.string (bk t1)] w1 fun e w' => Out e T p ∧ Below w1.heap.size w1 w') := words_no t1 w1 T p (HT.out _ B1.out) hlt1 hwd
    clear hwd
    go_enter Tryz.func35, Tryz.ntmps35
    go_wp2_with (first
     | (go_at_call 61; refine (HTL.out _).mono ?_; rintro e w2 ⟨rfl, rfl⟩)
     | (go_at_call 62; refine (HLI.out _).mono ?_; rintro e w3 ⟨rfl, rfl⟩)
     | (go_at_call 63; refine HW.out.mono ?_; rintro e w5 ⟨he, hb5⟩; obtain rfl : e = _ := he)
     | go_in)
    exact ⟨rfl, (by show Ans _ T p _; rw [HR3.out]; exact (rfl : _ = _)), B1.out.trans (hb5.mono B1.out.size)⟩
   | some x =>
    have HW0 := words_yes t1 x w1 T p (HT.out _ B1.out) hlt1 hwd
    rw [hwd, Option.bind_some] at HR2
    obtain ⟨kd, ps, nm, lb, ty, op, it, tx, zz⟩ := x
    unfold ndV at HW0
    have HW : Hid (Calls Tryz.prog 63 #[.string (bk t1)] w1 fun e w' => e = .returned (.agg #[.int .i64 kd, .int .i64 ps, .string nm, .string lb, .string ty, .int .i64 op, .int .i64 it, .string tx, .int .i64 zz]) ∧ Below w1.heap.size w1 w') := HW0
    clear hwd HW0
    go_enter Tryz.func35, Tryz.ntmps35
    go_upto_region 7 with (first
     | (go_at_call 61; refine (HTL.out _).mono ?_; rintro e w2 ⟨rfl, rfl⟩)
     | (go_at_call 62; refine (HLI.out _).mono ?_; rintro e w3 ⟨rfl, rfl⟩)
     | (go_at_call 63; refine HW.out.mono ?_; rintro e w5 ⟨rfl, hb5⟩; have NA5 : Hid (NodeAt w5 w.heap.size ⟨0, 0, ⟨#[]⟩, ⟨#[]⟩, ⟨#[]⟩, 0, 0, ⟨#[]⟩, 0⟩) := A1.out.next hb5; have z0 : w5.cell? ⟨w.heap.size, 0, none⟩ = some (.int .i64 0) := NA5.out.c 0 _ rfl; have y0 := NA5.out.f 0 (by omega); have z1 : w5.cell? ⟨w.heap.size, 1, none⟩ = some (.int .i64 0) := NA5.out.c 1 _ rfl; have y1 := NA5.out.f 1 (by omega); have z2 : w5.cell? ⟨w.heap.size, 2, none⟩ = some (.string ⟨#[]⟩) := NA5.out.c 2 _ rfl; have y2 := NA5.out.f 2 (by omega); have z3 : w5.cell? ⟨w.heap.size, 3, none⟩ = some (.string ⟨#[]⟩) := NA5.out.c 3 _ rfl; have y3 := NA5.out.f 3 (by omega); have z4 : w5.cell? ⟨w.heap.size, 4, none⟩ = some (.string ⟨#[]⟩) := NA5.out.c 4 _ rfl; have y4 := NA5.out.f 4 (by omega); have z5 : w5.cell? ⟨w.heap.size, 5, none⟩ = some (.int .i64 0) := NA5.out.c 5 _ rfl; have y5 := NA5.out.f 5 (by omega); have z6 : w5.cell? ⟨w.heap.size, 6, none⟩ = some (.int .i64 0) := NA5.out.c 6 _ rfl; have y6 := NA5.out.f 6 (by omega); have z7 : w5.cell? ⟨w.heap.size, 7, none⟩ = some (.string ⟨#[]⟩) := NA5.out.c 7 _ rfl; have y7 := NA5.out.f 7 (by omega); have z8 : w5.cell? ⟨w.heap.size, 8, none⟩ = some (.int .i64 0) := NA5.out.c 8 _ rfl; have y8 := NA5.out.f 8 (by omega))
     | go_in)
    clear z0 z1 z2 z3 z4 z5 z6 z7 z8 y0 y1 y2 y3 y4 y5 y6 y7 y8
    have B5 : Below w.heap.size w w5 := B1.out.trans (hb5.mono B1.out.size)
    obtain ⟨w6, hw6⟩ : ∃ w6, (((((((((w5.setCell ⟨w.heap.size, 0, none⟩ (.int .i64 kd)).setCell ⟨w.heap.size, 1, none⟩ (.int .i64 ps)).setCell ⟨w.heap.size, 2, none⟩ (.string nm)).setCell ⟨w.heap.size, 3, none⟩ (.string lb)).setCell ⟨w.heap.size, 4, none⟩ (.string ty)).setCell ⟨w.heap.size, 5, none⟩ (.int .i64 op)).setCell ⟨w.heap.size, 6, none⟩ (.int .i64 it)).setCell ⟨w.heap.size, 7, none⟩ (.string tx)).setCell ⟨w.heap.size, 8, none⟩ (.int .i64 zz)) = w6 := ⟨_, rfl⟩
    have NA6 : Hid (NodeAt w6 w.heap.size ⟨kd, ps, nm, lb, ty, op, it, tx, zz⟩) := by rw [← hw6]; exact NA5.out.set ⟨kd, ps, nm, lb, ty, op, it, tx, zz⟩
    have B6 : Hid (Below w.heap.size w w6) := by rw [← hw6]; exact below_set9 B5 (Nat.le_refl _) _ _ _ _ _ _ _ _ _
    rw [hw6]
    clear hw6 NA5 hb5 B5 HW A1
    cases hnm : numS t2 with
    | none =>
     have HR3 : Hid (lineS l = none) := by rw [HR2.out, hnm]; rfl
     have HU : Hid (Calls Tryz.prog 64 #[.string (bk t2)] w6 fun e w' => Out e T p ∧ Below w6.heap.size w6 w') := num_no t2 w6 T p (HT.out _ B6.out) hlt2 hnm
     clear hnm
     go_wp2_with (first
      | (go_at_call 64; refine HU.out.mono ?_; rintro e w7 ⟨he, hb7⟩; obtain rfl : e = _ := he)
      | go_in)
     exact ⟨rfl, (by show Ans _ T p _; rw [HR3.out]; exact (rfl : _ = _)), B6.out.trans (hb7.mono B6.out.size)⟩
    | some v =>
     have HU : Hid (Calls Tryz.prog 64 #[.string (bk t2)] w6 fun e w' => e = .returned (.int .i64 v) ∧ Below w6.heap.size w6 w') := num_yes t2 v w6 T p (HT.out _ B6.out) hlt2 hnm
     rw [hnm] at HR2
     clear hnm
     go_upto_region 8 with (first
      | (go_at_call 64; refine HU.out.mono ?_; rintro e w7 ⟨rfl, hb7⟩; have NA7 : Hid (NodeAt w7 w.heap.size ⟨kd, ps, nm, lb, ty, op, it, tx, zz⟩) := NA6.out.next hb7; have c1 := NA7.out.c 1 _ rfl; have f1 := NA7.out.f 1 (by omega))
      | go_in)
     clear c1 f1
     obtain ⟨w8, hw8⟩ : ∃ w8, w7.setCell ⟨w.heap.size, 1, none⟩ (.int .i64 v) = w8 := ⟨_, rfl⟩
     have NA8 : Hid (NodeAt w8 w.heap.size ⟨kd, v, nm, lb, ty, op, it, tx, zz⟩) := by rw [← hw8]; exact NA7.out.pPos v
     have B8 : Hid (Below w.heap.size w w8) := by rw [← hw8]; exact (B6.out.trans (hb7.mono B6.out.size)).setCell (p := ⟨w.heap.size, 1, none⟩) (Nat.le_refl _) _
     rw [hw8]
     clear hw8 NA7 hb7 HU NA6 B6
     have n0 : w8.cell? ⟨w.heap.size, 0, none⟩ = some (.int .i64 kd) := NA8.out.c 0 _ rfl
     have y0 := NA8.out.f 0 (by omega)
     have n1 : w8.cell? ⟨w.heap.size, 1, none⟩ = some (.int .i64 v) := NA8.out.c 1 _ rfl
     have y1 := NA8.out.f 1 (by omega)
     have n2 : w8.cell? ⟨w.heap.size, 2, none⟩ = some (.string nm) := NA8.out.c 2 _ rfl
     have y2 := NA8.out.f 2 (by omega)
     have n3 : w8.cell? ⟨w.heap.size, 3, none⟩ = some (.string lb) := NA8.out.c 3 _ rfl
     have y3 := NA8.out.f 3 (by omega)
     have n4 : w8.cell? ⟨w.heap.size, 4, none⟩ = some (.string ty) := NA8.out.c 4 _ rfl
     have y4 := NA8.out.f 4 (by omega)
     have n5 : w8.cell? ⟨w.heap.size, 5, none⟩ = some (.int .i64 op) := NA8.out.c 5 _ rfl
     have y5 := NA8.out.f 5 (by omega)
     have n6 : w8.cell? ⟨w.heap.size, 6, none⟩ = some (.int .i64 it) := NA8.out.c 6 _ rfl
     have y6 := NA8.out.f 6 (by omega)
     have n7 : w8.cell? ⟨w.heap.size, 7, none⟩ = some (.string tx) := NA8.out.c 7 _ rfl
     have y7 := NA8.out.f 7 (by omega)
     have n8 : w8.cell? ⟨w.heap.size, 8, none⟩ = some (.int .i64 zz) := NA8.out.c 8 _ rfl
     have y8 := NA8.out.f 8 (by omega)
     go_wp2
     have hq : wrap64 ((n : Int) / 2) = ((n / 2 : Nat) : Int) := by
      have := HN.out
      have := HZ.out
      unfold wrap64
      omega
     refine bodyPost_ret (v := .tuple #[.agg (ndV ⟨kd, v, nm, lb, ty, op, it, tx, zz⟩), .int .i64 (wrap64 ((n : Int) / 2))]) (by exact ret9i (NA8.out.set ⟨kd, v, nm, lb, ty, op, it, tx, zz⟩) rfl rfl) (by rfl) ?_
     refine ⟨?_, below_set9 B8.out (Nat.le_refl _) _ _ _ _ _ _ _ _ _⟩
     show Ans _ T p _
     rw [HR2.out, hq]
     exact (rfl : _ = _)
end Go.Proofs.YtekgnogjfggnmaaGreatDoor

namespace Go.Proofs.YtekgnogjfggnmaaGreatDoor
open Go.RowKit Go.Shelf
set_option maxRecDepth 100000
set_option maxHeartbeats 8000000
theorem line_no (l : List UInt8) (w : World) (T : TypeId) (p : Value) (h : RTab w T p) (hl : l.length ≤ 4194304) (hn : lineS l = none) : Calls Tryz.prog 35 #[.string (bk l)] w fun e w' => Out e T p ∧ Below w.heap.size w w' := by
 have := readLine_any (bk l) w T p h (by rw [bk_size]; exact hl)
 rw [bk_list, hn] at this
 exact this.mono fun e w' q => ⟨q.1.out, q.2⟩
theorem line_yes (l : List UInt8) (x : Nd) (d : Nat) (w : World) (T : TypeId) (p : Value) (h : RTab w T p) (hl : l.length ≤ 4194304) (hn : lineS l = some (x, d)) : Calls Tryz.prog 35 #[.string (bk l)] w fun e w' => e = .returned (.tuple #[.agg (ndV x), .int .i64 (d : Int)]) ∧ Below w.heap.size w w' := by
 have := readLine_any (bk l) w T p h (by rw [bk_size]; exact hl)
 rw [bk_list, hn] at this
 exact this.mono fun e w' q => ⟨q.1.out, q.2⟩
theorem cutC_no (l : List UInt8) (w : World) (hl : l.length ≤ 4194304) (m : Int) (hm : w.cell? ⟨4, 0, none⟩ = some (.int .i64 m)) (hn : cut10 l = none) : Calls Tryz.prog 34 #[.string (bk l), .string ⟨#[10]⟩] w fun e w' => e = .returned (.tuple #[.string (bk l), .string (bk []), .bool false]) ∧ Below w.heap.size w w' := by
 have := Tryz.strings_Cut (bk l) ⟨#[10]⟩ m w (by rw [bk_size]; omega) hm
 rw [bk_list, show (⟨#[10]⟩ : ByteArray).data.toList = [10] from rfl, cut_no hn] at this
 exact this.mono fun e w' q => ⟨q.1, by obtain ⟨n, rfl⟩ := q.2; exact belowN w n⟩
theorem cutC_yes (l a b : List UInt8) (w : World) (hl : l.length ≤ 4194304) (m : Int) (hm : w.cell? ⟨4, 0, none⟩ = some (.int .i64 m)) (hn : cut10 l = some (a, b)) : Calls Tryz.prog 34 #[.string (bk l), .string ⟨#[10]⟩] w fun e w' => e = .returned (.tuple #[.string (bk a), .string (bk b), .bool true]) ∧ Below w.heap.size w w' := by
 have := Tryz.strings_Cut (bk l) ⟨#[10]⟩ m w (by rw [bk_size]; omega) hm
 rw [bk_list, show (⟨#[10]⟩ : ByteArray).data.toList = [10] from rfl, cut_yes hn] at this
 exact this.mono fun e w' q => ⟨q.1, by obtain ⟨n, rfl⟩ := q.2; exact belowN w n⟩
def nv (l : List Nat) : List Value := iv (l.map fun (n : Nat) => (n : Int))
theorem flat_app (a b : List Nd) : flat (a ++ b) = flat a ++ flat b := List.flatMap_append
theorem flat_sing (x : Nd) : flat [x] = (ndV x).toList := by simp [flat]
theorem wpList_appN {w : World} {ops : Array Oper} {rest : List Oper} {o : Oper} {a : Act} {Q : Exit → Act → World → Prop} (hgd : o.guard = none) (s x : Operand)
 (ho : o.op = .call { callee := .builtin .append, args := #[s, x], argTypes := #[22, 22] })
 (base : Nat) (v : Value) (l : List Nd) (n : Nat) (hn : l.length = n) (y : Nd) (C : Array Value) (hC : C = ndV y) (hs : a.eval s = v) (hx : a.eval x = .slice (some ⟨w.heap.size, 0, none⟩) 1 1) (hown : Hid (w.ownsRow base 42 9 v n (flat l))) (h40 : n + 1 ≤ 1073741824) (hbase : base ≤ w.heap.size)
 (h : ∀ v' w', Hid (w'.ownsRow base 42 9 v' (n + 1) (flat (l ++ [y]))) → Hid (Below base w w' ∧ Lib.OthersKept 42 none w w') → wpList Tryz.prog ops Q rest (a.put o.dst v') w') : wpList Tryz.prog ops Q (o :: rest) a (w.alloc (.cells C 42)) := by
 subst hC
 obtain ⟨i0, hi, hz0, hz1, hz2⟩ := info_parts info36
 have ho2 := World.ownsRow.alloc hown.out (.cells (ndV y) 42)
 obtain ⟨v', w', hr, h2, h3, _⟩ := run_append_own (P := Tryz.prog) (w.alloc (.cells (ndV y) 42)) base 22 o.type 42 i0 _ 9 104 Tryz.underlying22 hi hz0 hz1 hz2 rfl (by decide) v n (flat l) ho2 ⟨w.heap.size, 0, none⟩ 1 1 (ndV y).toList rfl
  (World.news_of_block (heap_alloc_new w _)) (by
   intro u hu
   unfold ndV at hu
   simp only [List.mem_cons, List.not_mem_nil, or_false] at hu
   rcases hu with rfl | rfl | rfl | rfl | rfl | rfl | rfl | rfl | rfl <;> rfl) (by unfold maxLen; omega) (by omega) (by simp; omega)
 refine wpList_plain hgd fun K hK => ?_
 unfold Oper.wp execOp
 simp only [ho, resolve, invoke, builtin, Sem.run_bind, Sem.run_pure, Result.andThen_ok, List.map_toArray, List.map_cons, List.map_nil, hs, hx, hr]
 refine hK _ _ (h v' w' ?_ ?_)
 ·show w'.ownsRow base 42 9 v' (n + 1) (flat (l ++ [y]))
  rw [flat_app, flat_sing]
  exact h2
 ·exact ⟨((Below.refl base w).alloc hbase _).grown h3 (by simp; omega) (own_ge ho2), ((Lib.OthersKept.refl _ _ _).alloc _).grown h3 (Lib.ownsRow_kind ho2)⟩
theorem rows_apart {w : World} {b : Nat} {g go : Nat} {n m c c' : Nat} {xs ys : List Value} (h : w.ownsRow b 42 9 (.slice (some ⟨g, 0, none⟩) n c) n xs) (k : w.ownsRow b 3 1 (.slice (some ⟨go, 0, none⟩) m c') m ys) : go ≠ g := by
 rintro rfl
 rcases h.2 with ⟨h0, _⟩ | ⟨g1, c1, cur1, hv1, _, hg1, _⟩
 ·cases h0
 ·rcases k.2 with ⟨h0, _⟩ | ⟨g2, c2, cur2, hv2, _, hg2, _⟩
  ·cases h0
  ·cases hv1
   cases hv2
   rw [hg1] at hg2
   cases hg2
theorem sl1 (go n cp d : Nat) (h : d ≤ n) (hc : n ≤ cp) : ∃ oo, (d < n → oo = d) ∧ ∀ wx : World, (Instr.slice 45 (.slice (some ⟨go, 0, none⟩) n cp) (some (.int .i64 (d : Int))) none none).run Tryz.prog wx = .ok (.slice (some ⟨go, oo, none⟩) (n - d) (cp - d)) wx := by
 have h0 : (0 : Int) ≤ (d : Int) := by omega
 have h1 : (d : Int) ≤ (n : Int) := by omega
 by_cases e : cp = d
 ·refine ⟨0, fun q => by omega, fun wx => ?_⟩
  simp [go_sem, Tryz.underlying45, h0, h1, e]
 ·refine ⟨d, fun _ => rfl, fun wx => ?_⟩
  simp [go_sem, Tryz.underlying45, h0, h1, e]
theorem sl2 (go n cp d : Nat) (h : d ≤ n) (hc : n ≤ cp) (wx : World) : (Instr.slice 45 (.slice (some ⟨go, 0, none⟩) n cp) none (some (.int .i64 (d : Int))) none).run Tryz.prog wx = .ok (.slice (some ⟨go, 0, none⟩) d cp) wx := by
 have h0 : (0 : Int) ≤ (d : Int) := by omega
 have h1 : (d : Int) ≤ (cp : Int) := by omega
 simp [go_sem, Tryz.underlying45, h0, h1]
theorem grown_refl (w : World) (r : Option Nat) : w.grownBy w r := ⟨rfl, rfl, rfl, Nat.le_refl _, fun _ _ _ => rfl⟩
theorem closeRow (w : World) (B : Nat) (v : Value) (L : List Nd) (O : List Nat) (q : Option Addr) (co : Nat) (ho : w.ownsRow B 42 9 v L.length (flat L)) (hlt : ∀ n ∈ O, n < L.length) (hL : L.length ≤ 4194304) (hO : O.length ≤ 4194304)
 (hq : O ≠ [] → ∃ go oo, q = some ⟨go, oo, none⟩ ∧ some go ≠ v.ownBlock ∧ ∀ j, j < O.length → w.cell? ⟨go, oo + j, none⟩ = some (.int .i64 ((O.getD j 0 : Nat) : Int))) :
 Calls Tryz.prog 36 #[v, .slice q O.length co] w fun e w' => e = .returned (.tuple #[]) ∧ w'.ownsRow B 42 9 v L.length (flat (closeL L O)) ∧ w.grownBy w' v.ownBlock := by
 by_cases hn : O = []
 ·subst hn
  rcases ho.2 with ⟨rfl, h0⟩ | ⟨g, cap, cur, rfl, _⟩
  ·refine (closeNodes_nil w none q 0 0 co).mono ?_
   rintro e w' ⟨rfl, rfl⟩
   exact ⟨rfl, ho, grown_refl _ _⟩
  ·refine (closeNodes_nil w (some ⟨g, 0, none⟩) q L.length cap co).mono ?_
   rintro e w' ⟨rfl, rfl⟩
   exact ⟨rfl, ho, grown_refl _ _⟩
 ·obtain ⟨go, oo, rfl, hne, hc⟩ := hq hn
  rcases ho.2 with ⟨rfl, h0⟩ | ⟨g, cap, cur, rfl, _⟩
  ·exfalso
   cases O with
   | nil => exact hn rfl
   | cons a O => have := hlt a (List.mem_cons_self ..); omega
  ·exact closeNodes_any w B g cap L O go oo co hc (fun e => hne (by rw [e]; rfl)) hlt ho (by omega) (by omega)
theorem own_grown {w w' : World} {B : Nat} {v u : Value} {n m sz : Nat} {t : TypeId} {xs ys : List Value} (h : w.ownsRow B t sz u m ys) (hv : w.ownsRow B 42 9 v n xs) (ht : t ≠ 42) (hg : w.grownBy w' v.ownBlock) : w'.ownsRow B t sz u m ys := by
 refine ⟨h.1, ?_⟩
 rcases h.2 with hn | ⟨g, cap, cur, rfl, hb, hgg, rest⟩
 ·exact .inl hn
 ·refine .inr ⟨g, cap, cur, rfl, hb, ?_, rest⟩
  rw [hg.block g (Array.getElem?_eq_some_iff.1 hgg).1 ?_]
  ·exact hgg
  ·intro e
   rcases hv.2 with ⟨rfl, _⟩ | ⟨g2, c2, cur2, rfl, _, hg2, _⟩
   ·cases e
   ·cases e
    rw [hgg] at hg2
    cases hg2
    exact ht rfl
theorem own_take {w : World} {B : Nat} {p4 : Option Addr} {c4 n d : Nat} {O : List Nat} (h : w.ownsRow B 3 1 (.slice p4 n c4) n (nv O)) (hl : O.length = n) (hd : d ≤ n) : w.ownsRow B 3 1 (.slice p4 d c4) d (iv ((O.take d).map fun (n : Nat) => (n : Int))) := by
 rcases h.2 with ⟨h0, hn⟩ | ⟨g, cap, cur, hv, _⟩
 ·cases h0
  obtain rfl : d = 0 := by omega
  obtain rfl : O = [] := List.length_eq_zero_iff.1 (by omega)
  exact h
 ·cases hv
  refine ApI.own_head h hd ?_ ?_
  ·unfold nv iv
   rw [List.map_take, List.map_take]
  ·unfold iv
   rw [List.length_map, List.length_map, List.length_take]
   omega
theorem cell_blk {w : World} {N : Nat} {C : Array Value} {t : TypeId} (h : w.heap[N]? = some (.cells C t (0, 0))) (j : Nat) (u : Value) (hu : C[j]? = some u) : w.cell? ⟨N, j, none⟩ = some u := by
 simp only [World.cell?, h]
 simpa using hu
def ReadPost (b : Nat) (T : TypeId) (p : Value) (R : Option (List Nd)) (e : Ending) (w' : World) : Prop :=
 match R with
 | none => Out e T p
 | some L => ∃ v, e = .returned v ∧ w'.ownsRow b 42 9 v L.length (flat L)
theorem readDump_big (s : ByteArray) (w : World) (T : TypeId) (p : Value) (h : NoD w T p) (hs : 4194304 < s.size) :
 Calls Tryz.prog 19 #[.string s] w fun e w' => Out e T p ∧ Below w.heap.size w w' := by
 have hn : w.cell? ⟨0, 0, none⟩ = some (.iface T p) := h
 have h1 : (4194304 : Int) < (s.size : Int) := by omega
 go_enter Tryz.func19, Tryz.ntmps19
 go_wp2
 exact ⟨rfl, (rfl : _ = _), Below.refl _ _⟩
theorem readDump_any (s : ByteArray) (w : World) (T : TypeId) (p : Value) (h : RTab w T p) (hk : KwAt w) (m : Int) (hm : w.cell? ⟨4, 0, none⟩ = some (.int .i64 m)) (hs : s.size ≤ 4194304) :
 Calls Tryz.prog 19 #[.string s] w fun e w' => Hid (ReadPost w.heap.size T p (readS s.data.toList) e w') ∧ Below w.heap.size w w' := by
 have hw15 := h.size
 have h1 : ¬ (4194304 : Int) < (s.size : Int) := by omega
 obtain ⟨t0, ht0⟩ : ∃ t0, s.data.toList = t0 := ⟨_, rfl⟩
 have hst : s = bk t0 := by rw [← ht0]; exact (bk_of s).symm
 have hz := Lib.size_eq s
 rw [ht0] at hz ⊢
 obtain ⟨R, hR⟩ : ∃ R, readS t0 = R := ⟨_, rfl⟩
 rw [hR]
 rw [← cont_start t0 (by omega)] at hR
 have HR0 : Hid (contS t0.length [] t0 = R) := hR
 have hl0 : t0.length ≤ 4194304 := by omega
 have HM : Hid (∀ w', Below w.heap.size w w' → w'.cell? ⟨4, 0, none⟩ = some (.int .i64 m)) := fun w' hb => (hb.cell (p := ⟨4, 0, none⟩) (by show 4 < w.heap.size; omega)).trans hm
 have HT : Hid (∀ w', Below w.heap.size w w' → RTab w' T p) := fun w' hb => h.next hb
 have HKW : Hid (∀ w', Below w.heap.size w w' → KwAt w') := fun w' hb => hk.next hb
 clear h hk hm hR ht0 hz
 subst hst
 have HC0 : Hid ((bk t0).size ≤ 4194304) := hs
 clear hs
 go_enter Tryz.func19, Tryz.ntmps19
 go_wp2
 go_loopg [0, 3, 4] (t0.length + 1) (fun g s0 s3 s4 wr => ∃ (t : List UInt8) (acc : List (Nd × Nat)), s0 = .string (bk t) ∧ t.length < g ∧ acc.length + t.length ≤ 4194304 ∧ Hid (∀ p ∈ acc, FineN p.1) ∧ Hid (DOk (dps acc)) ∧ Hid (contS (g - 1) acc t = R) ∧ Hid (wr.ownsRow w.heap.size 42 9 s3 acc.length (flat (half acc))) ∧ Hid (wr.ownsRow w.heap.size 3 1 s4 (stkA acc).length (nv (stkA acc))) ∧ Hid (Below w.heap.size w wr))
 case atStart =>
  exact ⟨t0, [], rfl, by omega, by simpa using hl0, fun p hp => by simp at hp, fun k hk => by simp [dps] at hk, HR0, World.ownsRow_nil _ _ _ _, World.ownsRow_nil _ _ _ _, Below.refl _ _⟩
 case round =>
  obtain ⟨t, acc, rfl, htg, hal, hF, hD, hx, ho3, ho4, hB⟩ := hrel
  clear HR0
  cases gk with
  | zero => omega
  | succ G =>
  rw [Nat.add_sub_cancel] at hx
  have hal2 : acc.length ≤ 4194304 := by omega
  have hsl := stkA_le acc
  cases t with
  | nil =>
   rw [cont_end _ _ hD.out] at hx
   obtain ⟨b0, hb0⟩ : ∃ b0, bk [] = b0 := ⟨_, rfl⟩
   have he : (bk []).toList.isEmpty = true := by rw [ByteArray.toList_eq, bk_list]; rfl
   rw [hb0] at he ⊢
   clear hb0
   have HME := half_end acc
   have hhl := half_len acc
   obtain ⟨p4, c4, hs4, _, hg4⟩ := own_row ho4.out
   have HC : Hid (Calls Tryz.prog 36 #[u3, u4] wr fun e w' => e = .returned (.tuple #[]) ∧ w'.ownsRow w.heap.size 42 9 u3 acc.length (flat (mkL acc)) ∧ wr.grownBy w' u3.ownBlock) := by
    rw [← HME, hs4]
    have := closeRow wr w.heap.size u3 (half acc) (stkA acc) p4 c4 (by rw [hhl]; exact ho3.out) (fun n hn => by rw [hhl]; exact stkA_lt hn) (by omega) (by omega) (fun hne => by
     obtain ⟨go, rfl, hc⟩ := hg4 (List.length_pos_iff.2 hne)
     refine ⟨go, 0, rfl, ?_, fun j hj => ?_⟩
     ·intro e
      rcases ho3.out.2 with ⟨rfl, _⟩ | ⟨g, cap, cur, rfl, _⟩
      ·cases e
      ·cases e
       rw [hs4] at ho4
       exact rows_apart ho3.out ho4.out rfl
     ·rw [Nat.zero_add]
      refine hc j _ ?_
      rw [List.getElem?_map, List.getElem?_eq_getElem hj, List.getD_eq_getElem?_getD, List.getElem?_eq_getElem hj]
      rfl)
    rw [hhl] at this
    exact this
   obtain ⟨L, hL⟩ : ∃ L, mkL acc = L := ⟨_, rfl⟩
   have hFL : Fine L := by rw [← hL]; exact mkL_fine hal2 hF.out
   have hLl : L.length = acc.length := by rw [← hL]; exact mkL_len acc
   rw [hL] at hx HC
   obtain ⟨p3, c3, hs3⟩ : ∃ p3 c3, u3 = .slice p3 acc.length c3 := by
    rcases ho3.out.2 with ⟨rfl, hn⟩ | ⟨g, cap, cur, hv, _⟩
    ·exact ⟨none, 0, by rw [hn]⟩
    ·exact ⟨_, cap, hv⟩
   have HB2 : Hid (∀ w', wr.grownBy w' u3.ownBlock → Below w.heap.size w w') := fun w' hg => hB.out.grown hg hB.out.size (own_ge ho3.out)
   have HI : Hid (∀ w', Below w.heap.size w w' → w'.ownsRow w.heap.size 42 9 u3 acc.length (flat L) → Calls Tryz.prog 16 #[u3] w' fun e w'' => e = .returned (.bool (treeS nameS typeS L)) ∧ Below w'.heap.size w' w'') := fun w' hb ho => by
    rw [hs3]
    have := isTree_any w' p3 c3 L hFL (fun hne => by
     rw [hs3] at ho
     rcases ho.2 with ⟨h0, hn⟩ | ⟨g, cap, cur, hv, _⟩
     ·exact absurd (List.length_eq_zero_iff.1 (hLl.trans hn)) hne
     ·cases hv
      rw [← hLl] at ho
      exact ⟨g, 0, rfl, (lay_of_own ho).2.1⟩) (HKW.out w' hb)
    rw [hLl] at this
    exact this
   have HLL : Hid (L.length = acc.length) := hLl
   clear hLl hL HME hhl hs3 hs4 hg4 hFL ho3 ho4 hF hD
   cases htr : treeS nameS typeS L with
   | true =>
    rw [htr, if_pos rfl] at hx
    rw [htr] at HI
    clear htr
    go_wp2_with (first
     | (go_at_call 36; refine HC.out.mono ?_; rintro e w2 ⟨rfl, ho2, hg2⟩; have b2 := HB2.out w2 hg2)
     | (go_at_call 16; refine (HI.out _ b2 ho2).mono ?_; rintro e w3 ⟨rfl, hb3⟩)
     | go_in)
    go_ret
    refine ⟨?_, b2.trans (hb3.mono b2.size)⟩
    rw [← hx.out]
    refine ⟨_, rfl, ?_⟩
    rw [HLL.out]
    exact own_stays ho2 hb3
   | false =>
    rw [htr, if_neg (by simp)] at hx
    rw [htr] at HI
    clear htr
    go_wp2_with (first
     | (go_at_call 36; refine HC.out.mono ?_; rintro e w2 ⟨rfl, ho2, hg2⟩; have b2 := HB2.out w2 hg2)
     | (go_at_call 16; refine (HI.out _ b2 ho2).mono ?_; rintro e w3 ⟨rfl, hb3⟩; have b3 := b2.trans (hb3.mono b2.size); have hn3 : w3.cell? ⟨0, 0, none⟩ = some (.iface T p) := (HT.out _ b3).n)
     | go_in)
    refine ⟨rfl, ?_, b3⟩
    rw [← hx.out]
    exact (rfl : _ = _)
  | cons c t =>
   have he : (bk (c :: t)).toList.isEmpty = false := by rw [ByteArray.toList_eq, bk_list]; rfl
   obtain ⟨G, rfl⟩ : ∃ K, G = K + 1 := ⟨G - 1, by rw [List.length_cons] at htg; omega⟩
   have hml := HM.out wr hB.out
   cases hcut : cut10 (c :: t) with
   | none =>
    rw [cont_nocut _ _ _ _ hcut] at hx
    have HC : Hid (Calls Tryz.prog 34 #[.string (bk (c :: t)), .string ⟨#[10]⟩] wr fun e w' => e = .returned (.tuple #[.string (bk (c :: t)), .string (bk []), .bool false]) ∧ Below wr.heap.size wr w') := cutC_no (c :: t) wr (by omega) m hml hcut
    generalize bk (c :: t) = bs at he HC ⊢
    clear hcut hml
    go_wp2_with (first
     | (go_at_call 34; refine HC.out.mono ?_; rintro e w2 ⟨rfl, hb2⟩; have b2 := hB.out.trans (hb2.mono hB.out.size); have hn2 : w2.cell? ⟨0, 0, none⟩ = some (.iface T p) := (HT.out _ b2).n)
     | go_in)
    refine ⟨rfl, ?_, b2⟩
    rw [← hx.out]
    exact (rfl : _ = _)
   | some q =>
    obtain ⟨a, b⟩ := q
    have hcl := cut_len hcut
    have HC : Hid (Calls Tryz.prog 34 #[.string (bk (c :: t)), .string ⟨#[10]⟩] wr fun e w' => e = .returned (.tuple #[.string (bk a), .string (bk b), .bool true]) ∧ Below wr.heap.size wr w') := cutC_yes (c :: t) a b wr (by omega) m hml hcut
    cases hline : lineS a with
    | none =>
     rw [cont_noline _ _ _ _ _ _ hcut hline] at hx
     have HL : Hid (∀ w', Below w.heap.size w w' → Calls Tryz.prog 35 #[.string (bk a)] w' fun e w'' => Out e T p ∧ Below w'.heap.size w' w'') := fun w' hb => line_no a w' T p (HT.out w' hb) (by omega) hline
     generalize bk (c :: t) = bs at he HC ⊢
     clear hcut hml hline
     go_wp2_with (first
      | (go_at_call 34; refine HC.out.mono ?_; rintro e w2 ⟨rfl, hb2⟩; have b2 := hB.out.trans (hb2.mono hB.out.size))
      | (go_at_call 35; refine (HL.out _ b2).mono ?_; rintro e w3 ⟨hee, hb3⟩; obtain rfl : e = _ := hee)
      | go_in)
     refine ⟨rfl, ?_, b2.trans (hb3.mono b2.size)⟩
     rw [← hx.out]
     exact (rfl : _ = _)
    | some q =>
     obtain ⟨x, d⟩ := q
     have hxs := (line_sound hline).2
     have hxf := line_fine (by omega) hline
     have HL0 : Hid (∀ w', Below w.heap.size w w' → Calls Tryz.prog 35 #[.string (bk a)] w' fun e w'' => e = .returned (.tuple #[.agg (ndV x), .int .i64 (d : Int)]) ∧ Below w'.heap.size w' w'') := fun w' hb => line_yes a x d w' T p (HT.out w' hb) (by omega) hline
     by_cases hdeep : (stkA acc).length < d
     ·rw [cont_deep _ _ _ _ _ _ _ _ hcut hline hdeep] at hx
      obtain ⟨p4, c4, hs4, _, _⟩ := own_row ho4.out
      have hdI : (((stkA acc).length : Nat) : Int) < (d : Int) := by omega
      obtain ⟨kd, ps, nm, lb, ty, op, it, tx, zz⟩ := x
      unfold ndV at HL0
      simp only at HL0
      generalize bk (c :: t) = bs at he HC ⊢
      clear hcut hml hline hxs hxf
      subst hs4
      clear ho4
      generalize (stkA acc).length = ns at hdI hsl hdeep ⊢
      go_wp2_with (first
       | (go_at_call 34; refine HC.out.mono ?_; rintro e w2 ⟨rfl, hb2⟩; have b2 := hB.out.trans (hb2.mono hB.out.size))
       | (go_at_call 35; refine (HL0.out _ b2).mono ?_; rintro e w3 ⟨rfl, hb3⟩; have b3 := b2.trans (hb3.mono b2.size); have b4 : Below w.heap.size w (w3.alloc (.cells #[.int .i64 kd, .int .i64 ps, .string nm, .string lb, .string ty, .int .i64 op, .int .i64 it, .string tx, .int .i64 zz] 42)) := b3.alloc b3.size _; have hn3 : (w3.alloc (.cells #[.int .i64 kd, .int .i64 ps, .string nm, .string lb, .string ty, .int .i64 op, .int .i64 it, .string tx, .int .i64 zz] 42)).cell? ⟨0, 0, none⟩ = some (.iface T p) := (HT.out _ b4).n)
       | go_in)
      refine ⟨rfl, ?_, b4⟩
      rw [← hx.out]
      exact (rfl : _ = _)
     ·rw [cont_next _ _ _ _ _ _ _ _ hcut hline] at hx
      have hdl : d ≤ (stkA acc).length := by omega
      have HD2 : Hid (DOk (dps (acc ++ [(x, d)]))) := dok_next hD.out x hdl
      have HF2 : Hid (∀ p ∈ acc ++ [(x, d)], FineN p.1) := fun p hp => (List.mem_append.1 hp).elim (hF.out p) (fun h => by rw [List.mem_singleton.1 h]; exact hxf)
      have HN3 : Hid (closeL (half acc) ((stkA acc).drop d) ++ [x] = half (acc ++ [(x, d)])) := half_next acc x d hxs
      have HN4 : Hid (stkA (acc ++ [(x, d)]) = (stkA acc).take d ++ [acc.length]) := stkA_next acc x d
      have HX : Hid (contS G (acc ++ [(x, d)]) b = R) := hx
      have HLT : Hid (∀ n ∈ (stkA acc).drop d, n < (half acc).length) := fun n hn => by rw [half_len]; exact stkA_lt (List.mem_of_mem_drop hn)
      have HHL : Hid ((half acc).length = acc.length) := half_len acc
      clear hx hD hF
      obtain ⟨p4, c4, hs4, hnc4, hg4⟩ := own_row ho4.out
      obtain ⟨p3, c3, hs3⟩ : ∃ p3 c3, u3 = .slice p3 acc.length c3 := by
       rcases ho3.out.2 with ⟨rfl, hn⟩ | ⟨g, cap, cur, hv, _⟩
       ·exact ⟨none, 0, by rw [hn]⟩
       ·exact ⟨_, cap, hv⟩
      subst hs4 hs3
      obtain ⟨O, hO⟩ : ∃ O, stkA acc = O := ⟨_, rfl⟩
      rw [hO] at ho4 hnc4 hg4 hdl HN3 HN4 HLT hsl hdeep ⊢
      obtain ⟨n, hn⟩ : ∃ n, O.length = n := ⟨_, rfl⟩
      rw [hn] at ho4 hnc4 hg4 hdl hsl hdeep ⊢
      have HOn : Hid (O.length = n) := hn
      clear hO hn
      obtain ⟨qo, co, hSLa, hqo⟩ : ∃ (qo : Option Addr) (co : Nat), (∀ wx : World, (Instr.slice 45 (.slice p4 n c4) (some (.int .i64 (d : Int))) none none).run Tryz.prog wx = .ok (.slice qo (n - d) co) wx) ∧ (d < n → ∃ go, p4 = some ⟨go, 0, none⟩ ∧ qo = some ⟨go, d, none⟩) := by
       rcases ho4.out.2 with ⟨h0, h1⟩ | ⟨g, cap, cur, hv, _⟩
       ·cases h0
        obtain rfl : d = 0 := by omega
        exact ⟨none, 0, fun wx => by simp [go_sem, Tryz.underlying45], fun h => by omega⟩
       ·cases hv
        obtain ⟨oo, h1, h2⟩ := sl1 g n c4 d hdl hnc4
        exact ⟨_, _, h2, fun h => ⟨g, rfl, by rw [h1 h]⟩⟩
      have hSLb : ∀ wx : World, (Instr.slice 45 (.slice p4 n c4) none (some (.int .i64 (d : Int))) none).run Tryz.prog wx = .ok (.slice p4 d c4) wx := by
       rcases ho4.out.2 with ⟨h0, h1⟩ | ⟨g, cap, cur, hv, _⟩
       ·cases h0
        obtain rfl : d = 0 := by omega
        exact fun wx => by simp [go_sem, Tryz.underlying45]
       ·cases hv
        exact sl2 g n c4 d hdl hnc4
      have hdI : ¬ ((n : Nat) : Int) < (d : Int) := by omega
      have HCR : Hid (∀ w', w'.ownsRow w.heap.size 42 9 (.slice p3 acc.length c3) acc.length (flat (half acc)) → w'.ownsRow w.heap.size 3 1 (.slice p4 n c4) n (nv O) → Calls Tryz.prog 36 #[.slice p3 acc.length c3, .slice qo (n - d) co] w' fun e w'' => e = .returned (.tuple #[]) ∧ w''.ownsRow w.heap.size 42 9 (.slice p3 acc.length c3) acc.length (flat (closeL (half acc) (O.drop d))) ∧ w'.grownBy w'' (Value.slice p3 acc.length c3).ownBlock) := fun w' h3 h4 => by
       have hln : (O.drop d).length = n - d := by rw [List.length_drop, HOn.out]
       have := closeRow w' w.heap.size (.slice p3 acc.length c3) (half acc) (O.drop d) qo co (by rw [HHL.out]; exact h3) HLT.out (by rw [HHL.out]; exact hal2) (by omega) (fun hne => by
        have hdn : d < n := by have := List.length_pos_iff.2 hne; omega
        obtain ⟨go, rfl, rfl⟩ := hqo hdn
        refine ⟨go, d, rfl, ?_, fun j hj => ?_⟩
        ·intro e
         rcases h3.2 with ⟨h0, _⟩ | ⟨g, cap, cur, hv, _⟩
         ·injection h0 with h00 _ _
          subst h00
          cases e
         ·cases hv
          cases e
          exact rows_apart h3 h4 rfl
        ·obtain ⟨_, _, hvv, _, hg⟩ := own_row h4
         cases hvv
         obtain ⟨g2, hg2, hc⟩ := hg (by omega)
         cases hg2
         refine hc (d + j) _ ?_
         rw [List.getElem?_map, List.getD_eq_getElem?_getD, List.getElem?_drop, List.getElem?_eq_getElem (by rw [hln] at hj; have := HOn.out; omega)]
         rfl)
       rw [hln, HHL.out] at this
       exact this
      obtain ⟨kd, ps, nm, lb, ty, op, it, tx, zz⟩ := x
      unfold ndV at HL0
      simp only at HL0
      generalize bk (c :: t) = bs at he HC ⊢
      clear hcut hml hline hxs hxf hg4 hqo
      go_upto_region 12 with (first
       | (go_at_call 34; refine HC.out.mono ?_; rintro e w2 ⟨rfl, hb2⟩; have b2 := hB.out.trans (hb2.mono hB.out.size))
       | (go_at_call 35; refine (HL0.out _ b2).mono ?_; rintro e w3 ⟨rfl, hb3⟩)
       | go_in)
      obtain ⟨N, hN⟩ : ∃ N, w3.heap.size = N := ⟨_, rfl⟩
      obtain ⟨wN, hwN⟩ : ∃ wN, w3.alloc (.cells #[.int .i64 kd, .int .i64 ps, .string nm, .string lb, .string ty, .int .i64 op, .int .i64 it, .string tx, .int .i64 zz] 42) = wN := ⟨_, rfl⟩
      have B23 : Below wr.heap.size wr w3 := hb2.trans (hb3.mono hb2.size)
      have BrN : Below wr.heap.size wr wN := by rw [← hwN]; exact B23.alloc B23.size _
      have bN : Hid (Below w.heap.size w wN) := hB.out.trans (BrN.mono hB.out.size)
      have o3N : Hid (wN.ownsRow w.heap.size 42 9 (.slice p3 acc.length c3) acc.length (flat (half acc))) := own_stays ho3.out BrN
      have o4N : Hid (wN.ownsRow w.heap.size 3 1 (.slice p4 n c4) n (nv O)) := own_stays ho4.out BrN
      have bxN : Hid (wN.heap[N]? = some (.cells #[.int .i64 kd, .int .i64 ps, .string nm, .string lb, .string ty, .int .i64 op, .int .i64 it, .string tx, .int .i64 zz] 42 (0, 0))) := by rw [← hwN, ← hN]; exact heap_alloc_new _ _
      have hNe : Hid (some N ≠ (Value.slice p3 acc.length c3).ownBlock) := fun e => by
       have := Lx.own_lt ho3.out N e.symm
       have := B23.size
       omega
      have zN : Hid (N < wN.heap.size) := by rw [← hwN, ← hN]; show _ < _; simp
      have HC36 : Hid (Calls Tryz.prog 36 #[.slice p3 acc.length c3, .slice qo (n - d) co] wN fun e w'' => e = .returned (.tuple #[]) ∧ w''.ownsRow w.heap.size 42 9 (.slice p3 acc.length c3) acc.length (flat (closeL (half acc) (O.drop d))) ∧ wN.grownBy w'' (Value.slice p3 acc.length c3).ownBlock) := HCR.out wN o3N.out o4N.out
      rw [hwN, hN]
      clear hwN B23 BrN hb2 hb3 b2 ho3 ho4 HCR HC HL0 hN
      have hge3 : Hid (∀ k, (Value.slice p3 acc.length c3).ownBlock = some k → w.heap.size ≤ k) := own_ge o3N.out
      go_upto_region 13 with (first
       | (go_at_call 36; refine HC36.out.mono ?_; rintro e w4 ⟨rfl, o34, g4⟩)
       | go_in)
      have b4 : Hid (Below w.heap.size w w4) := bN.out.grown g4 bN.out.size hge3.out
      have o44 : Hid (w4.ownsRow w.heap.size 3 1 (.slice p4 n c4) n (nv O)) := own_grown o4N.out o3N.out (by decide) g4
      have bx4 : Hid (w4.heap[N]? = some (.cells #[.int .i64 kd, .int .i64 ps, .string nm, .string lb, .string ty, .int .i64 op, .int .i64 it, .string tx, .int .i64 zz] 42 (0, 0))) := (g4.block N zN.out hNe.out).trans bxN.out
      have o4t : Hid (w4.ownsRow w.heap.size 3 1 (.slice p4 d c4) d (iv ((O.take d).map fun (n : Nat) => (n : Int)))) := own_take o44.out HOn.out hdl
      have HTD : ((O.take d).map fun (n : Nat) => (n : Int)).length = d := by rw [List.length_map, List.length_take, HOn.out]; omega
      have O34 : Hid (w4.ownsRow w.heap.size 42 9 (.slice p3 acc.length c3) acc.length (flat (closeL (half acc) (O.drop d)))) := o34
      clear o34 g4 o4N o3N bxN bN hNe zN HC36 hge3 o44
      have hz4 := b4.out.size
      go_upto_region 14 with (first
       | (at_builtin; refine wpList_appZ (by rfl) _ _ (by rfl) w.heap.size _ ((O.take d).map fun (n : Nat) => (n : Int)) d HTD ((acc.length : Nat) : Int) (by rfl) (by rfl) o4t (by omega) hz4 ?_; intro v5 w5 ho5 hk5)
       | go_in)
      have b5 : Hid (Below w.heap.size w w5) := b4.out.trans hk5.out.1
      have o35 : Hid (w5.ownsRow w.heap.size 42 9 (.slice p3 acc.length c3) acc.length (flat (closeL (half acc) (O.drop d)))) := own_other hk5.out.2 O34.out (by decide)
      have bx5 : w5.heap[N]? = some (.cells #[.int .i64 kd, .int .i64 ps, .string nm, .string lb, .string ty, .int .i64 op, .int .i64 it, .string tx, .int .i64 zz] 42 (0, 0)) := hk5.out.2 N _ bx4.out (by simp) (fun c' fz' q => by injection q with _ q2 _; exact absurd q2 (by decide))
      have n0 : w5.cell? ⟨N, 0, none⟩ = some (.int .i64 kd) := cell_blk bx5 0 _ rfl
      have n1 : w5.cell? ⟨N, 1, none⟩ = some (.int .i64 ps) := cell_blk bx5 1 _ rfl
      have n2 : w5.cell? ⟨N, 2, none⟩ = some (.string nm) := cell_blk bx5 2 _ rfl
      have n3 : w5.cell? ⟨N, 3, none⟩ = some (.string lb) := cell_blk bx5 3 _ rfl
      have n4 : w5.cell? ⟨N, 4, none⟩ = some (.string ty) := cell_blk bx5 4 _ rfl
      have n5 : w5.cell? ⟨N, 5, none⟩ = some (.int .i64 op) := cell_blk bx5 5 _ rfl
      have n6 : w5.cell? ⟨N, 6, none⟩ = some (.int .i64 it) := cell_blk bx5 6 _ rfl
      have n7 : w5.cell? ⟨N, 7, none⟩ = some (.string tx) := cell_blk bx5 7 _ rfl
      have n8 : w5.cell? ⟨N, 8, none⟩ = some (.int .i64 zz) := cell_blk bx5 8 _ rfl
      clear bx5 bx4 O34 hk5 o4t b4
      have hz5 := b5.out.size
      have hcl2 : (closeL (half acc) (O.drop d)).length = acc.length := by rw [closeL_len, HHL.out]
      go_wp2_with (first
       | (at_builtin; refine wpList_appN (by rfl) _ _ (by rfl) w.heap.size _ (closeL (half acc) (O.drop d)) acc.length hcl2 ⟨kd, ps, nm, lb, ty, op, it, tx, zz⟩ _ (by rfl) (by rfl) (by rfl) o35 (by omega) hz5 ?_; intro v6 w6 ho6 hk6)
       | go_in)
      go_roundg (G + 1)
      case measure => omega
      case rel =>
       refine ⟨b, acc ++ [(⟨kd, ps, nm, lb, ty, op, it, tx, zz⟩, d)], rfl, ?_, ?_, HF2, HD2, ?_, ?_, ?_, b5.out.trans hk6.out.1⟩
       ·rw [List.length_cons] at htg hcl; omega
       ·rw [List.length_append, List.length_singleton]; rw [List.length_cons] at hal hcl; omega
       ·rw [Nat.add_sub_cancel]; exact HX
       ·rw [List.length_append, ← HN3.out]; exact ho6
       ·show w6.ownsRow _ _ _ _ _ _
        have h5 := own_other hk6.out.2 ho5.out (by decide)
        rw [HN4.out, List.length_append, List.length_take, HOn.out, Nat.min_eq_left hdl]
        unfold nv
        rw [List.map_append]
        exact h5
theorem readDump_all (s : ByteArray) (w : World) (T : TypeId) (p : Value) (h : RTab w T p) (hk : KwAt w) (m : Int) (hm : w.cell? ⟨4, 0, none⟩ = some (.int .i64 m)) :
 Calls Tryz.prog 19 #[.string s] w fun e w' => Hid (ReadPost w.heap.size T p (readS s.data.toList) e w') ∧ Below w.heap.size w w' := by
 by_cases hs : s.size ≤ 4194304
 ·exact readDump_any s w T p h hk m hm hs
 ·refine (readDump_big s w T p h.n (by omega)).mono ?_
  rintro e w' ⟨h1, h2⟩
  refine ⟨?_, h2⟩
  rw [cont_big _ (by rw [← Lib.size_eq]; omega)]
  exact h1
theorem own_slice {w : World} {b sz n : Nat} {t : TypeId} {v : Value} {xs : List Value} (h : w.ownsRow b t sz v n xs) : ∃ p c, v = .slice p n c := by
 rcases h.2 with ⟨rfl, hn⟩ | ⟨g, cap, cur, hv, _⟩
 ·exact ⟨none, 0, by rw [hn]⟩
 ·exact ⟨_, cap, hv⟩
theorem two_cells {w : World} {A : Nat} {x y : Value} (u v : Value) (cA : w.cell? ⟨A, 0, none⟩ = some x) (cB : w.cell? ⟨A + 1, 0, none⟩ = some y) :
 ((w.setCell ⟨A, 0, none⟩ u).setCell ⟨A + 1, 0, none⟩ v).cell? ⟨A, 0, none⟩ = some u ∧ ((w.setCell ⟨A, 0, none⟩ u).setCell ⟨A + 1, 0, none⟩ v).cell? ⟨A + 1, 0, none⟩ = some v := by
 constructor
 ·rw [World.cell?_setCell_other _ _ _ _ (fun e => by injection e with e; omega)]
  exact World.cell?_setCell_same' _ _ _ (by rw [cA]; rfl)
 ·exact World.cell?_setCell_same' _ _ _ (by rw [World.cell?_setCell_other _ _ _ _ (fun e => by injection e with e; omega), cB]; rfl)
def LoadPost (b : Nat) (R : Option (List Nd)) (e : Ending) (w' : World) : Prop :=
 match R with
 | none => e = .returned (.tuple #[.agg #[.slice none 0 0], .int .i64 31])
 | some L => ∃ v, e = .returned (.tuple #[.agg #[v], .int .i64 0]) ∧ w'.ownsRow b 42 9 v L.length (flat L)
theorem load_any (s : ByteArray) (w : World) (q : Addr) (h : RTab w 169 (.pointer (some q))) (hk : KwAt w) (m : Int) (hm : w.cell? ⟨4, 0, none⟩ = some (.int .i64 m)) :
 Calls Tryz.prog 9 #[.string s] w fun e w' => Hid (LoadPost w.heap.size (readS s.data.toList) e w') ∧ Below w.heap.size w w' := by
 have hw15 := h.size
 have hmf : ∀ (fn : Fn) (first cap : Array Value) (w : World), (Instr.makeFunc fn first cap).run Tryz.prog w = .ok (.func fn first cap) w := fun _ _ _ _ => rfl
 obtain ⟨w1, hw1⟩ : ∃ w1, (w.alloc (.cells #[.slice none 0 0] 24)).alloc (.cells #[.int .i64 0] 28) = w1 := ⟨_, rfl⟩
 have B1 : Hid (Below w.heap.size w w1) := by rw [← hw1]; exact ((Below.refl _ w).alloc (Nat.le_refl _) _).alloc (by simp) _
 have cA : w1.cell? ⟨w.heap.size, 0, none⟩ = some (.slice none 0 0) := by rw [← hw1, World.cell?_alloc_lt _ _ _ (by simp)]; exact cell_new _ _ _ _ _ rfl
 have cB : w1.cell? ⟨w.heap.size + 1, 0, none⟩ = some (.int .i64 0) := by
  rw [← hw1]
  have := cell_new (w.alloc (.cells #[.slice none 0 0] 24)) #[.int .i64 0] 28 0 _ rfl
  rwa [show (w.alloc (.cells #[.slice none 0 0] 24)).heap.size = w.heap.size + 1 by simp] at this
 have fA : w1.frozen? ⟨w.heap.size, 0, none⟩ = false := by
  rw [← hw1, ((Below.refl _ (w.alloc (.cells #[.slice none 0 0] 24))).alloc (Nat.le_refl _) _).frozen (p := ⟨w.heap.size, 0, none⟩) (by simp)]
  simp only [World.frozen?, heap_alloc_new w (.cells #[.slice none 0 0] 24)]
  simp
 have fB : w1.frozen? ⟨w.heap.size + 1, 0, none⟩ = false := by
  rw [← hw1]
  have hh := heap_alloc_new (w.alloc (.cells #[.slice none 0 0] 24)) (.cells #[.int .i64 0] 28)
  rw [show (w.alloc (.cells #[.slice none 0 0] 24)).heap.size = w.heap.size + 1 by simp] at hh
  simp only [World.frozen?, hh]
  simp
 have z1 : w.heap.size + 1 < w1.heap.size := by rw [← hw1]; simp
 have HD : Hid (Calls Tryz.prog 19 #[.string s] w1 fun e w' => Hid (ReadPost w1.heap.size 169 (.pointer (some q)) (readS s.data.toList) e w') ∧ Below w1.heap.size w1 w') := readDump_all s w1 _ _ (h.next B1.out) (hk.next B1.out) m ((B1.out.cell (p := ⟨4, 0, none⟩) (by show 4 < w.heap.size; omega)).trans hm)
 have HN : Hid (∀ w', Below w.heap.size w w' → w'.cell? ⟨0, 0, none⟩ = some (.iface 169 (.pointer (some q)))) := fun w' hb => h.n.next hb
 have HCL : Hid (∀ w', Below w1.heap.size w1 w' → w'.cell? ⟨w.heap.size, 0, none⟩ = some (.slice none 0 0) ∧ w'.cell? ⟨w.heap.size + 1, 0, none⟩ = some (.int .i64 0) ∧ w'.frozen? ⟨w.heap.size, 0, none⟩ = false ∧ w'.frozen? ⟨w.heap.size + 1, 0, none⟩ = false) := fun w' hb =>
  ⟨(hb.cell (p := ⟨w.heap.size, 0, none⟩) (by show w.heap.size < _; omega)).trans cA, (hb.cell (p := ⟨w.heap.size + 1, 0, none⟩) z1).trans cB, (hb.frozen (p := ⟨w.heap.size, 0, none⟩) (by show w.heap.size < _; omega)).trans fA, (hb.frozen (p := ⟨w.heap.size + 1, 0, none⟩) z1).trans fB⟩
 clear h hk hm cA cB fA fB
 cases hR : readS s.data.toList with
 | none =>
  rw [hR] at HD
  go_enter_defers Tryz.func9, Tryz.ntmps9
  go_wp2_with (first
   | (go_at_call 19; refine HD.out.mono ?_; rintro e w2 ⟨he, hb2⟩; obtain rfl : e = _ := he.out)
   | go_in)
  obtain ⟨c1, c2, f1, f2⟩ := HCL.out w2 hb2
  have b2 : Below w.heap.size w w2 := B1.out.trans (hb2.mono B1.out.size)
  refine leaves_cons (f := 18) (args := #[.pointer (some ⟨w.heap.size, 0, none⟩), .pointer (some ⟨w.heap.size + 1, 0, none⟩)]) (by simp) (by simp [go_sem]) ?_
  refine (catch_panicking w.heap.size (w.heap.size + 1) _ _ q w2 (HN.out w2 b2) c1 c2 f1 f2 (by omega)).mono ?_
  rintro e u' w'' ⟨rfl, rfl, rfl⟩
  obtain ⟨d1, d2⟩ := two_cells (.slice none 0 0) (.int .i64 31) c1 c2
  have b3 : Hid (LoadPost w.heap.size none (.returned (.tuple #[.agg #[.slice none 0 0], .int .i64 31])) ((w2.setCell ⟨w.heap.size, 0, none⟩ (.slice none 0 0)).setCell ⟨w.heap.size + 1, 0, none⟩ (.int .i64 31))) ∧ Below w.heap.size w ((w2.setCell ⟨w.heap.size, 0, none⟩ (.slice none 0 0)).setCell ⟨w.heap.size + 1, 0, none⟩ (.int .i64 31)) := ⟨(rfl : _ = _), (b2.setCell (p := ⟨w.heap.size, 0, none⟩) (Nat.le_refl _) _).setCell (p := ⟨w.heap.size + 1, 0, none⟩) (Nat.le_succ _) _⟩
  simp [Leaves, settle, results, Tryz.results9, go_sem, d1, d2]
  exact b3
 | some L =>
  rw [hR] at HD
  go_enter_defers Tryz.func9, Tryz.ntmps9
  go_wp2_with (first
   | (go_at_call 19; refine HD.out.mono ?_; rintro e w2 ⟨he, hb2⟩; obtain ⟨v, rfl, ho⟩ := he.out; obtain ⟨pv, cv, hv⟩ := own_slice ho; subst hv; obtain ⟨c1, c2, f1, f2⟩ := HCL.out w2 hb2)
   | go_in)
  have b2 : Below w.heap.size w w2 := B1.out.trans (hb2.mono B1.out.size)
  have b3 : Below w.heap.size w ((w2.setCell ⟨w.heap.size, 0, none⟩ (.slice pv L.length cv)).setCell ⟨w.heap.size + 1, 0, none⟩ (.int .i64 0)) := (b2.setCell (p := ⟨w.heap.size, 0, none⟩) (Nat.le_refl _) _).setCell (p := ⟨w.heap.size + 1, 0, none⟩) (Nat.le_succ _) _
  have o3 := Lx.own_base (b' := w.heap.size) (ownsRow_setCell_below (ownsRow_setCell_below ho (a := ⟨w.heap.size, 0, none⟩) (by show w.heap.size < _; omega) (.slice pv L.length cv)) (a := ⟨w.heap.size + 1, 0, none⟩) z1 (.int .i64 0)) (by omega)
  refine leaves_cons (f := 18) (args := #[.pointer (some ⟨w.heap.size, 0, none⟩), .pointer (some ⟨w.heap.size + 1, 0, none⟩)]) (by simp) (by simp [go_sem]) ?_
  refine (catch_idle w.heap.size (w.heap.size + 1) q _ (HN.out _ b3)).mono ?_
  rintro e u' w'' ⟨rfl, rfl, rfl⟩
  obtain ⟨d1, d2⟩ := two_cells (.slice pv L.length cv) (.int .i64 0) c1 c2
  have b4 : Hid (LoadPost w.heap.size (some L) (.returned (.tuple #[.agg #[.slice pv L.length cv], .int .i64 0])) ((w2.setCell ⟨w.heap.size, 0, none⟩ (.slice pv L.length cv)).setCell ⟨w.heap.size + 1, 0, none⟩ (.int .i64 0))) ∧ Below w.heap.size w ((w2.setCell ⟨w.heap.size, 0, none⟩ (.slice pv L.length cv)).setCell ⟨w.heap.size + 1, 0, none⟩ (.int .i64 0)) := ⟨⟨_, rfl, o3⟩, b3⟩
  simp [Leaves, settle, results, Tryz.results9, go_sem, d1, d2]
  exact b4
end Go.Proofs.YtekgnogjfggnmaaGreatDoor
