import Derived.Test.YtekgnogjfggnmaaGreatDoorM44
namespace Go.Proofs.YtekgnogjfggnmaaGreatDoor
open Go.RowKit

/-! readLine. -/

theorem words_no (l : List UInt8) (w : World) (T : TypeId) (p : Value) (h : RTab w T p) (hl : l.length ≤ 4194304) (hn : wordsS l = none) : Calls Tryz.prog 63 #[.string (bk l)] w fun e w' => Out e T p ∧ Below w.heap.size w w' := by
  have := readWords_any (bk l) w T p h (by rw [bk_size]; exact hl)
  rw [bk_list, hn] at this
  exact this.mono fun e w' q => ⟨q.1.out, q.2⟩
theorem words_yes (l : List UInt8) (x : Nd) (w : World) (T : TypeId) (p : Value) (h : RTab w T p) (hl : l.length ≤ 4194304) (hn : wordsS l = some x) : Calls Tryz.prog 63 #[.string (bk l)] w fun e w' => e = .returned (.agg (ndV x)) ∧ Below w.heap.size w w' := by
  have := readWords_any (bk l) w T p h (by rw [bk_size]; exact hl)
  rw [bk_list, hn] at this
  exact this.mono fun e w' q => ⟨q.1.out, q.2⟩

set_option maxRecDepth 100000 in
theorem ret9i {w : World} {B : Nat} {y : Nd} {d : Value} {tm : Array Value} (h : NodeAt w B y) (h2 : tm[2]?.getD undef = .pointer (some ⟨B, 0, none⟩)) (h3 : tm[3]?.getD undef = d) : (results Tryz.f35 tm).run Tryz.prog w = .ok (.tuple #[.agg (ndV y), d]) w := by
  obtain ⟨kd, ps, nm, lb, ty, op, it, tx, zz⟩ := y
  have c0 : w.cell? ⟨B, 0, none⟩ = some (.int .i64 kd) := h.c 0 _ rfl
  have c1 : w.cell? ⟨B, 1, none⟩ = some (.int .i64 ps) := h.c 1 _ rfl
  have c2 : w.cell? ⟨B, 2, none⟩ = some (.string nm) := h.c 2 _ rfl
  have c3 : w.cell? ⟨B, 3, none⟩ = some (.string lb) := h.c 3 _ rfl
  have c4 : w.cell? ⟨B, 4, none⟩ = some (.string ty) := h.c 4 _ rfl
  have c5 : w.cell? ⟨B, 5, none⟩ = some (.int .i64 op) := h.c 5 _ rfl
  have c6 : w.cell? ⟨B, 6, none⟩ = some (.int .i64 it) := h.c 6 _ rfl
  have c7 : w.cell? ⟨B, 7, none⟩ = some (.string tx) := h.c 7 _ rfl
  have c8 : w.cell? ⟨B, 8, none⟩ = some (.int .i64 zz) := h.c 8 _ rfl
  simp [results, Tryz.results35, go_sem, h2, h3, c0, c1, c2, c3, c4, c5, c6, c7, c8, ndV]

set_option maxRecDepth 100000 in
set_option maxHeartbeats 4000000 in
theorem readLine_any (s : ByteArray) (w : World) (T : TypeId) (p : Value) (h : RTab w T p) (hs : s.size ≤ 4194304) :
    Calls Tryz.prog 35 #[.string s] w fun e w' => Hid (Ans e T p ((lineS s.data.toList).map fun q => .tuple #[.agg (ndV q.1), .int .i64 ((q.2 : Nat) : Int)])) ∧ Below w.heap.size w w' := by
  have hw15 := h.size
  have hz := Lib.size_eq s
  obtain ⟨l, hl⟩ : ∃ l, s.data.toList = l := ⟨_, rfl⟩
  rw [hl] at hz ⊢
  obtain ⟨t, ht⟩ : ∃ t, told l = t := ⟨_, rfl⟩
  have htl := told_le l
  have hbn : bln l = l.length - t.length := by rw [← ht]; rfl
  rw [ht] at htl
  obtain ⟨bt, hbt⟩ : ∃ bt, bk t = bt := ⟨_, rfl⟩
  have hbs : bt.size = t.length := by rw [← hbt]; exact bk_size t
  have HTL : Hid (∀ w', Calls Tryz.prog 61 #[.string s, .string ⟨#[32]⟩] w' fun e w'' => e = .returned (.string bt) ∧ w'' = w') := fun w' => by
    have := Tryz.strings_TrimLeft_one s 32 (by decide) w'
    rw [hl, told_trim, ht] at this
    rw [← hbt]
    exact this
  have HLI : Hid (∀ w', Calls Tryz.prog 62 #[.string bt, .string ⟨#[32, 64]⟩] w' fun e w'' => e = .returned (.int .i64 (Lib.lastIndex t [32, 64])) ∧ w'' = w') := fun w' => by
    have := Tryz.strings_LastIndex bt ⟨#[32, 64]⟩ (by omega) w'
    rw [← hbt, bk_list] at this
    rw [← hbt]
    exact this
  obtain ⟨w1, hw1⟩ : ∃ w1, w.alloc (.cells (ndV ⟨0, 0, ⟨#[]⟩, ⟨#[]⟩, ⟨#[]⟩, 0, 0, ⟨#[]⟩, 0⟩) 42) = w1 := ⟨_, rfl⟩
  have B1 : Hid (Below w.heap.size w w1) := by rw [← hw1]; exact (Below.refl _ w).alloc (Nat.le_refl _) _
  have A1 : Hid (NodeAt w1 w.heap.size ⟨0, 0, ⟨#[]⟩, ⟨#[]⟩, ⟨#[]⟩, 0, 0, ⟨#[]⟩, 0⟩) := by rw [← hw1]; exact NodeAt.new _ _ _
  have hn1 : w1.cell? ⟨0, 0, none⟩ = some (.iface T p) := h.n.next B1.out
  have HT : Hid (∀ w', Below w.heap.size w w' → RTab w' T p) := fun w' hb => h.next hb
  obtain ⟨n, hn⟩ : ∃ n, bln l = n := ⟨_, rfl⟩
  have hwr : IntKind.i64.wrap ((s.size : Int) - (bt.size : Int)) = (n : Int) := by rw [IntKind.wrap_i64]; omega
  have HR : Hid (lineS l = if n % 2 ≠ 0 then none else (lastSp t).bind fun q => (wordsS q.1).bind fun x => (numS q.2).map fun v => ({ x with pos := v }, n / 2)) := by
    show _ = _
    unfold lineS
    rw [hn, ht]
  have HN : Hid (n = l.length - t.length) := by rw [← hn]; exact hbn
  have HBT : Hid (bk t = bt) := hbt
  have HZ : Hid (s.size = l.length) := hz
  have HBS : Hid (bt.size = t.length) := hbs
  clear h hl ht hbt hn hbn hz hbs
  unfold ndV at hw1
  simp only at hw1
  by_cases hodd : n % 2 ≠ 0
  · have HR2 : Hid (lineS l = none) := HR.out.trans (if_pos hodd)
    have hm : ((n : Int).tmod 2 == 0) = false := by rw [beq_eq_false_iff_ne, Int.tmod_eq_emod_of_nonneg (by omega)]; omega
    go_enter Tryz.func35, Tryz.ntmps35
    go_wp2_with (first
      | (go_at_call 61; refine (HTL.out _).mono ?_; rintro e w2 ⟨rfl, rfl⟩)
      | (go_at_call 62; refine (HLI.out _).mono ?_; rintro e w3 ⟨rfl, rfl⟩)
      | go_in)
    exact ⟨rfl, (by show Ans _ T p _; rw [HR2.out]; exact (rfl : _ = _)), B1.out⟩
  · have hev : (n : Int) % 2 = 0 := by omega
    have HR2 : Hid (lineS l = (lastSp t).bind fun q => (wordsS q.1).bind fun x => (numS q.2).map fun v => ({ x with pos := v }, n / 2)) := HR.out.trans (if_neg hodd)
    clear HR hodd
    rcases last_ix t with ⟨hix, hsp⟩ | ⟨k, hix, hkl, hsp⟩
    · have HR3 : Hid (lineS l = none) := by rw [HR2.out, hsp]; rfl
      rw [hix] at HLI
      clear hsp hix
      go_enter Tryz.func35, Tryz.ntmps35
      go_wp2_with (first
        | (go_at_call 61; refine (HTL.out _).mono ?_; rintro e w2 ⟨rfl, rfl⟩)
        | (go_at_call 62; refine (HLI.out _).mono ?_; rintro e w3 ⟨rfl, rfl⟩)
        | go_in)
      exact ⟨rfl, (by show Ans _ T p _; rw [HR3.out]; exact (rfl : _ = _)), B1.out⟩
    · rw [hix] at HLI
      have hk0 : ¬ (k : Int) < 0 := by omega
      have hk1 : (0 : Int) ≤ (k : Int) := by omega
      have hk2 : IntKind.i64.wrap ((k : Int) + 2) = (k : Int) + 2 := by rw [IntKind.wrap_i64]; have := HZ.out; omega
      have hk3 : (k : Int) ≤ (bt.size : Int) := by have := HBS.out; omega
      have hk4 : (0 : Int) ≤ (k : Int) + 2 := by omega
      have hk5 : (k : Int) + 2 ≤ (bt.size : Int) := by have := HBS.out; omega
      have R1 : ∀ wx : World, (Instr.slice 9 (.string bt) none (some (.int .i64 (k : Int))) none).run Tryz.prog wx = .ok (.string (bk (t.take k))) wx := fun wx => by
        have e1 := ext_take bt k
        rw [← HBT.out, bk_list] at e1
        rw [← e1, HBT.out]
        simp [go_sem, Tryz.underlying9, hk1, hk3]
      have R2 : ∀ wx : World, (Instr.slice 9 (.string bt) (some (.int .i64 ((k : Int) + 2))) none none).run Tryz.prog wx = .ok (.string (bk (t.drop (k + 2)))) wx := fun wx => by
        have e1 := ext_drop bt (k + 2) bt.size (Nat.le_refl _)
        rw [← HBT.out, bk_list] at e1
        rw [← e1, HBT.out]
        have e2 : ((k : Int) + 2).toNat = k + 2 := by omega
        simp [go_sem, Tryz.underlying9, hk4, hk5, e2]
      rw [hsp, Option.bind_some] at HR2
      simp only at HR2
      have hlt1 : (t.take k).length ≤ 4194304 := by rw [List.length_take]; have := HZ.out; omega
      have hlt2 : (t.drop (k + 2)).length ≤ 4194304 := by rw [List.length_drop]; have := HZ.out; omega
      generalize t.take k = t1 at R1 HR2 hlt1
      generalize t.drop (k + 2) = t2 at R2 HR2 hlt2
      clear hsp hix hkl
      cases hwd : wordsS t1 with
      | none =>
        have HR3 : Hid (lineS l = none) := by rw [HR2.out, hwd]; rfl
        have HW : Hid (Calls Tryz.prog 63 #[.string (bk t1)] w1 fun e w' => Out e T p ∧ Below w1.heap.size w1 w') := words_no t1 w1 T p (HT.out _ B1.out) hlt1 hwd
        clear hwd
        go_enter Tryz.func35, Tryz.ntmps35
        go_wp2_with (first
          | (go_at_call 61; refine (HTL.out _).mono ?_; rintro e w2 ⟨rfl, rfl⟩)
          | (go_at_call 62; refine (HLI.out _).mono ?_; rintro e w3 ⟨rfl, rfl⟩)
          | (go_at_call 63; refine HW.out.mono ?_; rintro e w5 ⟨he, hb5⟩; obtain rfl : e = _ := he)
          | go_in)
        exact ⟨rfl, (by show Ans _ T p _; rw [HR3.out]; exact (rfl : _ = _)), B1.out.trans (hb5.mono B1.out.size)⟩
      | some x =>
        have HW0 := words_yes t1 x w1 T p (HT.out _ B1.out) hlt1 hwd
        rw [hwd, Option.bind_some] at HR2
        obtain ⟨kd, ps, nm, lb, ty, op, it, tx, zz⟩ := x
        unfold ndV at HW0
        have HW : Hid (Calls Tryz.prog 63 #[.string (bk t1)] w1 fun e w' => e = .returned (.agg #[.int .i64 kd, .int .i64 ps, .string nm, .string lb, .string ty, .int .i64 op, .int .i64 it, .string tx, .int .i64 zz]) ∧ Below w1.heap.size w1 w') := HW0
        clear hwd HW0
        go_enter Tryz.func35, Tryz.ntmps35
        go_upto_region 7 with (first
          | (go_at_call 61; refine (HTL.out _).mono ?_; rintro e w2 ⟨rfl, rfl⟩)
          | (go_at_call 62; refine (HLI.out _).mono ?_; rintro e w3 ⟨rfl, rfl⟩)
          | (go_at_call 63; refine HW.out.mono ?_; rintro e w5 ⟨rfl, hb5⟩; have NA5 : Hid (NodeAt w5 w.heap.size ⟨0, 0, ⟨#[]⟩, ⟨#[]⟩, ⟨#[]⟩, 0, 0, ⟨#[]⟩, 0⟩) := A1.out.next hb5; have z0 : w5.cell? ⟨w.heap.size, 0, none⟩ = some (.int .i64 0) := NA5.out.c 0 _ rfl; have y0 := NA5.out.f 0 (by omega); have z1 : w5.cell? ⟨w.heap.size, 1, none⟩ = some (.int .i64 0) := NA5.out.c 1 _ rfl; have y1 := NA5.out.f 1 (by omega); have z2 : w5.cell? ⟨w.heap.size, 2, none⟩ = some (.string ⟨#[]⟩) := NA5.out.c 2 _ rfl; have y2 := NA5.out.f 2 (by omega); have z3 : w5.cell? ⟨w.heap.size, 3, none⟩ = some (.string ⟨#[]⟩) := NA5.out.c 3 _ rfl; have y3 := NA5.out.f 3 (by omega); have z4 : w5.cell? ⟨w.heap.size, 4, none⟩ = some (.string ⟨#[]⟩) := NA5.out.c 4 _ rfl; have y4 := NA5.out.f 4 (by omega); have z5 : w5.cell? ⟨w.heap.size, 5, none⟩ = some (.int .i64 0) := NA5.out.c 5 _ rfl; have y5 := NA5.out.f 5 (by omega); have z6 : w5.cell? ⟨w.heap.size, 6, none⟩ = some (.int .i64 0) := NA5.out.c 6 _ rfl; have y6 := NA5.out.f 6 (by omega); have z7 : w5.cell? ⟨w.heap.size, 7, none⟩ = some (.string ⟨#[]⟩) := NA5.out.c 7 _ rfl; have y7 := NA5.out.f 7 (by omega); have z8 : w5.cell? ⟨w.heap.size, 8, none⟩ = some (.int .i64 0) := NA5.out.c 8 _ rfl; have y8 := NA5.out.f 8 (by omega))
          | go_in)
        clear z0 z1 z2 z3 z4 z5 z6 z7 z8 y0 y1 y2 y3 y4 y5 y6 y7 y8
        have B5 : Below w.heap.size w w5 := B1.out.trans (hb5.mono B1.out.size)
        obtain ⟨w6, hw6⟩ : ∃ w6, (((((((((w5.setCell ⟨w.heap.size, 0, none⟩ (.int .i64 kd)).setCell ⟨w.heap.size, 1, none⟩ (.int .i64 ps)).setCell ⟨w.heap.size, 2, none⟩ (.string nm)).setCell ⟨w.heap.size, 3, none⟩ (.string lb)).setCell ⟨w.heap.size, 4, none⟩ (.string ty)).setCell ⟨w.heap.size, 5, none⟩ (.int .i64 op)).setCell ⟨w.heap.size, 6, none⟩ (.int .i64 it)).setCell ⟨w.heap.size, 7, none⟩ (.string tx)).setCell ⟨w.heap.size, 8, none⟩ (.int .i64 zz)) = w6 := ⟨_, rfl⟩
        have NA6 : Hid (NodeAt w6 w.heap.size ⟨kd, ps, nm, lb, ty, op, it, tx, zz⟩) := by rw [← hw6]; exact NA5.out.set ⟨kd, ps, nm, lb, ty, op, it, tx, zz⟩
        have B6 : Hid (Below w.heap.size w w6) := by rw [← hw6]; exact below_set9 B5 (Nat.le_refl _) _ _ _ _ _ _ _ _ _
        rw [hw6]
        clear hw6 NA5 hb5 B5 HW A1
        cases hnm : numS t2 with
        | none =>
          have HR3 : Hid (lineS l = none) := by rw [HR2.out, hnm]; rfl
          have HU : Hid (Calls Tryz.prog 64 #[.string (bk t2)] w6 fun e w' => Out e T p ∧ Below w6.heap.size w6 w') := num_no t2 w6 T p (HT.out _ B6.out) hlt2 hnm
          clear hnm
          go_wp2_with (first
            | (go_at_call 64; refine HU.out.mono ?_; rintro e w7 ⟨he, hb7⟩; obtain rfl : e = _ := he)
            | go_in)
          exact ⟨rfl, (by show Ans _ T p _; rw [HR3.out]; exact (rfl : _ = _)), B6.out.trans (hb7.mono B6.out.size)⟩
        | some v =>
          have HU : Hid (Calls Tryz.prog 64 #[.string (bk t2)] w6 fun e w' => e = .returned (.int .i64 v) ∧ Below w6.heap.size w6 w') := num_yes t2 v w6 T p (HT.out _ B6.out) hlt2 hnm
          rw [hnm] at HR2
          clear hnm
          go_upto_region 8 with (first
            | (go_at_call 64; refine HU.out.mono ?_; rintro e w7 ⟨rfl, hb7⟩; have NA7 : Hid (NodeAt w7 w.heap.size ⟨kd, ps, nm, lb, ty, op, it, tx, zz⟩) := NA6.out.next hb7; have c1 := NA7.out.c 1 _ rfl; have f1 := NA7.out.f 1 (by omega))
            | go_in)
          clear c1 f1
          obtain ⟨w8, hw8⟩ : ∃ w8, w7.setCell ⟨w.heap.size, 1, none⟩ (.int .i64 v) = w8 := ⟨_, rfl⟩
          have NA8 : Hid (NodeAt w8 w.heap.size ⟨kd, v, nm, lb, ty, op, it, tx, zz⟩) := by rw [← hw8]; exact NA7.out.pPos v
          have B8 : Hid (Below w.heap.size w w8) := by rw [← hw8]; exact (B6.out.trans (hb7.mono B6.out.size)).setCell (p := ⟨w.heap.size, 1, none⟩) (Nat.le_refl _) _
          rw [hw8]
          clear hw8 NA7 hb7 HU NA6 B6
          have n0 : w8.cell? ⟨w.heap.size, 0, none⟩ = some (.int .i64 kd) := NA8.out.c 0 _ rfl
          have y0 := NA8.out.f 0 (by omega)
          have n1 : w8.cell? ⟨w.heap.size, 1, none⟩ = some (.int .i64 v) := NA8.out.c 1 _ rfl
          have y1 := NA8.out.f 1 (by omega)
          have n2 : w8.cell? ⟨w.heap.size, 2, none⟩ = some (.string nm) := NA8.out.c 2 _ rfl
          have y2 := NA8.out.f 2 (by omega)
          have n3 : w8.cell? ⟨w.heap.size, 3, none⟩ = some (.string lb) := NA8.out.c 3 _ rfl
          have y3 := NA8.out.f 3 (by omega)
          have n4 : w8.cell? ⟨w.heap.size, 4, none⟩ = some (.string ty) := NA8.out.c 4 _ rfl
          have y4 := NA8.out.f 4 (by omega)
          have n5 : w8.cell? ⟨w.heap.size, 5, none⟩ = some (.int .i64 op) := NA8.out.c 5 _ rfl
          have y5 := NA8.out.f 5 (by omega)
          have n6 : w8.cell? ⟨w.heap.size, 6, none⟩ = some (.int .i64 it) := NA8.out.c 6 _ rfl
          have y6 := NA8.out.f 6 (by omega)
          have n7 : w8.cell? ⟨w.heap.size, 7, none⟩ = some (.string tx) := NA8.out.c 7 _ rfl
          have y7 := NA8.out.f 7 (by omega)
          have n8 : w8.cell? ⟨w.heap.size, 8, none⟩ = some (.int .i64 zz) := NA8.out.c 8 _ rfl
          have y8 := NA8.out.f 8 (by omega)
          go_wp2
          have hq : wrap64 ((n : Int) / 2) = ((n / 2 : Nat) : Int) := by
            have := HN.out
            have := HZ.out
            unfold wrap64
            omega
          refine bodyPost_ret (v := .tuple #[.agg (ndV ⟨kd, v, nm, lb, ty, op, it, tx, zz⟩), .int .i64 (wrap64 ((n : Int) / 2))]) (by exact ret9i (NA8.out.set ⟨kd, v, nm, lb, ty, op, it, tx, zz⟩) rfl rfl) (by rfl) ?_
          refine ⟨?_, below_set9 B8.out (Nat.le_refl _) _ _ _ _ _ _ _ _ _⟩
          show Ans _ T p _
          rw [HR2.out, hq]
          exact (rfl : _ = _)
end Go.Proofs.YtekgnogjfggnmaaGreatDoor
