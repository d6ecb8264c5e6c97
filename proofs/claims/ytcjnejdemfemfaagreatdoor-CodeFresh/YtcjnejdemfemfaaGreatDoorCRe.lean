import Derived.Test.YtcjnejdemfemfaaGreatDoorCRt
namespace Go.Proofs.YtcjnejdemfemfaaGreatDoor
open Go.RowKit

theorem rdE_eq (s : Rs) : rdE s = (⟨YtcjnejdemfemfaaGreatDoor.bk (rdT s).1, (rdN 4 (rdT s).2).1, (rdN 1 (rdN 4 (rdT s).2).2).1, (rep (rdN 1) (rdC 1 250 (rdN 1 (rdN 4 (rdT s).2).2).2).1 (rdC 1 250 (rdN 1 (rdN 4 (rdT s).2).2).2).2).1, (rdN 1 (rep (rdN 1) (rdC 1 250 (rdN 1 (rdN 4 (rdT s).2).2).2).1 (rdC 1 250 (rdN 1 (rdN 4 (rdT s).2).2).2).2).2).1⟩, (rdN 1 (rep (rdN 1) (rdC 1 250 (rdN 1 (rdN 4 (rdT s).2).2).2).1 (rdC 1 250 (rdN 1 (rdN 4 (rdT s).2).2).2).2).2).2) := rfl
theorem rdC_le (n m : Nat) (hn : n ≤ 7) (s : Rs) : (rdC n m s).1 ≤ m := by
  unfold rdC
  split
  · exact Nat.zero_le _
  · simp only; have := rdN_rng n hn s; omega
abbrev ev (nm : ByteArray) (st pr : Int) (s : Value) (rs : Int) : Array Value := #[.string nm, .int .i64 st, .int .i64 pr, s, .int .i64 rs]
/-- What entry gives: its sorts are a row of their own. -/
structure EnG (w W : World) (rb : Nat) (x : Em) (st : Rs) : Prop where
  rd : Rd W rb st
  kp : Kp (fun y => y = rb) w W
  own : W.ownsRow w.heap.size 41 1 (.slice x.2.1 x.1.sorts.length x.2.2) x.1.sorts.length (sv x.1.sorts)
set_option maxRecDepth 100000 in
set_option maxHeartbeats 4000000 in
theorem entry_f (w : World) (rb : Nat) (st : Rs) (h : Rd w rb st) :
    Calls Tryz.prog 47 #[.pointer (some ⟨rb, 0, none⟩)] w fun e w' => ∃ q cp, e = .returned (.agg (ec ((rdE st).1, q, cp)).toArray) ∧ Hid (EnG w w' rb ((rdE st).1, q, cp) (rdE st).2) := by
  obtain ⟨R, HR⟩ : ∃ R, Hid (R = rdE st) := ⟨_, rfl⟩
  rw [← HR.out]
  have hE := rdE_eq st
  have hrb := h.lt
  obtain ⟨W0, hW0⟩ : ∃ W0, W0 = w.alloc (.cells (ev e0 0 0 (.slice none 0 0) 0) 43) := ⟨_, rfl⟩
  have nb : Below w.heap.size w W0 := by rw [hW0]; exact (Below.refl _ w).alloc (Nat.le_refl _) _
  have P0 : W0.heap[w.heap.size]? = some (.cells (ev e0 0 0 (.slice none 0 0) 0) 43) := by rw [hW0]; exact World.alloc_heap_new w _
  have hz0 : W0.heap.size = w.heap.size + 1 := by rw [hW0]; simp
  have n1 := text_f W0 rb st (h.next nb)
  generalize hq : rdT st = N1 at *
  obtain ⟨nl, st1⟩ := N1
  simp only at hE n1
  have HE : Hid (R = _) := HR.out.trans hE
  generalize YtcjnejdemfemfaaGreatDoor.bk nl = nm at *
  clear hE HR hq
  go_enter Tryz.func47, Tryz.ntmps47
  go_upto_region 1 with fail
  rw [← hW0]
  clear hW0
  go_wp2_with fail
  refine n1.mono ?_
  rintro e W1 ⟨rfl, hw1⟩
  obtain ⟨r1, k1⟩ := hw1.out
  have P1 := (k1.block w.heap.size (by omega) (by omega)).trans P0
  have hz1 : w.heap.size < W1.heap.size := by have := k1.size; omega
  obtain ⟨W2, hW2⟩ : ∃ W2, W2 = W1.alloc (.cells (ev nm 0 0 (.slice none 0 0) 0) 43) := ⟨_, rfl⟩
  have nb2 : Below W1.heap.size W1 W2 := by rw [hW2]; exact (Below.refl _ W1).alloc (Nat.le_refl _) _
  have HM2 : Hid (Mk w W2 rb w.heap.size W1.heap.size (ev e0 0 0 (.slice none 0 0) 0) (ev nm 0 0 (.slice none 0 0) 0) 43 st1) :=
    ⟨r1.next nb2, ((Kp.of nb).trans k1 (fun _ _ q => q)).next nb2, (nb2.block _ hz1).trans P1, by rw [hW2]; exact World.alloc_heap_new W1 _, by omega, by omega, by omega, Nat.le_refl _, by omega⟩
  clear n1 P0 P1 hw1 k1 r1 nb nb2
  go_upto_region 2 with fail
  rw [← hW2]
  clear hW2
  generalize W1.heap.size = p3 at *
  have n2 := number_f W2 rb 4 st1 HM2.out.rd (by decide)
  generalize rdN 4 st1 = N2 at *
  obtain ⟨va, st2⟩ := N2
  simp only at n2 HE
  go_wp2_with fail
  refine n2.mono ?_
  rintro e W3 ⟨rfl, hw3⟩
  have HM3 : Hid (Mk w W3 rb w.heap.size p3 (ev e0 0 0 (.slice none 0 0) 0) (ev nm 0 0 (.slice none 0 0) 0) 43 st2) := HM2.out.call hw3.out.1 hw3.out.2
  obtain ⟨x1, y1⟩ := blk_cell HM3.out.b3 1 (.int .i64 0) rfl
  have HM4 : Hid (Mk w (W3.setCell ⟨p3, 1, none⟩ (.int .i64 va)) rb w.heap.size p3 (ev e0 0 0 (.slice none 0 0) 0) (ev nm va 0 (.slice none 0 0) 0) 43 st2) := HM3.out.set 1 _
  clear n2 hw3 HM2 HM3
  go_upto_region 3 with fail
  generalize W3.setCell ⟨p3, 1, none⟩ (.int .i64 va) = W4 at *
  have n2 := number_f W4 rb 1 st2 HM4.out.rd (by decide)
  generalize rdN 1 st2 = N2 at *
  obtain ⟨vp, st3⟩ := N2
  simp only at n2 HE
  clear x1 y1
  go_wp2_with fail
  refine n2.mono ?_
  rintro e W5 ⟨rfl, hw5⟩
  have HM5 : Hid (Mk w W5 rb w.heap.size p3 (ev e0 0 0 (.slice none 0 0) 0) (ev nm va 0 (.slice none 0 0) 0) 43 st3) := HM4.out.call hw5.out.1 hw5.out.2
  obtain ⟨x1, y1⟩ := blk_cell HM5.out.b3 2 (.int .i64 0) rfl
  have HM6 : Hid (Mk w (W5.setCell ⟨p3, 2, none⟩ (.int .i64 vp)) rb w.heap.size p3 (ev e0 0 0 (.slice none 0 0) 0) (ev nm va vp (.slice none 0 0) 0) 43 st3) := HM5.out.set 2 _
  clear n2 hw5 HM4 HM5
  go_upto_region 4 with fail
  generalize W5.setCell ⟨p3, 2, none⟩ (.int .i64 vp) = W6 at *
  have n2 := count_f W6 rb 1 250 st3 HM6.out.rd (by decide)
  have hcl := rdC_le 1 250 (by decide) st3
  generalize rdC 1 250 st3 = N2 at *
  obtain ⟨k, st4⟩ := N2
  simp only at n2 HE hcl
  clear x1 y1
  go_wp2_with fail
  refine n2.mono ?_
  rintro e W7 ⟨rfl, hw7⟩
  have HM7 : Hid (Mk w W7 rb w.heap.size p3 (ev e0 0 0 (.slice none 0 0) 0) (ev nm va vp (.slice none 0 0) 0) 43 st4) := HM6.out.call hw7.out.1 hw7.out.2
  have hki : (k : Int) ≤ 250 := by omega
  clear n2 hw7 HM6
  go_wp2_with fail
  go_loopw [15] (fun i wr => ∃ (j : Nat) (q : Option Addr) (cp : Nat), j ≤ k ∧ i = .int .i64 (j : Int) ∧ Hid (Mk w wr rb w.heap.size p3 (ev e0 0 0 (.slice none 0 0) 0) (ev nm va vp (.slice q j cp) 0) 43 (rep (rdN 1) j st4).2) ∧ Hid (wr.ownsRow w.heap.size 41 1 (.slice q j cp) j (sv (rep (rdN 1) j st4).1))) (fun i _ => k - (intOf i).toNat)
  case atStart => exact ⟨0, none, 0, Nat.zero_le _, rfl, HM7, World.ownsRow_nil _ _ _ _⟩
  case round =>
    obtain ⟨j, q, cp, hj, rfl, hM, hO⟩ := hrel
    by_cases hlt : j < k
    case neg =>
      obtain rfl : j = k := by omega
      have n2 := number_f wr rb 1 _ hM.out.rd (by decide)
      have HL := rep_len (rdN 1) j st4
      generalize rep (rdN 1) j st4 = RL at *
      obtain ⟨L, st5⟩ := RL
      simp only at n2 HE hM hO HL
      generalize rdN 1 st5 = N2 at *
      obtain ⟨vr, st6⟩ := N2
      simp only at n2 HE
      go_wp2_with fail
      refine n2.mono ?_
      rintro e W8 ⟨rfl, hw8⟩
      have hO8 := own_kp hO.out hM.out.rd (by decide) hw8.out.2
      have HM8 : Hid (Mk w W8 rb w.heap.size p3 (ev e0 0 0 (.slice none 0 0) 0) (ev nm va vp (.slice q j cp) 0) 43 st6) := hM.out.call hw8.out.1 hw8.out.2
      obtain ⟨x1, y1⟩ := blk_cell HM8.out.b3 4 (.int .i64 0) rfl
      have HM9 : Hid (Mk w (W8.setCell ⟨p3, 4, none⟩ (.int .i64 vr)) rb w.heap.size p3 (ev e0 0 0 (.slice none 0 0) 0) (ev nm va vp (.slice q j cp) vr) 43 st6) := HM8.out.set 4 _
      have hO9 : Hid ((W8.setCell ⟨p3, 4, none⟩ (.int .i64 vr)).ownsRow w.heap.size 41 1 (.slice q j cp) j (sv L)) := own_setB hO8 HM8.out.b3 (by decide) _
      clear n2 hw8 hM HM8 hO8 hO
      go_upto_region 9 with fail
      generalize W8.setCell ⟨p3, 4, none⟩ (.int .i64 vr) = W9 at *
      obtain ⟨c0, -⟩ := blk_cell HM9.out.b3 0 (.string nm) rfl
      obtain ⟨c1, -⟩ := blk_cell HM9.out.b3 1 (.int .i64 va) rfl
      obtain ⟨c2, -⟩ := blk_cell HM9.out.b3 2 (.int .i64 vp) rfl
      obtain ⟨c3, -⟩ := blk_cell HM9.out.b3 3 (.slice q j cp) rfl
      obtain ⟨c4, -⟩ := blk_cell HM9.out.b3 4 (.int .i64 vr) rfl
      obtain ⟨z0, y0⟩ := blk_cell HM9.out.b2 0 (.string e0) rfl
      obtain ⟨z1, y1⟩ := blk_cell HM9.out.b2 1 (.int .i64 0) rfl
      obtain ⟨z2, y2⟩ := blk_cell HM9.out.b2 2 (.int .i64 0) rfl
      obtain ⟨z3, y3⟩ := blk_cell HM9.out.b2 3 (.slice none 0 0) rfl
      obtain ⟨z4, y4⟩ := blk_cell HM9.out.b2 4 (.int .i64 0) rfl
      clear x1
      go_wp2
      have HF : Hid (Mk w (((((W9.setCell ⟨w.heap.size, 0, none⟩ (.string nm)).setCell ⟨w.heap.size, 1, none⟩ (.int .i64 va)).setCell ⟨w.heap.size, 2, none⟩ (.int .i64 vp)).setCell ⟨w.heap.size, 3, none⟩ (.slice q j cp)).setCell ⟨w.heap.size, 4, none⟩ (.int .i64 vr)) rb w.heap.size p3 (ev nm va vp (.slice q j cp) vr) (ev nm va vp (.slice q j cp) vr) 43 st6) := ((((HM9.out.res 0 _).res 1 _).res 2 _).res 3 _).res 4 _
      have hOF : Hid ((((((W9.setCell ⟨w.heap.size, 0, none⟩ (.string nm)).setCell ⟨w.heap.size, 1, none⟩ (.int .i64 va)).setCell ⟨w.heap.size, 2, none⟩ (.int .i64 vp)).setCell ⟨w.heap.size, 3, none⟩ (.slice q j cp)).setCell ⟨w.heap.size, 4, none⟩ (.int .i64 vr)).ownsRow w.heap.size 41 1 (.slice q j cp) j (sv L)) :=
        own_setB (own_setB (own_setB (own_setB (own_setB hO9.out HM9.out.b2 (by decide) _) (HM9.out.res 0 _).b2 (by decide) _) ((HM9.out.res 0 _).res 1 _).b2 (by decide) _) (((HM9.out.res 0 _).res 1 _).res 2 _).b2 (by decide) _) ((((HM9.out.res 0 _).res 1 _).res 2 _).res 3 _).b2 (by decide) _
      generalize ((((W9.setCell ⟨w.heap.size, 0, none⟩ (.string nm)).setCell ⟨w.heap.size, 1, none⟩ (.int .i64 va)).setCell ⟨w.heap.size, 2, none⟩ (.int .i64 vp)).setCell ⟨w.heap.size, 3, none⟩ (.slice q j cp)).setCell ⟨w.heap.size, 4, none⟩ (.int .i64 vr) = WF at *
      obtain ⟨q0, -⟩ := blk_cell HF.out.b2 0 (.string nm) rfl
      obtain ⟨q1, -⟩ := blk_cell HF.out.b2 1 (.int .i64 va) rfl
      obtain ⟨q2, -⟩ := blk_cell HF.out.b2 2 (.int .i64 vp) rfl
      obtain ⟨q3, -⟩ := blk_cell HF.out.b2 3 (.slice q j cp) rfl
      obtain ⟨q4, -⟩ := blk_cell HF.out.b2 4 (.int .i64 vr) rfl
      first | (change bodyPost Tryz.prog Tryz.f47 _ Exit.ret _ _) | (simp only [Exit.noGoto])
      refine bodyPost_ret (v := .agg (ev nm va vp (.slice q j cp) vr)) (by simp [results, Tryz.results47, go_sem, q0, q1, q2, q3, q4]) rfl ⟨q, cp, ?_, ?_⟩
      · rw [HE.out]
        show _ = Ending.returned (.agg #[.string nm, .int .i64 va, .int .i64 vp, .slice q L.length cp, .int .i64 vr])
        rw [HL]
      · rw [HE.out]
        refine ⟨HF.out.rd, HF.out.kp, ?_⟩
        show WF.ownsRow w.heap.size 41 1 (.slice q L.length cp) L.length (sv L)
        rw [HL]
        exact hOF.out
    have hrs := rep_succ (rdN 1) j st4
    have HR1 : Hid ((rep (rdN 1) (j + 1) st4).1 = (rep (rdN 1) j st4).1 ++ [(rdN 1 (rep (rdN 1) j st4).2).1] ∧ (rep (rdN 1) (j + 1) st4).2 = (rdN 1 (rep (rdN 1) j st4).2).2) := hrs
    have bd : Below wr.heap.size wr wr.drew := (Below.refl _ wr).drew
    have hMd := hM.out.next bd
    have hOd := own_next hO.out bd
    have n2 := number_v wr.drew rb 1 _ hMd.rd (by decide)
    generalize rep (rdN 1) j st4 = RL at *
    obtain ⟨L, st5⟩ := RL
    simp only at n2 hM hO HR1 hMd hOd
    generalize rdN 1 st5 = N2 at *
    obtain ⟨vr, st6⟩ := N2
    simp only at n2 HR1
    obtain ⟨x3, -⟩ := blk_cell hM.out.b3 3 (.slice q j cp) rfl
    have HW8 : Hid (∀ W8, (Rd W8 rb st6 ∧ Kp (fun x => x = rb) wr.drew W8) → Mk w W8 rb w.heap.size p3 (ev e0 0 0 (.slice none 0 0) 0) (ev nm va vp (.slice q j cp) 0) 43 st6 ∧ W8.ownsRow w.heap.size 41 1 (.slice q j cp) j (sv L)) := fun W8 hw => ⟨hMd.call hw.1 hw.2, own_kp hOd hMd.rd (by decide) hw.2⟩
    have HWA : Hid (∀ W8 W9, Mk w W8 rb w.heap.size p3 (ev e0 0 0 (.slice none 0 0) 0) (ev nm va vp (.slice q j cp) 0) 43 st6 → W8.ownsRow w.heap.size 41 1 (.slice q j cp) j (sv L) → (W8.alloc (.cells #[.int .i64 vr] 41)).grownBy W9 (Value.slice q j cp).ownBlock → Mk w W9 rb w.heap.size p3 (ev e0 0 0 (.slice none 0 0) 0) (ev nm va vp (.slice q j cp) 0) 43 st6) := fun W8 W9 hm ho hg => by
      have nb : Below W8.heap.size W8 (W8.alloc (.cells #[.int .i64 vr] 41)) := (Below.refl _ W8).alloc (Nat.le_refl _) _
      refine (hm.next nb).grown hg (fun g hg' => ⟨own_ge ho g hg', fun e => ?_, fun e => ?_, fun e => ?_⟩)
      · subst e; exact own_ne ho (b := w.heap.size) (t := 43) (m := 5) ⟨_, hm.b2, Nat.le_refl _⟩ (by decide) hg'
      · subst e; exact own_ne ho (b := g) (t := 43) (m := 5) ⟨_, hm.b3, Nat.le_refl _⟩ (by decide) hg'
      · subst e; exact own_ne ho (b := g) (t := 56) (m := 2) ⟨_, hm.rd.1, Nat.le_refl _⟩ (by decide) hg'
    have H1 : Hid (∀ u ∈ ([.int .i64 vr] : List Value), u.oneCell' = true) := fun u hu => by obtain rfl := List.mem_singleton.1 hu; rfl
    have j0 : (j : Int) < (k : Int) := by omega
    clear hrs bd hMd hOd hM hO HE
    go_wp2_with fail
    go_region_law (first
      | (refine step_call (by rfl) 23 [.tmp 19, .const (.int .i64 1)] #[92, 3] [.pointer (some ⟨rb, 0, none⟩), .int .i64 1] (by rfl) (by rfl) (callr _ _) _ n2 ?_; rintro v8 W8 ⟨rfl, hw8⟩; obtain ⟨m8, o8⟩ := HW8.out W8 hw8.out; obtain ⟨x8, -⟩ := blk_cell m8.b3 3 (.slice q j cp) rfl; obtain ⟨x8a, -⟩ := blk_cell (m8.next ((Below.refl _ W8).alloc (Nat.le_refl _) (.cells #[.int .i64 vr] 41))).b3 3 (.slice q j cp) rfl)
      | (refine step_app 40 41 _ 1 8 Tryz.underlying40 infoSort (by rfl) (by decide) (by decide) (by rfl) _ _ (by rfl) w.heap.size (.slice q j cp) j (sv L) (by rfl) (own_next o8 ((Below.refl _ W8).alloc (Nat.le_refl _) _)) W8.heap.size [.int .i64 vr] rfl H1.out (by rfl) (range_new W8 _ _) (by omega) (by have := o8; have := m8.kp.size; simp; omega) ?_; intro v9 W9 ho9 hg9; have m9 := HWA.out W8 W9 m8 o8 hg9.out.1; obtain ⟨x9, y9⟩ := blk_cell m9.b3 3 (.slice q j cp) rfl; obtain ⟨q9, c9, rfl, -, -⟩ := own_slice ho9.out))
    all_goals
      have HM10 : Hid (Mk w (W9.setCell ⟨p3, 3, none⟩ (.slice q9 (j + 1) c9)) rb w.heap.size p3 (ev e0 0 0 (.slice none 0 0) 0) (ev nm va vp (.slice q9 (j + 1) c9) 0) 43 st6) := m9.set 3 _
      have hO10 : Hid ((W9.setCell ⟨p3, 3, none⟩ (.slice q9 (j + 1) c9)).ownsRow w.heap.size 41 1 (.slice q9 (j + 1) c9) (j + 1) (sv L ++ [.int .i64 vr])) := own_setB ho9.out m9.b3 (by decide) _
      clear m9 ho9 hg9 x8 x8a x9 y9 m8 o8 hw8 HWA HW8 n2 x3
      generalize W9.setCell ⟨p3, 3, none⟩ (.slice q9 (j + 1) c9) = W10 at *
      go_wp2
      exact ⟨⟨j + 1, q9, c9, by omega, by go_num, by rw [HR1.out.2]; exact HM10, by rw [HR1.out.1, sv_app]; exact hO10⟩, by simp [intOf]; omega⟩
end Go.Proofs.YtcjnejdemfemfaaGreatDoor

