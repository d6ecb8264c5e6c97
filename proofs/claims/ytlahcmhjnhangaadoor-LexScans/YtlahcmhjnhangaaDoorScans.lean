import Derived.BigGuard
import Derived.BigCall
import Derived.Deep.CutRange
import Derived.Test.YtlahcmhjnhangaaDoorOff
namespace Go.Proofs.YtlahcmhjnhangaaDoor
open Go.RowKit

/-- What both scanners answer of a text. -/
theorem scan_gen (t : ByteArray) : ∃ (c k : Int) (l : List (Nat × Tk)), l.length ≤ 4194305 ∧
    Hid (∀ w, Tabs w → Calls Tryd.prog 14 #[.string t] w fun x w' => ∃ v, x = .returned (.tuple #[v, .agg #[.int .i64 c, .int .i64 k]]) ∧ w'.ownsRow w.heap.size 35 5 v l.length (toksV l) ∧ Below w.heap.size w w') ∧
    Hid (∀ w, RTabs w → Calls Tryd.prog 20 #[.string t] w fun x w' => ∃ v, x = .returned (.tuple #[v, .agg #[.int .i64 c, .int .i64 k]]) ∧ w'.ownsRow w.heap.size 35 5 v l.length (toksV l) ∧ Below w.heap.size w w') := by
  by_cases hz : 4194304 < t.size
  · refine ⟨2, 4194304, [], by simp, fun w _ => (scan_big t w hz).mono ?_, fun w _ => (refScan_big t w hz).mono ?_⟩
    · rintro e w' ⟨rfl, hb⟩
      exact ⟨_, rfl, World.ownsRow_nil _ _ _ _, hb⟩
    · rintro e w' ⟨rfl, hb⟩
      exact ⟨_, rfl, World.ownsRow_nil _ _ _ _, hb⟩
  · have ht : t.size ≤ 4194304 := by omega
    cases hr : scanS (t.size + 1) 0 t.data.toList with
    | inl p =>
      obtain ⟨e, k⟩ := p
      refine ⟨(e : Int), (k : Int), [], by simp, fun w hT => ?_, fun w hT => ?_⟩
      · have h := scan_any t w ht hT
        rw [hr] at h
        refine h.mono ?_
        rintro e w' ⟨rfl, hb⟩
        exact ⟨_, rfl, World.ownsRow_nil _ _ _ _, hb⟩
      · have h := refScan_any t w ht hT
        rw [hr] at h
        refine h.mono ?_
        rintro e w' ⟨rfl, hb⟩
        exact ⟨_, rfl, World.ownsRow_nil _ _ _ _, hb⟩
    | inr l =>
      refine ⟨0, 0, l, scan_count t ht l hr, fun w hT => ?_, fun w hT => ?_⟩
      · have h := scan_any t w ht hT
        rw [hr] at h
        exact h
      · have h := refScan_any t w ht hT
        rw [hr] at h
        exact h

/-- What holds of the world all along. -/
structure St (w0 w : World) : Prop where
  tabs : Tabs w
  rtabs : RTabs w
  below : Below w0.heap.size w0 w
theorem St.next {w0 w w' : World} (h : St w0 w) (hb : Below w.heap.size w w') : St w0 w' := ⟨h.tabs.next hb, h.rtabs.next hb, h.below.trans (hb.mono h.below.size)⟩
structure RdB (w : World) (v : Value) (l : List (Nat × Tk)) : Prop where
  r : Reads w v l
  n : l.length ≤ 4194400
theorem RdB.next {w w' : World} {v : Value} {l : List (Nat × Tk)} (h : RdB w v l) (hb : Below w.heap.size w w') : RdB w' v l := ⟨h.r.below hb, h.n⟩
theorem RdB.off {w w' : World} {v : Value} {l : List (Nat × Tk)} {row : Option Nat} (h : RdB w v l) (hg : w.grownBy w' row) (hne : ∀ k, v.ownBlock = some k → some k ≠ row) : RdB w' v l := ⟨h.r.off hg hne, h.n⟩
theorem same_b (a b : Value) (l : List (Nat × Tk)) (w : World) (ha : RdB w a l) (hb : RdB w b l) :
    Calls Tryd.prog 19 #[a, b] w fun e w' => e = .returned (.bool true) ∧ Below w.heap.size w w' := same_any a b l w ha.n ha.r hb.r
/-- A slice's block lies between. -/
structure Bk (v : Value) (a b : Nat) : Prop where
  h : ∀ k, v.ownBlock = some k → a ≤ k ∧ k < b
theorem bk_own {w : World} {base : Nat} {v : Value} {n : Nat} {xs : List Value} (h : w.ownsRow base 35 5 v n xs) : Bk v base w.heap.size := ⟨fun k hk => ⟨own_ge h k hk, own_lt h k hk⟩⟩
theorem Bk.wide {v : Value} {a b c : Nat} (h : Bk v a b) (hc : b ≤ c) : Bk v a c := ⟨fun k hk => ⟨(h.h k hk).1, Nat.lt_of_lt_of_le (h.h k hk).2 hc⟩⟩
structure TwB (w : World) (B : Nat) (a b : Int) : Prop where
  t : Two w B (.int .i64 a) (.int .i64 b)
  l : B < w.heap.size
theorem TwB.next {w w' : World} {B : Nat} {a b : Int} (h : TwB w B a b) (hb : Below w.heap.size w w') : TwB w' B a b := ⟨h.t.below hb h.l, Nat.lt_of_lt_of_le h.l hb.size⟩
theorem twb_new (w : World) (a b : Int) : TwB (w.alloc (.cells #[.int .i64 a, .int .i64 b] 28)) w.heap.size a b := ⟨two_new w _ _ 28, by simp⟩
theorem below_al (w : World) (o : Obj) : Below w.heap.size w (w.alloc o) := (Below.refl _ w).alloc (Nat.le_refl _) _

set_option maxRecDepth 100000 in
set_option maxHeartbeats 16000000 in
theorem lexScans_any (t : ByteArray) (w : World) (hs : t.size ≤ 140737488355328) (hT : Tabs w) (hRT : RTabs w) :
    Calls Tryd.prog 8 #[.string t] w fun e w' => e = .returned (.bool true) ∧ Below w.heap.size w w' := by
  obtain ⟨c1, k1, l1, hl1, HA, HR⟩ := scan_gen t
  obtain ⟨t2, ht2⟩ : ∃ t2, t ++ ⟨#[32, 98]⟩ = t2 := ⟨_, rfl⟩
  obtain ⟨c2, k2, l2, hl2, HA2, HR2⟩ := scan_gen t2
  have S0 : Hid (St w w) := ⟨hT, hRT, Below.refl _ _⟩
  have HT0 : Hid (Tabs w ∧ RTabs w) := ⟨hT, hRT⟩
  clear hT hRT
  go_enter Tryd.func8, Tryd.ntmps8
  go_upto_region 2 with (first
    | (go_at_call 20; refine (HR.out _ S0.out.rtabs).mono ?_; rintro e w1 ⟨vw, rfl, how, hb1⟩)
    | go_in)
  have S1 : Hid (St w (w1.alloc (.cells #[.int .i64 c1, .int .i64 k1] 28))) := (S0.out.next hb1).next (below_al _ _)
  have rW : Hid (RdB (w1.alloc (.cells #[.int .i64 c1, .int .i64 k1] 28)) vw l1) := (⟨reads_own how, by omega⟩ : RdB w1 vw l1).next (below_al _ _)
  have bW : Hid (Bk vw 0 (w1.alloc (.cells #[.int .i64 c1, .int .i64 k1] 28)).heap.size) := ⟨fun k hk => ⟨Nat.zero_le _, by have := ((bk_own how).h k hk).2; simp; omega⟩⟩
  have T4 : Hid (TwB (w1.alloc (.cells #[.int .i64 c1, .int .i64 k1] 28)) w1.heap.size c1 k1) := twb_new w1 c1 k1
  clear how hb1 S0
  generalize hX1 : w1.alloc (.cells #[.int .i64 c1, .int .i64 k1] 28) = X1 at *
  generalize w1.heap.size = p4 at *
  clear hX1 w1
  go_upto_region 3 with (first
    | (go_at_call 14; refine (HA.out _ S1.out.tabs).mono ?_; rintro e w2 ⟨va, rfl, hoa, hb2⟩)
    | go_in)
  have S2 : Hid (St w (w2.alloc (.cells #[.int .i64 c1, .int .i64 k1] 28))) := (S1.out.next hb2).next (below_al _ _)
  have rW2 : Hid (RdB (w2.alloc (.cells #[.int .i64 c1, .int .i64 k1] 28)) vw l1) := (rW.out.next hb2).next (below_al _ _)
  have rA2 : Hid (RdB (w2.alloc (.cells #[.int .i64 c1, .int .i64 k1] 28)) va l1) := (⟨reads_own hoa, by omega⟩ : RdB w2 va l1).next (below_al _ _)
  have bW2 : Hid (Bk vw 0 (w2.alloc (.cells #[.int .i64 c1, .int .i64 k1] 28)).heap.size) := bW.out.wide (by have := hb2.size; simp; omega)
  have bA2 : Hid (Bk va 0 (w2.alloc (.cells #[.int .i64 c1, .int .i64 k1] 28)).heap.size) := ⟨fun k hk => ⟨Nat.zero_le _, by have := ((bk_own hoa).h k hk).2; simp; omega⟩⟩
  have T42 : Hid (TwB (w2.alloc (.cells #[.int .i64 c1, .int .i64 k1] 28)) p4 c1 k1) := (T4.out.next hb2).next (below_al _ _)
  have T62 : Hid (TwB (w2.alloc (.cells #[.int .i64 c1, .int .i64 k1] 28)) w2.heap.size c1 k1) := twb_new w2 c1 k1
  clear hoa hb2 S1 rW bW T4
  generalize hX2 : w2.alloc (.cells #[.int .i64 c1, .int .i64 k1] 28) = X2 at *
  generalize w2.heap.size = p6 at *
  clear hX2 w2 X1
  obtain ⟨⟨a0, a1, _⟩, _⟩ := T42.out
  obtain ⟨⟨b0, b1, _⟩, _⟩ := T62.out
  go_upto_region 5 with (first
    | (go_at_call 19; refine (same_b _ _ _ _ rA2.out rW2.out).mono ?_; rintro e w3 ⟨rfl, hb3⟩)
    | go_in)
  have S3 : Hid (St w w3) := S2.out.next hb3
  have rW3 : Hid (RdB w3 vw l1) := rW2.out.next hb3
  have rA3 : Hid (RdB w3 va l1) := rA2.out.next hb3
  have bW3 : Hid (Bk vw 0 w3.heap.size) := bW2.out.wide hb3.size
  have bA3 : Hid (Bk va 0 w3.heap.size) := bA2.out.wide hb3.size
  have T43 : Hid (TwB w3 p4 c1 k1) := T42.out.next hb3
  clear S2 rW2 rA2 bW2 bA2 T42 T62 hb3 a0 a1 b0 b1
  go_upto_region 6 with (first
    | (go_at_call 14; refine (HA.out _ S3.out.tabs).mono ?_; rintro e w4 ⟨vb, rfl, hob, hb4⟩)
    | go_in)
  have p4lt : p4 < w3.heap.size := T43.out.l
  have S4 : Hid (St w (w4.alloc (.cells #[.int .i64 c1, .int .i64 k1] 28))) := (S3.out.next hb4).next (below_al _ _)
  have hz4 : Below w3.heap.size w3 (w4.alloc (.cells #[.int .i64 c1, .int .i64 k1] 28)) := hb4.trans ((below_al w4 _).mono hb4.size)
  have rW4 : Hid (RdB (w4.alloc (.cells #[.int .i64 c1, .int .i64 k1] 28)) vw l1) := rW3.out.next hz4
  have rA4 : Hid (RdB (w4.alloc (.cells #[.int .i64 c1, .int .i64 k1] 28)) va l1) := rA3.out.next hz4
  have rB4 : Hid (RdB (w4.alloc (.cells #[.int .i64 c1, .int .i64 k1] 28)) vb l1) := (⟨reads_own hob, by omega⟩ : RdB w4 vb l1).next (below_al _ _)
  have oB4 : Hid ((w4.alloc (.cells #[.int .i64 c1, .int .i64 k1] 28)).ownsRow w3.heap.size 35 5 vb l1.length (toksV l1)) := hob.alloc _
  have T44 : Hid (TwB (w4.alloc (.cells #[.int .i64 c1, .int .i64 k1] 28)) p4 c1 k1) := T43.out.next hz4
  have T84 : Hid (TwB (w4.alloc (.cells #[.int .i64 c1, .int .i64 k1] 28)) w4.heap.size c1 k1) := twb_new w4 c1 k1
  have hH : w3.heap.size ≤ (w4.alloc (.cells #[.int .i64 c1, .int .i64 k1] 28)).heap.size := hz4.size
  have hH0 : w.heap.size ≤ w3.heap.size := S3.out.below.size
  clear hob hb4 S3 rW3 rA3 T43 hz4
  generalize hX4 : w4.alloc (.cells #[.int .i64 c1, .int .i64 k1] 28) = X4 at *
  generalize w4.heap.size = p8 at *
  generalize w3.heap.size = Hb at *
  clear hX4 w4 w3
  go_upto_region 7 with (first
    | (go_at_call 14; refine (HA2.out _ S4.out.tabs).mono ?_; rintro e w5 ⟨vo, rfl, hoo, hb5⟩)
    | go_in)
  have S5 : Hid (St w (w5.alloc (.cells #[.int .i64 c2, .int .i64 k2] 28))) := (S4.out.next hb5).next (below_al _ _)
  have hz5 : Below X4.heap.size X4 (w5.alloc (.cells #[.int .i64 c2, .int .i64 k2] 28)) := hb5.trans ((below_al w5 _).mono hb5.size)
  have rW5 : Hid (RdB (w5.alloc (.cells #[.int .i64 c2, .int .i64 k2] 28)) vw l1) := rW4.out.next hz5
  have rA5 : Hid (RdB (w5.alloc (.cells #[.int .i64 c2, .int .i64 k2] 28)) va l1) := rA4.out.next hz5
  have rB5 : Hid (RdB (w5.alloc (.cells #[.int .i64 c2, .int .i64 k2] 28)) vb l1) := rB4.out.next hz5
  have rO5 : Hid (RdB (w5.alloc (.cells #[.int .i64 c2, .int .i64 k2] 28)) vo l2) := (⟨reads_own hoo, by omega⟩ : RdB w5 vo l2).next (below_al _ _)
  have oB5 : Hid ((w5.alloc (.cells #[.int .i64 c2, .int .i64 k2] 28)).ownsRow Hb 35 5 vb l1.length (toksV l1)) := own_stays oB4.out hz5
  have bB5 : Hid (Bk vb Hb X4.heap.size) := bk_own oB4.out
  have bO5 : Hid (∀ k, vo.ownBlock = some k → X4.heap.size ≤ k) := fun k hk => own_ge hoo k hk
  have T45 : Hid (TwB (w5.alloc (.cells #[.int .i64 c2, .int .i64 k2] 28)) p4 c1 k1) := T44.out.next hz5
  have T85 : Hid (TwB (w5.alloc (.cells #[.int .i64 c2, .int .i64 k2] 28)) p8 c1 k1) := T84.out.next hz5
  have T105 : Hid (TwB (w5.alloc (.cells #[.int .i64 c2, .int .i64 k2] 28)) w5.heap.size c2 k2) := twb_new w5 c2 k2
  have hH5 : X4.heap.size ≤ (w5.alloc (.cells #[.int .i64 c2, .int .i64 k2] 28)).heap.size := hz5.size
  clear hoo hb5 S4 rW4 rA4 rB4 oB4 T44 T84 hz5
  generalize hX5 : w5.alloc (.cells #[.int .i64 c2, .int .i64 k2] 28) = X5 at *
  generalize w5.heap.size = p10 at *
  generalize X4.heap.size = Ho at *
  clear hX5 w5 X4
  go_upto_region 8 with (first
    | (go_at_call 20; refine (HR2.out _ S5.out.rtabs).mono ?_; rintro e w6 ⟨vt, rfl, hot, hb6⟩)
    | go_in)
  have S6 : Hid (St w (w6.alloc (.cells #[.int .i64 c2, .int .i64 k2] 28))) := (S5.out.next hb6).next (below_al _ _)
  have hz6 : Below X5.heap.size X5 (w6.alloc (.cells #[.int .i64 c2, .int .i64 k2] 28)) := hb6.trans ((below_al w6 _).mono hb6.size)
  have rW6 : Hid (RdB (w6.alloc (.cells #[.int .i64 c2, .int .i64 k2] 28)) vw l1) := rW5.out.next hz6
  have rA6 : Hid (RdB (w6.alloc (.cells #[.int .i64 c2, .int .i64 k2] 28)) va l1) := rA5.out.next hz6
  have rB6 : Hid (RdB (w6.alloc (.cells #[.int .i64 c2, .int .i64 k2] 28)) vb l1) := rB5.out.next hz6
  have rO6 : Hid (RdB (w6.alloc (.cells #[.int .i64 c2, .int .i64 k2] 28)) vo l2) := rO5.out.next hz6
  have rT6 : Hid (RdB (w6.alloc (.cells #[.int .i64 c2, .int .i64 k2] 28)) vt l2) := (⟨reads_own hot, by omega⟩ : RdB w6 vt l2).next (below_al _ _)
  have oB6 : Hid ((w6.alloc (.cells #[.int .i64 c2, .int .i64 k2] 28)).ownsRow Hb 35 5 vb l1.length (toksV l1)) := own_stays oB5.out hz6
  have bT6 : Hid (∀ k, vt.ownBlock = some k → Ho ≤ k) := fun k hk => Nat.le_trans hH5 (own_ge hot k hk)
  have T46 : Hid (TwB (w6.alloc (.cells #[.int .i64 c2, .int .i64 k2] 28)) p4 c1 k1) := T45.out.next hz6
  have T86 : Hid (TwB (w6.alloc (.cells #[.int .i64 c2, .int .i64 k2] 28)) p8 c1 k1) := T85.out.next hz6
  have T106 : Hid (TwB (w6.alloc (.cells #[.int .i64 c2, .int .i64 k2] 28)) p10 c2 k2) := T105.out.next hz6
  have T126 : Hid (TwB (w6.alloc (.cells #[.int .i64 c2, .int .i64 k2] 28)) w6.heap.size c2 k2) := twb_new w6 c2 k2
  have hH6 : Ho ≤ (w6.alloc (.cells #[.int .i64 c2, .int .i64 k2] 28)).heap.size := Nat.le_trans hH5 hz6.size
  clear hot hb6 S5 rW5 rA5 rB5 rO5 oB5 T45 T85 T105 hz6 hH5
  generalize hX6 : w6.alloc (.cells #[.int .i64 c2, .int .i64 k2] 28) = X6 at *
  generalize w6.heap.size = p12 at *
  clear hX6 w6 X5
  obtain ⟨⟨a0, a1, _⟩, _⟩ := T46.out
  obtain ⟨⟨b0, b1, _⟩, _⟩ := T86.out
  obtain ⟨⟨d0, d1, _⟩, _⟩ := T106.out
  obtain ⟨⟨e0, e1, _⟩, _⟩ := T126.out
  go_upto_region 10 with (first
    | (go_at_call 19; refine (same_b _ _ _ _ rA8.out rW8.out).mono ?_; rintro e w9 ⟨rfl, hb9⟩)
    | (go_at_call 19; refine (same_b _ _ _ _ rO7.out rT7.out).mono ?_; rintro e w8 ⟨rfl, hb8⟩; have rA8 : Hid (RdB w8 va l1) := rA7.out.next hb8; have rW8 : Hid (RdB w8 vw l1) := rW7.out.next hb8)
    | (go_at_call 19; refine (same_b _ _ _ _ rB6.out rW6.out).mono ?_; rintro e w7 ⟨rfl, hb7⟩; have rO7 : Hid (RdB w7 vo l2) := rO6.out.next hb7; have rT7 : Hid (RdB w7 vt l2) := rT6.out.next hb7; have rA7 : Hid (RdB w7 va l1) := rA6.out.next hb7; have rW7 : Hid (RdB w7 vw l1) := rW6.out.next hb7)
    | go_in)
  have hz9 : Below X6.heap.size X6 w9 := (hb7.trans (hb8.mono hb7.size)).trans (hb9.mono (Nat.le_trans hb7.size hb8.size))
  have S9 : Hid (St w w9) := S6.out.next hz9
  have rW9 : Hid (RdB w9 vw l1) := rW6.out.next hz9
  have rA9 : Hid (RdB w9 va l1) := rA6.out.next hz9
  have rO9 : Hid (RdB w9 vo l2) := rO6.out.next hz9
  have rT9 : Hid (RdB w9 vt l2) := rT6.out.next hz9
  have oB9 : Hid (w9.ownsRow Hb 35 5 vb l1.length (toksV l1)) := own_stays oB6.out hz9
  have T49 : Hid (TwB w9 p4 c1 k1) := T46.out.next hz9
  have hH9 : Ho ≤ w9.heap.size := Nat.le_trans hH6 hz9.size
  have NW : Hid (∀ k, vw.ownBlock = some k → some k ≠ vb.ownBlock) := fun k hk e => by have h1 := (bW3.out.h k hk).2; have h2 := (bB5.out.h k e.symm).1; omega
  have NA : Hid (∀ k, va.ownBlock = some k → some k ≠ vb.ownBlock) := fun k hk e => by have h1 := (bA3.out.h k hk).2; have h2 := (bB5.out.h k e.symm).1; omega
  have NO : Hid (∀ k, vo.ownBlock = some k → some k ≠ vb.ownBlock) := fun k hk e => by have h1 := bO5.out k hk; have h2 := (bB5.out.h k e.symm).2; omega
  have NT : Hid (∀ k, vt.ownBlock = some k → some k ≠ vb.ownBlock) := fun k hk e => by have h1 := bT6.out k hk; have h2 := (bB5.out.h k e.symm).2; omega
  have NP : Hid (some p4 ≠ vb.ownBlock) := fun e => by have h2 := (bB5.out.h p4 e.symm).1; omega
  have NB : Hid (∀ k, vb.ownBlock = some k → w.heap.size ≤ k) := fun k hk => Nat.le_trans hH0 (bB5.out.h k hk).1
  clear hb7 hb8 hb9 rO7 rT7 rA7 rW7 rA8 rW8 S6 rW6 rA6 rB6 rO6 rT6 oB6 T46 T86 T106 T126 a0 a1 b0 b1 d0 d1 e0 e1 hz9 hH6 bW3 bA3 bO5 bT6 HA2 HR2 HR
  obtain ⟨sb, cb, rfl⟩ := own_slice oB9.out
  go_wp2
  go_loopw [81] (fun i wr => ∃ n : Nat, n ≤ l1.length ∧ i = .int .i64 (n : Int) ∧ Hid (∃ xs, wr.ownsRow Hb 35 5 (.slice sb l1.length cb) l1.length xs) ∧ Hid (w9.grownBy wr (Value.ownBlock (.slice sb l1.length cb)))) (fun i _ => l1.length - (intOf i).toNat)
  case atStart => exact ⟨0, Nat.zero_le _, rfl, ⟨_, oB9.out⟩, grown_refl _ _⟩
  case round =>
    obtain ⟨n, hn, rfl, hox, hG⟩ := hrel
    by_cases hlt : n < l1.length
    · obtain ⟨xs, hxs⟩ := hox.out
      obtain ⟨g, rfl⟩ : ∃ g, sb = some ⟨g, 0, none⟩ := by
        rcases hxs.2 with ⟨e, h0⟩ | ⟨g, cap, cur, e, _⟩
        · omega
        · simp only [Value.slice.injEq] at e
          exact ⟨g, e.1⟩
      have hlen : xs.length = l1.length * 5 := hxs.1
      have hcx : ∀ i, i < 5 → ∃ u, wr.cell? ⟨g, n * 5 + i, none⟩ = some u := fun i hi => by
        rw [hxs.cellAt (n * 5 + i) (by omega)]
        exact ⟨_, List.getElem?_eq_getElem (by omega)⟩
      obtain ⟨u0, q0⟩ : ∃ u, wr.cell? ⟨g, n * 5, none⟩ = some u := hcx 0 (by omega)
      obtain ⟨u1, q1⟩ := hcx 1 (by omega)
      obtain ⟨u2, q2⟩ := hcx 2 (by omega)
      obtain ⟨u3, q3⟩ := hcx 3 (by omega)
      obtain ⟨u4, q4⟩ := hcx 4 (by omega)
      have z0 : wr.frozen? ⟨g, n * 5, none⟩ = false := hxs.frozenAt _
      have z1 : wr.frozen? ⟨g, n * 5 + 1, none⟩ = false := hxs.frozenAt _
      have z2 : wr.frozen? ⟨g, n * 5 + 2, none⟩ = false := hxs.frozenAt _
      have z3 : wr.frozen? ⟨g, n * 5 + 3, none⟩ = false := hxs.frozenAt _
      have z4 : wr.frozen? ⟨g, n * 5 + 4, none⟩ = false := hxs.frozenAt _
      have HO : Hid (wr.ownsRow Hb 35 5 (.slice (some ⟨g, 0, none⟩) l1.length cb) l1.length xs) := hxs
      have hG2 : Hid (w9.grownBy wr (some g)) := hG
      have n0 : (0 : Int) ≤ (n : Int) := by omega
      have n1 : (n : Int) < (l1.length : Int) := by omega
      clear hox hxs hcx hlen hG NW NA NO NT NP NB oB9 bB5
      go_wp2
      exact ⟨⟨n + 1, by omega, by go_num, ⟨_, (((((HO.out.stored _ _).1.stored _ _).1.stored _ _).1.stored _ _).1.stored _ _).1⟩, grown_set (grown_set (grown_set (grown_set (grown_set hG2.out _ _) _ _) _ _) _ _) _ _⟩, by simp [intOf]; omega⟩
    · obtain rfl : n = l1.length := by omega
      obtain ⟨ob, hob⟩ : ∃ ob, Value.ownBlock (.slice sb l1.length cb) = ob := ⟨_, rfl⟩
      rw [hob] at hG NW NA NO NT NP NB
      have hHb : Hb ≤ w9.heap.size := by omega
      have hst : Hid (∃ xs, wr.ownsRow Hb 35 5 (.slice sb l1.length cb) (l1.length + 0) xs) := hox
      have hbl : Hid (Value.ownBlock (.slice sb l1.length cb) = ob) := hob
      clear hox hob oB9 bB5
      go_wp2
      go_loopw [14, 92] (fun v i wr => ∃ m : Nat, m ≤ 70 ∧ i = .int .i64 (m : Int) ∧ Hid (∃ xs, wr.ownsRow Hb 35 5 v (l1.length + m) xs) ∧ Hid (w9.grownBy wr ob) ∧ Hid (v.ownBlock = ob ∨ ∃ k, v.ownBlock = some k ∧ w9.heap.size ≤ k)) (fun _ i _ => 70 - (intOf i).toNat)
      case atStart => exact ⟨0, by omega, rfl, hst, hG, Or.inl hbl.out⟩
      case round =>
        clear hst hbl hG
        obtain ⟨m, hm, rfl, hox, hG, hv⟩ := hrel
        by_cases hm70 : m < 70
        · have hbs : Hb ≤ wr.heap.size := Nat.le_trans hHb hG.out.size
          clear NW NA NO NT NP NB
          go_wp2_with (first
            | (at_builtin; refine wpList_appN (w0 := w9) (by rfl) _ _ (by rfl) Hb ob _ (l1.length + m) (by rfl) hox hG hv hbs _ 0 ⟨78, 0, [], 0⟩ (by simp [tkCells]) (by rfl) (by omega) ?_; intro v2 w2 ho2 hG2 hv2 hsz2)
            | go_in)
          exact ⟨⟨m + 1, by omega, by go_num, ho2, hG2, hv2⟩, by simp [intOf]; omega⟩
        · obtain rfl : m = 70 := by omega
          obtain ⟨xs, hxs⟩ := hox.out
          obtain ⟨sm, cm, rfl⟩ := own_slice hxs
          have hbY : Below w.heap.size w wr := S9.out.below.grown hG.out S9.out.below.size NB.out
          have SY : Hid (St w wr) := ⟨HT0.out.1.next hbY, HT0.out.2.next hbY, hbY⟩
          have rWy : Hid (RdB wr vw l1) := rW9.out.off hG.out NW.out
          have rAy : Hid (RdB wr va l1) := rA9.out.off hG.out NA.out
          have rOy : Hid (RdB wr vo l2) := rO9.out.off hG.out NO.out
          have rTy : Hid (RdB wr vt l2) := rT9.out.off hG.out NT.out
          have T4y : Hid (TwB wr p4 c1 k1) := ⟨⟨(hG.out.cell_far ⟨p4, 0, none⟩ T49.out.l NP.out).trans T49.out.t.c0, (hG.out.cell_far ⟨p4, 1, none⟩ T49.out.l NP.out).trans T49.out.t.c1, fun j hj => (hG.out.frozen_far ⟨p4, j, none⟩ T49.out.l NP.out).trans (T49.out.t.f j hj)⟩, Nat.lt_of_lt_of_le T49.out.l hG.out.size⟩
          clear hox hxs hG hv NW NA NO NT NP NB S9 rW9 rA9 rO9 rT9 T49 hbY HT0
          go_upto_region 21 with (first
            | (go_at_call 14; refine (HA.out _ SY.out.tabs).mono ?_; rintro e w10 ⟨ve, rfl, hoe, hb10⟩)
            | go_in)
          have hzA : Below wr.heap.size wr (w10.alloc (.cells #[.int .i64 c1, .int .i64 k1] 28)) := hb10.trans ((below_al w10 _).mono hb10.size)
          have SA : Hid (St w (w10.alloc (.cells #[.int .i64 c1, .int .i64 k1] 28))) := SY.out.next hzA
          have rWa : Hid (RdB (w10.alloc (.cells #[.int .i64 c1, .int .i64 k1] 28)) vw l1) := rWy.out.next hzA
          have rAa : Hid (RdB (w10.alloc (.cells #[.int .i64 c1, .int .i64 k1] 28)) va l1) := rAy.out.next hzA
          have rOa : Hid (RdB (w10.alloc (.cells #[.int .i64 c1, .int .i64 k1] 28)) vo l2) := rOy.out.next hzA
          have rTa : Hid (RdB (w10.alloc (.cells #[.int .i64 c1, .int .i64 k1] 28)) vt l2) := rTy.out.next hzA
          have rEa : Hid (RdB (w10.alloc (.cells #[.int .i64 c1, .int .i64 k1] 28)) ve l1) := (⟨reads_own hoe, by omega⟩ : RdB w10 ve l1).next (below_al _ _)
          have T4a : Hid (TwB (w10.alloc (.cells #[.int .i64 c1, .int .i64 k1] 28)) p4 c1 k1) := T4y.out.next hzA
          have T16 : Hid (TwB (w10.alloc (.cells #[.int .i64 c1, .int .i64 k1] 28)) w10.heap.size c1 k1) := twb_new w10 c1 k1
          clear hoe hb10 SY rWy rAy rOy rTy T4y hzA HA
          generalize hXA : w10.alloc (.cells #[.int .i64 c1, .int .i64 k1] 28) = XA at *
          generalize w10.heap.size = p16 at *
          clear hXA w10
          obtain ⟨⟨a0, a1, _⟩, _⟩ := T4a.out
          obtain ⟨⟨b0, b1, _⟩, _⟩ := T16.out
          have h70 : (70 : Int) ≤ (l1.length : Int) + 70 := by omega
          go_wp2_with (first
            | (go_at_call 19; refine (same_b _ _ _ _ rEc.out rWc.out).mono ?_; rintro e w13 ⟨rfl, hb13⟩)
            | (go_at_call 19; refine (same_b _ _ _ _ rOb.out rTb.out).mono ?_; rintro e w12 ⟨rfl, hb12⟩; have rEc : Hid (RdB w12 ve l1) := rEb.out.next hb12; have rWc : Hid (RdB w12 vw l1) := rWb.out.next hb12)
            | (go_at_call 19; refine (same_b _ _ _ _ rAa.out rWa.out).mono ?_; rintro e w11 ⟨rfl, hb11⟩; have rOb : Hid (RdB w11 vo l2) := rOa.out.next hb11; have rTb : Hid (RdB w11 vt l2) := rTa.out.next hb11; have rEb : Hid (RdB w11 ve l1) := rEa.out.next hb11; have rWb : Hid (RdB w11 vw l1) := rWa.out.next hb11)
            | go_in)
          go_ret
          exact ⟨rfl, SA.out.below.trans (((hb11.trans (hb12.mono hb11.size)).trans (hb13.mono (Nat.le_trans hb11.size hb12.size))).mono SA.out.below.size)⟩
end Go.Proofs.YtlahcmhjnhangaaDoor
