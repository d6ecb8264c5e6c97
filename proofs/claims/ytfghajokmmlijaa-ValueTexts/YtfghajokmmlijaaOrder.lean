import Derived.Test.YtfghajokmmlijaaOrdB
import Derived.Test.YtfghajokmmlijaaStays
import Derived.Test.YtfghajokmmlijaaDo
namespace Go.Proofs.Ytfghajokmmlijaa
open Go.RowKit

def cutS (s : ByteArray) : ByteArray := if 256 < s.size then s.extract 0 256 else s
theorem cut_size (s : ByteArray) : (cutS s).size ≤ 256 := by
  unfold cutS
  split
  · rw [ByteArray.size_extract]; omega
  · omega
set_option maxHeartbeats 400000 in
theorem cut_any (s : ByteArray) (w : World) (hs : s.size ≤ 9223372036854775807) : Calls Try.prog 8 #[.string s] w fun e w' => e = .returned (.string (cutS s)) ∧ w' = w := by
  unfold cutS
  by_cases h : 256 < s.size
  · rw [if_pos h]
    have h1 : (256 : Int) < s.size := by omega
    have h2 : (256 : Int) ≤ s.size := by omega
    go_enter Try.func8, Try.ntmps8
    go_wp2
    go_ret
    exact ⟨rfl, rfl⟩
  · rw [if_neg h]
    have h1 : ¬ (256 : Int) < s.size := by omega
    go_enter Try.func8, Try.ntmps8
    go_wp2
    go_ret
    exact ⟨rfl, rfl⟩

theorem intsCmp (op a b : Int) (h0 : 8 ≤ op) : intsS op a b = cmpS op (cmpI a b) := by unfold intsS; rw [if_neg (by omega), if_neg (by omega), if_neg (by omega), if_neg (by omega), if_neg (by omega)]
theorem textsCmp (op : Int) (a b : ByteArray) (h0 : 8 ≤ op) : textsS op a b = cmpS op (cmpT a b) := by unfold textsS; rw [if_neg (by omega)]
theorem cmpsI (a b : Int) : Cmps 1 a e0 1 b e0 (cmpI a b) where
  bin op h _ := by rw [binInt, intsCmp _ _ _ h]
  back op h _ := by rw [binInt, intsCmp _ _ _ h, ordI.anti]
  eq := by
    rw [show ((1 : Int) == 1 && a == b) = (a == b) by simp, show (e0.toList == e0.toList) = true by simp, Bool.and_true]
    have := ordI.eq a b
    cases h : (cmpI a b == 0) with
    | true => simp at h; simp [this.1 h]
    | false => simp at h; simp; exact fun e => h (this.2 e)
  rng := ordI.rng a b
theorem cmpsT (a b : ByteArray) (ha : a.size ≤ 256) (hb : b.size ≤ 256) : Cmps 3 0 a 3 0 b (cmpT a b) where
  bin op h _ := by rw [binText _ _ _ ha hb, textsCmp _ _ _ h]
  back op h _ := by rw [binText _ _ _ hb ha, textsCmp _ _ _ h, ordT.anti]
  eq := by
    rw [show ((3 : Int) == 3 && (0 : Int) == 0) = true by simp, Bool.true_and]
    have := ordT.eq a b
    cases h : (cmpT a b == 0) with
    | true => simp at h; simp [this.1 h]
    | false => simp at h; simp; exact fun e => h (this.2 (list_inj e))
  rng := ordT.rng a b
theorem le_tru (o : Int) : cmpS 11 o = truS (decide (o ≤ 0)) := rfl
theorem le_go {α : Type} {c : α → α → Int} (h : Ordr c) (a b d : α) : decide (c a b ≤ 0) = true → decide (c b d ≤ 0) = true → decide (c a d ≤ 0) = true := by
  simp only [decide_eq_true_eq]
  exact h.le a b d

theorem Box3.far {W : World} {A B : Nat} {k n : Int} {s : ByteArray} (h : Box3 W A k n s) (hne : A ≠ B) (k' n' : Int) (s' : ByteArray) : Box3 (put3 W B k' n' s') A k n s := by
  obtain ⟨⟨⟨h0, f0⟩, ⟨h1, f1⟩⟩, h2, f2⟩ := h
  have hq : ∀ i j : Nat, (⟨B, j, none⟩ : Addr) ≠ ⟨A, i, none⟩ := fun i j e => hne (by cases e; rfl)
  unfold put3
  refine ⟨⟨⟨?_, ?_⟩, ?_, ?_⟩, ?_, ?_⟩
  · rw [World.cell?_setCell_other _ _ _ _ (hq _ _), World.cell?_setCell_other _ _ _ _ (hq _ _), World.cell?_setCell_other _ _ _ _ (hq _ _)]; exact h0
  · rw [World.frozen?_setCell, World.frozen?_setCell, World.frozen?_setCell]; exact f0
  · rw [World.cell?_setCell_other _ _ _ _ (hq _ _), World.cell?_setCell_other _ _ _ _ (hq _ _), World.cell?_setCell_other _ _ _ _ (hq _ _)]; exact h1
  · rw [World.frozen?_setCell, World.frozen?_setCell, World.frozen?_setCell]; exact f1
  · rw [World.cell?_setCell_other _ _ _ _ (hq _ _), World.cell?_setCell_other _ _ _ _ (hq _ _), World.cell?_setCell_other _ _ _ _ (hq _ _)]; exact h2
  · rw [World.frozen?_setCell, World.frozen?_setCell, World.frozen?_setCell]; exact f2
theorem AskAt.far {W : World} {A B : Nat} {op kd k n : Int} {s : ByteArray} {k' n' : Int} {s' : ByteArray} {k2 n2 : Int} {s2 : ByteArray} (h : AskAt W A op kd k n s k' n' s' k2 n2 s2) (hne : A ≠ B) (kk nn : Int) (ss : ByteArray) : AskAt (put3 W B kk nn ss) A op kd k n s k' n' s' k2 n2 s2 := by
  have hq : ∀ i j : Nat, (⟨B, j, none⟩ : Addr) ≠ ⟨A, i, none⟩ := fun i j e => hne (by cases e; rfl)
  have key : ∀ (i : Nat) (v : Value), W.cell? ⟨A, i, none⟩ = some v → (put3 W B kk nn ss).cell? ⟨A, i, none⟩ = some v := fun i v hv => by
    unfold put3
    rw [World.cell?_setCell_other _ _ _ _ (hq _ _), World.cell?_setCell_other _ _ _ _ (hq _ _), World.cell?_setCell_other _ _ _ _ (hq _ _)]; exact hv
  obtain ⟨h0, h1, h2, h3, h4, h5, h6, h7, h8, h9, h10⟩ := h
  exact ⟨key 0 _ h0, key 1 _ h1, key 2 _ h2, key 3 _ h3, key 4 _ h4, key 5 _ h5, key 6 _ h6, key 7 _ h7, key 8 _ h8, key 9 _ h9, key 10 _ h10⟩
theorem ltp {W : World} {a : Nat} (h : a < W.heap.size) (B : Nat) (k n : Int) (s : ByteArray) : a < (put3 W B k n s).heap.size := by unfold put3; simpa using h
abbrev t0 : ByteArray := ⟨#[0]⟩
theorem cmp_app (c : ByteArray) : cmpT c (c ++ t0) = -1 := cmpT_lt (by rw [show (c ++ t0).toList = c.toList ++ [0] by rw [ByteArray.toList_eq, ByteArray.toList_eq]; simp [ByteArray.data_append]]; exact less_append _ _ (by simp))
theorem size_put3 (W : World) (B : Nat) (k n : Int) (s : ByteArray) : (put3 W B k n s).heap.size = W.heap.size := by unfold put3; simp

set_option maxRecDepth 100000 in
set_option maxHeartbeats 4000000 in
theorem order_any (op kd k n : Int) (s : ByteArray) (k' n' : Int) (s' : ByteArray) (k2 n2 : Int) (s2 : ByteArray) (w : World) (hs : s.size ≤ 9223372036854775807) (hs' : s'.size ≤ 9223372036854775807) (hs2 : s2.size ≤ 9223372036854775807) (hn : -9223372036854775808 ≤ n ∧ n ≤ 9223372036854775807) :
    Calls Try.prog 6 #[.agg #[.int .i64 op, .int .i64 kd, .int .i64 k, .int .i64 n, .string s, .int .i64 k', .int .i64 n', .string s', .int .i64 k2, .int .i64 n2, .string s2]] w fun e w' => e = .returned (.bool true) ∧ Below w.heap.size w w' := by
  have m := AskAt.new w op kd k n s k' n' s' k2 n2 s2 27
  have B : Below w.heap.size w (w.alloc (.cells #[.int .i64 op, .int .i64 kd, .int .i64 k, .int .i64 n, .string s, .int .i64 k', .int .i64 n', .string s', .int .i64 k2, .int .i64 n2, .string s2] 27)) := (Below.refl _ w).alloc (Nat.le_refl _) _
  have l : w.heap.size < (w.alloc (.cells #[.int .i64 op, .int .i64 kd, .int .i64 k, .int .i64 n, .string s, .int .i64 k', .int .i64 n', .string s', .int .i64 k2, .int .i64 n2, .string s2] 27)).heap.size := by simp
  go_enter Try.func6, Try.ntmps6
  go_wp2_with fail
  refine (works_any _).mono ?_
  rintro e w1 ⟨rfl, hb⟩
  replace m := m.below hb l
  replace l := Nat.lt_of_lt_of_le l hb.size
  replace B := B.trans (hb.mono B.size)
  clear hb
  go_wp2_with fail
  go_loopw [3] (fun i wr => ∃ j : Nat, j ≤ 2 ∧ i = .int .i64 (j : Int) ∧ AskAt wr w.heap.size op kd k n s k' n' s' k2 n2 s2 ∧ Below w.heap.size w wr ∧ w.heap.size < wr.heap.size) (fun i _ => 2 - (intOf i).toNat)
  case atStart => exact ⟨0, by omega, rfl, m, B, l⟩
  case round =>
    clear m B l
    obtain ⟨j, hj, rfl, m, B, l⟩ := hrel
    have hj3 : j = 0 ∨ j = 1 ∨ j = 2 := by omega
    rcases hj3 with rfl | rfl | rfl
    · clear hj
      obtain ⟨x0, x1, x2, x3, x4, x5, x6, x7, x8, x9, x10⟩ := id m
      go_wp2_with fail
      refine (num_any n _).mono ?_
      rintro e u1 ⟨rfl, hb⟩
      replace m := m.below hb l
      replace l := Nat.lt_of_lt_of_le l hb.size
      replace B := B.trans (hb.mono B.size)
      clear hb
      replace m := m.alloc (.cells #[.int .i64 1, .int .i64 n, .string e0] 25)
      have pa := Box3.new u1 1 n e0 25
      have la : u1.heap.size < (u1.alloc (.cells #[.int .i64 1, .int .i64 n, .string e0] 25)).heap.size := by simp
      have dla := l
      replace l := Nat.lt_trans l la
      replace B := B.alloc B.size (.cells #[.int .i64 1, .int .i64 n, .string e0] 25)
      clear x0 x1 x2 x3 x4 x5 x6 x7 x8 x9 x10
      obtain ⟨x0, x1, x2, x3, x4, x5, x6, x7, x8, x9, x10⟩ := id m
      obtain ⟨⟨⟨pa0, paf0⟩, ⟨pa1, paf1⟩⟩, pa2, paf2⟩ := id pa
      go_wp2_with fail
      refine (num_any n' _).mono ?_
      rintro e u2 ⟨rfl, hb⟩
      replace m := m.below hb l
      replace pa := pa.below hb la
      replace l := Nat.lt_of_lt_of_le l hb.size
      replace la := Nat.lt_of_lt_of_le la hb.size
      replace B := B.trans (hb.mono B.size)
      clear hb
      replace m := m.alloc (.cells #[.int .i64 1, .int .i64 n', .string e0] 25)
      replace pa := pa.alloc (.cells #[.int .i64 1, .int .i64 n', .string e0] 25)
      have pb := Box3.new u2 1 n' e0 25
      have lb : u2.heap.size < (u2.alloc (.cells #[.int .i64 1, .int .i64 n', .string e0] 25)).heap.size := by simp
      have dlb := l
      replace l := Nat.lt_trans l lb
      have dlab := la
      replace la := Nat.lt_trans la lb
      replace B := B.alloc B.size (.cells #[.int .i64 1, .int .i64 n', .string e0] 25)
      clear x0 x1 x2 x3 x4 x5 x6 x7 x8 x9 x10 pa0 pa1 pa2 paf0 paf1 paf2
      obtain ⟨x0, x1, x2, x3, x4, x5, x6, x7, x8, x9, x10⟩ := id m
      obtain ⟨⟨⟨pa0, paf0⟩, ⟨pa1, paf1⟩⟩, pa2, paf2⟩ := id pa
      obtain ⟨⟨⟨pb0, pbf0⟩, ⟨pb1, pbf1⟩⟩, pb2, pbf2⟩ := id pb
      go_wp2_with fail
      refine (num_any n2 _).mono ?_
      rintro e u3 ⟨rfl, hb⟩
      replace m := m.below hb l
      replace pa := pa.below hb la
      replace pb := pb.below hb lb
      replace l := Nat.lt_of_lt_of_le l hb.size
      replace la := Nat.lt_of_lt_of_le la hb.size
      replace lb := Nat.lt_of_lt_of_le lb hb.size
      replace B := B.trans (hb.mono B.size)
      clear hb
      replace m := m.alloc (.cells #[.int .i64 1, .int .i64 n2, .string e0] 25)
      replace pa := pa.alloc (.cells #[.int .i64 1, .int .i64 n2, .string e0] 25)
      replace pb := pb.alloc (.cells #[.int .i64 1, .int .i64 n2, .string e0] 25)
      have pc := Box3.new u3 1 n2 e0 25
      have lc : u3.heap.size < (u3.alloc (.cells #[.int .i64 1, .int .i64 n2, .string e0] 25)).heap.size := by simp
      have dlc := l
      replace l := Nat.lt_trans l lc
      have dlac := la
      replace la := Nat.lt_trans la lc
      have dlbc := lb
      replace lb := Nat.lt_trans lb lc
      replace B := B.alloc B.size (.cells #[.int .i64 1, .int .i64 n2, .string e0] 25)
      clear x0 x1 x2 x3 x4 x5 x6 x7 x8 x9 x10 pa0 pa1 pa2 paf0 paf1 paf2 pb0 pb1 pb2 pbf0 pbf1 pbf2
      obtain ⟨x0, x1, x2, x3, x4, x5, x6, x7, x8, x9, x10⟩ := id m
      obtain ⟨⟨⟨pa0, paf0⟩, ⟨pa1, paf1⟩⟩, pa2, paf2⟩ := id pa
      obtain ⟨⟨⟨pb0, pbf0⟩, ⟨pb1, pbf1⟩⟩, pb2, pbf2⟩ := id pb
      obtain ⟨⟨⟨pc0, pcf0⟩, ⟨pc1, pcf1⟩⟩, pc2, pcf2⟩ := id pc
      go_wp2_with fail
      refine (ordered_any 1 n e0 1 n' e0 _ _ (by decide) (by decide) (cmpsI n n')).mono ?_
      rintro e t1 ⟨rfl, hb⟩
      replace m := m.below hb l
      replace pa := pa.below hb la
      replace pb := pb.below hb lb
      replace pc := pc.below hb lc
      replace l := Nat.lt_of_lt_of_le l hb.size
      replace la := Nat.lt_of_lt_of_le la hb.size
      replace lb := Nat.lt_of_lt_of_le lb hb.size
      replace lc := Nat.lt_of_lt_of_le lc hb.size
      replace B := B.trans (hb.mono B.size)
      clear hb
      clear x0 x1 x2 x3 x4 x5 x6 x7 x8 x9 x10 pa0 pa1 pa2 paf0 paf1 paf2 pb0 pb1 pb2 pbf0 pbf1 pbf2 pc0 pc1 pc2 pcf0 pcf1 pcf2
      obtain ⟨x0, x1, x2, x3, x4, x5, x6, x7, x8, x9, x10⟩ := id m
      obtain ⟨⟨⟨pa0, paf0⟩, ⟨pa1, paf1⟩⟩, pa2, paf2⟩ := id pa
      obtain ⟨⟨⟨pb0, pbf0⟩, ⟨pb1, pbf1⟩⟩, pb2, pbf2⟩ := id pb
      obtain ⟨⟨⟨pc0, pcf0⟩, ⟨pc1, pcf1⟩⟩, pc2, pcf2⟩ := id pc
      go_wp2_with fail
      refine (ordered_any 1 n' e0 1 n2 e0 _ _ (by decide) (by decide) (cmpsI n' n2)).mono ?_
      rintro e t2 ⟨rfl, hb⟩
      replace m := m.below hb l
      replace pa := pa.below hb la
      replace pb := pb.below hb lb
      replace pc := pc.below hb lc
      replace l := Nat.lt_of_lt_of_le l hb.size
      replace la := Nat.lt_of_lt_of_le la hb.size
      replace lb := Nat.lt_of_lt_of_le lb hb.size
      replace lc := Nat.lt_of_lt_of_le lc hb.size
      replace B := B.trans (hb.mono B.size)
      clear hb
      clear x0 x1 x2 x3 x4 x5 x6 x7 x8 x9 x10 pa0 pa1 pa2 paf0 paf1 paf2 pb0 pb1 pb2 pbf0 pbf1 pbf2 pc0 pc1 pc2 pcf0 pcf1 pcf2
      obtain ⟨x0, x1, x2, x3, x4, x5, x6, x7, x8, x9, x10⟩ := id m
      obtain ⟨⟨⟨pa0, paf0⟩, ⟨pa1, paf1⟩⟩, pa2, paf2⟩ := id pa
      obtain ⟨⟨⟨pb0, pbf0⟩, ⟨pb1, pbf1⟩⟩, pb2, pbf2⟩ := id pb
      obtain ⟨⟨⟨pc0, pcf0⟩, ⟨pc1, pcf1⟩⟩, pc2, pcf2⟩ := id pc
      go_wp2_with fail
      refine (onward_any 1 n e0 1 n' e0 1 n2 e0 _ _ _ _ (by decide) (by decide) (by decide) (((cmpsI n n').bin 11 (by decide) (by decide)).trans (le_tru _)) (((cmpsI n' n2).bin 11 (by decide) (by decide)).trans (le_tru _)) (((cmpsI n n2).bin 11 (by decide) (by decide)).trans (le_tru _)) (le_go ordI n n' n2)).mono ?_
      rintro e t3 ⟨rfl, hb⟩
      replace m := m.below hb l
      replace pa := pa.below hb la
      replace pb := pb.below hb lb
      replace pc := pc.below hb lc
      replace l := Nat.lt_of_lt_of_le l hb.size
      replace la := Nat.lt_of_lt_of_le la hb.size
      replace lb := Nat.lt_of_lt_of_le lb hb.size
      replace lc := Nat.lt_of_lt_of_le lc hb.size
      replace B := B.trans (hb.mono B.size)
      clear hb
      clear x0 x1 x2 x3 x4 x5 x6 x7 x8 x9 x10 pa0 pa1 pa2 paf0 paf1 paf2 pb0 pb1 pb2 pbf0 pbf1 pbf2 pc0 pc1 pc2 pcf0 pcf1 pcf2
      obtain ⟨x0, x1, x2, x3, x4, x5, x6, x7, x8, x9, x10⟩ := id m
      obtain ⟨⟨⟨pa0, paf0⟩, ⟨pa1, paf1⟩⟩, pa2, paf2⟩ := id pa
      obtain ⟨⟨⟨pb0, pbf0⟩, ⟨pb1, pbf1⟩⟩, pb2, pbf2⟩ := id pb
      obtain ⟨⟨⟨pc0, pcf0⟩, ⟨pc1, pcf1⟩⟩, pc2, pcf2⟩ := id pc
      go_wp2
      exact ⟨⟨1, by omega, by go_num, m, B, l⟩, by simp [intOf]⟩
    · clear hj
      obtain ⟨x0, x1, x2, x3, x4, x5, x6, x7, x8, x9, x10⟩ := id m
      go_wp2_with fail
      refine (num_any n _).mono ?_
      rintro e u1 ⟨rfl, hb⟩
      replace m := m.below hb l
      replace l := Nat.lt_of_lt_of_le l hb.size
      replace B := B.trans (hb.mono B.size)
      clear hb
      replace m := m.alloc (.cells #[.int .i64 1, .int .i64 n, .string e0] 25)
      have pa := Box3.new u1 1 n e0 25
      have la : u1.heap.size < (u1.alloc (.cells #[.int .i64 1, .int .i64 n, .string e0] 25)).heap.size := by simp
      have dla := l
      replace l := Nat.lt_trans l la
      replace B := B.alloc B.size (.cells #[.int .i64 1, .int .i64 n, .string e0] 25)
      clear x0 x1 x2 x3 x4 x5 x6 x7 x8 x9 x10
      obtain ⟨x0, x1, x2, x3, x4, x5, x6, x7, x8, x9, x10⟩ := id m
      obtain ⟨⟨⟨pa0, paf0⟩, ⟨pa1, paf1⟩⟩, pa2, paf2⟩ := id pa
      go_wp2_with fail
      refine (num_any n' _).mono ?_
      rintro e u2 ⟨rfl, hb⟩
      replace m := m.below hb l
      replace pa := pa.below hb la
      replace l := Nat.lt_of_lt_of_le l hb.size
      replace la := Nat.lt_of_lt_of_le la hb.size
      replace B := B.trans (hb.mono B.size)
      clear hb
      replace m := m.alloc (.cells #[.int .i64 1, .int .i64 n', .string e0] 25)
      replace pa := pa.alloc (.cells #[.int .i64 1, .int .i64 n', .string e0] 25)
      have pb := Box3.new u2 1 n' e0 25
      have lb : u2.heap.size < (u2.alloc (.cells #[.int .i64 1, .int .i64 n', .string e0] 25)).heap.size := by simp
      have dlb := l
      replace l := Nat.lt_trans l lb
      have dlab := la
      replace la := Nat.lt_trans la lb
      replace B := B.alloc B.size (.cells #[.int .i64 1, .int .i64 n', .string e0] 25)
      clear x0 x1 x2 x3 x4 x5 x6 x7 x8 x9 x10 pa0 pa1 pa2 paf0 paf1 paf2
      obtain ⟨x0, x1, x2, x3, x4, x5, x6, x7, x8, x9, x10⟩ := id m
      obtain ⟨⟨⟨pa0, paf0⟩, ⟨pa1, paf1⟩⟩, pa2, paf2⟩ := id pa
      obtain ⟨⟨⟨pb0, pbf0⟩, ⟨pb1, pbf1⟩⟩, pb2, pbf2⟩ := id pb
      go_wp2_with fail
      refine (num_any n2 _).mono ?_
      rintro e u3 ⟨rfl, hb⟩
      replace m := m.below hb l
      replace pa := pa.below hb la
      replace pb := pb.below hb lb
      replace l := Nat.lt_of_lt_of_le l hb.size
      replace la := Nat.lt_of_lt_of_le la hb.size
      replace lb := Nat.lt_of_lt_of_le lb hb.size
      replace B := B.trans (hb.mono B.size)
      clear hb
      replace m := m.alloc (.cells #[.int .i64 1, .int .i64 n2, .string e0] 25)
      replace pa := pa.alloc (.cells #[.int .i64 1, .int .i64 n2, .string e0] 25)
      replace pb := pb.alloc (.cells #[.int .i64 1, .int .i64 n2, .string e0] 25)
      have pc := Box3.new u3 1 n2 e0 25
      have lc : u3.heap.size < (u3.alloc (.cells #[.int .i64 1, .int .i64 n2, .string e0] 25)).heap.size := by simp
      have dlc := l
      replace l := Nat.lt_trans l lc
      have dlac := la
      replace la := Nat.lt_trans la lc
      have dlbc := lb
      replace lb := Nat.lt_trans lb lc
      replace B := B.alloc B.size (.cells #[.int .i64 1, .int .i64 n2, .string e0] 25)
      clear x0 x1 x2 x3 x4 x5 x6 x7 x8 x9 x10 pa0 pa1 pa2 paf0 paf1 paf2 pb0 pb1 pb2 pbf0 pbf1 pbf2
      obtain ⟨x0, x1, x2, x3, x4, x5, x6, x7, x8, x9, x10⟩ := id m
      obtain ⟨⟨⟨pa0, paf0⟩, ⟨pa1, paf1⟩⟩, pa2, paf2⟩ := id pa
      obtain ⟨⟨⟨pb0, pbf0⟩, ⟨pb1, pbf1⟩⟩, pb2, pbf2⟩ := id pb
      obtain ⟨⟨⟨pc0, pcf0⟩, ⟨pc1, pcf1⟩⟩, pc2, pcf2⟩ := id pc
      go_wp2_with fail
      refine (cut_any s _ hs).mono ?_
      rintro e _ ⟨rfl, rfl⟩
      go_wp2_with fail
      refine (text_any (cutS s) _).mono ?_
      rintro e v1 ⟨rfl, hb⟩
      replace m := m.below hb l
      replace pa := pa.below hb la
      replace pb := pb.below hb lb
      replace pc := pc.below hb lc
      replace l := Nat.lt_of_lt_of_le l hb.size
      replace la := Nat.lt_of_lt_of_le la hb.size
      replace lb := Nat.lt_of_lt_of_le lb hb.size
      replace lc := Nat.lt_of_lt_of_le lc hb.size
      replace B := B.trans (hb.mono B.size)
      clear hb
      clear x0 x1 x2 x3 x4 x5 x6 x7 x8 x9 x10 pa0 pa1 pa2 paf0 paf1 paf2 pb0 pb1 pb2 pbf0 pbf1 pbf2 pc0 pc1 pc2 pcf0 pcf1 pcf2
      obtain ⟨x0, x1, x2, x3, x4, x5, x6, x7, x8, x9, x10⟩ := id m
      obtain ⟨⟨⟨pa0, paf0⟩, ⟨pa1, paf1⟩⟩, pa2, paf2⟩ := id pa
      obtain ⟨⟨⟨pb0, pbf0⟩, ⟨pb1, pbf1⟩⟩, pb2, pbf2⟩ := id pb
      obtain ⟨⟨⟨pc0, pcf0⟩, ⟨pc1, pcf1⟩⟩, pc2, pcf2⟩ := id pc
      go_wp2_with fail
      replace m := m.far (B := u1.heap.size) (by omega) 3 0 (cutS s)
      replace pa := pa.put 3 0 (cutS s)
      replace pb := pb.far (B := u1.heap.size) (by omega) 3 0 (cutS s)
      replace pc := pc.far (B := u1.heap.size) (by omega) 3 0 (cutS s)
      replace B := below_put3 (B := u1.heap.size) B (by omega) 3 0 (cutS s)
      replace l := ltp l u1.heap.size 3 0 (cutS s)
      replace la := ltp la u1.heap.size 3 0 (cutS s)
      replace lb := ltp lb u1.heap.size 3 0 (cutS s)
      replace lc := ltp lc u1.heap.size 3 0 (cutS s)
      change Calls Try.prog _ _ (put3 v1 u1.heap.size 3 0 (cutS s)) _
      generalize put3 v1 u1.heap.size 3 0 (cutS s) = V1 at m pa pb pc B l la lb lc ⊢
      clear x0 x1 x2 x3 x4 x5 x6 x7 x8 x9 x10 pa0 pa1 pa2 paf0 paf1 paf2 pb0 pb1 pb2 pbf0 pbf1 pbf2 pc0 pc1 pc2 pcf0 pcf1 pcf2
      obtain ⟨x0, x1, x2, x3, x4, x5, x6, x7, x8, x9, x10⟩ := id m
      obtain ⟨⟨⟨pa0, paf0⟩, ⟨pa1, paf1⟩⟩, pa2, paf2⟩ := id pa
      obtain ⟨⟨⟨pb0, pbf0⟩, ⟨pb1, pbf1⟩⟩, pb2, pbf2⟩ := id pb
      obtain ⟨⟨⟨pc0, pcf0⟩, ⟨pc1, pcf1⟩⟩, pc2, pcf2⟩ := id pc
      refine (cut_any s' _ hs').mono ?_
      rintro e _ ⟨rfl, rfl⟩
      go_wp2_with fail
      refine (text_any (cutS s') _).mono ?_
      rintro e v2 ⟨rfl, hb⟩
      replace m := m.below hb l
      replace pa := pa.below hb la
      replace pb := pb.below hb lb
      replace pc := pc.below hb lc
      replace l := Nat.lt_of_lt_of_le l hb.size
      replace la := Nat.lt_of_lt_of_le la hb.size
      replace lb := Nat.lt_of_lt_of_le lb hb.size
      replace lc := Nat.lt_of_lt_of_le lc hb.size
      replace B := B.trans (hb.mono B.size)
      clear hb
      clear x0 x1 x2 x3 x4 x5 x6 x7 x8 x9 x10 pa0 pa1 pa2 paf0 paf1 paf2 pb0 pb1 pb2 pbf0 pbf1 pbf2 pc0 pc1 pc2 pcf0 pcf1 pcf2
      obtain ⟨x0, x1, x2, x3, x4, x5, x6, x7, x8, x9, x10⟩ := id m
      obtain ⟨⟨⟨pa0, paf0⟩, ⟨pa1, paf1⟩⟩, pa2, paf2⟩ := id pa
      obtain ⟨⟨⟨pb0, pbf0⟩, ⟨pb1, pbf1⟩⟩, pb2, pbf2⟩ := id pb
      obtain ⟨⟨⟨pc0, pcf0⟩, ⟨pc1, pcf1⟩⟩, pc2, pcf2⟩ := id pc
      go_wp2_with fail
      replace m := m.far (B := u2.heap.size) (by omega) 3 0 (cutS s')
      replace pa := pa.far (B := u2.heap.size) (by omega) 3 0 (cutS s')
      replace pb := pb.put 3 0 (cutS s')
      replace pc := pc.far (B := u2.heap.size) (by omega) 3 0 (cutS s')
      replace B := below_put3 (B := u2.heap.size) B (by omega) 3 0 (cutS s')
      replace l := ltp l u2.heap.size 3 0 (cutS s')
      replace la := ltp la u2.heap.size 3 0 (cutS s')
      replace lb := ltp lb u2.heap.size 3 0 (cutS s')
      replace lc := ltp lc u2.heap.size 3 0 (cutS s')
      change Calls Try.prog _ _ (put3 v2 u2.heap.size 3 0 (cutS s')) _
      generalize put3 v2 u2.heap.size 3 0 (cutS s') = V2 at m pa pb pc B l la lb lc ⊢
      clear x0 x1 x2 x3 x4 x5 x6 x7 x8 x9 x10 pa0 pa1 pa2 paf0 paf1 paf2 pb0 pb1 pb2 pbf0 pbf1 pbf2 pc0 pc1 pc2 pcf0 pcf1 pcf2
      obtain ⟨x0, x1, x2, x3, x4, x5, x6, x7, x8, x9, x10⟩ := id m
      obtain ⟨⟨⟨pa0, paf0⟩, ⟨pa1, paf1⟩⟩, pa2, paf2⟩ := id pa
      obtain ⟨⟨⟨pb0, pbf0⟩, ⟨pb1, pbf1⟩⟩, pb2, pbf2⟩ := id pb
      obtain ⟨⟨⟨pc0, pcf0⟩, ⟨pc1, pcf1⟩⟩, pc2, pcf2⟩ := id pc
      refine (cut_any s2 _ hs2).mono ?_
      rintro e _ ⟨rfl, rfl⟩
      go_wp2_with fail
      refine (text_any (cutS s2) _).mono ?_
      rintro e v3 ⟨rfl, hb⟩
      replace m := m.below hb l
      replace pa := pa.below hb la
      replace pb := pb.below hb lb
      replace pc := pc.below hb lc
      replace l := Nat.lt_of_lt_of_le l hb.size
      replace la := Nat.lt_of_lt_of_le la hb.size
      replace lb := Nat.lt_of_lt_of_le lb hb.size
      replace lc := Nat.lt_of_lt_of_le lc hb.size
      replace B := B.trans (hb.mono B.size)
      clear hb
      clear x0 x1 x2 x3 x4 x5 x6 x7 x8 x9 x10 pa0 pa1 pa2 paf0 paf1 paf2 pb0 pb1 pb2 pbf0 pbf1 pbf2 pc0 pc1 pc2 pcf0 pcf1 pcf2
      obtain ⟨x0, x1, x2, x3, x4, x5, x6, x7, x8, x9, x10⟩ := id m
      obtain ⟨⟨⟨pa0, paf0⟩, ⟨pa1, paf1⟩⟩, pa2, paf2⟩ := id pa
      obtain ⟨⟨⟨pb0, pbf0⟩, ⟨pb1, pbf1⟩⟩, pb2, pbf2⟩ := id pb
      obtain ⟨⟨⟨pc0, pcf0⟩, ⟨pc1, pcf1⟩⟩, pc2, pcf2⟩ := id pc
      go_wp2_with fail
      replace m := m.far (B := u3.heap.size) (by omega) 3 0 (cutS s2)
      replace pa := pa.far (B := u3.heap.size) (by omega) 3 0 (cutS s2)
      replace pb := pb.far (B := u3.heap.size) (by omega) 3 0 (cutS s2)
      replace pc := pc.put 3 0 (cutS s2)
      replace B := below_put3 (B := u3.heap.size) B (by omega) 3 0 (cutS s2)
      replace l := ltp l u3.heap.size 3 0 (cutS s2)
      replace la := ltp la u3.heap.size 3 0 (cutS s2)
      replace lb := ltp lb u3.heap.size 3 0 (cutS s2)
      replace lc := ltp lc u3.heap.size 3 0 (cutS s2)
      change Calls Try.prog _ _ (put3 v3 u3.heap.size 3 0 (cutS s2)) _
      generalize put3 v3 u3.heap.size 3 0 (cutS s2) = V3 at m pa pb pc B l la lb lc ⊢
      clear x0 x1 x2 x3 x4 x5 x6 x7 x8 x9 x10 pa0 pa1 pa2 paf0 paf1 paf2 pb0 pb1 pb2 pbf0 pbf1 pbf2 pc0 pc1 pc2 pcf0 pcf1 pcf2
      obtain ⟨x0, x1, x2, x3, x4, x5, x6, x7, x8, x9, x10⟩ := id m
      obtain ⟨⟨⟨pa0, paf0⟩, ⟨pa1, paf1⟩⟩, pa2, paf2⟩ := id pa
      obtain ⟨⟨⟨pb0, pbf0⟩, ⟨pb1, pbf1⟩⟩, pb2, pbf2⟩ := id pb
      obtain ⟨⟨⟨pc0, pcf0⟩, ⟨pc1, pcf1⟩⟩, pc2, pcf2⟩ := id pc
      refine (ordered_any 3 0 (cutS s) 3 0 (cutS s') _ _ (Nat.le_trans (cut_size s) (by decide)) (Nat.le_trans (cut_size s') (by decide)) (cmpsT (cutS s) (cutS s') (cut_size s) (cut_size s'))).mono ?_
      rintro e t1 ⟨rfl, hb⟩
      replace m := m.below hb l
      replace pa := pa.below hb la
      replace pb := pb.below hb lb
      replace pc := pc.below hb lc
      replace l := Nat.lt_of_lt_of_le l hb.size
      replace la := Nat.lt_of_lt_of_le la hb.size
      replace lb := Nat.lt_of_lt_of_le lb hb.size
      replace lc := Nat.lt_of_lt_of_le lc hb.size
      replace B := B.trans (hb.mono B.size)
      clear hb
      clear x0 x1 x2 x3 x4 x5 x6 x7 x8 x9 x10 pa0 pa1 pa2 paf0 paf1 paf2 pb0 pb1 pb2 pbf0 pbf1 pbf2 pc0 pc1 pc2 pcf0 pcf1 pcf2
      obtain ⟨x0, x1, x2, x3, x4, x5, x6, x7, x8, x9, x10⟩ := id m
      obtain ⟨⟨⟨pa0, paf0⟩, ⟨pa1, paf1⟩⟩, pa2, paf2⟩ := id pa
      obtain ⟨⟨⟨pb0, pbf0⟩, ⟨pb1, pbf1⟩⟩, pb2, pbf2⟩ := id pb
      obtain ⟨⟨⟨pc0, pcf0⟩, ⟨pc1, pcf1⟩⟩, pc2, pcf2⟩ := id pc
      go_wp2_with fail
      refine (ordered_any 3 0 (cutS s') 3 0 (cutS s2) _ _ (Nat.le_trans (cut_size s') (by decide)) (Nat.le_trans (cut_size s2) (by decide)) (cmpsT (cutS s') (cutS s2) (cut_size s') (cut_size s2))).mono ?_
      rintro e t2 ⟨rfl, hb⟩
      replace m := m.below hb l
      replace pa := pa.below hb la
      replace pb := pb.below hb lb
      replace pc := pc.below hb lc
      replace l := Nat.lt_of_lt_of_le l hb.size
      replace la := Nat.lt_of_lt_of_le la hb.size
      replace lb := Nat.lt_of_lt_of_le lb hb.size
      replace lc := Nat.lt_of_lt_of_le lc hb.size
      replace B := B.trans (hb.mono B.size)
      clear hb
      clear x0 x1 x2 x3 x4 x5 x6 x7 x8 x9 x10 pa0 pa1 pa2 paf0 paf1 paf2 pb0 pb1 pb2 pbf0 pbf1 pbf2 pc0 pc1 pc2 pcf0 pcf1 pcf2
      obtain ⟨x0, x1, x2, x3, x4, x5, x6, x7, x8, x9, x10⟩ := id m
      obtain ⟨⟨⟨pa0, paf0⟩, ⟨pa1, paf1⟩⟩, pa2, paf2⟩ := id pa
      obtain ⟨⟨⟨pb0, pbf0⟩, ⟨pb1, pbf1⟩⟩, pb2, pbf2⟩ := id pb
      obtain ⟨⟨⟨pc0, pcf0⟩, ⟨pc1, pcf1⟩⟩, pc2, pcf2⟩ := id pc
      go_wp2_with fail
      refine (onward_any 3 0 (cutS s) 3 0 (cutS s') 3 0 (cutS s2) _ _ _ _ (Nat.le_trans (cut_size s) (by decide)) (Nat.le_trans (cut_size s') (by decide)) (Nat.le_trans (cut_size s2) (by decide)) (((cmpsT (cutS s) (cutS s') (cut_size s) (cut_size s')).bin 11 (by decide) (by decide)).trans (le_tru _)) (((cmpsT (cutS s') (cutS s2) (cut_size s') (cut_size s2)).bin 11 (by decide) (by decide)).trans (le_tru _)) (((cmpsT (cutS s) (cutS s2) (cut_size s) (cut_size s2)).bin 11 (by decide) (by decide)).trans (le_tru _)) (le_go ordT (cutS s) (cutS s') (cutS s2))).mono ?_
      rintro e t3 ⟨rfl, hb⟩
      replace m := m.below hb l
      replace pa := pa.below hb la
      replace pb := pb.below hb lb
      replace pc := pc.below hb lc
      replace l := Nat.lt_of_lt_of_le l hb.size
      replace la := Nat.lt_of_lt_of_le la hb.size
      replace lb := Nat.lt_of_lt_of_le lb hb.size
      replace lc := Nat.lt_of_lt_of_le lc hb.size
      replace B := B.trans (hb.mono B.size)
      clear hb
      clear x0 x1 x2 x3 x4 x5 x6 x7 x8 x9 x10 pa0 pa1 pa2 paf0 paf1 paf2 pb0 pb1 pb2 pbf0 pbf1 pbf2 pc0 pc1 pc2 pcf0 pcf1 pcf2
      obtain ⟨x0, x1, x2, x3, x4, x5, x6, x7, x8, x9, x10⟩ := id m
      obtain ⟨⟨⟨pa0, paf0⟩, ⟨pa1, paf1⟩⟩, pa2, paf2⟩ := id pa
      obtain ⟨⟨⟨pb0, pbf0⟩, ⟨pb1, pbf1⟩⟩, pb2, pbf2⟩ := id pb
      obtain ⟨⟨⟨pc0, pcf0⟩, ⟨pc1, pcf1⟩⟩, pc2, pcf2⟩ := id pc
      go_wp2
      exact ⟨⟨2, by omega, by go_num, m, B, l⟩, by simp [intOf]⟩
    · clear hj
      obtain ⟨x0, x1, x2, x3, x4, x5, x6, x7, x8, x9, x10⟩ := id m
      by_cases hmax : n < 9223372036854775807
      · go_wp2_with fail
        have y3 := cell_regrown x3
        have cd : ∀ W : World, Calls Try.prog 16 #[.int .i64 3, .int .i64 n, .int .i64 1] W fun e w' => e = .returned (.agg #[.int .i64 1, .int .i64 (n + 1), .string e0]) ∧ Below W.heap.size W w' := fun W => by have h := do_any 3 n 1 W; rw [show intsS 3 n 1 = (1, n + 1, e0, 0) by unfold intsS numS; rw [if_pos rfl, wrap_in (by omega)]] at h; exact h
        have r1 : ∀ d os, Calls Try.prog 12 #[.int .i64 n] (Sort.grow (redrawn wr d) os) fun e w'' => e = .returned (.agg #[.int .i64 1, .int .i64 n, .string e0]) ∧ ∃ p : Regrown, w'' = Sort.grow (redrawn wr p.d) p.os := fun d os => Calls.regrown_of (num_any n _)
        have r2 : ∀ d os, Calls Try.prog 16 #[.int .i64 3, .int .i64 n, .int .i64 1] (Sort.grow (redrawn wr d) os) fun e w'' => e = .returned (.agg #[.int .i64 1, .int .i64 (n + 1), .string e0]) ∧ ∃ p : Regrown, w'' = Sort.grow (redrawn wr p.d) p.os := fun d os => Calls.regrown_of (cd _)
        have r3 : ∀ d os, Calls Try.prog 22 #[.int .i64 10, .agg #[.int .i64 1, .int .i64 n, .string e0], .agg #[.int .i64 1, .int .i64 (n + 1), .string e0]] (Sort.grow (redrawn wr d) os) fun e w'' => e = .returned (.tuple #[.bool true, .bool true]) ∧ ∃ p : Regrown, w'' = Sort.grow (redrawn wr p.d) p.os := fun d os => Calls.regrown_of (yes_any 10 1 n e0 1 (n + 1) e0 true _ (by decide) (by decide) (by rw [binInt, intsCmp _ _ _ (by decide), show cmpI n (n + 1) = -1 by unfold cmpI; rw [if_pos (by omega)]]; rfl))
        refine wp_region_quiet_below (by kernel_rfl) (by kernel_rfl) ?_
        repeat (first | go_big_quiet_step (first | with_reducible exact r1 _ _ | with_reducible exact r2 _ _ | with_reducible exact r3 _ _) | quiet_step (first | with_reducible exact r1 _ _ | with_reducible exact r2 _ _ | with_reducible exact r3 _ _))
        refine wpQuiet_nil ?_
        intro _ hw'
        obtain ⟨⟨dq, osq⟩, hw''⟩ := hw'
        subst hw''
        have hY := below_regrown wr dq osq
        change Exit.then _ _ Exit.normal _ (Sort.grow (redrawn wr dq) osq)
        generalize Sort.grow (redrawn wr dq) osq = Y at hY ⊢
        have hb := hY
        clear hY y3 cd r1 r2 r3
        replace m := m.below hb l
        replace l := Nat.lt_of_lt_of_le l hb.size
        replace B := B.trans (hb.mono B.size)
        clear hb
        clear x0 x1 x2 x3 x4 x5 x6 x7 x8 x9 x10
        obtain ⟨x0, x1, x2, x3, x4, x5, x6, x7, x8, x9, x10⟩ := id m
        have hc := cut_size s
        have cc := fun W : World => cut_any s W hs
        generalize cutS s = c at hc cc
        have hc2 : c.size ≤ 9223372036854775807 := by omega
        by_cases h256 : c.size = 256
        · go_wp2_with (go_at_call 8; refine (cc _).mono ?_; rintro e _ ⟨rfl, rfl⟩)
          go_ret
          exact ⟨rfl, B⟩
        have hne : ¬ (c.size : Int) = 256 := by omega
        go_wp2_with (go_at_call 8; refine (cc _).mono ?_; rintro e _ ⟨rfl, rfl⟩)
        refine (text_any c _).mono ?_
        rintro e t1 ⟨rfl, hb⟩
        replace m := m.below hb l
        replace l := Nat.lt_of_lt_of_le l hb.size
        replace B := B.trans (hb.mono B.size)
        clear hb
        go_wp2_with fail
        refine (text_any c _).mono ?_
        rintro e t2 ⟨rfl, hb⟩
        replace m := m.below hb l
        replace l := Nat.lt_of_lt_of_le l hb.size
        replace B := B.trans (hb.mono B.size)
        clear hb
        go_wp2_with fail
        refine (text_any t0 _).mono ?_
        rintro e t3 ⟨rfl, hb⟩
        replace m := m.below hb l
        replace l := Nat.lt_of_lt_of_le l hb.size
        replace B := B.trans (hb.mono B.size)
        clear hb
        go_wp2_with fail
        have cb := fun W : World => both_any 3 3 0 c 3 0 t0 W hc2 (by decide)
        rw [binText _ _ _ hc (by decide), show textsS 3 c t0 = (3, 0, c ++ t0, 0) by unfold textsS; rw [if_pos rfl, if_neg (by rw [show t0.size = 1 from rfl]; omega)]] at cb
        refine (cb _).mono ?_
        rintro e t4 ⟨rfl, hb⟩
        replace m := m.below hb l
        replace l := Nat.lt_of_lt_of_le l hb.size
        replace B := B.trans (hb.mono B.size)
        clear hb
        go_wp2_with fail
        have h7 : (c ++ t0).size ≤ 256 := by rw [ByteArray.size_append, show t0.size = 1 from rfl]; omega
        refine (yes_any 10 3 0 c 3 0 (c ++ t0) true _ hc2 (by omega) (by rw [binText _ _ _ hc h7, textsCmp _ _ _ (by decide), cmp_app]; rfl)).mono ?_
        rintro e t5 ⟨rfl, hb⟩
        replace m := m.below hb l
        replace l := Nat.lt_of_lt_of_le l hb.size
        replace B := B.trans (hb.mono B.size)
        clear hb
        go_wp2
        go_ret
        exact ⟨rfl, B⟩
      · skip
        have hc := cut_size s
        have cc := fun W : World => cut_any s W hs
        generalize cutS s = c at hc cc
        have hc2 : c.size ≤ 9223372036854775807 := by omega
        by_cases h256 : c.size = 256
        · go_wp2_with (go_at_call 8; refine (cc _).mono ?_; rintro e _ ⟨rfl, rfl⟩)
          go_ret
          exact ⟨rfl, B⟩
        have hne : ¬ (c.size : Int) = 256 := by omega
        go_wp2_with (go_at_call 8; refine (cc _).mono ?_; rintro e _ ⟨rfl, rfl⟩)
        refine (text_any c _).mono ?_
        rintro e t1 ⟨rfl, hb⟩
        replace m := m.below hb l
        replace l := Nat.lt_of_lt_of_le l hb.size
        replace B := B.trans (hb.mono B.size)
        clear hb
        go_wp2_with fail
        refine (text_any c _).mono ?_
        rintro e t2 ⟨rfl, hb⟩
        replace m := m.below hb l
        replace l := Nat.lt_of_lt_of_le l hb.size
        replace B := B.trans (hb.mono B.size)
        clear hb
        go_wp2_with fail
        refine (text_any t0 _).mono ?_
        rintro e t3 ⟨rfl, hb⟩
        replace m := m.below hb l
        replace l := Nat.lt_of_lt_of_le l hb.size
        replace B := B.trans (hb.mono B.size)
        clear hb
        go_wp2_with fail
        have cb := fun W : World => both_any 3 3 0 c 3 0 t0 W hc2 (by decide)
        rw [binText _ _ _ hc (by decide), show textsS 3 c t0 = (3, 0, c ++ t0, 0) by unfold textsS; rw [if_pos rfl, if_neg (by rw [show t0.size = 1 from rfl]; omega)]] at cb
        refine (cb _).mono ?_
        rintro e t4 ⟨rfl, hb⟩
        replace m := m.below hb l
        replace l := Nat.lt_of_lt_of_le l hb.size
        replace B := B.trans (hb.mono B.size)
        clear hb
        go_wp2_with fail
        have h7 : (c ++ t0).size ≤ 256 := by rw [ByteArray.size_append, show t0.size = 1 from rfl]; omega
        refine (yes_any 10 3 0 c 3 0 (c ++ t0) true _ hc2 (by omega) (by rw [binText _ _ _ hc h7, textsCmp _ _ _ (by decide), cmp_app]; rfl)).mono ?_
        rintro e t5 ⟨rfl, hb⟩
        replace m := m.below hb l
        replace l := Nat.lt_of_lt_of_le l hb.size
        replace B := B.trans (hb.mono B.size)
        clear hb
        go_wp2
        go_ret
        exact ⟨rfl, B⟩
end Go.Proofs.Ytfghajokmmlijaa
