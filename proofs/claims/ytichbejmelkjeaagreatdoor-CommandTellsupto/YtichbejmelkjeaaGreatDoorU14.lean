import Derived.Test.YtichbejmelkjeaaGreatDoorU05
import Derived.Test.YtichbejmelkjeaaGreatDoorU13
import Derived.Test.YtichbejmelkjeaaGreatDoorU06
namespace Go.Proofs.YtichbejmelkjeaaGreatDoor.Lx
open Go.RowKit

def sgCells : List Value := sgs.map fun s => Value.string s
theorem sgInfo : (Tryz.prog.info? 151).map (·.size) = some sgCells.length := by kernel_rfl
def sgAgg : Value := .agg sgCells.toArray
set_option maxRecDepth 100000 in
theorem sg_idx (k : Nat) (hk : k < 25) : ∀ w : World, (Instr.index 151 sgAgg (.int .i64 (k : Int))).run Tryz.prog w = .ok (.string (sgs.getD k ByteArray.empty)) w := by
  have h : k = 0 ∨ k = 1 ∨ k = 2 ∨ k = 3 ∨ k = 4 ∨ k = 5 ∨ k = 6 ∨ k = 7 ∨ k = 8 ∨ k = 9 ∨ k = 10 ∨ k = 11 ∨ k = 12 ∨ k = 13 ∨ k = 14 ∨ k = 15 ∨ k = 16 ∨ k = 17 ∨ k = 18 ∨ k = 19 ∨ k = 20 ∨ k = 21 ∨ k = 22 ∨ k = 23 ∨ k = 24 := by omega
  rcases h with rfl | rfl | rfl | rfl | rfl | rfl | rfl | rfl | rfl | rfl | rfl | rfl | rfl | rfl | rfl | rfl | rfl | rfl | rfl | rfl | rfl | rfl | rfl | rfl | rfl
  all_goals exact fun w => by kernel_rfl

/-- What the calls find in the package's tables. -/
structure Tabs (w : World) : Prop where
  kw : w.rangeAt 12 0 kwCells
  sg : w.rangeAt 10 0 sgCells
  e6 : ∃ te pe, w.cell? ⟨14, 0, none⟩ = some (.iface te pe)
  sz : 15 < w.heap.size
  e7 : ∃ te pe, w.cell? ⟨15, 0, none⟩ = some (.iface te pe)
theorem Tabs.size {w : World} (h : Tabs w) : 15 < w.heap.size := h.sz
theorem Tabs.below {w w' : World} {B : Nat} (h : Tabs w) (hb : Below B w w') (hB : 15 < B) : Tabs w' := by
  obtain ⟨t6, p6, h6⟩ := h.e6
  obtain ⟨t7, p7, h7⟩ := h.e7
  exact ⟨fun j v hv => (hb.cell (p := ⟨12, 0 + j, none⟩) (by show 12 < B; omega)).trans (h.kw j v hv), fun j v hv => (hb.cell (p := ⟨10, 0 + j, none⟩) (by show 10 < B; omega)).trans (h.sg j v hv),
    ⟨t6, p6, (hb.cell (p := ⟨14, 0, none⟩) (by show 14 < B; omega)).trans h6⟩, Nat.lt_of_lt_of_le h.sz hb.size, ⟨t7, p7, (hb.cell (p := ⟨15, 0, none⟩) (by show 15 < B; omega)).trans h7⟩⟩
theorem Tabs.next {w w' : World} (h : Tabs w) (hb : Below w.heap.size w w') : Tabs w' := h.below hb h.size

/-- The five cells of a token that is being made. -/
structure Five (w : World) (B : Nat) (a b c d e : Value) : Prop where
  c0 : w.cell? ⟨B, 0, none⟩ = some a
  c1 : w.cell? ⟨B, 1, none⟩ = some b
  c2 : w.cell? ⟨B, 2, none⟩ = some c
  c3 : w.cell? ⟨B, 3, none⟩ = some d
  c4 : w.cell? ⟨B, 4, none⟩ = some e
  f : ∀ j, j < 5 → w.frozen? ⟨B, j, none⟩ = false
theorem five_new (w : World) (a b c d e : Value) (t : TypeId) : Five (w.alloc (.cells #[a, b, c, d, e] t)) w.heap.size a b c d e := by
  have h := heap_alloc_new w (.cells #[a, b, c, d, e] t)
  refine ⟨?_, ?_, ?_, ?_, ?_, ?_⟩
  all_goals first | (simp only [World.cell?, h]; rfl) | skip
  intro j hj
  simp only [World.frozen?, h]
  simp
theorem Five.below {w w' : World} {B C : Nat} {a b c d e : Value} (h : Five w B a b c d e) (hb : Below C w w') (hB : B < C) : Five w' B a b c d e :=
  ⟨(hb.cell hB).trans h.c0, (hb.cell hB).trans h.c1, (hb.cell hB).trans h.c2, (hb.cell hB).trans h.c3, (hb.cell hB).trans h.c4, fun j hj => (hb.frozen hB).trans (h.f j hj)⟩

set_option maxHeartbeats 400000 in
theorem clone_any (s : ByteArray) (w : World) (hs : s.size ≤ 281474976710656) : Calls Tryz.prog 31 #[.string s] w fun e w' => e = .returned (.string s) ∧ Below w.heap.size w w' := by
  go_enter Tryz.func31, Tryz.ntmps31
  go_wp2_with (go_at_call 59; refine (Tryz.stringslite_Clone s w hs).mono ?_; rintro e w1 ⟨rfl, hb1⟩)
  go_ret
  exact ⟨rfl, hb1⟩

theorem ix_cmt (l : List UInt8) : (0 ≤ Lib.indexByte l 10 → (Lib.indexByte l 10) = (cmtS l : Int)) ∧ (¬ 0 ≤ Lib.indexByte l 10 → cmtS l = l.length) := by
  induction l with
  | nil => simp [Lib.indexByte, cmtS]
  | cons c l ih =>
    have hge := Lib.indexByte_ge l 10
    unfold Lib.indexByte cmtS
    by_cases hc : c = 10
    · subst hc; simp
    · have h1 : (c == 10) = false := by simpa using hc
      have h2 : (c != 10) = true := by simpa using hc
      rw [h1, List.takeWhile_cons, if_pos h2]
      by_cases hm : Lib.indexByte l 10 = -1
      · rw [hm] at ih ⊢
        have := ih.2 (by decide)
        unfold cmtS at this
        simp [this]
      · have h3 : (Lib.indexByte l 10 == -1) = false := by simpa using hm
        have := ih.1 (by omega)
        unfold cmtS at this
        simp only [h3, List.length_cons]
        refine ⟨fun _ => ?_, fun h => ?_⟩
        · simp; omega
        · simp at h; omega
theorem cmt_le (l : List UInt8) : cmtS l ≤ l.length := by unfold cmtS; exact (List.takeWhile_sublist _).length_le

set_option maxHeartbeats 400000 in
theorem comment_any (t : ByteArray) (k : Nat) (w : World) (ht : t.size ≤ 140737488355328) (hk : k ≤ t.size) :
    Calls Tryz.prog 87 #[.string t, .int .i64 (k : Int)] w fun e w' => e = .returned (.int .i64 ((k + cmtS (t.data.toList.drop k) : Nat) : Int)) ∧ w = w' := by
  have c1 : (0 : Int) ≤ ↑k := by omega
  have c2 : (↑k : Int) ≤ ↑t.size := by omega
  have hx : (t.extract k t.size).data.toList = t.data.toList.drop k := by rw [Lib.extract_data, List.take_of_length_le (by rw [List.length_drop, ← Lib.size_eq]; omega)]
  have hix := ix_cmt (t.data.toList.drop k)
  have hle := cmt_le (t.data.toList.drop k)
  rw [List.length_drop, ← Lib.size_eq] at hix hle
  have HI := Tryz.strings_IndexByte (t.extract k t.size) 10 w
  rw [hx, show ((10 : Int).toNat.toUInt8) = 10 from rfl] at HI
  clear hx
  generalize Lib.indexByte (t.data.toList.drop k) 10 = i at hix HI
  generalize cmtS (t.data.toList.drop k) = m at hix hle
  have HI' : Hid (Calls Tryz.prog 94 #[.string (t.extract k t.size), .int .u8 10] w fun e w' => e = .returned (.int .i64 i) ∧ w' = w) := HI
  clear HI
  by_cases hi : 0 ≤ i
  · have e := hix.1 hi
    subst e
    clear hix
    go_enter Tryz.func87, Tryz.ntmps87
    go_wp2_with (go_at_call 94; refine HI'.out.mono ?_; rintro e _ ⟨rfl, rfl⟩)
    go_ret
    exact ⟨by go_num, rfl⟩
  · have e := hix.2 hi
    clear hix
    go_enter Tryz.func87, Tryz.ntmps87
    go_wp2_with (go_at_call 94; refine HI'.out.mono ?_; rintro e _ ⟨rfl, rfl⟩)
    go_ret
    exact ⟨by rw [show ((k + m : Nat) : Int) = (t.size : Int) from by omega]; rfl, rfl⟩
end Go.Proofs.YtichbejmelkjeaaGreatDoor.Lx

namespace Go.Proofs.YtichbejmelkjeaaGreatDoor.Lx
open Go.RowKit

theorem five_set {w : World} {B : Nat} {a b c d e : Value} (h : Five w B a b c d e) (y0 y1 y2 y3 y4 : Value) :
    Five (((((w.setCell ⟨B, 0, none⟩ y0).setCell ⟨B, 1, none⟩ y1).setCell ⟨B, 2, none⟩ y2).setCell ⟨B, 3, none⟩ y3).setCell ⟨B, 4, none⟩ y4) B y0 y1 y2 y3 y4 := by
  have ot : ∀ (W : World) (i j : Nat) (y : Value), i ≠ j → (W.setCell ⟨B, j, none⟩ y).cell? ⟨B, i, none⟩ = W.cell? ⟨B, i, none⟩ := fun W i j y hij => World.cell?_setCell_other _ _ _ _ (fun e => hij (by cases e; rfl))
  refine ⟨?_, ?_, ?_, ?_, ?_, ?_⟩
  · rw [ot _ 0 4 _ (by omega), ot _ 0 3 _ (by omega), ot _ 0 2 _ (by omega), ot _ 0 1 _ (by omega)]
    exact World.cell?_setCell_same' _ _ _ (by rw [h.c0]; rfl)
  · rw [ot _ 1 4 _ (by omega), ot _ 1 3 _ (by omega), ot _ 1 2 _ (by omega)]
    exact World.cell?_setCell_same' _ _ _ (by rw [ot _ 1 0 _ (by omega), h.c1]; rfl)
  · rw [ot _ 2 4 _ (by omega), ot _ 2 3 _ (by omega)]
    exact World.cell?_setCell_same' _ _ _ (by rw [ot _ 2 1 _ (by omega), ot _ 2 0 _ (by omega), h.c2]; rfl)
  · rw [ot _ 3 4 _ (by omega)]
    exact World.cell?_setCell_same' _ _ _ (by rw [ot _ 3 2 _ (by omega), ot _ 3 1 _ (by omega), ot _ 3 0 _ (by omega), h.c3]; rfl)
  · exact World.cell?_setCell_same' _ _ _ (by rw [ot _ 4 3 _ (by omega), ot _ 4 2 _ (by omega), ot _ 4 1 _ (by omega), ot _ 4 0 _ (by omega), h.c4]; rfl)
  · intro j hj
    simp only [World.frozen?_setCell]
    exact h.f j hj
theorem below_set5 {w0 w : World} {B : Nat} (h : Below w0.heap.size w0 w) (hB : w0.heap.size ≤ B) (y0 y1 y2 y3 y4 : Value) :
    Below w0.heap.size w0 (((((w.setCell ⟨B, 0, none⟩ y0).setCell ⟨B, 1, none⟩ y1).setCell ⟨B, 2, none⟩ y2).setCell ⟨B, 3, none⟩ y3).setCell ⟨B, 4, none⟩ y4) :=
  ((((h.setCell (p := ⟨B, 0, none⟩) hB _).setCell (p := ⟨B, 1, none⟩) hB _).setCell (p := ⟨B, 2, none⟩) hB _).setCell (p := ⟨B, 3, none⟩) hB _).setCell (p := ⟨B, 4, none⟩) hB _

theorem five_range {w : World} {B : Nat} {a b c d e : Value} (h : Five w B a b c d e) : w.rangeAt B 0 [a, b, c, d, e] := by
  intro j v hv
  match j, hv with
  | 0, hv => cases hv; exact h.c0
  | 1, hv => cases hv; exact h.c1
  | 2, hv => cases hv; exact h.c2
  | 3, hv => cases hv; exact h.c3
  | 4, hv => cases hv; exact h.c4
  | n + 5, hv => simp at hv

theorem ret5 {w : World} {B : Nat} {a b c d e x : Value} {tm : Array Value} (hf : Five w B a b c d e) (h4 : tm[4]?.getD undef = .pointer (some ⟨B, 0, none⟩)) (h5 : tm[5]?.getD undef = x) :
    (results Tryz.f96 tm).run Tryz.prog w = .ok (.tuple #[.agg #[a, b, c, d, e], x]) w := by
  obtain ⟨c0, c1, c2, c3, c4, _⟩ := hf
  simp [results, Tryz.results96, go_sem, h4, h5, c0, c1, c2, c3, c4]
end Go.Proofs.YtichbejmelkjeaaGreatDoor.Lx

namespace Go.Proofs.YtichbejmelkjeaaGreatDoor.Lx
open Go.RowKit

theorem byte_at (t : ByteArray) (j : Nat) (h : j < t.size) (h' : j < t.data.toList.length) : t.data.toList[j]'h' = t[j]'h := by
  rw [Array.getElem_toList]; rfl

set_option maxRecDepth 100000 in
set_option maxHeartbeats 2000000 in
theorem wordAt_any (t : ByteArray) (k : Nat) (w : World) (ht : t.size ≤ 140737488355328) (hk : k < t.size) (hT : Tabs w) :
    Calls Tryz.prog 96 #[.string t, .int .i64 (k : Int)] w fun e w' => e = .returned (resV k (wordS (t.data.toList.drop k))) ∧ Below w.heap.size w w' := by
  have HT : Hid (Tabs w) := hT
  clear hT
  have H5 := five_new w (.int .i64 0) (.int .i64 0) (.int .i64 0) (.string ⟨#[]⟩) (.int .i64 0) 113
  have H5' : Hid (Five (w.alloc (.cells #[.int .i64 0, .int .i64 0, .int .i64 0, .string ⟨#[]⟩, .int .i64 0] 113)) w.heap.size (.int .i64 0) (.int .i64 0) (.int .i64 0) (.string ⟨#[]⟩) (.int .i64 0)) := H5
  clear H5
  have HB0 : Hid (Below w.heap.size w (w.alloc (.cells #[.int .i64 0, .int .i64 0, .int .i64 0, .string ⟨#[]⟩, .int .i64 0] 113))) := (Below.refl _ w).alloc (Nat.le_refl _) _
  go_enter Tryz.func96, Tryz.ntmps96
  go_wp2
  generalize hw1 : w.alloc (.cells #[.int .i64 0, .int .i64 0, .int .i64 0, .string ⟨#[]⟩, .int .i64 0] 113) = w1 at *
  go_loop [6] (fun i => ∃ j : Nat, k ≤ j ∧ j ≤ t.size ∧ i = .int .i64 (j : Int) ∧ Hid ((t.data.toList.drop k).takeWhile innerB = (t.data.toList.drop k).take (j - k) ++ (t.data.toList.drop j).takeWhile innerB)) (fun i => t.size - (intOf i).toNat)
  case atStart => exact ⟨k, Nat.le_refl _, by omega, rfl, by simp [Hid]⟩
  case round =>
    obtain ⟨j, hkj, hj, rfl, htw⟩ := hrel
    clear hw1
    by_cases hp : ∃ h : j < t.size, innerB (t[j]'h) = true
    · obtain ⟨hlt, hp⟩ := hp
      have hst := tw_step innerB t.data.toList k j hkj (by rw [← Lib.size_eq]; exact hlt) (by rw [byte_at t j hlt]; exact hp) htw.out
      have HST : Hid ((t.data.toList.drop k).takeWhile innerB = (t.data.toList.drop k).take (j + 1 - k) ++ (t.data.toList.drop (j + 1)).takeWhile innerB) := hst
      clear hst htw
      obtain ⟨c, hc⟩ : ∃ c, t[j]'hlt = c := ⟨_, rfl⟩
      rw [hc] at hp
      have HW := isWord_any c w1
      rw [hp] at HW
      have HW' : Hid (Calls Tryz.prog 109 #[.int .u8 (c.toNat : Int)] w1 fun e w' => e = .returned (.bool true) ∧ w1 = w') := HW
      clear HW hp
      go_wp2_with (first
        | (go_at_call 109; refine HW'.out.mono ?_; rintro e _ ⟨rfl, rfl⟩)
        | go_in)
      exact ⟨⟨j + 1, by omega, by omega, by go_num, HST⟩, by simp [intOf]; omega⟩
    · have htk := tw_stop innerB t.data.toList k j (fun h => by
        have h' : j < t.size := by rw [Lib.size_eq]; exact h
        rw [byte_at t j h']
        cases hb : innerB (t[j]'h') with
        | true => exact absurd ⟨h', hb⟩ hp
        | false => rfl) htw.out
      obtain ⟨S, hS⟩ : ∃ S, t.extract k j = S := ⟨_, rfl⟩
      have hSd : S.data.toList = (t.data.toList.drop k).takeWhile innerB := by rw [← hS, Lib.extract_data, htk]
      have hSl : k + S.size = j := by
        rw [Lib.size_eq, ← hS, Lib.extract_data, List.length_take, List.length_drop, ← Lib.size_eq]
        omega
      have hSt : (⟨((t.data.toList.drop k).takeWhile innerB).toArray⟩ : ByteArray) = S := by rw [← hSd]
      have hwS : wordS (t.data.toList.drop k) = if kw S = true then .inr ⟨4, S.size, S.data.toList, 0⟩ else if 24 < S.size then .inl 23 else .inr ⟨1, S.size, S.data.toList, 0⟩ := by
        unfold wordS
        simp only [hSt, Lib.size_eq S, hSd]
      have HS : Hid (wordS (t.data.toList.drop k) = if kw S = true then .inr ⟨4, S.size, S.data.toList, 0⟩ else if 24 < S.size then .inl 23 else .inr ⟨1, S.size, S.data.toList, 0⟩) := hwS
      have HSl : Hid (k + S.size = j) := hSl
      clear hSd hSt hwS htk htw hSl
      have k0 : (0 : Int) ≤ ↑k := by omega
      have k1 : (k : Int) ≤ ↑j := by omega
      have j1 : (j : Int) ≤ ↑t.size := by omega
      have hcond : t.size = j ∨ ∃ h : j < t.size, Hid (innerB (t[j]'h) = false) := by
        by_cases h : j < t.size
        · right
          refine ⟨h, ?_⟩
          cases hb : innerB (t[j]'h) with
          | true => exact absurd ⟨h, hb⟩ hp
          | false => rfl
        · left; omega
      have HW : Hid (∀ (c : UInt8) (w : World), Calls Tryz.prog 109 #[.int .u8 (c.toNat : Int)] w fun e w' => e = .returned (.bool (innerB c)) ∧ w = w') := isWord_any
      clear hp
      have hb1 : w.heap.size < w1.heap.size := World.block_lt_of_cell? w1 _ H5'.out.c0
      have HK : Hid (Calls Tryz.prog 110 #[.string S] w1 fun e w' => e = .returned (.bool (kw S)) ∧ w' = w1) := keyword_r S w1 (HT.out.next HB0.out).kw
      have HC : Hid (Calls Tryz.prog 31 #[.string S] w1 fun e w' => e = .returned (.string S) ∧ Below w1.heap.size w1 w') := clone_any S w1 (by have := HSl.out; omega)
      by_cases hq : kw S = true
      · rw [if_pos hq] at HS
        rw [hq] at HK
        clear hq
        have HR : Hid (resV k (wordS (t.data.toList.drop k)) = .tuple #[.agg #[.int .i64 4, .int .i64 (k : Int), .int .i64 (j : Int), .string S, .int .i64 0], .int .i64 0]) := by
          rw [HS.out]
          simp only [resV, tkCells, ← HSl.out]
          rfl
        clear HS HSl
        rcases hcond with hend | ⟨hlt, hin⟩
        all_goals
          go_wp2_with (first
            | (go_at_call 110; refine HK.out.mono ?_; rintro e w2 ⟨rfl, hw2⟩; subst hw2)
            | (go_at_call 109; refine (HW.out _ _).mono ?_; rintro e w2 ⟨rfl, hw2⟩; subst hw2; rw [hin.out])
            | (go_at_call 31; refine HC.out.mono ?_; rintro e w3 ⟨rfl, hb3⟩; have F3 : Hid (Five w3 w.heap.size _ _ _ _ _) := H5'.out.below hb3 hb1; obtain ⟨c0, c1, c2, c3, c4, f⟩ := F3.out; have f0 := f 0 (by omega); have f1 := f 1 (by omega); have f2 := f 2 (by omega); have f3 := f 3 (by omega); have f4 := f 4 (by omega); clear f)
            | go_in)
          exact bodyPost_ret (ret5 (five_set F3.out _ _ _ _ _) rfl rfl) rfl ⟨congrArg Ending.returned HR.out.symm, below_set5 (HB0.out.trans (hb3.mono (by omega))) (Nat.le_refl _) _ _ _ _ _⟩
      · rw [if_neg hq] at HS
        rw [show kw S = false from by simpa using hq] at HK
        by_cases hz : 24 < S.size
        · rw [if_pos hz] at HS
          clear hq
          have HR : Hid (resV k (wordS (t.data.toList.drop k)) = .tuple #[.agg #[.int .i64 0, .int .i64 0, .int .i64 0, .string ⟨#[]⟩, .int .i64 0], .int .i64 23]) := by
            rw [HS.out]
            rfl
          clear HS HSl
          obtain ⟨c0, c1, c2, c3, c4, f⟩ := H5'.out
          have f0 := f 0 (by omega)
          have f1 := f 1 (by omega)
          have f2 := f 2 (by omega)
          have f3 := f 3 (by omega)
          have f4 := f 4 (by omega)
          clear f
          have hz' : (24 : Int) < (S.size : Int) := by omega
          rcases hcond with hend | ⟨hlt, hin⟩
          all_goals
            go_wp2_with (first
              | (go_at_call 110; refine HK.out.mono ?_; rintro e w2 ⟨rfl, hw2⟩; subst hw2)
              | (go_at_call 109; refine (HW.out _ _).mono ?_; rintro e w2 ⟨rfl, hw2⟩; subst hw2; rw [hin.out])
              | go_in)
            exact bodyPost_ret (ret5 (five_set H5'.out _ _ _ _ _) rfl rfl) rfl ⟨congrArg Ending.returned HR.out.symm, below_set5 HB0.out (Nat.le_refl _) _ _ _ _ _⟩
        · rw [if_neg hz] at HS
          have hz' : ¬ (24 : Int) < (S.size : Int) := by omega
          clear hq
          have HR : Hid (resV k (wordS (t.data.toList.drop k)) = .tuple #[.agg #[.int .i64 1, .int .i64 (k : Int), .int .i64 (j : Int), .string S, .int .i64 0], .int .i64 0]) := by
            rw [HS.out]
            simp only [resV, tkCells, ← HSl.out]
            rfl
          clear HS HSl
          rcases hcond with hend | ⟨hlt, hin⟩
          all_goals
            go_wp2_with (first
              | (go_at_call 110; refine HK.out.mono ?_; rintro e w2 ⟨rfl, hw2⟩; subst hw2)
              | (go_at_call 109; refine (HW.out _ _).mono ?_; rintro e w2 ⟨rfl, hw2⟩; subst hw2; rw [hin.out])
              | (go_at_call 31; refine HC.out.mono ?_; rintro e w3 ⟨rfl, hb3⟩; have F3 : Hid (Five w3 w.heap.size _ _ _ _ _) := H5'.out.below hb3 hb1; obtain ⟨c0, c1, c2, c3, c4, f⟩ := F3.out; have f0 := f 0 (by omega); have f1 := f 1 (by omega); have f2 := f 2 (by omega); have f3 := f 3 (by omega); have f4 := f 4 (by omega); clear f)
              | go_in)
            exact bodyPost_ret (ret5 (five_set F3.out _ _ _ _ _) rfl rfl) rfl ⟨congrArg Ending.returned HR.out.symm, below_set5 (HB0.out.trans (hb3.mono (by omega))) (Nat.le_refl _) _ _ _ _ _⟩
end Go.Proofs.YtichbejmelkjeaaGreatDoor.Lx

namespace Go.Proofs.YtichbejmelkjeaaGreatDoor.Lx
open Go.RowKit

theorem sign_hit (l : List UInt8) (i : Nat) (hi : i < 25) (hn : ∀ j, j < i → (sgs.getD j ByteArray.empty).data.toList.isPrefixOf l = false) (h : (sgs.getD i ByteArray.empty).data.toList.isPrefixOf l = true) :
    signS l = .inr ⟨5, (sgs.getD i ByteArray.empty).size, (sgs.getD i ByteArray.empty).data.toList, 0⟩ := by
  have hl : i < sgs.length := hi
  have e : sgs.getD i ByteArray.empty = sgs[i] := by rw [List.getD_eq_getElem?_getD, List.getElem?_eq_getElem hl]; rfl
  have hf : sgs.find? (fun s => s.data.toList.isPrefixOf l) = some sgs[i] := by
    rw [List.find?_eq_some_iff_getElem]
    refine ⟨by rw [← e]; exact h, i, hl, rfl, fun j hj => ?_⟩
    have := hn j hj
    rw [List.getD_eq_getElem?_getD, List.getElem?_eq_getElem (by omega)] at this
    rw [Bool.not_eq_true']
    exact this
  unfold signS
  rw [hf, e]
theorem sign_miss (l : List UInt8) (hn : ∀ j, j < 25 → (sgs.getD j ByteArray.empty).data.toList.isPrefixOf l = false) : signS l = .inl 20 := by
  have hf : sgs.find? (fun s => s.data.toList.isPrefixOf l) = none := by
    rw [List.find?_eq_none]
    intro x hx
    obtain ⟨j, hj, rfl⟩ := List.getElem_of_mem hx
    have := hn j hj
    rw [List.getD_eq_getElem?_getD, List.getElem?_eq_getElem hj] at this
    rw [Bool.not_eq_true]
    exact this
  unfold signS
  rw [hf]
theorem sg_size (i : Nat) (hi : i < 25) : (sgs.getD i ByteArray.empty).size ≤ 2 := by
  have h : i = 0 ∨ i = 1 ∨ i = 2 ∨ i = 3 ∨ i = 4 ∨ i = 5 ∨ i = 6 ∨ i = 7 ∨ i = 8 ∨ i = 9 ∨ i = 10 ∨ i = 11 ∨ i = 12 ∨ i = 13 ∨ i = 14 ∨ i = 15 ∨ i = 16 ∨ i = 17 ∨ i = 18 ∨ i = 19 ∨ i = 20 ∨ i = 21 ∨ i = 22 ∨ i = 23 ∨ i = 24 := by omega
  rcases h with rfl | rfl | rfl | rfl | rfl | rfl | rfl | rfl | rfl | rfl | rfl | rfl | rfl | rfl | rfl | rfl | rfl | rfl | rfl | rfl | rfl | rfl | rfl | rfl | rfl
  all_goals decide

set_option maxRecDepth 100000 in
set_option maxHeartbeats 2000000 in
theorem signAt_any (t : ByteArray) (k : Nat) (w : World) (ht : t.size ≤ 140737488355328) (hk : k < t.size) (hT : Tabs w) :
    Calls Tryz.prog 100 #[.string t, .int .i64 (k : Int)] w fun e w' => e = .returned (resV k (signS (t.data.toList.drop k))) ∧ Below w.heap.size w w' := by
  have H5 := five_new w (.int .i64 0) (.int .i64 0) (.int .i64 0) (.string ⟨#[]⟩) (.int .i64 0) 113
  have H5' : Hid (Five (w.alloc (.cells #[.int .i64 0, .int .i64 0, .int .i64 0, .string ⟨#[]⟩, .int .i64 0] 113)) w.heap.size (.int .i64 0) (.int .i64 0) (.int .i64 0) (.string ⟨#[]⟩) (.int .i64 0)) := H5
  clear H5
  have HB0 : Hid (Below w.heap.size w (w.alloc (.cells #[.int .i64 0, .int .i64 0, .int .i64 0, .string ⟨#[]⟩, .int .i64 0] 113))) := (Below.refl _ w).alloc (Nat.le_refl _) _
  have HR0 : Hid ((w.alloc (.cells #[.int .i64 0, .int .i64 0, .int .i64 0, .string ⟨#[]⟩, .int .i64 0] 113)).rangeAt 10 0 sgCells) := (hT.next HB0.out).sg
  clear hT
  have c1 : (0 : Int) ≤ ↑k := by omega
  have c2 : (↑k : Int) ≤ ↑t.size := by omega
  have hx : (t.extract k t.size).data.toList = t.data.toList.drop k := by rw [Lib.extract_data, List.take_of_length_le (by rw [List.length_drop, ← Lib.size_eq]; omega)]
  have HX : Hid ((t.extract k t.size).data.toList = t.data.toList.drop k) := hx
  clear hx
  go_enter Tryz.func100, Tryz.ntmps100
  go_wp2_with (first | (refine wpList_load_mid (by rfl) 151 (.global 10) (by rfl) 10 0 (by rfl) sgCells _ HR0.out Tryz.underlying151 (by rfl) sgInfo ?_) | go_in)
  generalize hw1 : w.alloc (.cells #[.int .i64 0, .int .i64 0, .int .i64 0, .string ⟨#[]⟩, .int .i64 0] 113) = w1 at *
  clear HR0
  go_loop [9] (fun i => ∃ m : Nat, m ≤ 25 ∧ i = .int .i64 (m : Int) ∧ Hid (∀ j, j < m → (sgs.getD j ByteArray.empty).data.toList.isPrefixOf (t.data.toList.drop k) = false)) (fun i => 25 - (intOf i).toNat)
  case atStart => exact ⟨0, by omega, rfl, fun j hj => by omega⟩
  case round =>
    obtain ⟨m, hm, rfl, hn⟩ := hrel
    clear hw1
    have hb1 : w.heap.size < w1.heap.size := World.block_lt_of_cell? w1 _ H5'.out.c0
    by_cases hlt : m < 25
    · have hi := sg_idx m hlt
      unfold sgAgg at hi
      obtain ⟨x, hx⟩ : ∃ x, x = sgs.getD m ByteArray.empty := ⟨_, rfl⟩
      have hxs := sg_size m hlt
      rw [← hx] at hi hxs
      have HXm : Hid (x = sgs.getD m ByteArray.empty) := hx
      clear hx
      have HP := Tryz.strings_HasPrefix (t.extract k t.size) x w1
      rw [HX.out] at HP
      by_cases hp : x.data.toList.isPrefixOf (t.data.toList.drop k) = true
      · have hs := sign_hit (t.data.toList.drop k) m hlt hn.out (by rw [← HXm.out]; exact hp)
        rw [← HXm.out] at hs
        have HR : Hid (resV k (signS (t.data.toList.drop k)) = .tuple #[.agg #[.int .i64 5, .int .i64 (k : Int), .int .i64 ((k : Int) + (x.size : Int)), .string x, .int .i64 0], .int .i64 0]) := by
          rw [hs]
          rfl
        clear hs
        rw [show Lib.hasPrefix (t.data.toList.drop k) x.data.toList = true from hp] at HP
        have HP' : Hid (Calls Tryz.prog 113 #[.string (t.extract k t.size), .string x] w1 fun e w' => e = .returned (.bool true) ∧ w' = w1) := HP
        have HC : Hid (Calls Tryz.prog 31 #[.string x] w1 fun e w' => e = .returned (.string x) ∧ Below w1.heap.size w1 w') := clone_any x w1 (by omega)
        clear HP hp hn
        go_wp2_with (first
          | (go_at_call 113; refine HP'.out.mono ?_; rintro e w2 ⟨rfl, hw2⟩; subst hw2)
          | (go_at_call 31; refine HC.out.mono ?_; rintro e w3 ⟨rfl, hb3⟩; have F3 : Hid (Five w3 w.heap.size _ _ _ _ _) := H5'.out.below hb3 hb1; obtain ⟨c0, c1, c2, c3, c4, f⟩ := F3.out; have f0 := f 0 (by omega); have f1 := f 1 (by omega); have f2 := f 2 (by omega); have f3 := f 3 (by omega); have f4 := f 4 (by omega); clear f)
          | go_in)
        exact bodyPost_ret (ret5 (five_set F3.out _ _ _ _ _) rfl rfl) rfl ⟨congrArg Ending.returned HR.out.symm, below_set5 (HB0.out.trans (hb3.mono (by omega))) (Nat.le_refl _) _ _ _ _ _⟩
      · have hpf : x.data.toList.isPrefixOf (t.data.toList.drop k) = false := Bool.eq_false_iff.2 hp
        rw [show Lib.hasPrefix (t.data.toList.drop k) x.data.toList = false from hpf] at HP
        have HP' : Hid (Calls Tryz.prog 113 #[.string (t.extract k t.size), .string x] w1 fun e w' => e = .returned (.bool false) ∧ w' = w1) := HP
        have HN : Hid (∀ j, j < m + 1 → (sgs.getD j ByteArray.empty).data.toList.isPrefixOf (t.data.toList.drop k) = false) := by
          intro j hj
          by_cases hjm : j < m
          · exact hn.out j hjm
          · obtain rfl : j = m := by omega
            rw [← HXm.out]
            exact hpf
        clear HP hp hpf hn
        go_wp2_with (first
          | (go_at_call 113; refine HP'.out.mono ?_; rintro e w2 ⟨rfl, hw2⟩; subst hw2)
          | go_in)
        exact ⟨⟨m + 1, by omega, by go_num, HN⟩, by simp [intOf]; omega⟩
    · obtain rfl : m = 25 := by omega
      have hs := sign_miss (t.data.toList.drop k) hn.out
      have HR : Hid (resV k (signS (t.data.toList.drop k)) = .tuple #[.agg #[.int .i64 0, .int .i64 0, .int .i64 0, .string ⟨#[]⟩, .int .i64 0], .int .i64 20]) := by
        rw [hs]
        rfl
      clear hs hn
      obtain ⟨c0, c1, c2, c3, c4, f⟩ := H5'.out
      have f0 := f 0 (by omega)
      have f1 := f 1 (by omega)
      have f2 := f 2 (by omega)
      have f3 := f 3 (by omega)
      have f4 := f 4 (by omega)
      clear f
      go_wp2
      exact bodyPost_ret (ret5 (five_set H5'.out _ _ _ _ _) rfl rfl) rfl ⟨congrArg Ending.returned HR.out.symm, below_set5 HB0.out (Nat.le_refl _) _ _ _ _ _⟩
end Go.Proofs.YtichbejmelkjeaaGreatDoor.Lx

namespace Go.Proofs.YtichbejmelkjeaaGreatDoor.Lx
open Go.RowKit

theorem u8ne {c : UInt8} {n : Nat} (hn : n < 256) (h : c ≠ UInt8.ofNat n) : ((c.toNat : Int) == (n : Int)) = false := by
  rw [beq_eq_false_iff_ne]
  intro e
  apply h
  apply UInt8.toNat_inj.1
  rw [UInt8.toNat_ofNat_of_lt' (by simpa using hn)]
  omega

def pcV (x : UInt8 × Nat) : Value := .tuple #[.int .u8 (x.1.toNat : Int), .int .i64 (x.2 : Int)]

section
variable (r : ByteArray) (w : World)

theorem pre_calls (p : ByteArray) (b : Bool) (h : Lib.hasPrefix r.data.toList p.data.toList = b) : Hid (Calls Tryz.prog 113 #[.string r, .string p] w fun e w' => e = .returned (.bool b) ∧ w' = w) := by
  have := Tryz.strings_HasPrefix r p w
  rw [h] at this
  exact this

set_option maxRecDepth 100000 in
set_option maxHeartbeats 2000000 in
theorem first_plain (c : UInt8) (h0 : 0 < r.size) (hc : r[0]'h0 = c) (h92 : c ≠ 92) :
    Calls Tryz.prog 112 #[.string r] w fun e w' => e = .returned (pcV (if plainB c = true then (c, 1) else (0, 0))) ∧ w = w' := by
  have b1 := u8ne (n := 92) (by omega) h92
  have HP : Hid (Calls Tryz.prog 120 #[.int .u8 (c.toNat : Int)] w fun e w' => e = .returned (.bool (plainB c)) ∧ w = w') := isPlain_any c w
  clear h92
  have i0 : (0 : Int) < (r.size : Int) := by omega
  by_cases hp : plainB c = true
  · rw [hp] at HP
    rw [if_pos hp]
    clear hp
    go_enter Tryz.func112, Tryz.ntmps112
    go_wp2_with (first
      | (go_at_call 120; refine HP.out.mono ?_; rintro e w2 ⟨rfl, rfl⟩)
      | go_in)
    go_ret2
    exact ⟨rfl, rfl⟩
  · rw [show plainB c = false from by simpa using hp] at HP
    rw [if_neg hp]
    clear hp
    go_enter Tryz.func112, Tryz.ntmps112
    go_wp2_with (first
      | (go_at_call 120; refine HP.out.mono ?_; rintro e w2 ⟨rfl, rfl⟩)
      | go_in)
    go_ret2
    exact ⟨rfl, rfl⟩

set_option maxRecDepth 100000 in
set_option maxHeartbeats 2000000 in
theorem first_n (h0 : 0 < r.size) (hc : r[0]'h0 = 92) (p1 : Lib.hasPrefix r.data.toList [92, 110] = true) :
    Calls Tryz.prog 112 #[.string r] w fun e w' => e = .returned (pcV (10, 2)) ∧ w = w' := by
  have H1 := pre_calls r w ⟨#[92, 110]⟩ true p1
  have i0 : (0 : Int) < (r.size : Int) := by omega
  clear p1
  go_enter Tryz.func112, Tryz.ntmps112
  go_wp2_with (first
    | (go_at_call 113; refine H1.out.mono ?_; rintro e w2 ⟨rfl, hw⟩; subst hw)
    | go_in)
  go_ret2
  exact ⟨rfl, rfl⟩

set_option maxRecDepth 100000 in
set_option maxHeartbeats 2000000 in
theorem first_self (d : UInt8) (h0 : 1 < r.size) (hc : r[0]'(by omega) = 92) (hd : r[1]'h0 = d) (p1 : Lib.hasPrefix r.data.toList [92, 110] = false) (p2 : Lib.hasPrefix r.data.toList [92, 34] = true ∨ (Lib.hasPrefix r.data.toList [92, 34] = false ∧ Lib.hasPrefix r.data.toList [92, 92] = true)) :
    Calls Tryz.prog 112 #[.string r] w fun e w' => e = .returned (pcV (d, 2)) ∧ w = w' := by
  have H1 := pre_calls r w ⟨#[92, 110]⟩ false p1
  have i0 : (0 : Int) < (r.size : Int) := by omega
  have i1 : (1 : Int) < (r.size : Int) := by omega
  have hz : 0 < r.size := by omega
  clear p1
  rcases p2 with p2 | ⟨p2, p3⟩
  · have H2 := pre_calls r w ⟨#[92, 34]⟩ true p2
    clear p2
    go_enter Tryz.func112, Tryz.ntmps112
    go_wp2_with (first
      | (go_at_call 113; first | (refine H1.out.mono ?_; rintro e w2 ⟨rfl, hw⟩; subst hw) | (refine H2.out.mono ?_; rintro e w2 ⟨rfl, hw⟩; subst hw))
      | go_in)
    go_ret2
    exact ⟨rfl, rfl⟩
  · have H2 := pre_calls r w ⟨#[92, 34]⟩ false p2
    have H3 := pre_calls r w ⟨#[92, 92]⟩ true p3
    clear p2 p3
    go_enter Tryz.func112, Tryz.ntmps112
    go_wp2_with (first
      | (go_at_call 113; first | (refine H1.out.mono ?_; rintro e w2 ⟨rfl, hw⟩; subst hw) | (refine H2.out.mono ?_; rintro e w2 ⟨rfl, hw⟩; subst hw) | (refine H3.out.mono ?_; rintro e w2 ⟨rfl, hw⟩; subst hw))
      | go_in)
    go_ret2
    exact ⟨rfl, rfl⟩

set_option maxRecDepth 100000 in
set_option maxHeartbeats 2000000 in
theorem first_none (h0 : 0 < r.size) (hc : r[0]'h0 = 92) (p1 : Lib.hasPrefix r.data.toList [92, 110] = false) (p2 : Lib.hasPrefix r.data.toList [92, 34] = false) (p3 : Lib.hasPrefix r.data.toList [92, 92] = false)
    (p4 : Lib.hasPrefix r.data.toList [92, 120] = false ∨ (Lib.hasPrefix r.data.toList [92, 120] = true ∧ r.size < 4)) :
    Calls Tryz.prog 112 #[.string r] w fun e w' => e = .returned (pcV (0, 0)) ∧ w = w' := by
  have H1 := pre_calls r w ⟨#[92, 110]⟩ false p1
  have H2 := pre_calls r w ⟨#[92, 34]⟩ false p2
  have H3 := pre_calls r w ⟨#[92, 92]⟩ false p3
  have i0 : (0 : Int) < (r.size : Int) := by omega
  clear p1 p2 p3
  rcases p4 with p4 | ⟨p4, h4⟩
  · have H4 := pre_calls r w ⟨#[92, 120]⟩ false p4
    clear p4
    go_enter Tryz.func112, Tryz.ntmps112
    go_wp2_with (first
      | (go_at_call 113; first | (refine H1.out.mono ?_; rintro e w2 ⟨rfl, hw⟩; subst hw) | (refine H2.out.mono ?_; rintro e w2 ⟨rfl, hw⟩; subst hw) | (refine H3.out.mono ?_; rintro e w2 ⟨rfl, hw⟩; subst hw) | (refine H4.out.mono ?_; rintro e w2 ⟨rfl, hw⟩; subst hw))
      | go_in)
    go_ret2
    exact ⟨rfl, rfl⟩
  · have H4 := pre_calls r w ⟨#[92, 120]⟩ true p4
    have h4' : ¬ (4 : Int) ≤ (r.size : Int) := by omega
    clear p4
    go_enter Tryz.func112, Tryz.ntmps112
    go_wp2_with (first
      | (go_at_call 113; first | (refine H1.out.mono ?_; rintro e w2 ⟨rfl, hw⟩; subst hw) | (refine H2.out.mono ?_; rintro e w2 ⟨rfl, hw⟩; subst hw) | (refine H3.out.mono ?_; rintro e w2 ⟨rfl, hw⟩; subst hw) | (refine H4.out.mono ?_; rintro e w2 ⟨rfl, hw⟩; subst hw))
      | go_in)
    go_ret2
    exact ⟨rfl, rfl⟩

end
end Go.Proofs.YtichbejmelkjeaaGreatDoor.Lx

namespace Go.Proofs.YtichbejmelkjeaaGreatDoor.Lx
open Go.RowKit

theorem or_all : ∀ m n : Fin 16, bits BinOp.or IntKind.i64 (((m.val : Nat) : Int) * 16) ((n.val : Nat) : Int) % 256 = (((UInt8.ofNat (16 * m.val + n.val)).toNat : Nat) : Int) := by decide +kernel
theorem or_at (x y : Int) (hx : 0 ≤ x) (hx1 : x < 16) (hy : 0 ≤ y) (hy1 : y < 16) : bits BinOp.or IntKind.i64 (x * 16) y % 256 = ((UInt8.ofNat (16 * x.toNat + y.toNat)).toNat : Int) := by
  have h := or_all ⟨x.toNat, by omega⟩ ⟨y.toNat, by omega⟩
  rw [show ((x.toNat : Nat) : Int) = x from by omega, show ((y.toNat : Nat) : Int) = y from by omega] at h
  exact h

section
variable (r : ByteArray) (w : World)

set_option maxRecDepth 100000 in
set_option maxHeartbeats 2000000 in
theorem first_hex (a b : UInt8) (h0 : 3 < r.size) (hc : r[0]'(by omega) = 92) (ha : r[2]'(by omega) = a) (hb : r[3]'h0 = b) (p1 : Lib.hasPrefix r.data.toList [92, 110] = false) (p2 : Lib.hasPrefix r.data.toList [92, 34] = false) (p3 : Lib.hasPrefix r.data.toList [92, 92] = false)
    (p4 : Lib.hasPrefix r.data.toList [92, 120] = true) (x y : Int) (hx : Lib.indexByte hexs.data.toList a = x) (hy : Lib.indexByte hexs.data.toList b = y) (hx1 : x < 16) (hy1 : y < 16) (hx0 : -1 ≤ x) (hy0 : -1 ≤ y) :
    Calls Tryz.prog 112 #[.string r] w fun e w' => e = .returned (pcV (if 0 ≤ x ∧ 0 ≤ y then (UInt8.ofNat (16 * x.toNat + y.toNat), 4) else (0, 0))) ∧ w = w' := by
  have H1 := pre_calls r w ⟨#[92, 110]⟩ false p1
  have H2 := pre_calls r w ⟨#[92, 34]⟩ false p2
  have H3 := pre_calls r w ⟨#[92, 92]⟩ false p3
  have H4 := pre_calls r w ⟨#[92, 120]⟩ true p4
  have HX : Hid (Calls Tryz.prog 94 #[.string hexs, .int .u8 (a.toNat : Int)] w fun e w' => e = .returned (.int .i64 x) ∧ w' = w) := by
    have h := Tryz.strings_IndexByte hexs (a.toNat : Int) w
    rw [show ((a.toNat : Int).toNat.toUInt8) = a from by simp, hx] at h
    exact h
  have HY : Hid (Calls Tryz.prog 94 #[.string hexs, .int .u8 (b.toNat : Int)] w fun e w' => e = .returned (.int .i64 y) ∧ w' = w) := by
    have h := Tryz.strings_IndexByte hexs (b.toNat : Int) w
    rw [show ((b.toNat : Int).toNat.toUInt8) = b from by simp, hy] at h
    exact h
  have i0 : (0 : Int) < (r.size : Int) := by omega
  have i2 : (2 : Int) < (r.size : Int) := by omega
  have i3 : (3 : Int) < (r.size : Int) := by omega
  have i4 : (4 : Int) ≤ (r.size : Int) := by omega
  have z0 : 0 < r.size := by omega
  have z2 : 2 < r.size := by omega
  clear p1 p2 p3 p4 hx hy
  by_cases hok : 0 ≤ x ∧ 0 ≤ y
  · rw [if_pos hok]
    obtain ⟨o1, o2⟩ := hok
    go_enter Tryz.func112, Tryz.ntmps112
    go_wp2_with (first
      | (go_at_call 113; first | (refine H1.out.mono ?_; rintro e w2 ⟨rfl, hw⟩; subst hw) | (refine H2.out.mono ?_; rintro e w2 ⟨rfl, hw⟩; subst hw) | (refine H3.out.mono ?_; rintro e w2 ⟨rfl, hw⟩; subst hw) | (refine H4.out.mono ?_; rintro e w2 ⟨rfl, hw⟩; subst hw))
      | (go_at_call 94; first | (refine HX.out.mono ?_; rintro e w2 ⟨rfl, hw⟩; subst hw) | (refine HY.out.mono ?_; rintro e w2 ⟨rfl, hw⟩; subst hw))
      | go_in)
    have HE : Hid (bits BinOp.or IntKind.i64 (x * 16) y % 256 = ((UInt8.ofNat (16 * x.toNat + y.toNat)).toNat : Int)) := or_at x y o1 hx1 o2 hy1
    refine bodyPost_ret (v := .tuple #[.int .u8 (bits BinOp.or IntKind.i64 (x * 16) y % 256), .int .i64 4]) (by simp [results, Tryz.results112, go_sem]) rfl ⟨?_, rfl⟩
    rw [HE.out]
    rfl
  · rw [if_neg hok]
    have hno : ¬ 0 ≤ x ∨ (0 ≤ x ∧ ¬ 0 ≤ y) := by omega
    clear hok
    rcases hno with o1 | ⟨o1, o2⟩
    all_goals
      go_enter Tryz.func112, Tryz.ntmps112
      go_wp2_with (first
        | (go_at_call 113; first | (refine H1.out.mono ?_; rintro e w2 ⟨rfl, hw⟩; subst hw) | (refine H2.out.mono ?_; rintro e w2 ⟨rfl, hw⟩; subst hw) | (refine H3.out.mono ?_; rintro e w2 ⟨rfl, hw⟩; subst hw) | (refine H4.out.mono ?_; rintro e w2 ⟨rfl, hw⟩; subst hw))
        | (go_at_call 94; first | (refine HX.out.mono ?_; rintro e w2 ⟨rfl, hw⟩; subst hw) | (refine HY.out.mono ?_; rintro e w2 ⟨rfl, hw⟩; subst hw))
        | go_in)
      go_ret2
      exact ⟨rfl, rfl⟩
end
end Go.Proofs.YtichbejmelkjeaaGreatDoor.Lx

namespace Go.Proofs.YtichbejmelkjeaaGreatDoor.Lx
open Go.RowKit

theorem byte_at' (t : ByteArray) (j : Nat) (h : j < t.size) (h' : j < t.data.toList.length) : t.data.toList[j]'h' = t[j]'h := by
  rw [Array.getElem_toList]; rfl
theorem drop_at (t : ByteArray) (j : Nat) (h : j < t.size) : t.data.toList.drop j = t[j]'h :: t.data.toList.drop (j + 1) := by
  rw [List.drop_eq_getElem_cons (by rw [← Lib.size_eq]; exact h), byte_at' t j h]

/-- strconv.ParseInt of digits: a number, or an error that is not nil. -/
theorem parse_any (S : ByteArray) (w : World) (hs : S.size ≤ 281474976710656) (hT : Tabs w) :
    (∃ v, Lib.parseIntB 64 S.data.toList = .ok v ∧ Calls Tryz.prog 111 #[.string S, .int .i64 10, .int .i64 64] w fun e w' => e = .returned (.tuple #[.int .i64 v, .nilIface]) ∧ Below w.heap.size w w') ∨
    ((∀ v, Lib.parseIntB 64 S.data.toList ≠ .ok v) ∧ ∃ u, Calls Tryz.prog 111 #[.string S, .int .i64 10, .int .i64 64] w fun e w' => ∃ N, e = .returned (.tuple #[.int .i64 u, .iface 160 (.pointer (some ⟨N, 0, none⟩))]) ∧ Below w.heap.size w w') := by
  cases h : Lib.parseIntB 64 S.data.toList with
  | ok v =>
    left
    refine ⟨v, rfl, (Tryz.strconv_ParseInt_10_at64_ok S (by omega) v h w).mono ?_⟩
    rintro e w' ⟨rfl, rfl | ⟨t, rfl⟩⟩
    · exact ⟨rfl, Below.refl _ _⟩
    · exact ⟨rfl, ⟨rfl, rfl, rfl, by rw [Lib.bytesWorld_size]; omega, fun k hk => Lib.bytesWorld_at_old w 5 t k hk⟩⟩
  | «syntax» =>
    right
    obtain ⟨te, pe, h6⟩ := hT.e6
    refine ⟨fun v hv => by (first | cases hv | simp at hv), 0, (Tryz.strconv_ParseInt_10_at64_syntax S hs h _ w h6 (Or.inr ⟨te, pe, rfl⟩)).mono ?_⟩
    rintro e w' ⟨N, rfl, _, _, hb⟩
    exact ⟨N, rfl, hb⟩
  | range =>
    right
    obtain ⟨te, pe, h7⟩ := hT.e7
    refine ⟨fun v hv => by (first | cases hv | simp at hv), Lib.intSat 64 S.data.toList, (Tryz.strconv_ParseInt_10_at64_range S hs h _ w h7 (Or.inr ⟨te, pe, rfl⟩)).mono ?_⟩
    rintro e w' ⟨N, rfl, _, _, hb⟩
    exact ⟨N, rfl, hb⟩

/-- What the digits S make, with what stands behind them. -/
def numE (S : ByteArray) (nx : Bool) : TkR :=
  if (1 < S.size ∧ S.data.toList.head? = some 48) ∨ 19 < S.size then .inl 21 else if nx = true then .inl 21 else match Lib.parseIntB 64 S.data.toList with
    | .ok v => .inr ⟨2, S.size, [], v⟩
    | _ => .inl 21

theorem numS_eq {l : List UInt8} {S : ByteArray} (h : S.data.toList = l.takeWhile digitB) : numS l = numE S ((l.drop S.size).head?.any innerB) := by
  unfold numS numE
  simp only [← h, ← Lib.size_eq]
  rfl

set_option maxRecDepth 100000 in
set_option maxHeartbeats 4000000 in
theorem numAt_any (t : ByteArray) (k : Nat) (w : World) (ht : t.size ≤ 140737488355328) (hk : k < t.size) (hT : Tabs w) :
    Calls Tryz.prog 98 #[.string t, .int .i64 (k : Int)] w fun e w' => e = .returned (resV k (numS (t.data.toList.drop k))) ∧ Below w.heap.size w w' := by
  have HT : Hid (Tabs w) := hT
  clear hT
  have H5 := five_new w (.int .i64 0) (.int .i64 0) (.int .i64 0) (.string ⟨#[]⟩) (.int .i64 0) 113
  have H5' : Hid (Five (w.alloc (.cells #[.int .i64 0, .int .i64 0, .int .i64 0, .string ⟨#[]⟩, .int .i64 0] 113)) w.heap.size (.int .i64 0) (.int .i64 0) (.int .i64 0) (.string ⟨#[]⟩) (.int .i64 0)) := H5
  clear H5
  have HB0 : Hid (Below w.heap.size w (w.alloc (.cells #[.int .i64 0, .int .i64 0, .int .i64 0, .string ⟨#[]⟩, .int .i64 0] 113))) := (Below.refl _ w).alloc (Nat.le_refl _) _
  go_enter Tryz.func98, Tryz.ntmps98
  go_wp2
  generalize hw1 : w.alloc (.cells #[.int .i64 0, .int .i64 0, .int .i64 0, .string ⟨#[]⟩, .int .i64 0] 113) = w1 at *
  go_loop [6] (fun i => ∃ j : Nat, k ≤ j ∧ j ≤ t.size ∧ i = .int .i64 (j : Int) ∧ Hid ((t.data.toList.drop k).takeWhile digitB = (t.data.toList.drop k).take (j - k) ++ (t.data.toList.drop j).takeWhile digitB)) (fun i => t.size - (intOf i).toNat)
  case atStart => exact ⟨k, Nat.le_refl _, by omega, rfl, by simp [Hid]⟩
  case round =>
    obtain ⟨j, hkj, hj, rfl, htw⟩ := hrel
    clear hw1
    by_cases hp : ∃ h : j < t.size, digitB (t[j]'h) = true
    · obtain ⟨hlt, hp⟩ := hp
      have hst := tw_step digitB t.data.toList k j hkj (by rw [← Lib.size_eq]; exact hlt) (by rw [byte_at' t j hlt]; exact hp) htw.out
      have HST : Hid ((t.data.toList.drop k).takeWhile digitB = (t.data.toList.drop k).take (j + 1 - k) ++ (t.data.toList.drop (j + 1)).takeWhile digitB) := hst
      clear hst htw
      obtain ⟨c, hc⟩ : ∃ c, t[j]'hlt = c := ⟨_, rfl⟩
      rw [hc] at hp
      have HW := isDigit_any c w1
      rw [hp] at HW
      have HW' : Hid (Calls Tryz.prog 97 #[.int .u8 (c.toNat : Int)] w1 fun e w' => e = .returned (.bool true) ∧ w1 = w') := HW
      clear HW hp
      go_wp2_with (first
        | (go_at_call 97; refine HW'.out.mono ?_; rintro e _ ⟨rfl, rfl⟩)
        | go_in)
      exact ⟨⟨j + 1, by omega, by omega, by go_num, HST⟩, by simp [intOf]; omega⟩
    · have htk := tw_stop digitB t.data.toList k j (fun h => by
        have h' : j < t.size := by rw [Lib.size_eq]; exact h
        rw [byte_at' t j h']
        cases hb : digitB (t[j]'h') with
        | true => exact absurd ⟨h', hb⟩ hp
        | false => rfl) htw.out
      obtain ⟨S, hS⟩ : ∃ S, t.extract k j = S := ⟨_, rfl⟩
      have hSd : S.data.toList = (t.data.toList.drop k).takeWhile digitB := by rw [← hS, Lib.extract_data, htk]
      have hSl : k + S.size = j := by
        rw [Lib.size_eq, ← hS, Lib.extract_data, List.length_take, List.length_drop, ← Lib.size_eq]
        omega
      have hnS := numS_eq hSd
      rw [List.drop_drop, hSl] at hnS
      have HSl : Hid (k + S.size = j) := hSl
      clear hSd htk htw hSl
      have k0 : (0 : Int) ≤ ↑k := by omega
      have k1 : (k : Int) ≤ ↑j := by omega
      have j1 : (j : Int) ≤ ↑t.size := by omega
      have hcond : (t.size = j ∧ numS (t.data.toList.drop k) = numE S false) ∨ ∃ h : j < t.size, Hid (digitB (t[j]'h) = false) ∧ numS (t.data.toList.drop k) = numE S (innerB (t[j]'h)) := by
        by_cases h : j < t.size
        · right
          refine ⟨h, ?_, ?_⟩
          · cases hb : digitB (t[j]'h) with
            | true => exact absurd ⟨h, hb⟩ hp
            | false => rfl
          · rw [hnS, drop_at t j h]
            rfl
        · left
          refine ⟨by omega, ?_⟩
          rw [hnS, List.drop_eq_nil_of_le (by rw [← Lib.size_eq]; omega)]
          rfl
      have HD : Hid (∀ (c : UInt8) (w : World), Calls Tryz.prog 97 #[.int .u8 (c.toNat : Int)] w fun e w' => e = .returned (.bool (digitB c)) ∧ w = w') := isDigit_any
      have HW : Hid (∀ (c : UInt8) (w : World), Calls Tryz.prog 109 #[.int .u8 (c.toNat : Int)] w fun e w' => e = .returned (.bool (innerB c)) ∧ w = w') := isWord_any
      clear hp hnS
      have hb1 : w.heap.size < w1.heap.size := World.block_lt_of_cell? w1 _ H5'.out.c0
      have HP := parse_any S w1 (by have := HSl.out; omega) (HT.out.next HB0.out)
      by_cases h1 : 1 < S.size ∧ S.data.toList.head? = some 48
      · have HS : Hid (numS (t.data.toList.drop k) = .inl 21) := by
          show numS (t.data.toList.drop k) = .inl 21
          have e : ∀ b, numE S b = .inl 21 := fun b => by unfold numE; rw [if_pos (Or.inl h1)]
          rcases hcond with ⟨_, h⟩ | ⟨_, _, h⟩ <;> rw [h, e]
        have z1 : (1 : Int) < (S.size : Int) := by omega
        have z0 : 0 < S.size := by omega
        have hs0 : S[0]'z0 = 48 := by
          have := h1.2
          rw [List.head?_eq_getElem?, List.getElem?_eq_getElem (by rw [← Lib.size_eq]; exact z0), byte_at' S 0 z0] at this
          exact Option.some.inj this
        clear h1 HP
        rcases hcond with ⟨hend, hx⟩ | ⟨hlt, hin, hx⟩
        all_goals
          clear hx
          have HR : Hid (resV k (numS (t.data.toList.drop k)) = .tuple #[.agg #[.int .i64 0, .int .i64 0, .int .i64 0, .string ⟨#[]⟩, .int .i64 0], .int .i64 21]) := by
            rw [HS.out]
            rfl
          clear HS HSl
          obtain ⟨c0, c1, c2, c3, c4, f⟩ := H5'.out
          have f0 := f 0 (by omega)
          have f1 := f 1 (by omega)
          have f2 := f 2 (by omega)
          have f3 := f 3 (by omega)
          have f4 := f 4 (by omega)
          clear f
          go_wp2_with (first
            | (go_at_call 97; refine (HD.out _ _).mono ?_; rintro e w2 ⟨rfl, hw2⟩; subst hw2; rw [hin.out])
            | go_in)
          exact bodyPost_ret (ret5 (five_set H5'.out _ _ _ _ _) rfl rfl) rfl ⟨congrArg Ending.returned HR.out.symm, below_set5 HB0.out (Nat.le_refl _) _ _ _ _ _⟩
      · have hfirst : ¬ (1 : Int) < (S.size : Int) ∨ ∃ (h : 0 < S.size), (1 : Int) < (S.size : Int) ∧ (((S[0]'h).toNat : Int) == 48) = false := by
          by_cases hz : 1 < S.size
          · right
            have z0 : 0 < S.size := by omega
            refine ⟨z0, by omega, ?_⟩
            rw [beq_eq_false_iff_ne]
            intro e
            apply h1
            refine ⟨hz, ?_⟩
            rw [List.head?_eq_getElem?, List.getElem?_eq_getElem (by rw [← Lib.size_eq]; exact z0), byte_at' S 0 z0]
            congr 1
            exact UInt8.toNat_inj.1 (by show _ = 48; omega)
          · left; omega
        by_cases h2 : 19 < S.size
        · have HS : Hid (numS (t.data.toList.drop k) = .inl 21) := by
            show numS (t.data.toList.drop k) = .inl 21
            have e : ∀ b, numE S b = .inl 21 := fun b => by unfold numE; rw [if_pos (Or.inr h2)]
            rcases hcond with ⟨_, h⟩ | ⟨_, _, h⟩ <;> rw [h, e]
          have z19 : (19 : Int) < (S.size : Int) := by omega
          clear h1 HP h2
          rcases hcond with ⟨hend, hx⟩ | ⟨hlt, hin, hx⟩
          · clear hx
            have HR : Hid (resV k (numS (t.data.toList.drop k)) = .tuple #[.agg #[.int .i64 0, .int .i64 0, .int .i64 0, .string ⟨#[]⟩, .int .i64 0], .int .i64 21]) := by
              rw [HS.out]
              rfl
            clear HS HSl
            obtain ⟨c0, c1, c2, c3, c4, f⟩ := H5'.out
            have f0 := f 0 (by omega)
            have f1 := f 1 (by omega)
            have f2 := f 2 (by omega)
            have f3 := f 3 (by omega)
            have f4 := f 4 (by omega)
            clear f
            rcases hfirst with z1 | ⟨z0, z1, hs0⟩
            · omega
            all_goals
              go_wp2_with (first
                | go_in)
              exact bodyPost_ret (ret5 (five_set H5'.out _ _ _ _ _) rfl rfl) rfl ⟨congrArg Ending.returned HR.out.symm, below_set5 HB0.out (Nat.le_refl _) _ _ _ _ _⟩
          · clear hx
            have HR : Hid (resV k (numS (t.data.toList.drop k)) = .tuple #[.agg #[.int .i64 0, .int .i64 0, .int .i64 0, .string ⟨#[]⟩, .int .i64 0], .int .i64 21]) := by
              rw [HS.out]
              rfl
            clear HS HSl
            obtain ⟨c0, c1, c2, c3, c4, f⟩ := H5'.out
            have f0 := f 0 (by omega)
            have f1 := f 1 (by omega)
            have f2 := f 2 (by omega)
            have f3 := f 3 (by omega)
            have f4 := f 4 (by omega)
            clear f
            rcases hfirst with z1 | ⟨z0, z1, hs0⟩
            · omega
            all_goals
              go_wp2_with (first
                | (go_at_call 97; refine (HD.out _ _).mono ?_; rintro e w2 ⟨rfl, hw2⟩; subst hw2; rw [hin.out])
                | go_in)
              exact bodyPost_ret (ret5 (five_set H5'.out _ _ _ _ _) rfl rfl) rfl ⟨congrArg Ending.returned HR.out.symm, below_set5 HB0.out (Nat.le_refl _) _ _ _ _ _⟩
        · have z19 : ¬ (19 : Int) < (S.size : Int) := by omega
          have h12 : ¬ ((1 < S.size ∧ S.data.toList.head? = some 48) ∨ 19 < S.size) := fun h => h.elim h1 h2
          rcases hcond with ⟨hend, hx⟩ | ⟨hlt, hin, hx⟩
          · rcases HP with ⟨v, hv, HQ0⟩ | ⟨hv, u, HQ0⟩
            · have HQ : Hid (Calls Tryz.prog 111 #[.string S, .int .i64 10, .int .i64 64] w1 fun e w' => e = .returned (.tuple #[.int .i64 v, .nilIface]) ∧ Below w1.heap.size w1 w') := HQ0
              have HR : Hid (resV k (numS (t.data.toList.drop k)) = .tuple #[.agg #[.int .i64 2, .int .i64 (k : Int), .int .i64 (j : Int), .string ⟨#[]⟩, .int .i64 v], .int .i64 0]) := by
                show resV k (numS (t.data.toList.drop k)) = _
                rw [hx, show numE S false = .inr ⟨2, S.size, [], v⟩ from by unfold numE; rw [if_neg h12, if_neg (by simp), hv]]
                simp only [resV, tkCells, ← HSl.out]
                rfl
              clear HQ0 hx hv h1 h2 h12 HSl
              rcases hfirst with z1 | ⟨z0, z1, hs0⟩
              all_goals
                go_wp2_with (first
                  | (go_at_call 111; refine HQ.out.mono ?_; rintro e w3 ⟨rfl, hb3⟩; have F3 : Hid (Five w3 w.heap.size _ _ _ _ _) := H5'.out.below hb3 hb1; obtain ⟨c0, c1, c2, c3, c4, f⟩ := F3.out; have f0 := f 0 (by omega); have f1 := f 1 (by omega); have f2 := f 2 (by omega); have f3 := f 3 (by omega); have f4 := f 4 (by omega); clear f)
                  | go_in)
                exact bodyPost_ret (ret5 (five_set F3.out _ _ _ _ _) rfl rfl) rfl ⟨congrArg Ending.returned HR.out.symm, below_set5 (HB0.out.trans (hb3.mono (by omega))) (Nat.le_refl _) _ _ _ _ _⟩
            · have HQ : Hid (Calls Tryz.prog 111 #[.string S, .int .i64 10, .int .i64 64] w1 fun e w' => ∃ N, e = .returned (.tuple #[.int .i64 u, .iface 160 (.pointer (some ⟨N, 0, none⟩))]) ∧ Below w1.heap.size w1 w') := HQ0
              have HR : Hid (resV k (numS (t.data.toList.drop k)) = .tuple #[.agg #[.int .i64 0, .int .i64 0, .int .i64 0, .string ⟨#[]⟩, .int .i64 0], .int .i64 21]) := by
                show resV k (numS (t.data.toList.drop k)) = _
                rw [hx, show numE S false = .inl 21 from by
                  unfold numE
                  rw [if_neg h12, if_neg (by simp)]
                  cases hz : Lib.parseIntB 64 S.data.toList with
                  | ok v => exact absurd hz (hv v)
                  | range => rfl
                  | «syntax» => rfl]
                rfl
              clear HQ0 hx hv h1 h2 h12 HSl
              rcases hfirst with z1 | ⟨z0, z1, hs0⟩
              all_goals
                go_wp2_with (first
                  | (go_at_call 111; refine HQ.out.mono ?_; rintro e w3 ⟨N, rfl, hb3⟩; have F3 : Hid (Five w3 w.heap.size _ _ _ _ _) := H5'.out.below hb3 hb1; obtain ⟨c0, c1, c2, c3, c4, f⟩ := F3.out; have f0 := f 0 (by omega); have f1 := f 1 (by omega); have f2 := f 2 (by omega); have f3 := f 3 (by omega); have f4 := f 4 (by omega); clear f)
                  | go_in)
                exact bodyPost_ret (ret5 (five_set F3.out _ _ _ _ _) rfl rfl) rfl ⟨congrArg Ending.returned HR.out.symm, below_set5 (HB0.out.trans (hb3.mono (by omega))) (Nat.le_refl _) _ _ _ _ _⟩
          · by_cases hn : innerB (t[j]'hlt) = true
            · have HS : Hid (numS (t.data.toList.drop k) = .inl 21) := by
                show numS (t.data.toList.drop k) = .inl 21
                rw [hx, hn]
                unfold numE
                rw [if_neg h12, if_pos rfl]
              have hnx : Hid (innerB (t[j]'hlt) = true) := hn
              clear hx hn h1 h2 h12 HP
              have HR : Hid (resV k (numS (t.data.toList.drop k)) = .tuple #[.agg #[.int .i64 0, .int .i64 0, .int .i64 0, .string ⟨#[]⟩, .int .i64 0], .int .i64 21]) := by
                rw [HS.out]
                rfl
              clear HS HSl
              obtain ⟨c0, c1, c2, c3, c4, f⟩ := H5'.out
              have f0 := f 0 (by omega)
              have f1 := f 1 (by omega)
              have f2 := f 2 (by omega)
              have f3 := f 3 (by omega)
              have f4 := f 4 (by omega)
              clear f
              rcases hfirst with z1 | ⟨z0, z1, hs0⟩
              all_goals
                go_wp2_with (first
                  | (go_at_call 97; refine (HD.out _ _).mono ?_; rintro e w2 ⟨rfl, hw2⟩; subst hw2; rw [hin.out])
                  | (go_at_call 109; refine (HW.out _ _).mono ?_; rintro e w2 ⟨rfl, hw2⟩; subst hw2; rw [hnx.out])
                  | go_in)
                exact bodyPost_ret (ret5 (five_set H5'.out _ _ _ _ _) rfl rfl) rfl ⟨congrArg Ending.returned HR.out.symm, below_set5 HB0.out (Nat.le_refl _) _ _ _ _ _⟩
            · have hn2 : innerB (t[j]'hlt) = false := by simpa using hn
              have hnx : Hid (innerB (t[j]'hlt) = false) := hn2
              rw [hn2] at hx
              clear hn hn2
              rcases HP with ⟨v, hv, HQ0⟩ | ⟨hv, u, HQ0⟩
              · have HQ : Hid (Calls Tryz.prog 111 #[.string S, .int .i64 10, .int .i64 64] w1 fun e w' => e = .returned (.tuple #[.int .i64 v, .nilIface]) ∧ Below w1.heap.size w1 w') := HQ0
                have HR : Hid (resV k (numS (t.data.toList.drop k)) = .tuple #[.agg #[.int .i64 2, .int .i64 (k : Int), .int .i64 (j : Int), .string ⟨#[]⟩, .int .i64 v], .int .i64 0]) := by
                  show resV k (numS (t.data.toList.drop k)) = _
                  rw [hx, show numE S false = .inr ⟨2, S.size, [], v⟩ from by unfold numE; rw [if_neg h12, if_neg (by simp), hv]]
                  simp only [resV, tkCells, ← HSl.out]
                  rfl
                clear HQ0 hx hv h1 h2 h12 HSl
                rcases hfirst with z1 | ⟨z0, z1, hs0⟩
                all_goals
                  go_wp2_with (first
                    | (go_at_call 97; refine (HD.out _ _).mono ?_; rintro e w2 ⟨rfl, hw2⟩; subst hw2; rw [hin.out])
                    | (go_at_call 109; refine (HW.out _ _).mono ?_; rintro e w2 ⟨rfl, hw2⟩; subst hw2; rw [hnx.out])
                    | (go_at_call 111; refine HQ.out.mono ?_; rintro e w3 ⟨rfl, hb3⟩; have F3 : Hid (Five w3 w.heap.size _ _ _ _ _) := H5'.out.below hb3 hb1; obtain ⟨c0, c1, c2, c3, c4, f⟩ := F3.out; have f0 := f 0 (by omega); have f1 := f 1 (by omega); have f2 := f 2 (by omega); have f3 := f 3 (by omega); have f4 := f 4 (by omega); clear f)
                    | go_in)
                  exact bodyPost_ret (ret5 (five_set F3.out _ _ _ _ _) rfl rfl) rfl ⟨congrArg Ending.returned HR.out.symm, below_set5 (HB0.out.trans (hb3.mono (by omega))) (Nat.le_refl _) _ _ _ _ _⟩
              · have HQ : Hid (Calls Tryz.prog 111 #[.string S, .int .i64 10, .int .i64 64] w1 fun e w' => ∃ N, e = .returned (.tuple #[.int .i64 u, .iface 160 (.pointer (some ⟨N, 0, none⟩))]) ∧ Below w1.heap.size w1 w') := HQ0
                have HR : Hid (resV k (numS (t.data.toList.drop k)) = .tuple #[.agg #[.int .i64 0, .int .i64 0, .int .i64 0, .string ⟨#[]⟩, .int .i64 0], .int .i64 21]) := by
                  show resV k (numS (t.data.toList.drop k)) = _
                  rw [hx, show numE S false = .inl 21 from by
                    unfold numE
                    rw [if_neg h12, if_neg (by simp)]
                    cases hz : Lib.parseIntB 64 S.data.toList with
                    | ok v => exact absurd hz (hv v)
                    | range => rfl
                    | «syntax» => rfl]
                  rfl
                clear HQ0 hx hv h1 h2 h12 HSl
                rcases hfirst with z1 | ⟨z0, z1, hs0⟩
                all_goals
                  go_wp2_with (first
                    | (go_at_call 97; refine (HD.out _ _).mono ?_; rintro e w2 ⟨rfl, hw2⟩; subst hw2; rw [hin.out])
                    | (go_at_call 109; refine (HW.out _ _).mono ?_; rintro e w2 ⟨rfl, hw2⟩; subst hw2; rw [hnx.out])
                    | (go_at_call 111; refine HQ.out.mono ?_; rintro e w3 ⟨N, rfl, hb3⟩; have F3 : Hid (Five w3 w.heap.size _ _ _ _ _) := H5'.out.below hb3 hb1; obtain ⟨c0, c1, c2, c3, c4, f⟩ := F3.out; have f0 := f 0 (by omega); have f1 := f 1 (by omega); have f2 := f 2 (by omega); have f3 := f 3 (by omega); have f4 := f 4 (by omega); clear f)
                    | go_in)
                  exact bodyPost_ret (ret5 (five_set F3.out _ _ _ _ _) rfl rfl) rfl ⟨congrArg Ending.returned HR.out.symm, below_set5 (HB0.out.trans (hb3.mono (by omega))) (Nat.le_refl _) _ _ _ _ _⟩
end Go.Proofs.YtichbejmelkjeaaGreatDoor.Lx

namespace Go.Proofs.YtichbejmelkjeaaGreatDoor.Lx
open Go.RowKit

theorem hex_lt_all : ∀ n : Fin 256, Lib.indexByte hexs.data.toList (UInt8.ofNat n.val) < 16 := by decide +kernel
theorem hex_lt (c : UInt8) : Lib.indexByte hexs.data.toList c < 16 := by
  have h := hex_lt_all ⟨c.toNat, UInt8.toNat_lt c⟩
  rwa [show UInt8.ofNat c.toNat = c from by simp] at h

theorem get_of_list {r : ByteArray} {l : List UInt8} (h : r.data.toList = l) (j : Nat) (hj : j < r.size) (hj' : j < l.length) : r[j]'hj = l[j]'hj' := by
  subst h
  exact (byte_at' r j hj hj').symm

theorem first_any (r : ByteArray) (h0 : 0 < r.size) (w : World) : Calls Tryz.prog 112 #[.string r] w fun e w' => e = .returned (pcV (pcS r.data.toList)) ∧ w = w' := by
  have hz := Lib.size_eq r
  generalize hl : r.data.toList = l at hz
  match l, hl, hz with
  | [], _, hz => exact absurd h0 (by rw [hz]; simp)
  | c :: tl, hl, hz =>
    have hc : r[0]'h0 = c := get_of_list hl 0 h0 (by simp)
    by_cases h92 : c = 92
    · subst h92
      match tl, hl, hz with
      | [], hl, hz =>
        have h := first_none r w h0 hc (by rw [hl]; rfl) (by rw [hl]; rfl) (by rw [hl]; rfl) (Or.inl (by rw [hl]; rfl))
        exact h
      | d :: tl2, hl, hz =>
        have h1 : 1 < r.size := by rw [hz]; simp
        have hd : r[1]'h1 = d := get_of_list hl 1 h1 (by simp)
        have pre : ∀ x : UInt8, Lib.hasPrefix r.data.toList [92, x] = decide (x = d) := by
          intro x
          rw [hl]
          show ((92 : UInt8) == 92 && (x == d && true)) = decide (x = d)
          rw [Bool.and_true, show ((92 : UInt8) == 92) = true from rfl, Bool.true_and]
          rfl
        by_cases d1 : d = 110
        · subst d1
          have h := first_n r w h0 hc (by rw [pre]; rfl)
          exact h
        · by_cases d2 : d = 34 ∨ d = 92
          · have h := first_self r w d h1 hc hd (by rw [pre]; exact decide_eq_false (fun e => d1 e.symm)) (by
              rw [pre, pre]
              rcases d2 with rfl | rfl
              · left; rfl
              · right; exact ⟨rfl, rfl⟩)
            have e : pcS (92 :: d :: tl2) = (d, 2) := by
              simp only [pcS]
              rw [if_neg (by simp), if_neg d1, if_pos d2]
            rw [e]
            exact h
          · have p1 : Lib.hasPrefix r.data.toList [92, 110] = false := by rw [pre]; exact decide_eq_false (fun e => d1 e.symm)
            have p2 : Lib.hasPrefix r.data.toList [92, 34] = false := by rw [pre]; exact decide_eq_false (fun e => d2 (Or.inl e.symm))
            have p3 : Lib.hasPrefix r.data.toList [92, 92] = false := by rw [pre]; exact decide_eq_false (fun e => d2 (Or.inr e.symm))
            by_cases d4 : d = 120
            · have p4 : Lib.hasPrefix r.data.toList [92, 120] = true := by rw [pre]; exact decide_eq_true d4.symm
              match tl2, hl, hz with
              | [], hl, hz =>
                have h := first_none r w h0 hc p1 p2 p3 (Or.inr ⟨p4, by rw [hz]; simp⟩)
                have e : pcS (92 :: d :: []) = (0, 0) := by
                  simp only [pcS]
                  rw [if_neg (by simp), if_neg d1, if_neg d2, if_pos d4]
                rw [e]
                exact h
              | [a], hl, hz =>
                have h := first_none r w h0 hc p1 p2 p3 (Or.inr ⟨p4, by rw [hz]; simp⟩)
                have e : pcS (92 :: d :: [a]) = (0, 0) := by
                  simp only [pcS]
                  rw [if_neg (by simp), if_neg d1, if_neg d2, if_pos d4]
                rw [e]
                exact h
              | a :: b :: tl3, hl, hz =>
                have h3 : 3 < r.size := by rw [hz]; simp
                have ha : r[2]'(by omega) = a := get_of_list hl 2 (by omega) (by simp)
                have hb : r[3]'h3 = b := get_of_list hl 3 h3 (by simp)
                have h := first_hex r w a b h3 hc ha hb p1 p2 p3 p4 _ _ rfl rfl (hex_lt a) (hex_lt b) (Lib.indexByte_ge _ _) (Lib.indexByte_ge _ _)
                have e : pcS (92 :: d :: a :: b :: tl3) = (if 0 ≤ Lib.indexByte hexs.data.toList a ∧ 0 ≤ Lib.indexByte hexs.data.toList b then (UInt8.ofNat (16 * (Lib.indexByte hexs.data.toList a).toNat + (Lib.indexByte hexs.data.toList b).toNat), 4) else (0, 0)) := by
                  simp only [pcS]
                  rw [if_neg (by simp), if_neg d1, if_neg d2, if_pos d4]
                rw [e]
                exact h
            · have p4 : Lib.hasPrefix r.data.toList [92, 120] = false := by rw [pre]; exact decide_eq_false (fun e => d4 e.symm)
              have h := first_none r w h0 hc p1 p2 p3 (Or.inl p4)
              have e : pcS (92 :: d :: tl2) = (0, 0) := by
                simp only [pcS]
                rw [if_neg (by simp), if_neg d1, if_neg d2, if_neg d4]
              rw [e]
              exact h
    · have h := first_plain r w c h0 hc h92
      have e : pcS (c :: tl) = if plainB c = true then (c, 1) else (0, 0) := by
        simp only [pcS]
        rw [if_pos h92]
      rw [e]
      exact h

theorem pcS_le (l : List UInt8) : (pcS l).2 ≤ l.length := by
  unfold pcS
  split
  · simp
  · split
    · split <;> simp
    · split
      · simp
      · split
        · simp
        · split
          · simp
          · split
            · split
              · split <;> simp
              · simp
            · simp
end Go.Proofs.YtichbejmelkjeaaGreatDoor.Lx

namespace Go.Proofs.YtichbejmelkjeaaGreatDoor.Lx
open Go.RowKit

/-- What digits say. -/
def dv (acc : Nat) (D : List UInt8) : Nat := D.foldl (fun a c => a * 10 + (c.toNat - 48)) acc
theorem dv_nil (acc : Nat) : dv acc [] = acc := rfl
theorem dv_cons (acc : Nat) (c : UInt8) (D : List UInt8) : dv acc (c :: D) = dv (acc * 10 + (c.toNat - 48)) D := by unfold dv; rw [List.foldl_cons]
theorem dv_snoc (acc : Nat) (D : List UInt8) (c : UInt8) : dv acc (D ++ [c]) = dv acc D * 10 + (c.toNat - 48) := by unfold dv; rw [List.foldl_append, List.foldl_cons, List.foldl_nil]
theorem dv_app (acc : Nat) (D E : List UInt8) : dv acc (D ++ E) = dv (dv acc D) E := by unfold dv; rw [List.foldl_append]
theorem dv_ge (D : List UInt8) : ∀ acc, acc * 10 ^ D.length ≤ dv acc D := by
  induction D with
  | nil => intro acc; simp [dv_nil]
  | cons c D ih =>
    intro acc
    rw [dv_cons, List.length_cons, Nat.pow_succ]
    refine Nat.le_trans ?_ (ih _)
    rw [Nat.mul_comm (10 ^ D.length) 10, ← Nat.mul_assoc]
    exact Nat.mul_le_mul_right _ (Nat.le_add_right _ _)
theorem dv_le (D : List UInt8) (acc : Nat) : acc ≤ dv acc D := Nat.le_trans (Nat.le_mul_of_pos_right acc (Nat.pow_pos (by omega))) (dv_ge D acc)

theorem parse_M (D : List UInt8) (hd : ∀ c ∈ D, digitB c = true) : ∀ acc, acc ≤ 18446744073709551615 → Lib.parseUintM 18446744073709551615 acc D = if dv acc D ≤ 18446744073709551615 then .ok (dv acc D) else .range := by
  induction D with
  | nil => intro acc h; rw [dv_nil, if_pos h]; rfl
  | cons c D ih =>
    intro acc h
    have hc : 48 ≤ c.toNat ∧ c.toNat ≤ 57 := by
      have := hd c (by simp)
      simp [digitB] at this
      omega
    have hle := dv_le D (acc * 10 + (c.toNat - 48))
    unfold Lib.parseUintM
    rw [if_pos hc, dv_cons]
    by_cases h1 : 1844674407370955162 ≤ acc
    · rw [if_pos h1, if_neg (by omega)]
    · rw [if_neg h1]
      by_cases h2 : 18446744073709551615 < acc * 10 + (c.toNat - 48)
      · rw [if_pos h2, if_neg (by omega)]
      · rw [if_neg h2, ih (fun d hd' => hd d (by simp [hd'])) _ (by omega)]

theorem parse_D (D : List UInt8) (hne : D ≠ []) (hd : ∀ c ∈ D, digitB c = true) : Lib.parseIntB 64 D = if dv 0 D < 9223372036854775808 then .ok ((dv 0 D : Nat) : Int) else .range := by
  match D, hne with
  | c :: r, _ =>
    have hc : 48 ≤ c.toNat ∧ c.toNat ≤ 57 := by
      have := hd c (by simp)
      simp [digitB] at this
      omega
    have hM := parse_M (c :: r) hd 0 (by omega)
    unfold Lib.parseIntB
    simp only
    rw [if_neg (by omega)]
    unfold Lib.parseUintB
    rw [if_neg (by simp), show (2 ^ 64 - 1 : Nat) = 18446744073709551615 from rfl, hM]
    by_cases h1 : dv 0 (c :: r) ≤ 18446744073709551615
    · rw [if_pos h1]
      simp only
      by_cases h2 : dv 0 (c :: r) < 9223372036854775808
      · rw [if_pos h2, if_neg (by simp; omega), if_neg (by omega), if_neg (by omega)]
      · rw [if_neg h2, if_pos ⟨by omega, by simp; omega⟩]
    · rw [if_neg h1, if_neg (by omega)]

theorem tw_digits (l : List UInt8) : ∀ c ∈ l.takeWhile digitB, digitB c = true := fun c hc => by
  induction l with
  | nil => cases hc
  | cons d l ih =>
    rw [List.takeWhile_cons] at hc
    split at hc
    · rename_i hd
      rcases List.mem_cons.1 hc with rfl | h
      · exact hd
      · exact ih h
    · cases hc

/-- Too great a number. -/
theorem num_big (l : List UInt8) (h : 9223372036854775808 ≤ dv 0 (l.takeWhile digitB)) : numS l = .inl 21 := by
  have hne : l.takeWhile digitB ≠ [] := fun e => by rw [e, dv_nil] at h; omega
  unfold numS
  simp only
  split
  · rfl
  · split
    · rfl
    · rw [parse_D _ hne (tw_digits l), if_neg (by omega)]
/-- A number that is not too great. -/
theorem num_small (l : List UInt8) (hne : l.takeWhile digitB ≠ []) (h : dv 0 (l.takeWhile digitB) < 9223372036854775808) :
    numS l = if 1 < (l.takeWhile digitB).length ∧ (l.takeWhile digitB).head? = some 48 then .inl 21 else if (l.drop (l.takeWhile digitB).length).head?.any innerB = true then .inl 21 else .inr ⟨2, (l.takeWhile digitB).length, [], ((dv 0 (l.takeWhile digitB) : Nat) : Int)⟩ := by
  unfold numS
  simp only
  rw [parse_D _ hne (tw_digits l), if_pos h]
  by_cases h1 : 1 < (l.takeWhile digitB).length ∧ (l.takeWhile digitB).head? = some 48
  · rw [if_pos (Or.inl h1), if_pos h1]
  · rw [if_neg h1]
    have h19 : ¬ 19 < (l.takeWhile digitB).length := by
      intro h19
      have hd := tw_digits l
      generalize l.takeWhile digitB = D at *
      match D, hne with
      | c :: r, _ =>
        have hc : 48 ≤ c.toNat ∧ c.toNat ≤ 57 := by
          have := hd c (by simp)
          simp [digitB] at this
          omega
        have hc48 : c ≠ 48 := fun e => h1 ⟨by omega, by rw [e]; rfl⟩
        have hc49 : 49 ≤ c.toNat := by
          rcases Nat.lt_or_ge c.toNat 49 with h | h
          · exact absurd (UInt8.toNat_inj.1 (by show c.toNat = 48; omega)) hc48
          · exact h
        rw [dv_cons] at h
        have hg := dv_ge r (0 * 10 + (c.toNat - 48))
        rw [List.length_cons] at h19
        have hp : 10 ^ 19 ≤ 10 ^ r.length := Nat.pow_le_pow_right (by omega) (by omega)
        have : 1 * 10 ^ r.length ≤ (0 * 10 + (c.toNat - 48)) * 10 ^ r.length := Nat.mul_le_mul_right _ (by omega)
        omega
    rw [if_neg (fun h => h.elim h1 h19)]
end Go.Proofs.YtichbejmelkjeaaGreatDoor.Lx
