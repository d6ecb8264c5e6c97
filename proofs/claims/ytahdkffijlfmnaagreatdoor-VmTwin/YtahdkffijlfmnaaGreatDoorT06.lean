import Derived.Lib.LaidTab
import Derived.Lib.ItoaLen
import Derived.Test.YtahdkffijlfmnaaGreatDoorT05
namespace Go.Proofs.YtahdkffijlfmnaaGreatDoor
open Go.RowKit
structure Tabs (w : World) : Prop where
  ins : ∀ k, k < 24 → w.cell? ⟨1, k * 3, none⟩ = some (.string (wdT.getD k e0)) ∧ w.cell? ⟨1, k * 3 + 1, none⟩ = some (.int .i64 ((opA.getD k 0 : Nat) : Int)) ∧ w.cell? ⟨1, k * 3 + 2, none⟩ = some (.int .i64 ((opB.getD k 0 : Nat) : Int))
  shp : ∀ k, k < 13 → w.cell? ⟨3, k * 3, none⟩ = some (.int .i64 (shLo.getD k 0)) ∧ w.cell? ⟨3, k * 3 + 1, none⟩ = some (.int .i64 (shHi.getD k 0)) ∧ w.cell? ⟨3, k * 3 + 2, none⟩ = some (.int .i64 ((shWd.getD k 0 : Nat) : Int))
  typ : ∀ k, k < 20 → w.cell? ⟨2, k, none⟩ = some (.string (tyT.getD k e0))
  size : 8 ≤ w.heap.size
theorem Tabs.below {w w' : World} {B : Nat} (h : Tabs w) (hb : Below B w w') (hB : 8 ≤ B) : Tabs w' := by
  have c : ∀ g o, g < 8 → w'.cell? ⟨g, o, none⟩ = w.cell? ⟨g, o, none⟩ := fun g o hg => hb.cell (p := ⟨g, o, none⟩) (by show g < B; omega)
  refine ⟨fun k hk => ?_, fun k hk => ?_, fun k hk => (c _ _ (by decide)).trans (h.typ k hk), Nat.le_trans h.size hb.size⟩
  · obtain ⟨a, b, d⟩ := h.ins k hk
    exact ⟨(c _ _ (by decide)).trans a, (c _ _ (by decide)).trans b, (c _ _ (by decide)).trans d⟩
  · obtain ⟨a, b, d⟩ := h.shp k hk
    exact ⟨(c _ _ (by decide)).trans a, (c _ _ (by decide)).trans b, (c _ _ (by decide)).trans d⟩
theorem Tabs.next {w w' : World} (h : Tabs w) (hb : Below w.heap.size w w') : Tabs w' := h.below hb h.size
end Go.Proofs.YtahdkffijlfmnaaGreatDoor

namespace Go.Proofs.YtahdkffijlfmnaaGreatDoor
open Go.RowKit
theorem toL (s : ByteArray) : s.toList = s.data.toList := ByteArray.toList_eq s
theorem ret_bool {x y : Bool} (h : x = true ↔ y = true) : Ending.returned (.bool x) = Ending.returned (.bool y) := by rw [Bool.eq_iff_iff.2 h]
set_option maxRecDepth 100000 in
set_option maxHeartbeats 1000000 in
theorem letter_any (b : UInt8) (w : World) : Calls Tryz.prog 126 #[.int .u8 (b.toNat : Int)] w fun e w' => e = .returned (.bool (letB b)) ∧ w' = w := by
  have hb := b.toNat_lt
  unfold letB
  generalize b.toNat = n at *
  go_enter Tryz.func126, Tryz.ntmps126
  by_cases h1 : 97 ≤ n
  · by_cases h2 : n ≤ 122
    · go_wp2
      go_ret
      refine ⟨ret_bool ?_, rfl⟩
      simp
      try omega
    · go_wp2
      go_ret
      refine ⟨ret_bool ?_, rfl⟩
      simp
      try omega
  · by_cases h2 : 65 ≤ n
    · go_wp2
      go_ret
      refine ⟨ret_bool ?_, rfl⟩
      simp
      try omega
    · go_wp2
      go_ret
      refine ⟨ret_bool ?_, rfl⟩
      simp
      try omega
set_option maxRecDepth 100000 in
set_option maxHeartbeats 1000000 in
theorem digit_any (b : UInt8) (w : World) : Calls Tryz.prog 127 #[.int .u8 (b.toNat : Int)] w fun e w' => e = .returned (.bool (digB b)) ∧ w' = w := by
  have hb := b.toNat_lt
  unfold digB
  generalize b.toNat = n at *
  go_enter Tryz.func127, Tryz.ntmps127
  by_cases h1 : 48 ≤ n
  · go_wp2
    go_ret
    refine ⟨ret_bool ?_, rfl⟩
    simp
    try omega
  · go_wp2
    go_ret
    refine ⟨ret_bool ?_, rfl⟩
    simp
    try omega
set_option maxRecDepth 100000 in
set_option maxHeartbeats 1000000 in
theorem sort_any (n : Int) (w : World) (ht : Tabs w) : Calls Tryz.prog 105 #[.int .i64 n] w fun e w' => e = .returned (.bool (sortS n)) ∧ w' = w := by
  by_cases h0 : 0 < n
  · by_cases h1 : n < 20
    · obtain ⟨k, rfl⟩ : ∃ k : Nat, n = (k : Int) := ⟨n.toNat, by omega⟩
      have c := ht.typ k (by omega)
      have hs : sortS (k : Int) = !(tyT.getD k e0).data.toList.isEmpty := by
        unfold sortS
        rw [decide_eq_true h0, decide_eq_true h1]
        simp
      rw [hs]
      generalize tyT.getD k e0 = s at c ⊢
      clear hs
      go_enter Tryz.func105, Tryz.ntmps105
      go_wp2
      go_ret
      exact ⟨by rw [← toL]; rfl, rfl⟩
    · have hs : sortS n = false := by unfold sortS; simp; omega
      rw [hs]
      go_enter Tryz.func105, Tryz.ntmps105
      go_wp2
      go_ret
      exact ⟨rfl, rfl⟩
  · have hs : sortS n = false := by unfold sortS; simp; omega
    rw [hs]
    go_enter Tryz.func105, Tryz.ntmps105
    go_wp2
    go_ret
    exact ⟨rfl, rfl⟩
end Go.Proofs.YtahdkffijlfmnaaGreatDoor
namespace Go.Proofs.YtahdkffijlfmnaaGreatDoor
open Go.RowKit
theorem may_iff (o : Nat) (n : Int) : mayS o n = true ↔ shLo.getD o 0 ≤ n ∧ n ≤ shHi.getD o 0 ∧ ((o : Int) = 9 → sortS n = true) := by
  unfold mayS
  simp only [Bool.and_eq_true, decide_eq_true_eq, Bool.or_eq_true, bne_iff_ne, ne_eq]
  constructor
  · rintro ⟨a, b, c⟩
    exact ⟨a, b, fun e => by rcases c with q | q; exact absurd (by omega) q; exact q⟩
  · rintro ⟨a, b, c⟩
    refine ⟨a, b, ?_⟩
    by_cases h : o = 9
    · exact .inr (c (by omega))
    · exact .inl h
set_option maxRecDepth 100000 in
set_option maxHeartbeats 2000000 in
theorem mayBe_any (o : Nat) (n : Int) (w : World) (ho : o < 13) (ht : Tabs w) : Calls Tryz.prog 106 #[.int .i64 (o : Int), .int .i64 n] w fun e w' => e = .returned (.bool (mayS o n)) ∧ Below w.heap.size w w' := by
  obtain ⟨c0, c1, c2⟩ := ht.shp o ho
  have HM : Hid (mayS o n = true ↔ shLo.getD o 0 ≤ n ∧ n ≤ shHi.getD o 0 ∧ ((o : Int) = 9 → sortS n = true)) := may_iff o n
  have i0 : (0 : Int) ≤ (o : Int) := by omega
  have i1 : (o : Int) < 13 := by omega
  generalize mayS o n = M at HM ⊢
  generalize shLo.getD o 0 = lo at c0 HM
  generalize shHi.getD o 0 = hi at c1 HM
  generalize shWd.getD o 0 = wd at c2
  have B1 : Below w.heap.size w (w.alloc (.cells #[.int .i64 lo, .int .i64 hi, .int .i64 (wd : Int)] 186)) := (Below.refl _ w).alloc (Nat.le_refl _) _
  have hs := sort_any n (w.alloc (.cells #[.int .i64 lo, .int .i64 hi, .int .i64 (wd : Int)] 186)) (ht.next B1)
  generalize sortS n = S at HM hs
  go_enter Tryz.func106, Tryz.ntmps106
  go_wp2_with (first | (go_at_call 105; refine hs.mono ?_; rintro e w1 ⟨rfl, rfl⟩) | fail)
  all_goals
    go_ret
    refine ⟨ret_bool ?_, B1⟩
    have h := HM.out
    clear HM hs B1 c0 c1 c2 ht
    grind
set_option maxRecDepth 100000 in
set_option maxHeartbeats 4000000 in
theorem instr_any (op a b : Int) (w : World) (ht : Tabs w) : Calls Tryz.prog 68 #[.agg #[.int .i64 op, .int .i64 a, .int .i64 b]] w fun e w' => e = .returned (.bool (insS (op, a, b))) ∧ Below w.heap.size w w' := by
  have B1 : Below w.heap.size w (w.alloc (.cells #[.int .i64 op, .int .i64 a, .int .i64 b] 86)) := (Below.refl _ w).alloc (Nat.le_refl _) _
  by_cases h0 : 0 ≤ op
  case neg =>
    have hs : insS (op, a, b) = false := by unfold insS; simp; omega
    rw [hs]
    go_enter Tryz.func68, Tryz.ntmps68
    go_wp2
    go_ret
    exact ⟨rfl, B1⟩
  by_cases h1 : op < 24
  case neg =>
    have hs : insS (op, a, b) = false := by unfold insS; simp; omega
    rw [hs]
    go_enter Tryz.func68, Tryz.ntmps68
    go_wp2
    go_ret
    exact ⟨rfl, B1⟩
  obtain ⟨k, rfl⟩ : ∃ k : Nat, op = (k : Int) := ⟨op.toNat, by omega⟩
  have hk : k < 24 := by omega
  have hs : insS ((k : Int), a, b) = (mayS (opA.getD k 0) a && mayS (opB.getD k 0) b) := by
    unfold insS
    simp only [decide_eq_true h0, decide_eq_true h1, Bool.true_and, Int.toNat_natCast]
  rw [hs]
  have hA := opA_lt k
  have hB := opB_lt k
  have HT : Hid (∀ W, Below w.heap.size w W → Tabs W) := fun W hW => ht.next hW
  obtain ⟨d0, d1, d2⟩ := ht.ins k hk
  generalize opA.getD k 0 = oa at *
  generalize opB.getD k 0 = ob at *
  generalize wdT.getD k e0 = wd at *
  have x : ∀ j v, (#[.int .i64 (k : Int), .int .i64 a, .int .i64 b] : Array Value)[j]? = some v → (w.alloc (.cells #[.int .i64 (k : Int), .int .i64 a, .int .i64 b] 86)).cell? ⟨w.heap.size, j, none⟩ = some v := fun j v hv => by
    unfold World.cell?; rw [World.alloc_heap_new]; simpa using hv
  have x0 := x 0 _ rfl
  have x1 := x 1 _ rfl
  have x2 := x 2 _ rfl
  have hlt : w.heap.size < (w.alloc (.cells #[.int .i64 (k : Int), .int .i64 a, .int .i64 b] 86)).heap.size := by simp
  clear x hs
  obtain ⟨R, HR⟩ : ∃ R, Hid (R = (mayS oa a && mayS ob b)) := ⟨_, rfl⟩
  rw [← HR.out]
  have e0' := (B1.cell (p := ⟨1, k * 3, none⟩) (by have := ht.size; show 1 < _; omega)).trans d0
  have e1' := (B1.cell (p := ⟨1, k * 3 + 1, none⟩) (by have := ht.size; show 1 < _; omega)).trans d1
  have e2' := (B1.cell (p := ⟨1, k * 3 + 2, none⟩) (by have := ht.size; show 1 < _; omega)).trans d2
  clear d0 d1 d2
  go_enter Tryz.func68, Tryz.ntmps68
  go_upto_region 1 with fail
  generalize w.alloc (.cells #[.int .i64 (k : Int), .int .i64 a, .int .i64 b] 86) = X at *
  have B2 : Below X.heap.size X (X.alloc (.cells #[.string wd, .int .i64 (oa : Int), .int .i64 (ob : Int)] 162)) := (Below.refl _ X).alloc (Nat.le_refl _) _
  have B3 := below2 B1 B2
  have y : ∀ j v, (#[.string wd, .int .i64 (oa : Int), .int .i64 (ob : Int)] : Array Value)[j]? = some v → (X.alloc (.cells #[.string wd, .int .i64 (oa : Int), .int .i64 (ob : Int)] 162)).cell? ⟨X.heap.size, j, none⟩ = some v := fun j v hv => by
    unfold World.cell?; rw [World.alloc_heap_new]; simpa using hv
  have y1 := y 1 _ rfl
  have y2 := y 2 _ rfl
  have z1 := (B2.cell (p := ⟨w.heap.size, 1, none⟩) hlt).trans x1
  have z2 := (B2.cell (p := ⟨w.heap.size, 2, none⟩) hlt).trans x2
  have hlt2 : X.heap.size < (X.alloc (.cells #[.string wd, .int .i64 (oa : Int), .int .i64 (ob : Int)] 162)).heap.size := by simp
  have hlt3 : w.heap.size < (X.alloc (.cells #[.string wd, .int .i64 (oa : Int), .int .i64 (ob : Int)] 162)).heap.size := by omega
  clear y
  go_upto_region 4 with fail
  generalize X.alloc (.cells #[.string wd, .int .i64 (oa : Int), .int .i64 (ob : Int)] 162) = Y at *
  generalize X.heap.size = xs at *
  have m1 := mayBe_any oa a Y hA (HT.out Y B3)
  have m2 := fun W (hW : Below Y.heap.size Y W) => mayBe_any ob b W hB (HT.out W (below2 B3 hW))
  have HC : Hid (∀ W, Below Y.heap.size Y W → W.cell? ⟨xs, 2, none⟩ = some (.int .i64 (ob : Int)) ∧ W.cell? ⟨w.heap.size, 2, none⟩ = some (.int .i64 b)) := fun W hW => ⟨(hW.cell (p := ⟨xs, 2, none⟩) hlt2).trans y2, (hW.cell (p := ⟨w.heap.size, 2, none⟩) hlt3).trans z2⟩
  have HB : Hid (Below w.heap.size w Y) := B3
  clear B1 B2 B3 e0' e1' e2' x0 x1 x2
  generalize mayS oa a = ma at m1 HR
  generalize mayS ob b = mb at m2 HR
  go_wp2_with fail
  refine m1.mono ?_
  rintro e w1 ⟨rfl, hb1⟩
  obtain ⟨u1, u2⟩ := HC.out w1 hb1
  have m3 := m2 w1 hb1
  clear m1 m2 y1 y2 z1 z2
  cases ma
  case false =>
    go_wp2
    go_ret
    exact ⟨by rw [HR.out]; rfl, below2 HB.out hb1⟩
  go_wp2_with fail
  refine m3.mono ?_
  rintro e w2 ⟨rfl, hb2⟩
  go_wp2
  go_ret
  exact ⟨by rw [HR.out]; rfl, below2 (below2 HB.out hb1) hb2⟩
end Go.Proofs.YtahdkffijlfmnaaGreatDoor
namespace Go.Proofs.YtahdkffijlfmnaaGreatDoor
open Go.RowKit
theorem ix_run (s : ByteArray) (i : Nat) (hi : i < s.size) : ∀ w : World, (Instr.index 9 (.string s) (.int .i64 (i : Int))).run Tryz.prog w = .ok (.int .u8 ((s.data.toList.getD i 0).toNat : Int)) w := by
  intro w
  have h2 : i < s.data.size := hi
  have e : s.data.toList.getD i 0 = s[i]'hi := by
    rw [List.getD_eq_getElem?_getD, List.getElem?_eq_getElem (by simpa using h2)]
    rfl
  rw [e]
  simp [go_sem, hi]
theorem nm_iff (b : UInt8) : nmB b = true ↔ letB b = true ∨ digB b = true ∨ (b.toNat : Int) = 95 := by
  unfold nmB
  simp only [Bool.or_eq_true, beq_iff_eq, or_assoc]
  have : b = 95 ↔ (b.toNat : Int) = 95 := by
    constructor
    · rintro rfl; rfl
    · intro h
      apply UInt8.toNat_inj.1
      have : (95 : UInt8).toNat = 95 := rfl
      omega
  rw [this]
set_option maxRecDepth 100000 in
set_option maxHeartbeats 2000000 in
theorem name_any (s : ByteArray) (hs : s.size ≤ 9223372036854775807) (w : World) : Calls Tryz.prog 104 #[.string s] w fun e w' => e = .returned (.bool (nameS s.data.toList)) ∧ w' = w := by
  have hl := Lib.size_eq s
  by_cases h0 : s.size = 0
  · have hn : s.data.toList = [] := List.length_eq_zero_iff.1 (by omega)
    rw [hn]
    have he : s.toList.isEmpty = true := by rw [toL, hn]; rfl
    obtain rfl : s = e0 := by
      obtain ⟨⟨l⟩⟩ := s
      simp only at hn
      subst hn
      rfl
    go_enter Tryz.func104, Tryz.ntmps104
    go_wp2
    go_ret
    exact ⟨rfl, rfl⟩
  have hne : s.toList.isEmpty = false := by
    rw [toL]
    cases h : s.data.toList with
    | nil => rw [h] at hl; exact absurd hl h0
    | cons c r => rfl
  have z0 : (0 : Int) < (s.size : Int) := by omega
  have ix0 : ∀ w : World, (Instr.index 9 (.string s) (.int .i64 0)).run Tryz.prog w = .ok (.int .u8 ((s.data.toList.getD 0 0).toNat : Int)) w := ix_run s 0 (by omega)
  by_cases h24 : s.size ≤ 24
  case neg =>
    have hn : nameS s.data.toList = false := by
      cases h : s.data.toList with
      | nil => rfl
      | cons c r =>
        rw [h, List.length_cons] at hl
        simp only [nameS]
        rw [decide_eq_false (by omega)]
        rfl
    rw [hn]
    have z1 : (24 : Int) < (s.size : Int) := by omega
    clear hl h0
    go_enter Tryz.func104, Tryz.ntmps104
    go_wp2
    go_ret
    exact ⟨rfl, rfl⟩
  have hc0 := fun W : World => letter_any (s.data.toList.getD 0 0) W
  cases hL : letB (s.data.toList.getD 0 0) with
  | false =>
    have hn : nameS s.data.toList = false := by
      cases h : s.data.toList with
      | nil => rfl
      | cons c r =>
        rw [h] at hL
        have hL' : letB c = false := hL
        simp only [nameS, hL', Bool.false_and, Bool.and_false]
    rw [hn]
    rw [hL] at hc0
    have z1 : (s.size : Int) ≤ 24 := by omega
    clear hl h0 h24
    generalize s.data.toList.getD 0 0 = c at *
    go_enter Tryz.func104, Tryz.ntmps104
    go_wp2_with fail
    refine (hc0 _).mono ?_
    rintro e w1 ⟨rfl, rfl⟩
    go_wp2
    go_ret
    exact ⟨rfl, rfl⟩
  | true =>
    have HN : Hid (nameS s.data.toList = s.data.toList.all nmB) := by
      show _ = _
      cases h : s.data.toList with
      | nil => rw [h] at hl; exact absurd hl h0
      | cons c r =>
        rw [h] at hL
        have hL' : letB c = true := hL
        rw [h, List.length_cons] at hl
        simp only [nameS, hL', Bool.true_and]
        rw [decide_eq_true (by omega)]
        rfl
    have z1 : (s.size : Int) ≤ 24 := by omega
    rw [hL] at hc0
    have HL : Hid (s.size = s.data.toList.length) := hl
    clear hl h0 h24 hL
    obtain ⟨N, HR⟩ : ∃ N, Hid (N = nameS s.data.toList) := ⟨_, rfl⟩
    rw [← HR.out]
    generalize hq : s.data.toList.getD 0 0 = c at hc0 ix0
    clear hq
    go_enter Tryz.func104, Tryz.ntmps104
    go_wp2_with fail
    refine (hc0 _).mono ?_
    rintro e w1 ⟨rfl, hw⟩
    subst w1
    go_wp2_with fail
    go_loopw [19] (fun i wr => ∃ j : Nat, j ≤ s.size ∧ i = .int .i64 (j : Int) ∧ Hid ((s.data.toList.take j).all nmB = true) ∧ wr = w) (fun i _ => s.size - (intOf i).toNat)
    case atStart => exact ⟨0, Nat.zero_le _, rfl, by rw [List.take_zero]; exact (rfl : _ = _), rfl⟩
    case round =>
      obtain ⟨j, hj, rfl, hA, hw⟩ := hrel
      subst wr
      by_cases hlt : j < s.size
      case neg =>
        obtain rfl : j = s.size := by omega
        have HE : Hid (N = true) := by
          have h1 := hA.out
          rw [HL.out, List.take_length] at h1
          show N = true
          rw [HR.out, HN.out, h1]
        go_wp2
        first | (change bodyPost Tryz.prog Tryz.f104 _ Exit.ret _ _) | (simp only [Exit.noGoto])
        go_ret
        exact ⟨by rw [HE.out]; rfl, rfl⟩
      have ixj := ix_run s j hlt
      have cl := letter_any (s.data.toList.getD j 0) w
      have cd := digit_any (s.data.toList.getD j 0) w
      have hnx : s.data.toList.take (j + 1) = s.data.toList.take j ++ [s.data.toList.getD j 0] := by
        have hj' : j < s.data.toList.length := by rw [← HL.out]; exact hlt
        rw [List.take_succ_eq_append_getElem hj', List.getD_eq_getElem?_getD, List.getElem?_eq_getElem hj']
        rfl
      have HX : Hid (nmB (s.data.toList.getD j 0) = true ↔ letB (s.data.toList.getD j 0) = true ∨ digB (s.data.toList.getD j 0) = true ∨ ((s.data.toList.getD j 0).toNat : Int) = 95) := nm_iff _
      have HY : Hid (nmB (s.data.toList.getD j 0) = false → N = false) := fun h => by
        rw [HR.out, HN.out, Bool.eq_false_iff]
        intro h2
        rw [List.all_eq_true] at h2
        have hj' : j < s.data.toList.length := by rw [← HL.out]; exact hlt
        have := h2 (s.data.toList.getD j 0) (by rw [List.getD_eq_getElem?_getD, List.getElem?_eq_getElem hj']; exact List.getElem_mem _)
        rw [h] at this
        cases this
      have HZ : Hid (nmB (s.data.toList.getD j 0) = true → (s.data.toList.take (j + 1)).all nmB = true) := fun h => by
        rw [hnx, List.all_append, hA.out]
        rw [List.all_cons, h]
        rfl
      have j0 : (0 : Int) ≤ (j : Int) := by omega
      have j1 : (j : Int) < (s.size : Int) := by omega
      clear hnx hc0 ix0
      generalize nmB (s.data.toList.getD j 0) = nb at *
      generalize letB (s.data.toList.getD j 0) = lb at *
      generalize digB (s.data.toList.getD j 0) = db at *
      generalize s.data.toList.getD j 0 = c at *
      go_wp2_with (first
        | (go_at_call 126; refine cl.mono ?_; rintro e w1 ⟨rfl, hw⟩; subst w1)
        | (go_at_call 127; refine cd.mono ?_; rintro e w1 ⟨rfl, hw⟩; subst w1) | fail)
      all_goals first
        | (have e : nb = true := by (have h := HX.out; grind)
           exact ⟨⟨j + 1, by omega, by go_num, HZ.out e, trivial⟩, by simp [intOf]; omega⟩)
        | (first | (change bodyPost Tryz.prog Tryz.f104 _ Exit.ret _ _) | (simp only [Exit.noGoto])
           go_ret
           have e : nb = false := by (have h := HX.out; grind)
           exact ⟨by rw [HY.out e]; rfl, rfl⟩)
end Go.Proofs.YtahdkffijlfmnaaGreatDoor
namespace Go.Proofs.YtahdkffijlfmnaaGreatDoor
open Go.RowKit
abbrev Em := En × Option Addr × Nat
def ec (x : Em) : List Value := [.string x.1.name, .int .i64 x.1.start, .int .i64 x.1.params, .slice x.2.1 x.1.sorts.length x.2.2, .int .i64 x.1.result]
def ic (x : In) : List Value := [.int .i64 x.1, .int .i64 x.2.1, .int .i64 x.2.2]
def sv (l : List Int) : List Value := l.map fun n => .int .i64 n
def tv (l : List ByteArray) : List Value := l.map fun s => .string s
theorem ent_iff (e : En) : entS e = true ↔ nameS e.name.data.toList = true ∧ (e.sorts.length : Int) ≤ 250 ∧ 0 ≤ e.params ∧ e.params ≤ 8 ∧ e.params ≤ (e.sorts.length : Int) ∧ (e.result = 0 ∨ sortS e.result = true) ∧ e.sorts.all sortS = true := by
  rw [ent_ok]
  constructor
  · rintro ⟨a, b, c, d, f, g, h⟩
    exact ⟨a, by omega, c, d, f, g, List.all_eq_true.2 h⟩
  · rintro ⟨a, b, c, d, f, g, h⟩
    exact ⟨a, by omega, c, d, f, g, List.all_eq_true.1 h⟩
theorem cells_new (w : World) (C : Array Value) (t : TypeId) (j : Nat) (v : Value) (h : C[j]? = some v) : (w.alloc (.cells C t)).cell? ⟨w.heap.size, j, none⟩ = some v ∧ (w.alloc (.cells C t)).frozen? ⟨w.heap.size, j, none⟩ = false := by
  have e := World.alloc_heap_new w (.cells C t)
  refine ⟨?_, ?_⟩
  · unfold World.cell?; rw [e]; simpa using h
  · unfold World.frozen?; rw [e]; simp
theorem row_get {w : World} {B : Nat} {q : Option Addr} {n : Nat} {xs : List Value} (h : Row w B q n xs) (j : Nat) (hj : j < n) : ∃ g o, q = some ⟨g, o, none⟩ ∧ g < B ∧ ∀ i v, xs[i]? = some v → w.cell? ⟨g, o + i, none⟩ = some v := by
  obtain ⟨g, o, h1, h2, h3⟩ := h (by omega)
  exact ⟨g, o, h1, h2, h3⟩
set_option maxRecDepth 100000 in
set_option maxHeartbeats 4000000 in
theorem entry_any (x : Em) (w : World) (ht : Tabs w) (hr : Row w w.heap.size x.2.1 x.1.sorts.length (sv x.1.sorts)) (hn : x.1.name.size ≤ 9223372036854775807) (hl : x.1.sorts.length ≤ 9223372036854775807) :
    Calls Tryz.prog 67 #[.agg (ec x).toArray] w fun e w' => e = .returned (.bool (entS x.1)) ∧ Below w.heap.size w w' := by
  obtain ⟨⟨nm, st, pr, so, rs⟩, q, cp⟩ := x
  simp only at hr hn hl ⊢
  have hI := ent_iff ⟨nm, st, pr, so, rs⟩
  generalize entS ⟨nm, st, pr, so, rs⟩ = R at hI ⊢
  simp only at hI
  have HI : Hid (R = true ↔ nameS nm.data.toList = true ∧ (so.length : Int) ≤ 250 ∧ 0 ≤ pr ∧ pr ≤ 8 ∧ pr ≤ (so.length : Int) ∧ (rs = 0 ∨ sortS rs = true) ∧ so.all sortS = true) := hI
  clear hI
  have B1 : Below w.heap.size w (w.alloc (.cells #[.string nm, .int .i64 st, .int .i64 pr, .slice q so.length cp, .int .i64 rs] 71)) := (Below.refl _ w).alloc (Nat.le_refl _) _
  have x0 := (cells_new w #[.string nm, .int .i64 st, .int .i64 pr, .slice q so.length cp, .int .i64 rs] 71 0 (.string nm) rfl).1
  have x2 := (cells_new w #[.string nm, .int .i64 st, .int .i64 pr, .slice q so.length cp, .int .i64 rs] 71 2 (.int .i64 pr) rfl).1
  have x3 := (cells_new w #[.string nm, .int .i64 st, .int .i64 pr, .slice q so.length cp, .int .i64 rs] 71 3 (.slice q so.length cp) rfl).1
  have x4 := (cells_new w #[.string nm, .int .i64 st, .int .i64 pr, .slice q so.length cp, .int .i64 rs] 71 4 (.int .i64 rs) rfl).1
  have hl' : (so.length : Int) ≤ 9223372036854775807 := by omega
  show Calls Tryz.prog 67 #[.agg #[.string nm, .int .i64 st, .int .i64 pr, .slice q so.length cp, .int .i64 rs]] w _
  go_enter Tryz.func67, Tryz.ntmps67
  go_upto_region 1 with fail
  generalize w.alloc (.cells #[.string nm, .int .i64 st, .int .i64 pr, .slice q so.length cp, .int .i64 rs] 71) = X at *
  have n1 := name_any nm hn X
  have s1 := sort_any rs X (ht.next B1)
  have s2 := fun n => sort_any n X (ht.next B1)
  have HR : Hid (∀ j (hj : j < so.length), ∃ g o, q = some ⟨g, o, none⟩ ∧ X.cell? ⟨g, o + j, none⟩ = some (.int .i64 so[j])) := fun j hj => by
    obtain ⟨g, o, h1, h2, h3⟩ := row_get hr j hj
    refine ⟨g, o, h1, (B1.cell (p := ⟨g, o + j, none⟩) h2).trans (h3 j _ ?_)⟩
    unfold sv
    rw [List.getElem?_map, List.getElem?_eq_getElem hj]
    rfl
  have HA : Hid (∀ j (hj : j < so.length), sortS so[j] = false → so.all sortS = false) := fun j hj h => by
    rw [Bool.eq_false_iff]
    intro h2
    have := List.all_eq_true.1 h2 _ (List.getElem_mem hj)
    rw [h] at this
    cases this
  have HB : Hid (∀ j (hj : j < so.length), (so.take j).all sortS = true → sortS so[j] = true → (so.take (j + 1)).all sortS = true) := fun j hj h1 h2 => by
    rw [List.take_succ_eq_append_getElem hj, List.all_append, h1, List.all_cons, h2]
    rfl
  have HC : Hid ((so.take so.length).all sortS = so.all sortS) := by show _ = _; rw [List.take_length]
  generalize so.all sortS = A at HI HA HC
  generalize nameS nm.data.toList = N at HI n1
  generalize sortS rs = S at HI s1
  clear ht hr
  go_wp2_with (first
    | (go_at_call 104; refine n1.mono ?_; rintro e w1 ⟨rfl, hw⟩; subst w1; clear n1)
    | (go_at_call 105; refine s1.mono ?_; rintro e w1 ⟨rfl, hw⟩; subst w1; clear s1) | fail)
  all_goals first
    | (go_ret; have e : R = false := by (have h := HI.out; clear HR HA HB HC s2 x0 x2 x3 x4 B1; grind)
       exact ⟨by rw [e]; rfl, B1⟩)
    | skip
  all_goals
    go_loopw [40] (fun i wr => ∃ j : Nat, j ≤ so.length ∧ i = .int .i64 (j : Int) ∧ Hid ((so.take j).all sortS = true) ∧ wr = X) (fun i _ => so.length - (intOf i).toNat)
    case atStart => exact ⟨0, Nat.zero_le _, rfl, by rw [List.take_zero]; exact (rfl : _ = _), rfl⟩
    case round =>
      obtain ⟨j, hj, rfl, hA, hw⟩ := hrel
      subst wr
      by_cases hlt : j < so.length
      case neg =>
        obtain rfl : j = so.length := by omega
        have HE : Hid (R = true) := by
          have h := HI.out
          have h1 := hA.out
          rw [HC.out] at h1
          show R = true
          clear HR HA HB HC s2 x0 x2 x3 x4 B1
          grind
        go_wp2
        first | (change bodyPost Tryz.prog Tryz.f67 _ Exit.ret _ _) | (simp only [Exit.noGoto])
        go_ret
        exact ⟨by rw [HE.out]; rfl, B1⟩
      obtain ⟨g, o, rfl, hc⟩ := HR.out j hlt
      have s3 := s2 so[j]
      have HE : Hid (sortS so[j] = false → R = false) := fun h => by
        have h1 := HA.out j hlt h
        have h := HI.out
        clear HR HA HB HC s2 s3 x0 x2 x3 x4 B1
        grind
      have HF := HB.out j hlt hA.out
      have HF' : Hid (sortS so[j] = true → (so.take (j + 1)).all sortS = true) := HF
      have j0 : (0 : Int) ≤ (j : Int) := by omega
      have j1 : (j : Int) < (so.length : Int) := by omega
      clear s2 HF
      generalize sortS so[j] = sb at s3 HE HF'
      generalize so[j] = sj at s3 hc
      cases sb
      case false =>
        go_wp2_with (first | (go_at_call 105; refine s3.mono ?_; rintro e w1 ⟨rfl, hw⟩; subst w1; clear s3) | fail)
        first | (change bodyPost Tryz.prog Tryz.f67 _ Exit.ret _ _) | (simp only [Exit.noGoto])
        go_ret
        exact ⟨by rw [HE.out (by first | trivial | rfl)]; rfl, B1⟩
      go_wp2_with (first | (go_at_call 105; refine s3.mono ?_; rintro e w1 ⟨rfl, hw⟩; subst w1; clear s3) | fail)
      exact ⟨⟨j + 1, by omega, by go_num, HF'.out (by first | trivial | rfl), trivial⟩, by simp [intOf]; omega⟩
end Go.Proofs.YtahdkffijlfmnaaGreatDoor
namespace Go.Proofs.YtahdkffijlfmnaaGreatDoor
open Go.RowKit
structure CodeM (w : World) (B : Nat) (iq : Option Addr) (eq : Option Addr) (tq : Option Addr) (Es : List Em) (c : Cd) : Prop where
  en : Es.map (·.1) = c.ens
  ir : Row w B iq c.ins.length (c.ins.flatMap ic)
  er : Row w B eq c.ens.length (Es.flatMap ec)
  tr : Row w B tq c.txs.length (tv c.txs)
  sr : ∀ x ∈ Es, Row w B x.2.1 x.1.sorts.length (sv x.1.sorts) ∧ x.1.name.size ≤ 9223372036854775807 ∧ x.1.sorts.length ≤ 9223372036854775807
  il : c.ins.length ≤ 9223372036854775807
  el : c.ens.length ≤ 9223372036854775807
  tl : c.txs.length ≤ 9223372036854775807
  ts : ∀ t ∈ c.txs, t.size ≤ 9223372036854775807
theorem CodeM.below {w w' : World} {B D : Nat} {iq eq tq : Option Addr} {Es : List Em} {c : Cd} (h : CodeM w B iq eq tq Es c) (hb : Below D w w') (hD : B ≤ D) : CodeM w' B iq eq tq Es c :=
  ⟨h.en, h.ir.below hb hD, h.er.below hb hD, h.tr.below hb hD, fun x hx => ⟨(h.sr x hx).1.below hb hD, (h.sr x hx).2⟩, h.il, h.el, h.tl, h.ts⟩
theorem CodeM.up {w : World} {B C : Nat} {iq eq tq : Option Addr} {Es : List Em} {c : Cd} (h : CodeM w B iq eq tq Es c) (hC : B ≤ C) : CodeM w C iq eq tq Es c :=
  ⟨h.en, h.ir.up hC, h.er.up hC, h.tr.up hC, fun x hx => ⟨(h.sr x hx).1.up hC, (h.sr x hx).2⟩, h.il, h.el, h.tl, h.ts⟩
theorem CodeM.len {w : World} {B : Nat} {iq eq tq : Option Addr} {Es : List Em} {c : Cd} (h : CodeM w B iq eq tq Es c) : Es.length = c.ens.length := by rw [← h.en, List.length_map]
theorem CodeM.ent {w : World} {B : Nat} {iq eq tq : Option Addr} {Es : List Em} {c : Cd} (h : CodeM w B iq eq tq Es c) (i : Nat) (hi : i < Es.length) : ∃ g o, eq = some ⟨g, o, none⟩ ∧ g < B ∧ w.cell? ⟨g, o + i * 5, none⟩ = some (.string Es[i].1.name) ∧ w.cell? ⟨g, o + i * 5 + 1, none⟩ = some (.int .i64 Es[i].1.start) ∧ w.cell? ⟨g, o + i * 5 + 2, none⟩ = some (.int .i64 Es[i].1.params) ∧ w.cell? ⟨g, o + i * 5 + 3, none⟩ = some (.slice Es[i].2.1 Es[i].1.sorts.length Es[i].2.2) ∧ w.cell? ⟨g, o + i * 5 + 4, none⟩ = some (.int .i64 Es[i].1.result) := by
  obtain ⟨g, o, h1, h2, h3⟩ := h.er (by rw [← h.len]; omega)
  have k := fun j (hj : j < 5) v hv => h3 (i * 5 + j) v ((flat_at ec 5 (fun _ => rfl) Es i j hi hj).trans hv)
  refine ⟨g, o, h1, h2, ?_, ?_, ?_, ?_, ?_⟩
  · exact k 0 (by decide) _ rfl
  · have := k 1 (by decide) _ rfl; rwa [← Nat.add_assoc] at this
  · have := k 2 (by decide) _ rfl; rwa [← Nat.add_assoc] at this
  · have := k 3 (by decide) _ rfl; rwa [← Nat.add_assoc] at this
  · have := k 4 (by decide) _ rfl; rwa [← Nat.add_assoc] at this
theorem CodeM.ins {w : World} {B : Nat} {iq eq tq : Option Addr} {Es : List Em} {c : Cd} (h : CodeM w B iq eq tq Es c) (i : Nat) (hi : i < c.ins.length) : ∃ g o, iq = some ⟨g, o, none⟩ ∧ g < B ∧ w.cell? ⟨g, o + i * 3, none⟩ = some (.int .i64 c.ins[i].1) ∧ w.cell? ⟨g, o + i * 3 + 1, none⟩ = some (.int .i64 c.ins[i].2.1) ∧ w.cell? ⟨g, o + i * 3 + 2, none⟩ = some (.int .i64 c.ins[i].2.2) := by
  obtain ⟨g, o, h1, h2, h3⟩ := h.ir (by omega)
  have k := fun j (hj : j < 3) v hv => h3 (i * 3 + j) v ((flat_at ic 3 (fun _ => rfl) c.ins i j hi hj).trans hv)
  refine ⟨g, o, h1, h2, ?_, ?_, ?_⟩
  · exact k 0 (by decide) _ rfl
  · have := k 1 (by decide) _ rfl; rwa [← Nat.add_assoc] at this
  · have := k 2 (by decide) _ rfl; rwa [← Nat.add_assoc] at this
theorem CodeM.txt {w : World} {B : Nat} {iq eq tq : Option Addr} {Es : List Em} {c : Cd} (h : CodeM w B iq eq tq Es c) (i : Nat) (hi : i < c.txs.length) : ∃ g o, tq = some ⟨g, o, none⟩ ∧ g < B ∧ w.cell? ⟨g, o + i, none⟩ = some (.string c.txs[i]) := by
  obtain ⟨g, o, h1, h2, h3⟩ := h.tr (by omega)
  exact ⟨g, o, h1, h2, h3 i _ (by unfold tv; rw [List.getElem?_map, List.getElem?_eq_getElem hi]; rfl)⟩
theorem CodeM.enAt {w : World} {B : Nat} {iq eq tq : Option Addr} {Es : List Em} {c : Cd} (h : CodeM w B iq eq tq Es c) (i : Nat) (hi : i < Es.length) : YtahdkffijlfmnaaGreatDoor.enAt c.ens i = Es[i].1 := by
  unfold YtahdkffijlfmnaaGreatDoor.enAt
  rw [← h.en, List.getD_eq_getElem?_getD, List.getElem?_map, List.getElem?_eq_getElem hi]
  rfl
theorem all_no {α : Type} {p : α → Bool} {l : List α} {j : Nat} (hj : j < l.length) (h : p l[j] = false) : l.all p = false := by
  rw [Bool.eq_false_iff]
  intro h2
  have := List.all_eq_true.1 h2 _ (List.getElem_mem hj)
  rw [h] at this
  cases this
theorem all_next {α : Type} {p : α → Bool} {l : List α} {j : Nat} (hj : j < l.length) (h1 : (l.take j).all p = true) (h2 : p l[j] = true) : (l.take (j + 1)).all p = true := by
  rw [List.take_succ_eq_append_getElem hj, List.all_append, h1, List.all_cons, h2]
  rfl
set_option maxRecDepth 100000 in
set_option maxHeartbeats 4000000 in
theorem starts_any {w : World} {B : Nat} {iq eq tq : Option Addr} {Es : List Em} {c : Cd} (h : CodeM w B iq eq tq Es c) (ecp : Nat) (hB : B ≤ w.heap.size) (hp : 0 < c.ens.length) :
    Calls Tryz.prog 43 #[.slice eq c.ens.length ecp, .int .i64 (c.ins.length : Int)] w fun e w' => e = .returned (.bool (stsS c.ens c.ins.length)) ∧ Below w.heap.size w w' := by
  obtain ⟨R, HR⟩ : ∃ R, Hid (R = stsS c.ens c.ins.length) := ⟨_, rfl⟩
  rw [← HR.out]
  have HU : Hid (stsS c.ens c.ins.length = ((YtahdkffijlfmnaaGreatDoor.enAt c.ens 0).start == 0 && (List.range c.ens.length).all (stAt c.ens c.ins.length))) := rfl
  have hlen := h.len
  have h0 := h.enAt 0 (by omega)
  obtain ⟨g, o, rfl, hg, -, c1, -⟩ := h.ent 0 (by omega)
  rw [Nat.zero_mul, Nat.add_zero] at c1
  have HH : Hid (CodeM w B iq (some ⟨g, o, none⟩) tq Es c) := h
  have hil : (c.ins.length : Int) ≤ 9223372036854775807 := by have := h.il; omega
  have hel : (c.ens.length : Int) ≤ 9223372036854775807 := by have := h.el; omega
  have p0 : (0 : Int) < (c.ens.length : Int) := by omega
  by_cases hs : Es[0].1.start = 0
  case neg =>
    have HE : Hid (R = false) := by
      show R = false
      rw [HR.out, HU.out, h0, beq_false_of_ne hs]
      rfl
    generalize Es[0].1.start = s0 at *
    have hs' : (s0 == 0) = false := beq_false_of_ne hs
    clear h hlen h0
    go_enter Tryz.func43, Tryz.ntmps43
    go_wp2
    go_ret
    exact ⟨by rw [HE.out]; rfl, Below.refl _ _⟩
  have HE : Hid (R = (List.range c.ens.length).all (stAt c.ens c.ins.length)) := by
    show R = _
    rw [HR.out, HU.out, h0, hs]
    rfl
  rw [hs] at c1
  have HL : Hid (Es.length = c.ens.length) := hlen
  have HT : Hid (∀ j (hj : j < Es.length), stAt c.ens c.ins.length j = true ↔ Es[j].1.start < (c.ins.length : Int) ∧ (0 < (j : Int) → (YtahdkffijlfmnaaGreatDoor.enAt c.ens (j - 1)).start < Es[j].1.start)) := fun j hj => by
    unfold stAt
    rw [h.enAt j hj]
    simp only [Bool.and_eq_true, decide_eq_true_eq, Bool.or_eq_true, beq_iff_eq]
    constructor
    · rintro ⟨a, b⟩
      exact ⟨a, fun q => by rcases b with b | b; omega; exact b⟩
    · rintro ⟨a, b⟩
      refine ⟨a, ?_⟩
      rcases Nat.eq_zero_or_pos j with q | q
      · exact .inl q
      · exact .inr (b (by omega))
  have HP : Hid (∀ j (hj : j < Es.length), Es[j].1.start = (YtahdkffijlfmnaaGreatDoor.enAt c.ens j).start) := fun j hj => by rw [h.enAt j hj]
  clear h hlen h0 hs
  go_enter Tryz.func43, Tryz.ntmps43
  go_wp2
  go_loopw [14] (fun i wr => ∃ j : Nat, j ≤ c.ens.length ∧ i = .int .i64 (j : Int) ∧ Hid (((List.range c.ens.length).take j).all (stAt c.ens c.ins.length) = true) ∧ Hid (Below w.heap.size w wr)) (fun i _ => c.ens.length - (intOf i).toNat)
  case atStart => exact ⟨0, Nat.zero_le _, rfl, by rw [List.take_zero]; exact (rfl : _ = _), Below.refl _ _⟩
  case round =>
    obtain ⟨j, hj, rfl, hA, hb⟩ := hrel
    by_cases hlt : j < c.ens.length
    case neg =>
      obtain rfl : j = c.ens.length := by omega
      have HF : Hid (R = true) := by
        have h1 := hA.out
        rw [List.take_of_length_le (by simp)] at h1
        show R = true
        rw [HE.out, h1]
      go_wp2
      first | (change bodyPost Tryz.prog Tryz.f43 _ Exit.ret _ _) | (simp only [Exit.noGoto])
      go_ret
      exact ⟨by rw [HF.out]; rfl, hb.out⟩
    have hlt' : j < Es.length := by rw [HL.out]; exact hlt
    have hm := HH.out.below hb.out hB
    obtain ⟨g', o', hgo, -, d0, d1, d2, d3, d4⟩ := hm.ent j hlt'
    cases hgo
    have HS := HT.out j hlt'
    have HS' : Hid (stAt c.ens c.ins.length j = true ↔ Es[j].1.start < (c.ins.length : Int) ∧ (0 < (j : Int) → (YtahdkffijlfmnaaGreatDoor.enAt c.ens (j - 1)).start < Es[j].1.start)) := HS
    have HN : Hid (stAt c.ens c.ins.length j = false → R = false) := fun q => by
      rw [HE.out]
      exact all_no (j := j) (by simpa using hlt) (by simpa using q)
    have HM : Hid (stAt c.ens c.ins.length j = true → ((List.range c.ens.length).take (j + 1)).all (stAt c.ens c.ins.length) = true) := fun q => all_next (by simpa using hlt) hA.out (by simpa using q)
    have HQ : Hid (0 < j → wr.cell? ⟨g, o + (j - 1) * 5 + 1, none⟩ = some (.int .i64 (YtahdkffijlfmnaaGreatDoor.enAt c.ens (j - 1)).start)) := fun q => by
      obtain ⟨g', o', hgo, -, -, d1, -⟩ := hm.ent (j - 1) (by omega)
      cases hgo
      rw [← HP.out (j - 1) (by omega)]
      exact d1
    clear HS hm
    generalize stAt c.ens c.ins.length j = sb at HS' HN HM
    generalize (YtahdkffijlfmnaaGreatDoor.enAt c.ens (j - 1)).start = pst at HS' HQ
    generalize Es[j] = ee at *
    obtain ⟨⟨nm, st, pr, so, rs⟩, q, cp⟩ := ee
    simp only at d0 d1 d2 d3 d4 HS'
    have j0 : (0 : Int) ≤ (j : Int) := by omega
    have j1 : (j : Int) < (c.ens.length : Int) := by omega
    have nb : Below wr.heap.size wr (wr.alloc (.cells #[.string nm, .int .i64 st, .int .i64 pr, .slice q so.length cp, .int .i64 rs] 71)) := (Below.refl _ wr).alloc (Nat.le_refl _) _
    have x1 := (cells_new wr #[.string nm, .int .i64 st, .int .i64 pr, .slice q so.length cp, .int .i64 rs] 71 1 (.int .i64 st) rfl).1
    have hgl : g < wr.heap.size := by have := hb.out.size; omega
    have BX := below2 hb.out nb
    have HD : Hid (∀ W, Below wr.heap.size wr W → 0 < j → W.cell? ⟨g, o + (j - 1) * 5 + 1, none⟩ = some (.int .i64 pst)) := fun W hW q => (hW.cell (p := ⟨g, o + (j - 1) * 5 + 1, none⟩) hgl).trans (HQ.out q)
    clear HQ
    go_upto_region 6 with fail
    have HD' := HD.out _ nb
    generalize wr.alloc (.cells #[.string nm, .int .i64 st, .int .i64 pr, .slice q so.length cp, .int .i64 rs] 71) = X at *
    go_wp2_with fail
    have y1 := cell_regrown x1
    by_cases h1 : st < (c.ins.length : Int)
    case neg =>
      have k1 : decide ((c.ins.length : Int) ≤ st) = true := decide_eq_true (by omega)
      refine wp_region_quiet_below (by kernel_rfl) (by kernel_rfl) ?_
      repeat (first | go_big_quiet_step (first | fail) | quiet_step (first | fail))
      refine wpQuiet_nil ?_
      intro _ hw'
      obtain ⟨⟨dq, osq⟩, hw''⟩ := hw'
      subst hw''
      have hY := below_regrown X dq osq
      change Exit.then _ _ Exit.normal _ (Sort.grow (redrawn X dq) osq)
      generalize Sort.grow (redrawn X dq) osq = Y at hY ⊢
      have e : sb = false := by have h := HS'.out; grind
      go_wp2
      first | (change bodyPost Tryz.prog Tryz.f43 _ Exit.ret _ _) | (simp only [Exit.noGoto])
      go_ret
      exact ⟨by rw [HN.out e]; rfl, below2 BX hY⟩
    have k1 : decide ((c.ins.length : Int) ≤ st) = false := decide_eq_false (by omega)
    rcases Nat.eq_zero_or_pos j with hj0 | hj0
    · have k2 : decide ((0 : Int) < (j : Int)) = false := decide_eq_false (by omega)
      refine wp_region_quiet_below (by kernel_rfl) (by kernel_rfl) ?_
      repeat (first | go_big_quiet_step (first | fail) | quiet_step (first | fail))
      refine wpQuiet_nil ?_
      intro _ hw'
      obtain ⟨⟨dq, osq⟩, hw''⟩ := hw'
      subst hw''
      have hY := below_regrown X dq osq
      change Exit.then _ _ Exit.normal _ (Sort.grow (redrawn X dq) osq)
      generalize Sort.grow (redrawn X dq) osq = Y at hY ⊢
      have e : sb = true := by have h := HS'.out; grind
      go_wp2
      exact ⟨⟨j + 1, by omega, by go_num, HM.out e, below2 BX hY⟩, by simp [intOf]; omega⟩
    have k2 : decide ((0 : Int) < (j : Int)) = true := decide_eq_true (by omega)
    have p1 := cell_regrown (HD' hj0)
    have k3 : IntKind.i64.wrap ((j : Int) - 1) = ((j - 1 : Nat) : Int) := by rw [IntKind.wrap_i64]; omega
    have j2 : (0 : Int) ≤ ((j - 1 : Nat) : Int) := by omega
    have j3 : ((j - 1 : Nat) : Int) < (c.ens.length : Int) := by omega
    generalize j - 1 = jp at *
    by_cases h2 : pst < st
    · have k4 : decide (st ≤ pst) = false := decide_eq_false (by omega)
      refine wp_region_quiet_below (by kernel_rfl) (by kernel_rfl) ?_
      repeat (first | go_big_quiet_step (first | fail) | quiet_step (first | fail))
      refine wpQuiet_nil ?_
      intro _ hw'
      obtain ⟨⟨dq, osq⟩, hw''⟩ := hw'
      subst hw''
      have hY := below_regrown X dq osq
      change Exit.then _ _ Exit.normal _ (Sort.grow (redrawn X dq) osq)
      generalize Sort.grow (redrawn X dq) osq = Y at hY ⊢
      have e : sb = true := by have h := HS'.out; grind
      go_wp2
      exact ⟨⟨j + 1, by omega, by go_num, HM.out e, below2 BX hY⟩, by simp [intOf]; omega⟩
    · have k4 : decide (st ≤ pst) = true := decide_eq_true (by omega)
      refine wp_region_quiet_below (by kernel_rfl) (by kernel_rfl) ?_
      repeat (first | go_big_quiet_step (first | fail) | quiet_step (first | fail))
      refine wpQuiet_nil ?_
      intro _ hw'
      obtain ⟨⟨dq, osq⟩, hw''⟩ := hw'
      subst hw''
      have hY := below_regrown X dq osq
      change Exit.then _ _ Exit.normal _ (Sort.grow (redrawn X dq) osq)
      generalize Sort.grow (redrawn X dq) osq = Y at hY ⊢
      have e : sb = false := by have h := HS'.out; grind
      go_wp2
      first | (change bodyPost Tryz.prog Tryz.f43 _ Exit.ret _ _) | (simp only [Exit.noGoto])
      go_ret
      exact ⟨by rw [HN.out e]; rfl, below2 BX hY⟩
end Go.Proofs.YtahdkffijlfmnaaGreatDoor
namespace Go.Proofs.YtahdkffijlfmnaaGreatDoor
open Go.RowKit
def codeV (iq eq tq : Option Addr) (ia ea ta : Nat) (c : Cd) : Value := .agg #[.slice iq c.ins.length ia, .slice eq c.ens.length ea, .slice tq c.txs.length ta, .int .i64 c.main]
def shortT (t : ByteArray) : Bool := decide (t.size ≤ 200)
theorem ens_all {w : World} {B : Nat} {iq eq tq : Option Addr} {Es : List Em} {c : Cd} (h : CodeM w B iq eq tq Es c) : c.ens.all entS = Es.all (fun x => entS x.1) := by rw [← h.en, List.all_map]; rfl
set_option maxRecDepth 100000 in
set_option maxHeartbeats 8000000 in
theorem parts_any {w : World} {B : Nat} {iq eq tq : Option Addr} {Es : List Em} {c : Cd} (h : CodeM w B iq eq tq Es c) (ia ea ta : Nat) (hB : B ≤ w.heap.size) (ht : Tabs w) :
    Calls Tryz.prog 44 #[codeV iq eq tq ia ea ta c] w fun e w' => e = .returned (.bool (c.ens.all entS && c.ins.all insS && c.txs.all shortT)) ∧ Below w.heap.size w w' := by
  obtain ⟨R, HR⟩ : ∃ R, Hid (R = (c.ens.all entS && c.ins.all insS && c.txs.all shortT)) := ⟨_, rfl⟩
  rw [← HR.out]
  have HEn : Hid (c.ens.all entS = Es.all (fun x => entS x.1)) := ens_all h
  have HH : Hid (CodeM w B iq eq tq Es c) := h
  have HT : Hid (Tabs w) := ht
  have hil : (c.ins.length : Int) ≤ 9223372036854775807 := by have := h.il; omega
  have hel : (c.ens.length : Int) ≤ 9223372036854775807 := by have := h.el; omega
  have htl : (c.txs.length : Int) ≤ 9223372036854775807 := by have := h.tl; omega
  have HL : Hid (Es.length = c.ens.length) := h.len
  clear h ht
  have B1 : Below w.heap.size w (w.alloc (.cells #[.slice iq c.ins.length ia, .slice eq c.ens.length ea, .slice tq c.txs.length ta, .int .i64 c.main] 26)) := (Below.refl _ w).alloc (Nat.le_refl _) _
  have x0 := (cells_new w #[.slice iq c.ins.length ia, .slice eq c.ens.length ea, .slice tq c.txs.length ta, .int .i64 c.main] 26 0 (.slice iq c.ins.length ia) rfl).1
  have x1 := (cells_new w #[.slice iq c.ins.length ia, .slice eq c.ens.length ea, .slice tq c.txs.length ta, .int .i64 c.main] 26 1 (.slice eq c.ens.length ea) rfl).1
  have x2 := (cells_new w #[.slice iq c.ins.length ia, .slice eq c.ens.length ea, .slice tq c.txs.length ta, .int .i64 c.main] 26 2 (.slice tq c.txs.length ta) rfl).1
  have hlt1 : w.heap.size < (w.alloc (.cells #[.slice iq c.ins.length ia, .slice eq c.ens.length ea, .slice tq c.txs.length ta, .int .i64 c.main] 26)).heap.size := by simp
  unfold codeV
  go_enter Tryz.func44, Tryz.ntmps44
  go_upto_region 1 with fail
  generalize w.alloc (.cells #[.slice iq c.ins.length ia, .slice eq c.ens.length ea, .slice tq c.txs.length ta, .int .i64 c.main] 26) = X at *
  have HC : Hid (∀ W, Below X.heap.size X W → W.cell? ⟨w.heap.size, 0, none⟩ = some (.slice iq c.ins.length ia) ∧ W.cell? ⟨w.heap.size, 2, none⟩ = some (.slice tq c.txs.length ta)) := fun W hW => ⟨(hW.cell (p := ⟨w.heap.size, 0, none⟩) hlt1).trans x0, (hW.cell (p := ⟨w.heap.size, 2, none⟩) hlt1).trans x2⟩
  have HBX : Hid (Below w.heap.size w X) := B1
  clear x0 x2 B1
  go_wp2_with fail
  go_loopw [12] (fun i wr => ∃ j : Nat, j ≤ c.ens.length ∧ i = .int .i64 (j : Int) ∧ Hid ((Es.take j).all (fun x => entS x.1) = true) ∧ Hid (Below X.heap.size X wr)) (fun i _ => c.ens.length - (intOf i).toNat)
  case atStart => exact ⟨0, Nat.zero_le _, rfl, by rw [List.take_zero]; exact (rfl : _ = _), Below.refl _ _⟩
  case round =>
    obtain ⟨j, hj, rfl, hA, hb⟩ := hrel
    have hbw := below2 HBX.out hb.out
    by_cases hlt : j < c.ens.length
    case pos =>
      have hlt' : j < Es.length := by rw [HL.out]; exact hlt
      have hm := HH.out.below hbw hB
      obtain ⟨g, o, rfl, hg, d0, d1, d2, d3, d4⟩ := hm.ent j hlt'
      obtain ⟨sr, sn, sl⟩ := hm.sr Es[j] (List.getElem_mem hlt')
      have HN : Hid (entS Es[j].1 = false → R = false) := fun q => by
        rw [HR.out, HEn.out, all_no hlt' q]
        rfl
      have HM : Hid (entS Es[j].1 = true → (Es.take (j + 1)).all (fun x => entS x.1) = true) := fun q => all_next hlt' hA.out q
      generalize Es[j] = x at *
      have j0 : (0 : Int) ≤ (j : Int) := by omega
      have j1 : (j : Int) < (c.ens.length : Int) := by omega
      have hwz : B ≤ wr.heap.size := by have := hbw.size; omega
      have nb : Below wr.heap.size wr (wr.alloc (.cells (ec x).toArray 71)) := (Below.refl _ wr).alloc (Nat.le_refl _) _
      have y := fun j v hv => (cells_new wr (ec x).toArray 71 j v hv).1
      have en := entry_any x (wr.alloc (.cells (ec x).toArray 71)) (HT.out.next (below2 hbw nb)) ((sr.up hwz).below nb (Nat.le_refl _) |>.up nb.size) sn sl
      generalize entS x.1 = eb at en HN HM
      obtain ⟨⟨nm, st, pr, so, rs⟩, q, cp⟩ := x
      simp only at d0 d1 d2 d3 d4
      have y0 := y 0 (.string nm) rfl
      have y1 := y 1 (.int .i64 st) rfl
      have y2 := y 2 (.int .i64 pr) rfl
      have y3 := y 3 (.slice q so.length cp) rfl
      have y4 := y 4 (.int .i64 rs) rfl
      have hbx := below2 hb.out nb
      clear y sr sn sl hm
      simp only [ec] at en y0 y1 y2 y3 y4 hbx
      cases eb
      case false =>
        go_wp2_with (first | (go_at_call 67; refine en.mono ?_; rintro e w2 ⟨rfl, hb2⟩) | fail)
        first | (change bodyPost Tryz.prog Tryz.f44 _ Exit.ret _ _) | (simp only [Exit.noGoto])
        go_ret
        exact ⟨by rw [HN.out (by first | trivial | rfl)]; rfl, below2 HBX.out (below2 hbx hb2)⟩
      go_wp2_with (first | (go_at_call 67; refine en.mono ?_; rintro e w2 ⟨rfl, hb2⟩) | fail)
      exact ⟨⟨j + 1, by omega, by go_num, HM.out (by first | trivial | rfl), below2 hbx hb2⟩, by simp [intOf]; omega⟩
    obtain rfl : j = c.ens.length := by omega
    have HE1 : Hid (R = (c.ins.all insS && c.txs.all shortT)) := by
      have h1 := hA.out
      rw [← HL.out, List.take_length] at h1
      show R = _
      rw [HR.out, HEn.out, h1]
      rfl
    obtain ⟨z0, z2⟩ := HC.out wr hb.out
    clear hA HEn HL HR hlt hj
    go_wp2
    go_loopw [23] (fun i wv => ∃ j : Nat, j ≤ c.ins.length ∧ i = .int .i64 (j : Int) ∧ Hid ((c.ins.take j).all insS = true) ∧ Hid (Below X.heap.size X wv)) (fun i _ => c.ins.length - (intOf i).toNat)
    case atStart => exact ⟨0, Nat.zero_le _, rfl, by rw [List.take_zero]; exact (rfl : _ = _), hb⟩
    case round =>
      obtain ⟨j, hj, rfl, hA, hb⟩ := hrel
      have hbw := below2 HBX.out hb.out
      by_cases hlt : j < c.ins.length
      case pos =>
        have hm := HH.out.below hbw hB
        obtain ⟨g, o, rfl, hg, d0, d1, d2⟩ := hm.ins j hlt
        have HN : Hid (insS c.ins[j] = false → R = false) := fun q => by
          rw [HE1.out, all_no hlt q]
          rfl
        have HM : Hid (insS c.ins[j] = true → (c.ins.take (j + 1)).all insS = true) := fun q => all_next hlt hA.out q
        have j0 : (0 : Int) ≤ (j : Int) := by omega
        have j1 : (j : Int) < (c.ins.length : Int) := by omega
        generalize c.ins[j] = x at *
        obtain ⟨op, a, b⟩ := x
        simp only at d0 d1 d2
        have nb : Below wr.heap.size wr (wr.alloc (.cells #[.int .i64 op, .int .i64 a, .int .i64 b] 86)) := (Below.refl _ wr).alloc (Nat.le_refl _) _
        have y := fun j v hv => (cells_new wr #[.int .i64 op, .int .i64 a, .int .i64 b] 86 j v hv).1
        have en := instr_any op a b _ (HT.out.next (below2 hbw nb))
        generalize insS (op, a, b) = eb at en HN HM
        have y0 := y 0 (.int .i64 op) rfl
        have y1 := y 1 (.int .i64 a) rfl
        have y2 := y 2 (.int .i64 b) rfl
        have hbx := below2 hb.out nb
        clear y hm
        cases eb
        case false =>
          go_wp2_with (first | (go_at_call 68; refine en.mono ?_; rintro e w2 ⟨rfl, hb2⟩) | fail)
          first | (change bodyPost Tryz.prog Tryz.f44 _ Exit.ret _ _) | (simp only [Exit.noGoto])
          go_ret
          exact ⟨by rw [HN.out (by first | trivial | rfl)]; rfl, below2 HBX.out (below2 hbx hb2)⟩
        go_wp2_with (first | (go_at_call 68; refine en.mono ?_; rintro e w2 ⟨rfl, hb2⟩) | fail)
        exact ⟨⟨j + 1, by omega, by go_num, HM.out (by first | trivial | rfl), below2 hbx hb2⟩, by simp [intOf]; omega⟩
      obtain rfl : j = c.ins.length := by omega
      have HE2 : Hid (R = c.txs.all shortT) := by
        have h1 := hA.out
        rw [List.take_length] at h1
        show R = _
        rw [HE1.out, h1]
        rfl
      obtain ⟨z0, z2⟩ := HC.out wr hb.out
      clear hA HE1 hlt hj
      go_wp2
      go_loopw [34] (fun i wv => ∃ j : Nat, j ≤ c.txs.length ∧ i = .int .i64 (j : Int) ∧ Hid ((c.txs.take j).all shortT = true) ∧ Hid (Below X.heap.size X wv)) (fun i _ => c.txs.length - (intOf i).toNat)
      case atStart => exact ⟨0, Nat.zero_le _, rfl, by rw [List.take_zero]; exact (rfl : _ = _), hb⟩
      case round =>
        obtain ⟨j, hj, rfl, hA, hb⟩ := hrel
        have hbw := below2 HBX.out hb.out
        by_cases hlt : j < c.txs.length
        case pos =>
          have hm := HH.out.below hbw hB
          obtain ⟨g, o, rfl, hg, d0⟩ := hm.txt j hlt
          have hts := hm.ts _ (List.getElem_mem hlt)
          have HN : Hid (shortT c.txs[j] = false → R = false) := fun q => by rw [HE2.out, all_no hlt q]
          have HM : Hid (shortT c.txs[j] = true → (c.txs.take (j + 1)).all shortT = true) := fun q => all_next hlt hA.out q
          have j0 : (0 : Int) ≤ (j : Int) := by omega
          have j1 : (j : Int) < (c.txs.length : Int) := by omega
          generalize c.txs[j] = x at *
          clear hm
          unfold shortT at HN HM
          by_cases hx : x.size ≤ 200
          case neg =>
            have hx' : (200 : Int) < (x.size : Int) := by omega
            go_wp2
            first | (change bodyPost Tryz.prog Tryz.f44 _ Exit.ret _ _) | (simp only [Exit.noGoto])
            go_ret
            exact ⟨by rw [HN.out (by simpa using hx)]; rfl, below2 HBX.out hb.out⟩
          have hx' : (x.size : Int) ≤ 200 := by omega
          go_wp2
          exact ⟨⟨j + 1, by omega, by go_num, HM.out (by simpa using hx), hb⟩, by simp [intOf]; omega⟩
        obtain rfl : j = c.txs.length := by omega
        have HF : Hid (R = true) := by
          have h1 := hA.out
          rw [List.take_length] at h1
          show R = _
          rw [HE2.out, h1]
        go_wp2
        first | (change bodyPost Tryz.prog Tryz.f44 _ Exit.ret _ _) | (simp only [Exit.noGoto])
        go_ret
        exact ⟨by rw [HF.out]; rfl, below2 HBX.out hb.out⟩
end Go.Proofs.YtahdkffijlfmnaaGreatDoor

namespace Go.Proofs.YtahdkffijlfmnaaGreatDoor
open Go.RowKit
set_option maxRecDepth 100000 in
set_option maxHeartbeats 8000000 in
theorem valid_any {w : World} {B : Nat} {iq eq tq : Option Addr} {Es : List Em} {c : Cd} (h : CodeM w B iq eq tq Es c) (ia ea ta : Nat) (hB : B ≤ w.heap.size) (ht : Tabs w) :
    Calls Tryz.prog 22 #[codeV iq eq tq ia ea ta c] w fun e w' => e = .returned (.int .i64 (validS c)) ∧ Below w.heap.size w w' := by
  obtain ⟨R, HR⟩ : ∃ R, Hid (R = validS c) := ⟨_, rfl⟩
  rw [← HR.out]
  have HV : Hid (validS c = if bigC c then 2 else if mayC c then 0 else 130) := rfl
  have hil : (c.ins.length : Int) ≤ 9223372036854775807 := by have := h.il; omega
  have hel : (c.ens.length : Int) ≤ 9223372036854775807 := by have := h.el; omega
  have htl : (c.txs.length : Int) ≤ 9223372036854775807 := by have := h.tl; omega
  have B1 : Below w.heap.size w (w.alloc (.cells #[.slice iq c.ins.length ia, .slice eq c.ens.length ea, .slice tq c.txs.length ta, .int .i64 c.main] 26)) := (Below.refl _ w).alloc (Nat.le_refl _) _
  have x0 := (cells_new w #[.slice iq c.ins.length ia, .slice eq c.ens.length ea, .slice tq c.txs.length ta, .int .i64 c.main] 26 0 (.slice iq c.ins.length ia) rfl).1
  have x1 := (cells_new w #[.slice iq c.ins.length ia, .slice eq c.ens.length ea, .slice tq c.txs.length ta, .int .i64 c.main] 26 1 (.slice eq c.ens.length ea) rfl).1
  have x2 := (cells_new w #[.slice iq c.ins.length ia, .slice eq c.ens.length ea, .slice tq c.txs.length ta, .int .i64 c.main] 26 2 (.slice tq c.txs.length ta) rfl).1
  have x3 := (cells_new w #[.slice iq c.ins.length ia, .slice eq c.ens.length ea, .slice tq c.txs.length ta, .int .i64 c.main] 26 3 (.int .i64 c.main) rfl).1
  have hlt1 : w.heap.size < (w.alloc (.cells #[.slice iq c.ins.length ia, .slice eq c.ens.length ea, .slice tq c.txs.length ta, .int .i64 c.main] 26)).heap.size := by simp
  have h1 := h.below B1 hB
  have t1 := ht.next B1
  by_cases hb : bigC c = true
  · have HE : Hid (R = 2) := by
      show R = 2
      rw [HR.out, HV.out, if_pos hb]
    unfold bigC at hb
    simp only [Bool.or_eq_true, decide_eq_true_eq] at hb
    have hbi : (60 : Int) < (c.ens.length : Int) ∨ (60000 : Int) < (c.ins.length : Int) ∨ (4000 : Int) < (c.txs.length : Int) := by omega
    have HB3 : Hid ((60 : Int) < (c.ens.length : Int) ∨ (60000 : Int) < (c.ins.length : Int) ∨ (4000 : Int) < (c.txs.length : Int)) := hbi
    unfold codeV
    clear hb hbi h h1 t1 ht
    go_enter Tryz.func22, Tryz.ntmps22
    go_upto_region 1 with fail
    generalize w.alloc (.cells #[.slice iq c.ins.length ia, .slice eq c.ens.length ea, .slice tq c.txs.length ta, .int .i64 c.main] 26) = X at *
    by_cases k1 : (60 : Int) < (c.ens.length : Int)
    · go_wp2
      go_ret
      exact ⟨by rw [HE.out]; rfl, B1⟩
    by_cases k2 : (60000 : Int) < (c.ins.length : Int)
    · go_wp2
      go_ret
      exact ⟨by rw [HE.out]; rfl, B1⟩
    have k3 : (4000 : Int) < (c.txs.length : Int) := by have := HB3.out; omega
    go_wp2
    go_ret
    exact ⟨by rw [HE.out]; rfl, B1⟩
  have HE : Hid (R = if mayC c then 0 else 130) := by
    show R = _
    rw [HR.out, HV.out, if_neg hb]
  have hb' : ¬ (60 < c.ens.length) ∧ ¬ (60000 < c.ins.length) ∧ ¬ (4000 < c.txs.length) := by
    unfold bigC at hb
    simp only [Bool.or_eq_true, decide_eq_true_eq] at hb
    omega
  have k1 : (c.ens.length : Int) ≤ 60 := by omega
  have k2 : (c.ins.length : Int) ≤ 60000 := by omega
  have k3 : (c.txs.length : Int) ≤ 4000 := by omega
  by_cases hm : 0 ≤ c.main ∧ c.main < (c.ens.length : Int)
  case neg =>
    have HF : Hid (R = 130) := by
      show R = 130
      rw [HE.out, if_neg]
      intro q
      unfold mayC at q
      simp only [Bool.and_eq_true, decide_eq_true_eq] at q
      exact hm ⟨q.1.1.1.1.1, q.1.1.1.1.2⟩
    unfold codeV
    clear hb hb' h h1 t1 ht
    go_enter Tryz.func22, Tryz.ntmps22
    go_upto_region 1 with fail
    generalize w.alloc (.cells #[.slice iq c.ins.length ia, .slice eq c.ens.length ea, .slice tq c.txs.length ta, .int .i64 c.main] 26) = X at *
    by_cases k4 : 0 ≤ c.main
    · have k5 : (c.ens.length : Int) ≤ c.main := by
        rcases Int.lt_or_le c.main (c.ens.length : Int) with q | q
        · exact absurd ⟨k4, q⟩ hm
        · exact q
      clear hm
      go_wp2
      go_ret
      exact ⟨by rw [HF.out]; rfl, B1⟩
    · clear hm
      go_wp2
      go_ret
      exact ⟨by rw [HF.out]; rfl, B1⟩
  obtain ⟨m0, m1⟩ := hm
  have hp : 0 < c.ens.length := by omega
  have s1 := starts_any h1 ea (by have := B1.size; omega) hp
  have HP : Hid (∀ W, Below (w.alloc (.cells #[.slice iq c.ins.length ia, .slice eq c.ens.length ea, .slice tq c.txs.length ta, .int .i64 c.main] 26)).heap.size (w.alloc (.cells #[.slice iq c.ins.length ia, .slice eq c.ens.length ea, .slice tq c.txs.length ta, .int .i64 c.main] 26)) W → Calls Tryz.prog 44 #[codeV iq eq tq ia ea ta c] W fun e w' => e = .returned (.bool (c.ens.all entS && c.ins.all insS && c.txs.all shortT)) ∧ Below W.heap.size W w') := fun W hW =>
    parts_any (h1.below hW (by have := B1.size; omega)) ia ea ta (by have := B1.size; have := hW.size; omega) (t1.next hW)
  have HM : Hid (R = if (stsS c.ens c.ins.length && (c.ens.all entS && c.ins.all insS && c.txs.all shortT)) then 0 else 130) := by
    show R = _
    rw [HE.out]
    unfold mayC
    rw [decide_eq_true m0, decide_eq_true m1]
    simp only [Bool.true_and, Bool.and_assoc]
    rfl
  unfold codeV at HP ⊢
  generalize (c.ens.all entS && c.ins.all insS && c.txs.all shortT) = pb at HP HM
  generalize stsS c.ens c.ins.length = sb at s1 HM
  clear hb hb' h h1 t1 ht HE HV HR
  go_enter Tryz.func22, Tryz.ntmps22
  go_upto_region 1 with fail
  generalize w.alloc (.cells #[.slice iq c.ins.length ia, .slice eq c.ens.length ea, .slice tq c.txs.length ta, .int .i64 c.main] 26) = X at *
  go_wp2_with fail
  refine s1.mono ?_
  rintro e w1 ⟨rfl, hb1⟩
  cases sb
  case false =>
    go_wp2
    go_ret
    exact ⟨by rw [HM.out]; rfl, below2 B1 hb1⟩
  have c0 := (hb1.cell (p := ⟨w.heap.size, 0, none⟩) hlt1).trans x0
  have c1 := (hb1.cell (p := ⟨w.heap.size, 1, none⟩) hlt1).trans x1
  have c2 := (hb1.cell (p := ⟨w.heap.size, 2, none⟩) hlt1).trans x2
  have c3 := (hb1.cell (p := ⟨w.heap.size, 3, none⟩) hlt1).trans x3
  have p1 := HP.out w1 hb1
  clear s1 HP x0 x1 x2 x3
  go_wp2_with fail
  refine p1.mono ?_
  rintro e w2 ⟨rfl, hb2⟩
  cases pb
  · go_wp2
    go_ret
    exact ⟨by rw [HM.out]; rfl, below2 (below2 B1 hb1) hb2⟩
  · go_wp2
    go_ret
    exact ⟨by rw [HM.out]; rfl, below2 (below2 B1 hb1) hb2⟩
end Go.Proofs.YtahdkffijlfmnaaGreatDoor
