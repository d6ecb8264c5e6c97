import Derived.Test.YtichbejmelkjeaaGreatDoorP21
namespace Go.Proofs.YtichbejmelkjeaaGreatDoor
open Go.RowKit

theorem ret_rrd {w : World} {B : Nat} {x0 x1 x2 x3 x4 x5 x6 x7 x : Value} {tm : Array Value} (hf : Full w B 51 [x0, x1, x2, x3, x4, x5, x6, x7]) (h2 : tm[4]?.getD undef = .pointer (some ⟨B, 0, none⟩)) (h3 : tm[5]?.getD undef = x) :
    (results Tryz.f28 tm).run Tryz.prog w = .ok (.tuple #[.agg #[x0, x1, x2, x3, x4, x5, x6, x7], x]) w := by
  obtain ⟨⟨c0, -⟩, ⟨c1, -⟩, ⟨c2, -⟩, ⟨c3, -⟩, ⟨c4, -⟩, ⟨c5, -⟩, ⟨c6, -⟩, ⟨c7, -⟩⟩ := hf.cell8
  simp [results, Tryz.results28, go_sem, h2, h3, c0, c1, c2, c3, c4, c5, c6, c7]
/-- What read answers. -/
def RdP (w : World) (R : List (List UInt8)) (e : Ending) (w' : World) : Prop :=
  ∃ (k a1 a2 : Int) (a3 a4 : ByteArray) (a6 : Int) (a7 : ByteArray) (b : Bool), e = .returned (.tuple #[.agg #[.int .i64 k, .int .i64 a1, .int .i64 a2, .string a3, .string a4, .bool false, .int .i64 a6, .string a7], .bool b]) ∧ Hid (((b = true ∧ cmdS R = some ⟨k, a1, a2, a3.data.toList, a4.data.toList, false, a6, a7.data.toList⟩) ∨ (b = false ∧ cmdS R = none)) ∧ Below w.heap.size w w')
structure RdI (w W : World) (B : Nat) (L : List Value) : Prop where
  f1 : Full W w.heap.size 51 [.int .i64 0, .int .i64 0, .int .i64 0, .string ⟨#[]⟩, .string ⟨#[]⟩, .bool false, .int .i64 0, .string ⟨#[]⟩]
  f2 : Full W B 51 L
  b : Below w.heap.size w W
  lt : w.heap.size < B
theorem RdI.next {w W W' : World} {B : Nat} {L : List Value} (h : RdI w W B L) (hb : Below W.heap.size W W') : RdI w W' B L := ⟨h.f1.next hb, h.f2.next hb, h.b.trans (hb.mono h.b.size), h.lt⟩
theorem RdI.put {w W : World} {B : Nat} {a d : List Value} {x : Value} (h : RdI w W B (a ++ (x :: d))) (v : Value) : RdI w (W.setCell ⟨B, a.length, none⟩ v) B (a ++ (v :: d)) :=
  ⟨h.f1.other1 (Nat.ne_of_lt h.lt), h.f2.put1 v, h.b.setCell (p := ⟨B, a.length, none⟩) (Nat.le_of_lt h.lt) _, h.lt⟩
def prtS (kn : Nat) (Rt : List (List UInt8)) : Option Cm := match Rt with | [] => none | r1 :: _ => some ⟨kn, 0, 0, [], [], false, 0, r1⟩
def oneS (O : List UInt8 → Int × Bool) (kn : Nat) (Rt : List (List UInt8)) : Option Cm := match Rt with | [r1] => if (O (wrd r1)).2 then some ⟨kn, 0, 0, [], [], false, (O (wrd r1)).1, []⟩ else none | _ => none
theorem tks_one : ∀ k, k < 23 → k ≠ 0 → k ≠ 1 → k ≠ 2 → k ≠ 3 → k ≠ 4 → k ≠ 5 → k ≠ 15 → k ≠ 16 → tks k = 1 := by
  intro k hk
  have h : k = 0 ∨ k = 1 ∨ k = 2 ∨ k = 3 ∨ k = 4 ∨ k = 5 ∨ k = 6 ∨ k = 7 ∨ k = 8 ∨ k = 9 ∨ k = 10 ∨ k = 11 ∨ k = 12 ∨ k = 13 ∨ k = 14 ∨ k = 15 ∨ k = 16 ∨ k = 17 ∨ k = 18 ∨ k = 19 ∨ k = 20 ∨ k = 21 ∨ k = 22 := by omega
  rcases h with rfl | rfl | rfl | rfl | rfl | rfl | rfl | rfl | rfl | rfl | rfl | rfl | rfl | rfl | rfl | rfl | rfl | rfl | rfl | rfl | rfl | rfl | rfl
  all_goals first | (intros; rfl) | (intros; omega)

set_option maxRecDepth 100000 in
set_option maxHeartbeats 8000000 in
theorem rread_any (l : ByteArray) {g cap E : Nat} {ws : List (List UInt8 × Nat)} {R : List (List UInt8)} {w : World} (hA : WdA w (some ⟨g, 0, none⟩) cap ws) (hpos : 0 < ws.length) (hE : endS ws = E) (hEl : E ≤ l.size) (hF : F2 (WR l.data.toList E) ws R) (hT : Lx.RTabs w) (hWn : ∀ W, Below w.heap.size w W → RW W) :
    Calls Tryz.prog 28 #[.string l, .slice (some ⟨g, 0, none⟩) ws.length cap] w (RdP w R) := by
  obtain ⟨X1, hX1⟩ : ∃ X1, w.alloc (.cells #[.int .i64 0, .int .i64 0, .int .i64 0, .string ⟨#[]⟩, .string ⟨#[]⟩, .bool false, .int .i64 0, .string ⟨#[]⟩] 51) = X1 := ⟨_, rfl⟩
  have b1 : Below w.heap.size w X1 := by rw [← hX1]; exact (Below.refl _ w).alloc (Nat.le_refl _) _
  have f1 : Full X1 w.heap.size 51 [.int .i64 0, .int .i64 0, .int .i64 0, .string ⟨#[]⟩, .string ⟨#[]⟩, .bool false, .int .i64 0, .string ⟨#[]⟩] := by rw [← hX1]; exact Full.new w _ _
  have z1 : X1.heap.size = w.heap.size + 1 := by rw [← hX1]; simp
  have hlen := hF.len
  obtain ⟨R0, Rt, hR⟩ : ∃ a c, R = a :: c := by
    match R, hlen with
    | a :: c, _ => exact ⟨a, c, rfl⟩
    | [], h => simp only [List.length_nil] at h; omega
  obtain ⟨⟨t0, a0⟩, hw0, hr0, -, -⟩ := hF.get 0 R0 (by rw [hR]; rfl)
  simp only at hr0
  obtain ⟨y0, hy0⟩ : ∃ y : ByteArray, y.data.toList = t0 := ⟨⟨t0.toArray⟩, rfl⟩
  have c0 : X1.cell? ⟨g, 0, none⟩ = some (.string y0) := ((hA.next b1).cell 0 y0 a0 (by rw [hy0]; exact hw0)).1
  have HK := rkind_any y0 X1 (hWn X1 b1)
  have hkl := knd_lt y0.data.toList
  have hky : y0.data.toList = wrd R0 := by rw [hy0, hr0]
  obtain ⟨kn, hkn⟩ : ∃ kn, knd y0.data.toList = kn := ⟨_, rfl⟩
  rw [hkn] at HK hkl
  rw [hky] at hkn
  have hS0 : cmdS R = cmdS (R0 :: Rt) := by rw [hR]
  unfold cmdS at hS0
  simp only [hkn] at hS0
  obtain ⟨X2, hX2⟩ : ∃ X2, X1.alloc (.cells #[.int .i64 (kn : Int), .int .i64 0, .int .i64 0, .string ⟨#[]⟩, .string ⟨#[]⟩, .bool false, .int .i64 0, .string ⟨#[]⟩] 51) = X2 := ⟨_, rfl⟩
  have n2 : Below X1.heap.size X1 X2 := by rw [← hX2]; exact (Below.refl _ X1).alloc (Nat.le_refl _) _
  have f2 : Full X2 X1.heap.size 51 [.int .i64 (kn : Int), .int .i64 0, .int .i64 0, .string ⟨#[]⟩, .string ⟨#[]⟩, .bool false, .int .i64 0, .string ⟨#[]⟩] := by rw [← hX2]; exact Full.new X1 _ _
  have HI2 : Hid (RdI w X2 X1.heap.size [.int .i64 (kn : Int), .int .i64 0, .int .i64 0, .string ⟨#[]⟩, .string ⟨#[]⟩, .bool false, .int .i64 0, .string ⟨#[]⟩]) := ⟨f1.next n2, f2, b1.trans (n2.mono b1.size), by omega⟩
  have hle := hA.le
  have hk0 : (0 : Int) ≤ (kn : Int) := by omega
  have hk2 : (kn : Int) < 23 := by omega
  obtain ⟨n, hn⟩ : ∃ n, ws.length = n := ⟨_, rfl⟩
  rw [hn] at hle hlen ⊢
  have q0 : (0 : Int) < (n : Int) := by omega
  have q0' : 0 < n := by omega
  have HS0 : Hid (cmdS R = _) := hS0
  have HR : Hid (R = R0 :: Rt ∧ Rt.length + 1 = n ∧ ws.length = n ∧ knd (wrd R0) = kn) := ⟨hR, by rw [hR] at hlen; simp only [List.length_cons] at hlen; omega, hn, hkn⟩
  have HF : Hid (F2 (WR l.data.toList E) ws R) := hF
  have HA : Hid (∀ W, Below w.heap.size w W → WdA W (some ⟨g, 0, none⟩) cap ws ∧ Lx.RTabs W) := fun W hW => ⟨hA.next hW, hT.next hW⟩
  have HE : Hid (endS ws = E ∧ E ≤ l.size ∧ 0 < ws.length) := ⟨hE, hEl, hpos⟩
  have HX2 : Hid (X1.alloc (.cells #[.int .i64 (kn : Int), .int .i64 0, .int .i64 0, .string ⟨#[]⟩, .string ⟨#[]⟩, .bool false, .int .i64 0, .string ⟨#[]⟩] 51) = X2) := hX2
  have HB : Hid (∀ i : Nat, (kn = i → ((kn : Int) == (i : Int)) = true) ∧ (kn ≠ i → ((kn : Int) == (i : Int)) = false)) := fun i => ⟨fun h => by rw [h]; exact beq_self_eq_true _, fun h => by rw [beq_eq_false_iff_ne]; omega⟩
  have HKl : Hid (kn < 23) := hkl
  clear hA hpos hE hEl hF hT hWn b1 f1 z1 n2 f2 hlen hn hR hw0 hr0 hy0 hky hkn hS0 hX2 hkl
  go_enter Tryz.func28, Tryz.ntmps28
  go_wp2_with fail
  refine HK.mono ?_
  rintro e w1 ⟨rfl, hw1⟩
  subst hw1
  clear HK
  go_upto_region 3 with fail
  rw [HX2.out]
  clear HX2 hX1
  obtain ⟨⟨g0, k0⟩, ⟨g1, k1⟩, ⟨g2, k2⟩, ⟨g3, k3⟩, ⟨g4, k4⟩, ⟨g5, k5⟩, ⟨g6, k6⟩, ⟨g7, k7⟩⟩ := HI2.out.f1.cell8
  obtain ⟨⟨r0, s0⟩, ⟨r1, s1⟩, ⟨r2, s2⟩, ⟨r3, s3⟩, ⟨r4, s4⟩, ⟨r5, s5⟩, ⟨r6, s6⟩, ⟨r7, s7⟩⟩ := HI2.out.f2.cell8
  generalize w1.heap.size = B at *
  clear c0
  have e0 := HB.out 0
  have e1 := HB.out 1
  have e2 := HB.out 2
  have e16 := HB.out 16
  have e3 := HB.out 3
  have e4 := HB.out 4
  have e5 := HB.out 5
  have e15 := HB.out 15
  clear HB
  by_cases hk : kn = 0
  · have HP : Hid (cmdS R = none) := by
      show cmdS R = none
      rw [HS0.out, hk]; rfl
    have d0 := e0.1 (by omega)
    clear e0 e1 e2 e3 e4 e5 e15 e16
    clear hk HS0 HR HF HA HE HKl
    go_wp2
    refine bodyPost_ret (by exact ret_rrd (HI2.out.f1.eight _ _ _ _ _ _ _ _) rfl rfl) (by rfl) ?_
    unfold RdP
    exact ⟨kn, 0, 0, ⟨#[]⟩, ⟨#[]⟩, 0, ⟨#[]⟩, false, rfl, .inr ⟨rfl, HP.out⟩, below_eight HI2.out.b (Nat.le_refl _) _ _ _ _ _ _ _ _⟩
  by_cases hko : kn ≠ 1 ∧ kn ≠ 2 ∧ kn ≠ 3 ∧ kn ≠ 4 ∧ kn ≠ 5 ∧ kn ≠ 15 ∧ kn ≠ 16
  · have ht : tks kn = 1 := tks_one kn HKl.out hk hko.1 hko.2.1 hko.2.2.1 hko.2.2.2.1 hko.2.2.2.2.1 hko.2.2.2.2.2.1 hko.2.2.2.2.2.2
    have d0 := e0.2 (by omega)
    have d1 := e1.2 (by omega)
    have d2 := e2.2 (by omega)
    have d16 := e16.2 (by omega)
    have d3 := e3.2 (by omega)
    have d4 := e4.2 (by omega)
    have d5 := e5.2 (by omega)
    have d15 := e15.2 (by omega)
    by_cases h1 : n = 1
    · have HP : Hid (cmdS R = some ⟨kn, 0, 0, (⟨#[]⟩ : ByteArray).data.toList, (⟨#[]⟩ : ByteArray).data.toList, false, 0, (⟨#[]⟩ : ByteArray).data.toList⟩) := by
        show cmdS R = _
        have hz : Rt = [] := List.eq_nil_of_length_eq_zero (by have := HR.out.2.1; omega)
        rw [HS0.out, ht, hz]; rfl
      have qn : ((n : Int) == 1) = true := by rw [h1]; rfl
      clear e0 e1 e2 e3 e4 e5 e15 e16
      clear hk hko ht h1 HS0 HR HF HA HE HKl
      go_wp2
      refine bodyPost_ret (by exact ret_rrd (HI2.out.f1.eight _ _ _ _ _ _ _ _) rfl rfl) (by rfl) ?_
      unfold RdP
      exact ⟨kn, 0, 0, ⟨#[]⟩, ⟨#[]⟩, 0, ⟨#[]⟩, true, rfl, .inl ⟨rfl, HP.out⟩, below_eight HI2.out.b (Nat.le_refl _) _ _ _ _ _ _ _ _⟩
    · have HP : Hid (cmdS R = none) := by
        show cmdS R = none
        have hz : Rt ≠ [] := fun h => by have := HR.out.2.1; rw [h] at this; simp only [List.length_nil] at this; omega
        rw [HS0.out, ht]; simp [hz]
      have qn : ((n : Int) == 1) = false := by rw [beq_eq_false_iff_ne]; omega
      have qn' : ¬ n = 1 := h1
      clear e0 e1 e2 e3 e4 e5 e15 e16
      clear hk hko ht h1 HS0 HR HF HA HE HKl
      go_wp2
      refine bodyPost_ret (by exact ret_rrd (HI2.out.f1.eight _ _ _ _ _ _ _ _) rfl rfl) (by rfl) ?_
      unfold RdP
      exact ⟨kn, 0, 0, ⟨#[]⟩, ⟨#[]⟩, 0, ⟨#[]⟩, false, rfl, .inr ⟨rfl, HP.out⟩, below_eight HI2.out.b (Nat.le_refl _) _ _ _ _ _ _ _ _⟩
  by_cases hkp : kn = 1 ∨ kn = 2
  · have hP : cmdS R = (pntR (kn + 1) R).map fun c => { c with kind := kn } := by
      have ht : tks kn = kn + 1 := by rcases hkp with h | h <;> rw [h] <;> rfl
      rw [HS0.out, ht, if_neg (by omega), if_pos (by omega), HR.out.1]
      match Rt with
      | [] => rfl
      | [a] => rfl
      | [a, b] => rfl
      | a :: b :: c :: d =>
        show (if wrd b = ifw then _ else none) = (if wrd b = ifw then _ else none : Option Cm).map _
        split <;> rfl
    have HP : Hid (cmdS R = _) := hP
    have HC0 : Hid (∀ W, Below w.heap.size w W → Calls Tryz.prog 51 #[.int .i64 (kn : Int), .string l, .slice (some ⟨g, 0, none⟩) n cap] W (RptP W (kn + 1) R)) := fun W hW => by
      have h := rpoint_any kn hkp l (HA.out W hW).1 HE.out.2.2 HE.out.1 HE.out.2.1 HF.out (HA.out W hW).2
      rw [HR.out.2.2.1] at h; exact h
    have hor : (((kn : Int) == 0) = false ∧ ((kn : Int) == 1) = true) ∨ (((kn : Int) == 0) = false ∧ ((kn : Int) == 1) = false ∧ ((kn : Int) == 2) = true) := by
      rcases hkp with h | h
      · exact .inl ⟨e0.2 (by omega), e1.1 h⟩
      · exact .inr ⟨e0.2 (by omega), e1.2 (by omega), e2.1 h⟩
    clear hP e0 e1 e2 e3 e4 e5 e15 e16 hk hko hkp HS0 HR HF HA HE HKl
    rcases hor with ⟨d0, d1⟩ | ⟨d0, d1, d2⟩
    all_goals
      go_upto_region 10 with fail
      obtain ⟨X3, hX3⟩ : ∃ X3, X2.alloc (.cells #[.int .i64 0, .int .i64 0, .string ⟨#[]⟩, .string ⟨#[]⟩, .bool false] 49) = X3 := ⟨_, rfl⟩
      rw [hX3]
      have n3 : Below X2.heap.size X2 X3 := by rw [← hX3]; exact (Below.refl _ X2).alloc (Nat.le_refl _) _
      have f3 : Full X3 X2.heap.size 49 [.int .i64 0, .int .i64 0, .string ⟨#[]⟩, .string ⟨#[]⟩, .bool false] := by rw [← hX3]; exact Full.new X2 _ _
      have HI3 := HI2.out.next n3
      have HC := HC0.out X3 HI3.b
      have hB3 : B < X2.heap.size := HI2.out.f2.lt
      have hB1 := HI2.out.lt
      clear hX3 n3 HC0 g0 g1 g2 g3 g4 g5 g6 g7 k0 k1 k2 k3 k4 k5 k6 k7 r0 r1 r2 r3 r4 r5 r6 r7 s0 s1 s2 s3 s4 s5 s6 s7
      generalize X2.heap.size = D at *
      clear HI2
      have HI3h : Hid (RdI w X3 B [.int .i64 (kn : Int), .int .i64 0, .int .i64 0, .string ⟨#[]⟩, .string ⟨#[]⟩, .bool false, .int .i64 0, .string ⟨#[]⟩]) := HI3
      have F3h : Hid (Full X3 D 49 [.int .i64 0, .int .i64 0, .string ⟨#[]⟩, .string ⟨#[]⟩, .bool false]) := f3
      clear HI3 f3
      go_wp2_with fail
      refine HC.mono ?_
      rintro e w5 ⟨p1, p2, p3, p4, b, rfl, hq⟩
      clear HC
      have HI5 := HI3h.out.next hq.out.2
      have f5 : Full w5 D 49 [.int .i64 0, .int .i64 0, .string ⟨#[]⟩, .string ⟨#[]⟩, .bool false] := Full.next F3h.out hq.out.2
      obtain ⟨⟨u0, v0⟩, ⟨u1, v1⟩, ⟨u2, v2⟩, ⟨u3, v3⟩, ⟨u4, v4⟩⟩ := f5.cell5
      have HI6 : Hid (RdI w (((((w5.setCell ⟨D, 0, none⟩ (.int .i64 p1)).setCell ⟨D, 1, none⟩ (.int .i64 p2)).setCell ⟨D, 2, none⟩ (.string p3)).setCell ⟨D, 3, none⟩ (.string p4)).setCell ⟨D, 4, none⟩ (.bool false)) B [.int .i64 (kn : Int), .int .i64 0, .int .i64 0, .string ⟨#[]⟩, .string ⟨#[]⟩, .bool false, .int .i64 0, .string ⟨#[]⟩]) :=
        ⟨((((HI5.f1.other1 (by show w.heap.size ≠ D; omega)).other1 (by show w.heap.size ≠ D; omega)).other1 (by show w.heap.size ≠ D; omega)).other1 (by show w.heap.size ≠ D; omega)).other1 (by show w.heap.size ≠ D; omega),
         ((((HI5.f2.other1 (by show B ≠ D; omega)).other1 (by show B ≠ D; omega)).other1 (by show B ≠ D; omega)).other1 (by show B ≠ D; omega)).other1 (by show B ≠ D; omega),
         below_fiveB HI5.b (by omega) _ _ _ _ _, HI5.lt⟩
      have F6 : Hid (Full (((((w5.setCell ⟨D, 0, none⟩ (.int .i64 p1)).setCell ⟨D, 1, none⟩ (.int .i64 p2)).setCell ⟨D, 2, none⟩ (.string p3)).setCell ⟨D, 3, none⟩ (.string p4)).setCell ⟨D, 4, none⟩ (.bool false)) D 49 [.int .i64 p1, .int .i64 p2, .string p3, .string p4, .bool false]) := f5.five (.int .i64 p1) (.int .i64 p2) (.string p3) (.string p4) (.bool false)
      clear HI5 f5 HI3h F3h
      go_upto_region 11 with fail
      generalize (((((w5.setCell ⟨D, 0, none⟩ (.int .i64 p1)).setCell ⟨D, 1, none⟩ (.int .i64 p2)).setCell ⟨D, 2, none⟩ (.string p3)).setCell ⟨D, 3, none⟩ (.string p4)).setCell ⟨D, 4, none⟩ (.bool false)) = W6 at *
      clear u0 u1 u2 u3 u4 v0 v1 v2 v3 v4
      obtain ⟨⟨u0, v0⟩, ⟨u1, v1⟩, ⟨u2, v2⟩, ⟨u3, v3⟩, ⟨u4, v4⟩⟩ := F6.out.cell5
      obtain ⟨⟨g0, k0⟩, ⟨g1, k1⟩, ⟨g2, k2⟩, ⟨g3, k3⟩, ⟨g4, k4⟩, ⟨g5, k5⟩, ⟨g6, k6⟩, ⟨g7, k7⟩⟩ := HI6.out.f1.cell8
      obtain ⟨⟨r0, s0⟩, ⟨r1, s1⟩, ⟨r2, s2⟩, ⟨r3, s3⟩, ⟨r4, s4⟩, ⟨r5, s5⟩, ⟨r6, s6⟩, ⟨r7, s7⟩⟩ := HI6.out.f2.cell8
      have HI7 : Hid (RdI w (((((W6.setCell ⟨B, 1, none⟩ (.int .i64 p1)).setCell ⟨B, 2, none⟩ (.int .i64 p2)).setCell ⟨B, 3, none⟩ (.string p3)).setCell ⟨B, 4, none⟩ (.string p4)).setCell ⟨B, 5, none⟩ (.bool false)) B [.int .i64 (kn : Int), .int .i64 p1, .int .i64 p2, .string p3, .string p4, .bool false, .int .i64 0, .string ⟨#[]⟩]) :=
        ((((HI6.out.put (a := [_]) _).put (a := [_, _]) _).put (a := [_, _, _]) _).put (a := [_, _, _, _]) _).put (a := [_, _, _, _, _]) _
      go_upto_region 12 with fail
      obtain ⟨W7, hW7⟩ : ∃ W7, (((((W6.setCell ⟨B, 1, none⟩ (.int .i64 p1)).setCell ⟨B, 2, none⟩ (.int .i64 p2)).setCell ⟨B, 3, none⟩ (.string p3)).setCell ⟨B, 4, none⟩ (.string p4)).setCell ⟨B, 5, none⟩ (.bool false)) = W7 := ⟨_, rfl⟩
      rw [hW7] at HI7 ⊢
      clear hW7 u0 u1 u2 u3 u4 v0 v1 v2 v3 v4 F6 HI6
      clear g0 g1 g2 g3 g4 g5 g6 g7 k0 k1 k2 k3 k4 k5 k6 k7 r0 r1 r2 r3 r4 r5 r6 r7 s0 s1 s2 s3 s4 s5 s6 s7
      obtain ⟨⟨g0, k0⟩, ⟨g1, k1⟩, ⟨g2, k2⟩, ⟨g3, k3⟩, ⟨g4, k4⟩, ⟨g5, k5⟩, ⟨g6, k6⟩, ⟨g7, k7⟩⟩ := HI7.out.f1.cell8
      obtain ⟨⟨r0, s0⟩, ⟨r1, s1⟩, ⟨r2, s2⟩, ⟨r3, s3⟩, ⟨r4, s4⟩, ⟨r5, s5⟩, ⟨r6, s6⟩, ⟨r7, s7⟩⟩ := HI7.out.f2.cell8
      go_wp2
      rcases hq.out.1 with ⟨rfl, hb⟩ | ⟨rfl, hb⟩
      · refine bodyPost_ret (by exact ret_rrd (HI7.out.f1.eight _ _ _ _ _ _ _ _) rfl rfl) (by rfl) ?_
        unfold RdP
        exact ⟨kn, p1, p2, p3, p4, 0, ⟨#[]⟩, true, rfl, .inl ⟨rfl, by rw [HP.out, hb]; rfl⟩, below_eight HI7.out.b (Nat.le_refl _) _ _ _ _ _ _ _ _⟩
      · refine bodyPost_ret (by exact ret_rrd (HI7.out.f1.eight _ _ _ _ _ _ _ _) rfl rfl) (by rfl) ?_
        unfold RdP
        exact ⟨kn, p1, p2, p3, p4, 0, ⟨#[]⟩, false, rfl, .inr ⟨rfl, by rw [HP.out, hb]; rfl⟩, below_eight HI7.out.b (Nat.le_refl _) _ _ _ _ _ _ _ _⟩
  by_cases hk16 : kn = 16
  · have ht : tks kn = 6 := by rw [hk16]; rfl
    have hP : cmdS R = prtS kn Rt := by
      rw [HS0.out, ht]; cases Rt <;> rfl
    have d0 := e0.2 (by omega)
    have d1 := e1.2 (by omega)
    have d2 := e2.2 (by omega)
    have d16 := e16.1 (by omega)
    by_cases hn2 : n < 2
    · have HP : Hid (cmdS R = none) := by
        show cmdS R = none
        have hz : Rt = [] := List.eq_nil_of_length_eq_zero (by have := HR.out.2.1; omega)
        rw [hP, hz]; rfl
      have qn : (n : Int) < 2 := by omega
      clear e0 e1 e2 e3 e4 e5 e15 e16
      clear hk hko hkp hk16 ht hP hn2 HS0 HR HF HA HE HKl
      go_wp2
      refine bodyPost_ret (by exact ret_rrd (HI2.out.f1.eight _ _ _ _ _ _ _ _) rfl rfl) (by rfl) ?_
      unfold RdP
      exact ⟨kn, 0, 0, ⟨#[]⟩, ⟨#[]⟩, 0, ⟨#[]⟩, false, rfl, .inr ⟨rfl, HP.out⟩, below_eight HI2.out.b (Nat.le_refl _) _ _ _ _ _ _ _ _⟩
    have qn : ¬ (n : Int) < 2 := by omega
    have q1n : (1 : Int) < (n : Int) := by omega
    obtain ⟨R1, Ru, hRu⟩ : ∃ a b, Rt = a :: b := by
      cases Rt with
      | nil => exact absurd HR.out.2.1 (by simp only [List.length_nil]; omega)
      | cons a b => exact ⟨a, b, rfl⟩
    subst hRu
    obtain ⟨⟨t3, a3⟩, hw3, -, ha3, hr3⟩ := HF.out.get 1 R1 (by rw [HR.out.1]; rfl)
    simp only at ha3 hr3
    obtain ⟨z, hz⟩ : ∃ z : ByteArray, z.data.toList = R1 := ⟨⟨R1.toArray⟩, rfl⟩
    have HP : Hid (cmdS R = some ⟨kn, 0, 0, (⟨#[]⟩ : ByteArray).data.toList, (⟨#[]⟩ : ByteArray).data.toList, false, 0, z.data.toList⟩) := by
      show cmdS R = _
      rw [hP, hz]; rfl
    have RS := sl_mid (s := l) (x := z) (a := a3) (k := E) ha3 HE.out.2.1 (by rw [hz, hr3, List.drop_take])
    obtain ⟨x3, hx3⟩ : ∃ y : ByteArray, y.data.toList = t3 := ⟨⟨t3.toArray⟩, rfl⟩
    have HCe : Hid (∀ W, Below w.heap.size w W → W.cell? ⟨g, 3, none⟩ = some (.int .i64 (a3 : Int))) := fun W hW => ((HA.out W hW).1.cell 1 x3 a3 (by rw [hx3]; exact hw3)).2
    have HC := rend_any (HA.out X2.drew HI2.out.b.drew).1 HE.out.2.2
    rw [HE.out.1, HR.out.2.2.1] at HC
    clear e0 e1 e2 e3 e4 e5 e15 e16 hk hko hkp hk16 ht hP hn2 HS0 HR HF HA HE HKl hw3 ha3 hr3 hz hx3
    go_upto_region 16 with fail
    have d7 := HCe.out X2.drew HI2.out.b.drew
    clear g0 g1 g2 g3 g4 g5 g6 g7 k0 k1 k2 k3 k4 k5 k6 k7 r0 r1 r2 r3 r4 r5 r6 r7 s0 s1 s2 s3 s4 s5 s6 s7
    go_region_law (first
      | (refine step_call (by rfl) 52 [.tmp 48] _ [.slice (some ⟨g, 0, none⟩) n cap] (by rfl) (by rfl) (callEnd _) (fun v w' => v = .int .i64 (E : Int) ∧ Hid (Below X2.drew.heap.size X2.drew w')) (HC.mono fun _ _ q => ⟨_, q.1, rfl, q.2⟩) ?_; rintro v5 w5 ⟨rfl, hb5⟩; have HI5 : Hid (RdI w w5 B [.int .i64 (kn : Int), .int .i64 0, .int .i64 0, .string ⟨#[]⟩, .string ⟨#[]⟩, .bool false, .int .i64 0, .string ⟨#[]⟩]) := HI2.out.next ((Below.refl _ X2).drew.trans hb5.out); have e7 := HCe.out w5 HI5.out.b; obtain ⟨⟨r0, s0⟩, ⟨r1, s1⟩, ⟨r2, s2⟩, ⟨r3, s3⟩, ⟨r4, s4⟩, ⟨r5, s5⟩, ⟨r6, s6⟩, ⟨r7, s7⟩⟩ := HI5.out.f2.cell8)
      | fail)
    all_goals
      have HI7 : Hid (RdI w (w5.setCell ⟨B, 7, none⟩ (.string z)) B [.int .i64 (kn : Int), .int .i64 0, .int .i64 0, .string ⟨#[]⟩, .string ⟨#[]⟩, .bool false, .int .i64 0, .string z]) := HI5.out.put (a := [_, _, _, _, _, _, _]) _
      obtain ⟨W7, hW7⟩ : ∃ W7, w5.setCell ⟨B, 7, none⟩ (.string z) = W7 := ⟨_, rfl⟩
      rw [hW7] at HI7 ⊢
      clear hW7 r0 r1 r2 r3 r4 r5 r6 r7 s0 s1 s2 s3 s4 s5 s6 s7
      obtain ⟨⟨g0, k0⟩, ⟨g1, k1⟩, ⟨g2, k2⟩, ⟨g3, k3⟩, ⟨g4, k4⟩, ⟨g5, k5⟩, ⟨g6, k6⟩, ⟨g7, k7⟩⟩ := HI7.out.f1.cell8
      obtain ⟨⟨r0, s0⟩, ⟨r1, s1⟩, ⟨r2, s2⟩, ⟨r3, s3⟩, ⟨r4, s4⟩, ⟨r5, s5⟩, ⟨r6, s6⟩, ⟨r7, s7⟩⟩ := HI7.out.f2.cell8
      go_wp2
      refine bodyPost_ret (by exact ret_rrd (HI7.out.f1.eight _ _ _ _ _ _ _ _) rfl rfl) (by rfl) ?_
      unfold RdP
      exact ⟨kn, 0, 0, ⟨#[]⟩, ⟨#[]⟩, 0, z, true, rfl, .inl ⟨rfl, HP.out⟩, below_eight HI7.out.b (Nat.le_refl _) _ _ _ _ _ _ _ _⟩
  by_cases hk3 : kn = 3 ∨ kn = 4 ∨ kn = 5
  · have ht : tks kn = 4 := by rcases hk3 with h | h | h <;> rw [h] <;> rfl
    have hP : cmdS R = oneS numO kn Rt := by
      rw [HS0.out, ht]
      match Rt with
      | [] => rfl
      | [a] => rfl
      | _ :: _ :: _ => rfl
    have d0 := e0.2 (by omega)
    have d1 := e1.2 (by omega)
    have d2 := e2.2 (by omega)
    have d16 := e16.2 (by omega)
    have hor : ((kn : Int) == 3) = true ∨ (((kn : Int) == 3) = false ∧ ((kn : Int) == 4) = true) ∨ (((kn : Int) == 3) = false ∧ ((kn : Int) == 4) = false ∧ ((kn : Int) == 5) = true) := by
      rcases hk3 with h | h | h
      · exact .inl (e3.1 h)
      · exact .inr (.inl ⟨e3.2 (by omega), e4.1 h⟩)
      · exact .inr (.inr ⟨e3.2 (by omega), e4.2 (by omega), e5.1 h⟩)
    by_cases hn2 : n ≠ 2
    · have HP : Hid (cmdS R = none) := by
        show cmdS R = none
        rw [hP]
        match Rt, HR.out.2.1 with
        | [], _ => rfl
        | [a], h => simp only [List.length_cons, List.length_nil] at h; omega
        | _ :: _ :: _, _ => rfl
      have qn : ((n : Int) == 2) = false := by rw [beq_eq_false_iff_ne]; omega
      have qn' : ¬ n = 2 := hn2

      clear e0 e1 e2 e3 e4 e5 e15 e16 hk hko hkp hk16 hk3 ht
      clear hP hn2 HS0 HR HF HA HE HKl
      rcases hor with d3 | ⟨d3, d4⟩ | ⟨d3, d4, d5⟩
      all_goals
        go_wp2
        refine bodyPost_ret (by exact ret_rrd (HI2.out.f1.eight _ _ _ _ _ _ _ _) rfl rfl) (by rfl) ?_
        unfold RdP
        exact ⟨kn, 0, 0, ⟨#[]⟩, ⟨#[]⟩, 0, ⟨#[]⟩, false, rfl, .inr ⟨rfl, HP.out⟩, below_eight HI2.out.b (Nat.le_refl _) _ _ _ _ _ _ _ _⟩
    have hn2' : n = 2 := Classical.byContradiction hn2
    have qn : ((n : Int) == 2) = true := by rw [hn2']; rfl
    have q1n : (1 : Int) < (n : Int) := by omega
    obtain ⟨R1, hRu⟩ : ∃ a, Rt = [a] := by
      match Rt, HR.out.2.1 with
      | [], h => simp only [List.length_nil] at h; omega
      | [a], _ => exact ⟨a, rfl⟩
      | _ :: _ :: _, h => simp only [List.length_cons] at h; omega
    subst hRu
    obtain ⟨⟨t1, a1⟩, hw1, hr1, -, -⟩ := HF.out.get 1 R1 (by rw [HR.out.1]; rfl)
    simp only at hr1
    obtain ⟨y1, hy1⟩ : ∃ y : ByteArray, y.data.toList = t1 := ⟨⟨t1.toArray⟩, rfl⟩
    have c1 : X2.cell? ⟨g, 2, none⟩ = some (.string y1) := ((HA.out X2 HI2.out.b).1.cell 1 y1 a1 (by rw [hy1]; exact hw1)).1
    have hyr : y1.data.toList = wrd R1 := by rw [hy1, hr1]
    have hPn : (0 ≤ rnS y1.data.toList ∧ cmdS R = some ⟨kn, 0, 0, (⟨#[]⟩ : ByteArray).data.toList, (⟨#[]⟩ : ByteArray).data.toList, false, rnS y1.data.toList, (⟨#[]⟩ : ByteArray).data.toList⟩) ∨ (¬ 0 ≤ rnS y1.data.toList ∧ cmdS R = none) := by
      rw [hP]
      show (_ ∧ (if (numO (wrd R1)).2 then some (⟨kn, 0, 0, [], [], false, (numO (wrd R1)).1, []⟩ : Cm) else none) = _) ∨ (_ ∧ (if (numO (wrd R1)).2 then some (⟨kn, 0, 0, [], [], false, (numO (wrd R1)).1, []⟩ : Cm) else none) = none)
      rw [← hyr]
      cases h : (numO y1.data.toList).2 with
      | true =>
        obtain ⟨h1, h2, -⟩ := rn_yes h
        left; rw [h1]; exact ⟨h2, rfl⟩
      | false =>
        right; rw [rn_not h]; exact ⟨by omega, rfl⟩
    have HC : Hid (∀ W : World, Calls Tryz.prog 53 #[.string y1] W fun e w' => e = .returned (.int .i64 (rnS y1.data.toList)) ∧ w' = W) := fun W => rnum_any y1 W
    generalize rnS y1.data.toList = N at hPn HC
    obtain ⟨fb, hfb⟩ : ∃ fb, decide (0 ≤ N) = fb := ⟨_, rfl⟩
    have HPn : Hid ((fb = true ∧ cmdS R = some ⟨kn, 0, 0, (⟨#[]⟩ : ByteArray).data.toList, (⟨#[]⟩ : ByteArray).data.toList, false, N, (⟨#[]⟩ : ByteArray).data.toList⟩) ∨ (fb = false ∧ cmdS R = none)) := by
      rcases hPn with ⟨h1, h2⟩ | ⟨h1, h2⟩
      · left; exact ⟨by rw [← hfb]; exact decide_eq_true h1, h2⟩
      · right; exact ⟨by rw [← hfb]; exact decide_eq_false h1, h2⟩
    clear e0 e1 e2 e3 e4 e5 e15 e16 hk hko hkp hk16 hk3 ht hP hn2 hn2' HS0 HR HF HA HE HKl hw1 hr1 hy1 hyr hPn
    rcases hor with d3 | ⟨d3, d4⟩ | ⟨d3, d4, d5⟩
    all_goals
      go_wp2_with fail
      refine (HC.out _).mono ?_
      rintro e w5 ⟨rfl, hw5⟩
      subst hw5
      have HI7 : Hid (RdI w (w5.setCell ⟨B, 6, none⟩ (.int .i64 N)) B [.int .i64 (kn : Int), .int .i64 0, .int .i64 0, .string ⟨#[]⟩, .string ⟨#[]⟩, .bool false, .int .i64 N, .string ⟨#[]⟩]) := HI2.out.put (a := [_, _, _, _, _, _]) _
      go_upto_region 24 with fail
      obtain ⟨W7, hW7⟩ : ∃ W7, w5.setCell ⟨B, 6, none⟩ (.int .i64 N) = W7 := ⟨_, rfl⟩
      rw [hW7] at HI7 ⊢
      clear hW7 HC c1
      clear g0 g1 g2 g3 g4 g5 g6 g7 k0 k1 k2 k3 k4 k5 k6 k7 r0 r1 r2 r3 r4 r5 r6 r7 s0 s1 s2 s3 s4 s5 s6 s7
      have HI8 : Hid (RdI w W7.drew B [.int .i64 (kn : Int), .int .i64 0, .int .i64 0, .string ⟨#[]⟩, .string ⟨#[]⟩, .bool false, .int .i64 N, .string ⟨#[]⟩]) := HI7.out.next (Below.refl _ W7).drew
      obtain ⟨⟨g0, k0⟩, ⟨g1, k1⟩, ⟨g2, k2⟩, ⟨g3, k3⟩, ⟨g4, k4⟩, ⟨g5, k5⟩, ⟨g6, k6⟩, ⟨g7, k7⟩⟩ := HI8.out.f1.cell8
      obtain ⟨⟨r0, s0⟩, ⟨r1, s1⟩, ⟨r2, s2⟩, ⟨r3, s3⟩, ⟨r4, s4⟩, ⟨r5, s5⟩, ⟨r6, s6⟩, ⟨r7, s7⟩⟩ := HI8.out.f2.cell8
      have hBn : ¬ B = w.heap.size := fun h => absurd HI7.out.lt (by omega)
      have HF0 : Hid (Full W7.drew B 51 [.int .i64 (kn : Int), .int .i64 0, .int .i64 0, .string ⟨#[]⟩, .string ⟨#[]⟩, .bool false, .int .i64 N, .string ⟨#[]⟩]) := HI8.out.f2
      have HF1 : Hid (Full ((((((((W7.setCell ⟨w.heap.size, 0, none⟩ (.int .i64 (kn : Int))).setCell ⟨w.heap.size, 1, none⟩ (.int .i64 0)).setCell ⟨w.heap.size, 2, none⟩ (.int .i64 0)).setCell ⟨w.heap.size, 3, none⟩ (.string ⟨#[]⟩)).setCell ⟨w.heap.size, 4, none⟩ (.string ⟨#[]⟩)).setCell ⟨w.heap.size, 5, none⟩ (.bool false)).setCell ⟨w.heap.size, 6, none⟩ (.int .i64 N)).setCell ⟨w.heap.size, 7, none⟩ (.string ⟨#[]⟩)).drew B 51 [.int .i64 (kn : Int), .int .i64 0, .int .i64 0, .string ⟨#[]⟩, .string ⟨#[]⟩, .bool false, .int .i64 N, .string ⟨#[]⟩]) := Full.next (Full.other1 (Full.other1 (Full.other1 (Full.other1 (Full.other1 (Full.other1 (Full.other1 (Full.other1 HI7.out.f2 (by show B ≠ w.heap.size; exact hBn)) (by show B ≠ w.heap.size; exact hBn)) (by show B ≠ w.heap.size; exact hBn)) (by show B ≠ w.heap.size; exact hBn)) (by show B ≠ w.heap.size; exact hBn)) (by show B ≠ w.heap.size; exact hBn)) (by show B ≠ w.heap.size; exact hBn)) (by show B ≠ w.heap.size; exact hBn)) (Below.refl _ _).drew
      have HR9 : Hid (Full ((((((((W7.setCell ⟨w.heap.size, 0, none⟩ (.int .i64 (kn : Int))).setCell ⟨w.heap.size, 1, none⟩ (.int .i64 0)).setCell ⟨w.heap.size, 2, none⟩ (.int .i64 0)).setCell ⟨w.heap.size, 3, none⟩ (.string ⟨#[]⟩)).setCell ⟨w.heap.size, 4, none⟩ (.string ⟨#[]⟩)).setCell ⟨w.heap.size, 5, none⟩ (.bool false)).setCell ⟨w.heap.size, 6, none⟩ (.int .i64 N)).setCell ⟨w.heap.size, 7, none⟩ (.string ⟨#[]⟩)).drew w.heap.size 51 [.int .i64 (kn : Int), .int .i64 0, .int .i64 0, .string ⟨#[]⟩, .string ⟨#[]⟩, .bool false, .int .i64 N, .string ⟨#[]⟩] ∧ Below w.heap.size w ((((((((W7.setCell ⟨w.heap.size, 0, none⟩ (.int .i64 (kn : Int))).setCell ⟨w.heap.size, 1, none⟩ (.int .i64 0)).setCell ⟨w.heap.size, 2, none⟩ (.int .i64 0)).setCell ⟨w.heap.size, 3, none⟩ (.string ⟨#[]⟩)).setCell ⟨w.heap.size, 4, none⟩ (.string ⟨#[]⟩)).setCell ⟨w.heap.size, 5, none⟩ (.bool false)).setCell ⟨w.heap.size, 6, none⟩ (.int .i64 N)).setCell ⟨w.heap.size, 7, none⟩ (.string ⟨#[]⟩)).drew) := ⟨Full.next (HI7.out.f1.eight _ _ _ _ _ _ _ _) (Below.refl _ _).drew, (below_eight HI7.out.b (Nat.le_refl _) _ _ _ _ _ _ _ _).drew⟩
      have SV : Hid (∀ w', Full w' B 51 [.int .i64 (kn : Int), .int .i64 0, .int .i64 0, .string ⟨#[]⟩, .string ⟨#[]⟩, .bool false, .int .i64 N, .string ⟨#[]⟩] → w'.cell? ⟨B, 0, none⟩ = some (.int .i64 (kn : Int)) ∧ w'.cell? ⟨B, 1, none⟩ = some (.int .i64 0) ∧ w'.cell? ⟨B, 2, none⟩ = some (.int .i64 0) ∧ w'.cell? ⟨B, 3, none⟩ = some (.string ⟨#[]⟩) ∧ w'.cell? ⟨B, 4, none⟩ = some (.string ⟨#[]⟩) ∧ w'.cell? ⟨B, 5, none⟩ = some (.bool false) ∧ w'.cell? ⟨B, 6, none⟩ = some (.int .i64 N) ∧ w'.cell? ⟨B, 7, none⟩ = some (.string ⟨#[]⟩)) := fun w' h => by
        obtain ⟨⟨c0, -⟩, ⟨c1, -⟩, ⟨c2, -⟩, ⟨c3, -⟩, ⟨c4, -⟩, ⟨c5, -⟩, ⟨c6, -⟩, ⟨c7, -⟩⟩ := h.cell8
        exact ⟨c0, c1, c2, c3, c4, c5, c6, c7⟩
      obtain ⟨⟨g0', k0'⟩, ⟨g1', k1'⟩, ⟨g2', k2'⟩, ⟨g3', k3'⟩, ⟨g4', k4'⟩, ⟨g5', k5'⟩, ⟨g6', k6'⟩, ⟨g7', k7'⟩⟩ := HI7.out.f1.cell8
      clear r0 r1 r2 r3 r4 r5 r6 r7 s0 s1 s2 s3 s4 s5 s6 s7
      go_region_held3 (fun w' => w'.cell? ⟨B, 0, none⟩ = some (.int .i64 (kn : Int)) ∧ w'.cell? ⟨B, 1, none⟩ = some (.int .i64 0) ∧ w'.cell? ⟨B, 2, none⟩ = some (.int .i64 0) ∧ w'.cell? ⟨B, 3, none⟩ = some (.string ⟨#[]⟩) ∧ w'.cell? ⟨B, 4, none⟩ = some (.string ⟨#[]⟩) ∧ w'.cell? ⟨B, 5, none⟩ = some (.bool false) ∧ w'.cell? ⟨B, 6, none⟩ = some (.int .i64 N) ∧ w'.cell? ⟨B, 7, none⟩ = some (.string ⟨#[]⟩)) (exact SV.out _ (by first | with_reducible exact HF0.out | with_reducible exact HF1.out)) (fail)
      all_goals
        go_wp2
        rcases HPn.out with ⟨hfb2, hb⟩ | ⟨hfb2, hb⟩
        · subst hfb2
          refine bodyPost_ret (by exact ret_rrd HR9.out.1 rfl rfl) (by rfl) ?_
          unfold RdP
          exact ⟨kn, 0, 0, ⟨#[]⟩, ⟨#[]⟩, N, ⟨#[]⟩, true, rfl, .inl ⟨rfl, hb⟩, HR9.out.2⟩
        · subst hfb2
          refine bodyPost_ret (by exact ret_rrd HR9.out.1 rfl rfl) (by rfl) ?_
          unfold RdP
          exact ⟨kn, 0, 0, ⟨#[]⟩, ⟨#[]⟩, N, ⟨#[]⟩, false, rfl, .inr ⟨rfl, hb⟩, HR9.out.2⟩
  have hk15 : kn = 15 := by omega
  · have ht : tks kn = 5 := by rw [hk15]; rfl
    have hP : cmdS R = oneS posO kn Rt := by
      rw [HS0.out, ht]
      match Rt with
      | [] => rfl
      | [a] => rfl
      | _ :: _ :: _ => rfl
    have d0 := e0.2 (by omega)
    have d1 := e1.2 (by omega)
    have d2 := e2.2 (by omega)
    have d16 := e16.2 (by omega)
    have d3 := e3.2 (by omega)
    have d4 := e4.2 (by omega)
    have d5 := e5.2 (by omega)
    have d15 := e15.1 (by omega)
    by_cases hn2 : n ≠ 2
    · have HP : Hid (cmdS R = none) := by
        show cmdS R = none
        rw [hP]
        match Rt, HR.out.2.1 with
        | [], _ => rfl
        | [a], h => simp only [List.length_cons, List.length_nil] at h; omega
        | _ :: _ :: _, _ => rfl
      have qn : ((n : Int) == 2) = false := by rw [beq_eq_false_iff_ne]; omega
      have qn' : ¬ n = 2 := hn2

      clear e0 e1 e2 e3 e4 e5 e15 e16 hk hko hkp hk16 hk15 ht
      clear hP hn2 HS0 HR HF HA HE HKl
      go_wp2
      refine bodyPost_ret (by exact ret_rrd (HI2.out.f1.eight _ _ _ _ _ _ _ _) rfl rfl) (by rfl) ?_
      unfold RdP
      exact ⟨kn, 0, 0, ⟨#[]⟩, ⟨#[]⟩, 0, ⟨#[]⟩, false, rfl, .inr ⟨rfl, HP.out⟩, below_eight HI2.out.b (Nat.le_refl _) _ _ _ _ _ _ _ _⟩
    have hn2' : n = 2 := Classical.byContradiction hn2
    have qn : ((n : Int) == 2) = true := by rw [hn2']; rfl
    have q1n : (1 : Int) < (n : Int) := by omega
    obtain ⟨R1, hRu⟩ : ∃ a, Rt = [a] := by
      match Rt, HR.out.2.1 with
      | [], h => simp only [List.length_nil] at h; omega
      | [a], _ => exact ⟨a, rfl⟩
      | _ :: _ :: _, h => simp only [List.length_cons] at h; omega
    subst hRu
    obtain ⟨⟨t1, a1⟩, hw1, hr1, -, -⟩ := HF.out.get 1 R1 (by rw [HR.out.1]; rfl)
    simp only at hr1
    obtain ⟨y1, hy1⟩ : ∃ y : ByteArray, y.data.toList = t1 := ⟨⟨t1.toArray⟩, rfl⟩
    have c1 : X2.cell? ⟨g, 2, none⟩ = some (.string y1) := ((HA.out X2 HI2.out.b).1.cell 1 y1 a1 (by rw [hy1]; exact hw1)).1
    have hyr : y1.data.toList = wrd R1 := by rw [hy1, hr1]
    have hPn : cmdS R = if (posO y1.data.toList).2 then some ⟨kn, 0, 0, [], [], false, (posO y1.data.toList).1, []⟩ else none := by
      rw [hP]
      show (if (posO (wrd R1)).2 then some (⟨kn, 0, 0, [], [], false, (posO (wrd R1)).1, []⟩ : Cm) else none) = _
      rw [← hyr]
    have HPn : Hid _ := hPn
    have HC : Hid (∀ W : World, Calls Tryz.prog 54 #[.string y1] W fun e w' => ∃ (n : Int) (b : Bool), e = .returned (.tuple #[.int .i64 n, .bool b]) ∧ Hid (b = (posO y1.data.toList).2 ∧ (b = true → n = (posO y1.data.toList).1)) ∧ w' = W) := fun W => rfar_any y1 W
    generalize posO y1.data.toList = P at HPn HC
    clear e0 e1 e2 e3 e4 e5 e15 e16 hk hko hkp hk16 hk15 ht hP hn2 hn2' HS0 HR HF HA HE HKl hw1 hr1 hy1 hyr hPn
    go_wp2_with fail
    refine (HC.out _).mono ?_
    rintro e w5 ⟨N, fb, rfl, hq, hw5⟩
    subst hw5
    have HI7 : Hid (RdI w (w5.setCell ⟨B, 6, none⟩ (.int .i64 N)) B [.int .i64 (kn : Int), .int .i64 0, .int .i64 0, .string ⟨#[]⟩, .string ⟨#[]⟩, .bool false, .int .i64 N, .string ⟨#[]⟩]) := HI2.out.put (a := [_, _, _, _, _, _]) _
    go_upto_region 31 with fail
    obtain ⟨W7, hW7⟩ : ∃ W7, w5.setCell ⟨B, 6, none⟩ (.int .i64 N) = W7 := ⟨_, rfl⟩
    rw [hW7] at HI7 ⊢
    clear hW7 HC c1
    clear g0 g1 g2 g3 g4 g5 g6 g7 k0 k1 k2 k3 k4 k5 k6 k7 r0 r1 r2 r3 r4 r5 r6 r7 s0 s1 s2 s3 s4 s5 s6 s7
    obtain ⟨⟨g0, k0⟩, ⟨g1, k1⟩, ⟨g2, k2⟩, ⟨g3, k3⟩, ⟨g4, k4⟩, ⟨g5, k5⟩, ⟨g6, k6⟩, ⟨g7, k7⟩⟩ := HI7.out.f1.cell8
    obtain ⟨⟨r0, s0⟩, ⟨r1, s1⟩, ⟨r2, s2⟩, ⟨r3, s3⟩, ⟨r4, s4⟩, ⟨r5, s5⟩, ⟨r6, s6⟩, ⟨r7, s7⟩⟩ := HI7.out.f2.cell8
    go_wp2
    cases fb with
    | true =>
      refine bodyPost_ret (by exact ret_rrd (HI7.out.f1.eight _ _ _ _ _ _ _ _) rfl rfl) (by rfl) ?_
      unfold RdP
      exact ⟨kn, 0, 0, ⟨#[]⟩, ⟨#[]⟩, N, ⟨#[]⟩, true, rfl, .inl ⟨rfl, by rw [HPn.out, ← hq.out.1, hq.out.2 rfl]; rfl⟩, below_eight HI7.out.b (Nat.le_refl _) _ _ _ _ _ _ _ _⟩
    | false =>
      refine bodyPost_ret (by exact ret_rrd (HI7.out.f1.eight _ _ _ _ _ _ _ _) rfl rfl) (by rfl) ?_
      unfold RdP
      exact ⟨kn, 0, 0, ⟨#[]⟩, ⟨#[]⟩, N, ⟨#[]⟩, false, rfl, .inr ⟨rfl, by rw [HPn.out, ← hq.out.1]; rfl⟩, below_eight HI7.out.b (Nat.le_refl _) _ _ _ _ _ _ _ _⟩
end Go.Proofs.YtichbejmelkjeaaGreatDoor

namespace Go.Proofs.YtichbejmelkjeaaGreatDoor
open Go.RowKit

theorem F2.imp_mem {α β : Type} {R S : α → β → Prop} {l : List α} {m : List β} (h : F2 R l m) : (∀ a b, b ∈ m → R a b → S a b) → F2 S l m := by
  induction h with
  | nil => intro _; exact .nil
  | cons h _ ih => intro hh; exact .cons (hh _ _ (by simp) h) (ih fun a b hb => hh a b (by simp [hb]))
theorem F2.left {α β : Type} {R : α → β → Prop} {l : List α} {m : List β} (h : F2 R l m) : ∀ a ∈ l, ∃ b ∈ m, R a b := by
  induction h with
  | nil => intro a ha; cases ha
  | cons h _ ih =>
    intro a ha
    rcases List.mem_cons.1 ha with rfl | ha
    · exact ⟨_, by simp, h⟩
    · obtain ⟨b, hb, hr⟩ := ih a ha; exact ⟨b, by simp [hb], hr⟩
theorem chs_ne : ∀ (f : Nat) (l r : List UInt8), r ∈ chs f l → r ≠ [] := by
  intro f
  induction f with
  | zero => intro l r h; cases h
  | succ f ih =>
    intro l r h
    unfold chs at h
    split at h
    · cases h
    · rename_i hl
      rcases List.mem_cons.1 h with rfl | h
      · exact hl
      · exact ih _ _ h
theorem chs_len : ∀ (f : Nat) (l : List UInt8), (l = [] ∨ ∃ c r, l = c :: r ∧ bl c = false) → (chs f l).length ≤ l.length := by
  intro f
  induction f with
  | zero => intro l _; simp [chs]
  | succ f ih =>
    intro l hl
    unfold chs
    split
    · simp
    · rename_i h0
      have h1 := nxt_len (hl.resolve_left h0)
      have h2 := ih (nxt l) (trm_head _)
      rw [List.length_cons]; omega
theorem RW.next {w w' : World} (h : RW w) (hs : 15 < w.heap.size) (hb : Below w.heap.size w w') : RW w' := fun k hk =>
  (hb.cell (p := ⟨4, k, none⟩) (Nat.lt_of_le_of_lt (by show 4 ≤ 15; omega) hs)).trans (h k hk)
/-- The document's words against the rests. -/
theorem cut_all (L : List UInt8) (hL : L.length ≤ 300) : F2 (WR L (rtr L).length) (cutS (L.length + 1) 0 L) (chs (L.length + 6) (trm L)) ∧ (rtr L).length ≤ L.length ∧ (∀ x ∈ cutS (L.length + 1) 0 L, x.1.length ≤ 300 ∧ x.2 ≤ 300) ∧ (cutS (L.length + 1) 0 L).length ≤ 300 ∧ (cutS (L.length + 1) 0 L ≠ [] → endS (cutS (L.length + 1) 0 L) = (rtr L).length) := by
  have hle := rtr_len L
  have hF := cut_chs (L.length + 1) 0 L (by omega) (L.length + 6) (by omega)
  have htk : L.take (rtr L).length = rtr L := by
    obtain ⟨B, hB, -⟩ := rtr_split L
    conv => lhs; arg 2; rw [hB]
    rw [List.take_append_of_le_length (Nat.le_refl _), List.take_length]
  have hW : F2 (WR L (rtr L).length) (cutS (L.length + 1) 0 L) (chs (L.length + 6) (trm L)) := by
    refine hF.imp_mem ?_
    rintro x r hr ⟨h1, -, h2⟩
    have hne := chs_ne _ _ _ hr
    rw [Nat.sub_zero] at h2
    refine ⟨h1, ?_, by rw [htk]; exact h2⟩
    rcases Nat.lt_or_ge (rtr L).length x.2 with h | h
    · exact absurd (by rw [h2]; exact List.drop_eq_nil_of_le (by omega)) hne
    · exact h
  refine ⟨hW, hle, ?_, ?_, ?_⟩
  · intro x hx
    obtain ⟨r, -, h1, h2, h3⟩ := hW.left x hx
    refine ⟨?_, by omega⟩
    rw [h1]
    have := wrd_le r
    rw [h3, List.length_drop, List.length_take] at this
    rw [h3]; omega
  · rw [hW.len]
    have h1 := chs_len (L.length + 6) (trm L) (trm_head L)
    have h2 := trm_len L
    omega
  · intro hne
    rcases cut_end (L.length + 1) 0 L (by omega) with ⟨-, h⟩ | ⟨-, h, -⟩
    · exact absurd h hne
    · rw [h]; omega
theorem ret_rparse {w : World} {B : Nat} {x0 x1 x2 x3 x4 x5 x6 x7 x : Value} {tm : Array Value} (hf : Full w B 51 [x0, x1, x2, x3, x4, x5, x6, x7]) (h2 : tm[2]?.getD undef = .pointer (some ⟨B, 0, none⟩)) (h3 : tm[3]?.getD undef = x) :
    (results Tryz.f14 tm).run Tryz.prog w = .ok (.tuple #[.agg #[x0, x1, x2, x3, x4, x5, x6, x7], x]) w := by
  obtain ⟨⟨c0, -⟩, ⟨c1, -⟩, ⟨c2, -⟩, ⟨c3, -⟩, ⟨c4, -⟩, ⟨c5, -⟩, ⟨c6, -⟩, ⟨c7, -⟩⟩ := hf.cell8
  simp [results, Tryz.results14, go_sem, h2, h3, c0, c1, c2, c3, c4, c5, c6, c7]

set_option maxRecDepth 100000 in
set_option maxHeartbeats 4000000 in
theorem rparse_any (s : ByteArray) (w : World) (hT : Lx.RTabs w) (hW : RW w) : Calls Tryz.prog 14 #[.string s] w (PaP w s.data.toList) := by
  have hsz := Lib.size_eq s
  obtain ⟨X1, hX1⟩ : ∃ X1, w.alloc (.cells #[.int .i64 0, .int .i64 0, .int .i64 0, .string ⟨#[]⟩, .string ⟨#[]⟩, .bool false, .int .i64 0, .string ⟨#[]⟩] 51) = X1 := ⟨_, rfl⟩
  have b1 : Below w.heap.size w X1 := by rw [← hX1]; exact (Below.refl _ w).alloc (Nat.le_refl _) _
  have f1 : Full X1 w.heap.size 51 [.int .i64 0, .int .i64 0, .int .i64 0, .string ⟨#[]⟩, .string ⟨#[]⟩, .bool false, .int .i64 0, .string ⟨#[]⟩] := by rw [← hX1]; exact Full.new w _ _
  have HF : Hid (∀ W, Below X1.heap.size X1 W → Full W w.heap.size 51 [.int .i64 0, .int .i64 0, .int .i64 0, .string ⟨#[]⟩, .string ⟨#[]⟩, .bool false, .int .i64 0, .string ⟨#[]⟩] ∧ Below w.heap.size w W ∧ Lx.RTabs W ∧ RW W) := fun W h => ⟨f1.next h, b1.trans (h.mono b1.size), hT.next (b1.trans (h.mono b1.size)), hW.next hT.size (b1.trans (h.mono b1.size))⟩
  have HG : Hid (Full X1 w.heap.size 51 [.int .i64 0, .int .i64 0, .int .i64 0, .string ⟨#[]⟩, .string ⟨#[]⟩, .bool false, .int .i64 0, .string ⟨#[]⟩] ∧ Below w.heap.size w X1) := ⟨f1, b1⟩
  obtain ⟨⟨g0, k0⟩, ⟨g1, k1⟩, ⟨g2, k2⟩, ⟨g3, k3⟩, ⟨g4, k4⟩, ⟨g5, k5⟩, ⟨g6, k6⟩, ⟨g7, k7⟩⟩ := f1.cell8
  by_cases hlong : 300 < s.size
  · have HP : Hid (parP s.data.toList = none) := by
      show parP s.data.toList = none
      unfold parP; rw [if_pos (.inl (by omega))]
    have hl1 : (300 : Int) < (s.size : Int) := by omega
    clear hT hW f1 b1 hsz HF hlong
    go_enter Tryz.func14, Tryz.ntmps14
    go_wp2
    refine bodyPost_ret (by exact ret_rparse (HG.out.1.eight _ _ _ _ _ _ _ _) rfl rfl) (by rfl) ?_
    unfold PaP
    exact ⟨0, 0, 0, ⟨#[]⟩, ⟨#[]⟩, 0, ⟨#[]⟩, 230, rfl, .inr ⟨rfl, HP.out, rfl, rfl, rfl, rfl, rfl, rfl, rfl⟩, below_eight HG.out.2 (Nat.le_refl _) _ _ _ _ _ _ _ _⟩
  have hl1 : ¬ (300 : Int) < (s.size : Int) := by omega
  have hC := rcut_any s
  have hall := cut_all s.data.toList (by omega)
  have hpar := par_rsts s.data.toList
  obtain ⟨ws, hws⟩ : ∃ ws, cutS (s.data.toList.length + 1) 0 s.data.toList = ws := ⟨_, rfl⟩
  obtain ⟨R, hR⟩ : ∃ R, chs (s.data.toList.length + 6) (trm s.data.toList) = R := ⟨_, rfl⟩
  rw [hws, hR] at hall
  rw [hR] at hpar
  rw [hws] at hC
  have HC : Hid (∀ W : World, Calls Tryz.prog 27 #[.string s] W fun e w' => ∃ v, e = .returned v ∧ Hid (w'.ownsRow W.heap.size 94 2 v ws.length (ws.flatMap wdV) ∧ Below W.heap.size W w')) := fun W => hC W (by omega)
  have HPn : Hid (10 ∈ s.data.toList → parP s.data.toList = none) := fun h => by rw [hpar, if_pos (.inr h)]
  have HPs : Hid (¬ 10 ∈ s.data.toList → parP s.data.toList = cmdS R) := fun h => by
    rw [hpar, if_neg]
    rintro (h' | h')
    · omega
    · exact h h'
  have HAl : Hid _ := hall
  have HSz : Hid (s.size = s.data.toList.length) := hsz
  clear hT hW f1 b1 hsz hlong hC hall hpar hws hR
  go_enter Tryz.func14, Tryz.ntmps14
  go_wp2
  go_loop [4] (fun i => ∃ j : Nat, j ≤ s.size ∧ i = .int .i64 (j : Int) ∧ Hid (∀ c ∈ s.data.toList.take j, c ≠ 10)) (fun i => s.size - (intOf i).toNat)
  case atStart => exact ⟨0, by omega, rfl, by simp [Hid]⟩
  case round =>
    obtain ⟨j, hj, rfl, hno⟩ := hrel
    by_cases hlt : j < s.size
    · have hjt : (j : Int) < (s.size : Int) := by omega
      obtain ⟨c, hc⟩ : ∃ c, s[j]'hlt = c := ⟨_, rfl⟩
      have hdr := Lx.drop_at s j hlt
      rw [hc] at hdr
      by_cases h10 : c = 10
      · have hcm : (10 : UInt8) ∈ s.data.toList := by
          have : (10 : UInt8) ∈ s.data.toList.drop j := by rw [hdr, h10]; simp
          exact List.mem_of_mem_drop this
        have HP : Hid (parP s.data.toList = none) := HPn.out hcm
        subst h10
        clear hno hdr hcm HPn HPs HAl HF HC
        go_wp2
        refine bodyPost_ret (by exact ret_rparse (HG.out.1.eight _ _ _ _ _ _ _ _) rfl rfl) (by rfl) ?_
        unfold PaP
        exact ⟨0, 0, 0, ⟨#[]⟩, ⟨#[]⟩, 0, ⟨#[]⟩, 230, rfl, .inr ⟨rfl, HP.out, rfl, rfl, rfl, rfl, rfl, rfl, rfl⟩, below_eight HG.out.2 (Nat.le_refl _) _ _ _ _ _ _ _ _⟩
      · have hcf : ((c.toNat : Int) == 10) = false := by
          rw [beq_eq_false_iff_ne]; intro e
          exact h10 (UInt8.toNat_inj.1 (by show c.toNat = 10; omega))
        have HN : Hid (∀ d ∈ s.data.toList.take (j + 1), d ≠ 10) := by
          intro d hd
          have htk : s.data.toList.take (j + 1) = s.data.toList.take j ++ [c] := by
            rw [List.take_add, hdr]; rfl
          rw [htk, List.mem_append] at hd
          rcases hd with h | h
          · exact hno.out d h
          · rw [List.mem_singleton.1 h]; exact h10
        clear hno hdr h10
        go_wp2
        exact ⟨⟨j + 1, by omega, by go_num, HN⟩, by simp [intOf]; omega⟩
    · obtain rfl : j = s.size := by omega
      have hP : parP s.data.toList = cmdS R := HPs.out (fun h => hno.out 10 (by rw [List.take_of_length_le (by rw [HSz.out]; exact Nat.le_refl _)]; exact h) rfl)
      have HP : Hid (parP s.data.toList = cmdS R) := hP
      clear hno hP HPn HPs hlt hj
      go_wp2_with fail
      refine (HC.out _).mono ?_
      rintro e w2 ⟨v, rfl, hq⟩
      clear HC
      obtain ⟨ho, hb2⟩ := hq.out
      obtain ⟨q, cap, rfl, hcap, hr⟩ := own_slice ho
      have HA0 : Hid (WdA w2 q cap ws) := ⟨hcap, hr, HAl.out.2.2.1, HAl.out.2.2.2.1⟩
      have HG2 : Hid _ := HF.out w2 hb2
      clear ho hq hr g0 g1 g2 g3 g4 g5 g6 g7 k0 k1 k2 k3 k4 k5 k6 k7
      by_cases hw0 : ws = []
      · have HP2 : Hid (parP s.data.toList = none) := by
          show parP s.data.toList = none
          have hl := HAl.out.1.len
          rw [hw0] at hl
          rw [HP.out, List.eq_nil_of_length_eq_zero hl.symm]; rfl
        obtain ⟨⟨g0, k0⟩, ⟨g1, k1⟩, ⟨g2, k2⟩, ⟨g3, k3⟩, ⟨g4, k4⟩, ⟨g5, k5⟩, ⟨g6, k6⟩, ⟨g7, k7⟩⟩ := HG2.out.1.cell8
        obtain ⟨n, hn⟩ : ∃ n, ws.length = n := ⟨_, rfl⟩
        have qn : ((n : Int) == 0) = true := by rw [← hn, hw0]; rfl
        rw [hn]
        clear HP HAl HF HA0 hw0 hn
        go_wp2
        refine bodyPost_ret (by exact ret_rparse (HG2.out.1.eight _ _ _ _ _ _ _ _) rfl rfl) (by rfl) ?_
        unfold PaP
        exact ⟨0, 0, 0, ⟨#[]⟩, ⟨#[]⟩, 0, ⟨#[]⟩, 230, rfl, .inr ⟨rfl, HP2.out, rfl, rfl, rfl, rfl, rfl, rfl, rfl⟩, below_eight HG2.out.2.1 (Nat.le_refl _) _ _ _ _ _ _ _ _⟩
      · have hpos : 0 < ws.length := by
          cases ws with
          | nil => exact absurd rfl hw0
          | cons a b => simp
        obtain ⟨g, rfl, -⟩ := HA0.out.at_ hpos
        have HR := rread_any s HA0.out hpos (HAl.out.2.2.2.2 hw0) (by rw [HSz.out]; exact HAl.out.2.1) HAl.out.1 HG2.out.2.2.1 (fun W hW => HG2.out.2.2.2.next HG2.out.2.2.1.size hW)
        obtain ⟨n, hn⟩ : ∃ n, ws.length = n := ⟨_, rfl⟩
        have qn : ((n : Int) == 0) = false := by rw [beq_eq_false_iff_ne]; omega
        have qn' : ¬ n = 0 := by omega
        rw [hn] at HR ⊢
        clear HAl HA0 hw0 hpos hn hcap
        go_wp2_with fail
        refine HR.mono ?_
        rintro e w3 ⟨k, a1, a2, a3, a4, a6, a7, b, rfl, hq3⟩
        clear HR
        obtain ⟨W4, hW4⟩ : ∃ W4, w3.alloc (.cells #[.int .i64 k, .int .i64 a1, .int .i64 a2, .string a3, .string a4, .bool false, .int .i64 a6, .string a7] 51) = W4 := ⟨_, rfl⟩
        have f4 : Full W4 w3.heap.size 51 [.int .i64 k, .int .i64 a1, .int .i64 a2, .string a3, .string a4, .bool false, .int .i64 a6, .string a7] := by rw [← hW4]; exact Full.new w3 _ _
        have hb3 : Below X1.heap.size X1 w3 := hb2.trans (hq3.out.2.mono hb2.size)
        have HG4 : Hid _ := HF.out W4 (by rw [← hW4]; exact hb3.alloc hb3.size _)
        have HQ : Hid _ := hq3.out.1
        clear hb2 hb3 hq3 HF HG2
        subst hW4
        rcases HQ.out with ⟨rfl, hc⟩ | ⟨rfl, hc⟩
        · have HC2 : Hid _ := hc
          clear hc HQ
          obtain ⟨⟨g0, k0⟩, ⟨g1, k1⟩, ⟨g2, k2⟩, ⟨g3, k3⟩, ⟨g4, k4⟩, ⟨g5, k5⟩, ⟨g6, k6⟩, ⟨g7, k7⟩⟩ := HG4.out.1.cell8
          obtain ⟨⟨r0, -⟩, ⟨r1, -⟩, ⟨r2, -⟩, ⟨r3, -⟩, ⟨r4, -⟩, ⟨r5, -⟩, ⟨r6, -⟩, ⟨r7, -⟩⟩ := f4.cell8
          clear f4
          go_wp2
          refine bodyPost_ret (by exact ret_rparse (HG4.out.1.eight _ _ _ _ _ _ _ _) rfl rfl) (by rfl) ?_
          unfold PaP
          exact ⟨k, a1, a2, a3, a4, a6, a7, 0, rfl, .inl ⟨rfl, by rw [HP.out]; exact HC2.out⟩, below_eight HG4.out.2.1 (Nat.le_refl _) _ _ _ _ _ _ _ _⟩
        · have HC2 : Hid _ := hc
          clear hc HQ f4
          obtain ⟨⟨g0, k0⟩, ⟨g1, k1⟩, ⟨g2, k2⟩, ⟨g3, k3⟩, ⟨g4, k4⟩, ⟨g5, k5⟩, ⟨g6, k6⟩, ⟨g7, k7⟩⟩ := HG4.out.1.cell8
          go_wp2
          refine bodyPost_ret (by exact ret_rparse (HG4.out.1.eight _ _ _ _ _ _ _ _) rfl rfl) (by rfl) ?_
          unfold PaP
          exact ⟨0, 0, 0, ⟨#[]⟩, ⟨#[]⟩, 0, ⟨#[]⟩, 230, rfl, .inr ⟨rfl, by rw [HP.out]; exact HC2.out, rfl, rfl, rfl, rfl, rfl, rfl, rfl⟩, below_eight HG4.out.2.1 (Nat.le_refl _) _ _ _ _ _ _ _ _⟩
end Go.Proofs.YtichbejmelkjeaaGreatDoor
