import Derived.Test.YtichbejmelkjeaaDoorcPt
namespace Go.Proofs.YtichbejmelkjeaaDoor
open Go.RowKit

theorem callPoint (a b : Value) (w : World) : (callFunc 28 #[a, b]).run Tryd.prog w = .ok (.enter 28 #[a, b]) w := by kernel_rfl
theorem Full.cell8 {W : World} {B : Nat} {t : TypeId} {x0 x1 x2 x3 x4 x5 x6 x7 : Value} (h : Full W B t [x0, x1, x2, x3, x4, x5, x6, x7]) : (W.cell? ⟨B, 0, none⟩ = some x0 ∧ W.frozen? ⟨B, 0, none⟩ = false) ∧ (W.cell? ⟨B, 1, none⟩ = some x1 ∧ W.frozen? ⟨B, 1, none⟩ = false) ∧ (W.cell? ⟨B, 2, none⟩ = some x2 ∧ W.frozen? ⟨B, 2, none⟩ = false) ∧ (W.cell? ⟨B, 3, none⟩ = some x3 ∧ W.frozen? ⟨B, 3, none⟩ = false) ∧ (W.cell? ⟨B, 4, none⟩ = some x4 ∧ W.frozen? ⟨B, 4, none⟩ = false) ∧ (W.cell? ⟨B, 5, none⟩ = some x5 ∧ W.frozen? ⟨B, 5, none⟩ = false) ∧ (W.cell? ⟨B, 6, none⟩ = some x6 ∧ W.frozen? ⟨B, 6, none⟩ = false) ∧ (W.cell? ⟨B, 7, none⟩ = some x7 ∧ W.frozen? ⟨B, 7, none⟩ = false) :=
  ⟨h.cell 0 _ rfl, h.cell 1 _ rfl, h.cell 2 _ rfl, h.cell 3 _ rfl, h.cell 4 _ rfl, h.cell 5 _ rfl, h.cell 6 _ rfl, h.cell 7 _ rfl⟩
theorem Full.eight {W : World} {B : Nat} {t : TypeId} {x0 x1 x2 x3 x4 x5 x6 x7 : Value} (h : Full W B t [x0, x1, x2, x3, x4, x5, x6, x7]) (y0 y1 y2 y3 y4 y5 y6 y7 : Value) :
    Full ((((((((W.setCell ⟨B, 0, none⟩ y0).setCell ⟨B, 1, none⟩ y1).setCell ⟨B, 2, none⟩ y2).setCell ⟨B, 3, none⟩ y3).setCell ⟨B, 4, none⟩ y4).setCell ⟨B, 5, none⟩ y5).setCell ⟨B, 6, none⟩ y6).setCell ⟨B, 7, none⟩ y7) B t [y0, y1, y2, y3, y4, y5, y6, y7] :=
  (Full.put1 (a := [y0, y1, y2, y3, y4, y5, y6]) (Full.put1 (a := [y0, y1, y2, y3, y4, y5]) (Full.put1 (a := [y0, y1, y2, y3, y4]) (Full.put1 (a := [y0, y1, y2, y3]) (Full.put1 (a := [y0, y1, y2]) (Full.put1 (a := [y0, y1]) (Full.put1 (a := [y0]) (Full.put1 (a := []) h y0) y1) y2) y3) y4) y5) y6) y7)
theorem below_eight {w0 w : World} {A B : Nat} (h : Below A w0 w) (hA : A ≤ B) (y0 y1 y2 y3 y4 y5 y6 y7 : Value) : Below A w0 ((((((((w.setCell ⟨B, 0, none⟩ y0).setCell ⟨B, 1, none⟩ y1).setCell ⟨B, 2, none⟩ y2).setCell ⟨B, 3, none⟩ y3).setCell ⟨B, 4, none⟩ y4).setCell ⟨B, 5, none⟩ y5).setCell ⟨B, 6, none⟩ y6).setCell ⟨B, 7, none⟩ y7) :=
  (Below.setCell (p := ⟨B, 7, none⟩) (Below.setCell (p := ⟨B, 6, none⟩) (Below.setCell (p := ⟨B, 5, none⟩) (Below.setCell (p := ⟨B, 4, none⟩) (Below.setCell (p := ⟨B, 3, none⟩) (Below.setCell (p := ⟨B, 2, none⟩) (Below.setCell (p := ⟨B, 1, none⟩) (Below.setCell (p := ⟨B, 0, none⟩) h hA y0) hA y1) hA y2) hA y3) hA y4) hA y5) hA y6) hA y7)
theorem ret_cmd {w : World} {B : Nat} {x0 x1 x2 x3 x4 x5 x6 x7 x : Value} {tm : Array Value} (hf : Full w B 39 [x0, x1, x2, x3, x4, x5, x6, x7]) (h2 : tm[2]?.getD undef = .pointer (some ⟨B, 0, none⟩)) (h3 : tm[3]?.getD undef = x) :
    (results Tryd.f18 tm).run Tryd.prog w = .ok (.tuple #[.agg #[x0, x1, x2, x3, x4, x5, x6, x7], x]) w := by
  obtain ⟨⟨c0, -⟩, ⟨c1, -⟩, ⟨c2, -⟩, ⟨c3, -⟩, ⟨c4, -⟩, ⟨c5, -⟩, ⟨c6, -⟩, ⟨c7, -⟩⟩ := hf.cell8
  simp [results, Tryd.results18, go_sem, h2, h3, c0, c1, c2, c3, c4, c5, c6, c7]
/-- What command answers. -/
def CmP (w : World) (ws : List (List UInt8)) (x : ByteArray) (e : Ending) (w' : World) : Prop :=
  ∃ (k a1 a2 : Int) (a3 a4 : ByteArray) (a6 : Int) (a7 : ByteArray) (b : Bool), e = .returned (.tuple #[.agg #[.int .i64 k, .int .i64 a1, .int .i64 a2, .string a3, .string a4, .bool false, .int .i64 a6, .string a7], .bool b]) ∧ Hid (((b = true ∧ cmdP ws x.data.toList = some ⟨k, a1, a2, a3.data.toList, a4.data.toList, false, a6, a7.data.toList⟩) ∨ (b = false ∧ cmdP ws x.data.toList = none)) ∧ Below w.heap.size w w')
/-- Where command stands when its result is laid back. -/
structure CmI (w W : World) (b4 : Nat) (L : List Value) : Prop where
  f1 : Full W (w.heap.size + 1) 39 [.int .i64 0, .int .i64 0, .int .i64 0, .string ⟨#[]⟩, .string ⟨#[]⟩, .bool false, .int .i64 0, .string ⟨#[]⟩]
  f4 : Full W b4 39 L
  b : Below w.heap.size w W
theorem CmI.next {w W W' : World} {b4 : Nat} {L : List Value} (h : CmI w W b4 L) (hb : Below W.heap.size W W') : CmI w W' b4 L := ⟨h.f1.next hb, h.f4.next hb, h.b.trans (hb.mono h.b.size)⟩
set_option maxRecDepth 100000 in
set_option maxHeartbeats 8000000 in
theorem command_any {q : Option Addr} {cap : Nat} {ws : List (List UInt8)} {w : World} (hA : WsA w q cap ws) (x : ByteArray) (hxs : x.size ≤ 300) (hT : Tb w) :
    Calls Tryd.prog 18 #[.agg #[.slice q ws.length cap, .string x]] w (CmP w ws x) := by
  obtain ⟨X1, hX1⟩ : ∃ X1, w.alloc (.cells #[.slice q ws.length cap, .string x] 59) = X1 := ⟨_, rfl⟩
  have b1 : Below w.heap.size w X1 := by rw [← hX1]; exact (Below.refl _ w).alloc (Nat.le_refl _) _
  have f1 : Full X1 w.heap.size 59 [.slice q ws.length cap, .string x] := by rw [← hX1]; exact Full.new w _ _
  have z1 : X1.heap.size = w.heap.size + 1 := by rw [← hX1]; simp
  obtain ⟨X2, hX2⟩ : ∃ X2, X1.alloc (.cells #[.int .i64 0, .int .i64 0, .int .i64 0, .string ⟨#[]⟩, .string ⟨#[]⟩, .bool false, .int .i64 0, .string ⟨#[]⟩] 39) = X2 := ⟨_, rfl⟩
  have n2 : Below X1.heap.size X1 X2 := by rw [← hX2]; exact (Below.refl _ X1).alloc (Nat.le_refl _) _
  have b2 : Below w.heap.size w X2 := b1.trans (n2.mono b1.size)
  have f2 : Full X2 (w.heap.size + 1) 39 [.int .i64 0, .int .i64 0, .int .i64 0, .string ⟨#[]⟩, .string ⟨#[]⟩, .bool false, .int .i64 0, .string ⟨#[]⟩] := by rw [← hX2, ← z1]; exact Full.new X1 _ _
  have f12 := f1.next n2
  have hAX := hA.next b2
  have hTX := hT.next b2
  have c0 := (f12.cell 0 _ rfl).1
  have hle := hA.le
  by_cases hl0 : ws = []
  · subst hl0
    have HD : Hid (Full ((((((((X2.setCell ⟨w.heap.size + 1, 0, none⟩ (.int .i64 0)).setCell ⟨w.heap.size + 1, 1, none⟩ (.int .i64 0)).setCell ⟨w.heap.size + 1, 2, none⟩ (.int .i64 0)).setCell ⟨w.heap.size + 1, 3, none⟩ (.string ⟨#[]⟩)).setCell ⟨w.heap.size + 1, 4, none⟩ (.string ⟨#[]⟩)).setCell ⟨w.heap.size + 1, 5, none⟩ (.bool false)).setCell ⟨w.heap.size + 1, 6, none⟩ (.int .i64 0)).setCell ⟨w.heap.size + 1, 7, none⟩ (.string ⟨#[]⟩)) (w.heap.size + 1) 39 [.int .i64 0, .int .i64 0, .int .i64 0, .string ⟨#[]⟩, .string ⟨#[]⟩, .bool false, .int .i64 0, .string ⟨#[]⟩] ∧ Below w.heap.size w ((((((((X2.setCell ⟨w.heap.size + 1, 0, none⟩ (.int .i64 0)).setCell ⟨w.heap.size + 1, 1, none⟩ (.int .i64 0)).setCell ⟨w.heap.size + 1, 2, none⟩ (.int .i64 0)).setCell ⟨w.heap.size + 1, 3, none⟩ (.string ⟨#[]⟩)).setCell ⟨w.heap.size + 1, 4, none⟩ (.string ⟨#[]⟩)).setCell ⟨w.heap.size + 1, 5, none⟩ (.bool false)).setCell ⟨w.heap.size + 1, 6, none⟩ (.int .i64 0)).setCell ⟨w.heap.size + 1, 7, none⟩ (.string ⟨#[]⟩))) := ⟨f2.eight _ _ _ _ _ _ _ _, below_eight b2 (by omega) _ _ _ _ _ _ _ _⟩
    obtain ⟨⟨g0, k0⟩, ⟨g1, k1⟩, ⟨g2, k2⟩, ⟨g3, k3⟩, ⟨g4, k4⟩, ⟨g5, k5⟩, ⟨g6, k6⟩, ⟨g7, k7⟩⟩ := f2.cell8
    simp only [List.length_nil] at c0 hX1 ⊢
    clear hA hAX hTX hT f1 f12 f2 b1 b2 n2 hle
    go_enter Tryd.func18, Tryd.ntmps18
    go_wp2
    refine bodyPost_ret (by exact ret_cmd HD.out.1 rfl rfl) (by rfl) ?_
    unfold CmP
    exact ⟨0, 0, 0, ⟨#[]⟩, ⟨#[]⟩, 0, ⟨#[]⟩, false, rfl, .inr ⟨rfl, rfl⟩, HD.out.2⟩
  obtain ⟨w00, wt, hws⟩ : ∃ a b, ws = a :: b := by
    cases ws with
    | nil => exact absurd rfl hl0
    | cons a b => exact ⟨a, b, rfl⟩
  have hpos : 0 < ws.length := by rw [hws]; simp
  obtain ⟨g, rfl, -⟩ := hA.at_ hpos
  obtain ⟨y, hy⟩ : ∃ y : ByteArray, y.data.toList = w00 := ⟨⟨w00.toArray⟩, rfl⟩
  have d1 : X2.cell? ⟨g, 0, none⟩ = some (.string y) := hAX.cell 0 y (by rw [hws, hy]; rfl)
  have HC := kindOf_any y X2 hTX
  have hkl := knd_lt y.data.toList
  obtain ⟨kn, hkn⟩ : ∃ kn, knd y.data.toList = kn := ⟨_, rfl⟩
  rw [hkn] at HC hkl
  obtain ⟨tn, htn⟩ : ∃ tn, tks kn = tn := ⟨_, rfl⟩
  have hk0 : (0 : Int) ≤ (kn : Int) := by omega
  have hk2 : (kn : Int) < 23 := by omega
  have hP0 : cmdP ws x.data.toList = cmdP (w00 :: wt) x.data.toList := by rw [hws]
  unfold cmdP at hP0
  simp only [← hy, hkn, htn] at hP0
  have HP0 : Hid (cmdP ws x.data.toList = _) := hP0
  have HF4 : Hid (∀ w3 W4, Below X2.heap.size X2 w3 → w3.alloc (.cells #[.int .i64 (kn : Int), .int .i64 0, .int .i64 0, .string ⟨#[]⟩, .string ⟨#[]⟩, .bool false, .int .i64 0, .string ⟨#[]⟩] 39) = W4 → CmI w W4 w3.heap.size [.int .i64 (kn : Int), .int .i64 0, .int .i64 0, .string ⟨#[]⟩, .string ⟨#[]⟩, .bool false, .int .i64 0, .string ⟨#[]⟩] ∧ w.heap.size + 2 ≤ w3.heap.size ∧ ∀ W5, Below W4.heap.size W4 W5 → Full W5 w.heap.size 59 [.slice (some ⟨g, 0, none⟩) ws.length cap, .string x] ∧ Tb W5 ∧ WsA W5 (some ⟨g, 0, none⟩) cap ws ∧ W5.cell? ⟨0, kn * 2 + 1, none⟩ = some (.int .i64 (tn : Int))) := by
    intro w3 W4 h3 h4
    have n4 : Below w3.heap.size w3 W4 := by rw [← h4]; exact (Below.refl _ w3).alloc (Nat.le_refl _) _
    have b4 : Below X2.heap.size X2 W4 := h3.trans (n4.mono h3.size)
    have f4 : Full W4 w3.heap.size 39 [.int .i64 (kn : Int), .int .i64 0, .int .i64 0, .string ⟨#[]⟩, .string ⟨#[]⟩, .bool false, .int .i64 0, .string ⟨#[]⟩] := by rw [← h4]; exact Full.new w3 _ _
    have z2 : X2.heap.size = w.heap.size + 2 := by rw [← hX2]; simp [z1]
    refine ⟨⟨f2.next b4, f4, b2.trans (b4.mono b2.size)⟩, by have := h3.size; omega, fun W5 h5 => ?_⟩
    have b5 : Below X2.heap.size X2 W5 := b4.trans (h5.mono b4.size)
    have hT5 := hTX.next b5
    exact ⟨f12.next b5, hT5, hAX.next b5, by rw [← htn]; exact hT5.takes kn hkl⟩
  have HB : ∀ i : Nat, (tn = i → ((tn : Int) == (i : Int)) = true) ∧ (tn ≠ i → ((tn : Int) == (i : Int)) = false) := fun i => ⟨fun h => by rw [h]; exact beq_self_eq_true _, fun h => by rw [beq_eq_false_iff_ne]; omega⟩
  obtain ⟨nw, hnw⟩ : ∃ nw, ws.length = nw := ⟨_, rfl⟩
  have hn0 : ((nw : Int) == 0) = false := by rw [beq_eq_false_iff_ne]; omega
  have hn0' : ¬ nw = 0 := by omega
  have hp0 : (0 : Int) < (nw : Int) := by omega
  have hp1 : 0 < nw := by omega
  rw [hnw] at c0 hX1 hle ⊢
  have HWL : Hid (ws.length = nw ∧ ws = w00 :: wt ∧ y.data.toList = w00 ∧ ¬ nw = 0) := ⟨hnw, hws, hy, by omega⟩
  clear hA hAX hTX hT f1 f12 f2 b1 b2 n2 hP0 hkn hy hws hl0 hkl hnw hpos htn
  go_enter Tryd.func18, Tryd.ntmps18
  go_wp2_with fail
  refine HC.mono ?_
  rintro e w3 ⟨rfl, hb3⟩
  clear HC
  obtain ⟨W4, hW4⟩ : ∃ W4, w3.alloc (.cells #[.int .i64 (kn : Int), .int .i64 0, .int .i64 0, .string ⟨#[]⟩, .string ⟨#[]⟩, .bool false, .int .i64 0, .string ⟨#[]⟩] 39) = W4 := ⟨_, rfl⟩
  obtain ⟨hI4, hz3, hG0⟩ := HF4.out w3 W4 hb3 hW4
  have HI4 : Hid (CmI w W4 w3.heap.size [.int .i64 (kn : Int), .int .i64 0, .int .i64 0, .string ⟨#[]⟩, .string ⟨#[]⟩, .bool false, .int .i64 0, .string ⟨#[]⟩]) := hI4
  have HG : Hid _ := hG0
  clear HF4 hb3 hG0 hX1 hX2 z1 c0 d1
  obtain ⟨fb, hTb, hWs, ct⟩ := HG.out W4 (Below.refl _ _)
  have c0 := (fb.cell 0 _ rfl).1
  have c1 := (fb.cell 1 _ rfl).1
  rw [HWL.out.1] at c0
  obtain ⟨⟨g0, k0⟩, ⟨g1, k1⟩, ⟨g2, k2⟩, ⟨g3, k3⟩, ⟨g4, k4⟩, ⟨g5, k5⟩, ⟨g6, k6⟩, ⟨g7, k7⟩⟩ := hI4.f1.cell8
  obtain ⟨⟨r0, s0⟩, ⟨r1, s1⟩, ⟨r2, s2⟩, ⟨r3, s3⟩, ⟨r4, s4⟩, ⟨r5, s5⟩, ⟨r6, s6⟩, ⟨r7, s7⟩⟩ := hI4.f4.cell8
  clear hI4
  subst hW4
  by_cases h1 : tn = 1
  · by_cases hone : nw = 1
    · have hP : cmdP ws x.data.toList = some ⟨kn, 0, 0, [], [], false, 0, []⟩ := by
        have hwt : wt = [] := by have h2 := HWL.out.1; rw [HWL.out.2.1] at h2; simp at h2; exact List.eq_nil_of_length_eq_zero (by omega)
        rw [HP0.out, h1, hwt]; rfl
      have HP : Hid _ := hP
      have q1 := (HB 1).1 h1
      have q2 := (HB 2).2 (by omega)
      have q3 := (HB 3).2 (by omega)
      have q4 := (HB 4).2 (by omega)
      have q5 := (HB 5).2 (by omega)
      have q6 := (HB 6).2 (by omega)
      have hnb : ((nw : Int) == 1) = true := by rw [hone]; rfl
      clear hP HB h1 hone HP0 hWs hTb fb
      go_wp2
      refine bodyPost_ret (by exact ret_cmd (HI4.out.f1.eight _ _ _ _ _ _ _ _) rfl rfl) (by rfl) ?_
      unfold CmP
      exact ⟨kn, 0, 0, ⟨#[]⟩, ⟨#[]⟩, 0, ⟨#[]⟩, true, rfl, .inl ⟨rfl, HP.out⟩, below_eight HI4.out.b (by omega) _ _ _ _ _ _ _ _⟩
    · have hP : cmdP ws x.data.toList = none := by
        have hwt : wt ≠ [] := fun h => by have h2 := HWL.out.1; rw [HWL.out.2.1, h] at h2; simp at h2; omega
        rw [HP0.out, h1]; simp [hwt]
      have HP : Hid _ := hP
      have q1 := (HB 1).1 h1
      have q2 := (HB 2).2 (by omega)
      have q3 := (HB 3).2 (by omega)
      have q4 := (HB 4).2 (by omega)
      have q5 := (HB 5).2 (by omega)
      have q6 := (HB 6).2 (by omega)
      have hnb : ((nw : Int) == 1) = false := by rw [beq_eq_false_iff_ne]; omega
      have hnb' : ¬ nw = 1 := hone
      clear hP HB h1 hone HP0 hWs hTb fb
      go_wp2
      refine bodyPost_ret (by exact ret_cmd (HI4.out.f1.eight _ _ _ _ _ _ _ _) rfl rfl) (by rfl) ?_
      unfold CmP
      exact ⟨kn, 0, 0, ⟨#[]⟩, ⟨#[]⟩, 0, ⟨#[]⟩, false, rfl, .inr ⟨rfl, HP.out⟩, below_eight HI4.out.b (by omega) _ _ _ _ _ _ _ _⟩
  by_cases h23 : tn = 2 ∨ tn = 3
  · have hP : cmdP ws x.data.toList = (pntW tn ws x.data.toList).map fun c => { c with kind := kn } := by
      rw [HP0.out, if_neg h1, if_pos h23, HWL.out.2.1]
      match wt with
      | [] => simp [pntW]
      | [a] => simp [pntW]
      | [a, b] =>
        by_cases hx : x.data.toList = []
        · simp [pntW, hx]
        · simp [pntW, hx]
      | a :: b :: c :: d => simp [pntW]
    have HP : Hid _ := hP
    have q1 := (HB 1).2 h1
    have hor : ((tn : Int) == 2) = true ∨ (((tn : Int) == 2) = false ∧ ((tn : Int) == 3) = true) := by
      rcases h23 with h | h
      · exact .inl ((HB 2).1 h)
      · exact .inr ⟨(HB 2).2 (by omega), (HB 3).1 h⟩
    have HC0 : Hid (∀ W : World, WsA W (some ⟨g, 0, none⟩) cap ws → Tb W → Calls Tryd.prog 28 #[.agg #[.slice (some ⟨g, 0, none⟩) nw cap, .string x], .int .i64 (tn : Int)] W (PtP W tn ws x)) := fun W h1 h2 => by have h3 := point_any tn h1 x hxs h2; rw [HWL.out.1] at h3; exact h3
    clear hP HB HP0 hWs hTb fb h1 h23
    rcases hor with q2 | ⟨q2, q3⟩
    all_goals
      go_upto_region 10 with fail
      generalize w3.alloc (.cells #[.int .i64 (kn : Int), .int .i64 0, .int .i64 0, .string ⟨#[]⟩, .string ⟨#[]⟩, .bool false, .int .i64 0, .string ⟨#[]⟩] 39) = Y at *
      obtain ⟨fd, hTd, hWd, ctd⟩ := HG.out Y.drew (Below.refl _ _).drew
      have d0 : Y.drew.cell? ⟨w.heap.size, 0, none⟩ = some (.slice (some ⟨g, 0, none⟩) nw cap) := c0
      have d1 : Y.drew.cell? ⟨w.heap.size, 1, none⟩ = some (.string x) := c1
      have d2 : Y.drew.cell? ⟨w3.heap.size, 0, none⟩ = some (.int .i64 (kn : Int)) := r0
      have HC := HC0.out Y.drew hWd hTd
      clear fd hTd hWd HC0
      clear r0 g0 g1 g2 g3 g4 g5 g6 g7 k0 k1 k2 k3 k4 k5 k6 k7 r1 r2 r3 r4 r5 r6 r7 s0 s1 s2 s3 s4 s5 s6 s7
      go_region_law (first
        | (refine step_call (by rfl) 28 [.tmp 32, .tmp 37] _ [.agg #[.slice (some ⟨g, 0, none⟩) nw cap, .string x], .int .i64 (tn : Int)] (by rfl) (by rfl) (callPoint _ _) (fun v w' => ∃ (p1 p2 : Int) (p3 p4 : ByteArray) (b : Bool), v = .tuple #[.agg #[.int .i64 p1, .int .i64 p2, .string p3, .string p4, .bool false], .bool b] ∧ Hid (((b = true ∧ pntW tn ws x.data.toList = some ⟨0, p1, p2, p3.data.toList, p4.data.toList, false, 0, []⟩) ∨ (b = false ∧ pntW tn ws x.data.toList = none)) ∧ Below Y.drew.heap.size Y.drew w')) (HC.mono fun _ _ q => by obtain ⟨p1, p2, p3, p4, b, rfl, hq⟩ := q; exact ⟨_, rfl, p1, p2, p3, p4, b, rfl, hq⟩) ?_; rintro v5 w5 ⟨p1, p2, p3, p4, b, rfl, hq⟩; have HI5 : Hid (CmI w w5 w3.heap.size [.int .i64 (kn : Int), .int .i64 0, .int .i64 0, .string ⟨#[]⟩, .string ⟨#[]⟩, .bool false, .int .i64 0, .string ⟨#[]⟩]) := HI4.out.next ((Below.refl _ Y).drew.trans hq.out.2); obtain ⟨⟨r0, s0⟩, ⟨r1, s1⟩, ⟨r2, s2⟩, ⟨r3, s3⟩, ⟨r4, s4⟩, ⟨r5, s5⟩, ⟨r6, s6⟩, ⟨r7, s7⟩⟩ := HI5.out.f4.cell8)
        | fail)
      all_goals
        have HI7 : Hid (CmI w (((((w5.setCell ⟨w3.heap.size, 1, none⟩ (.int .i64 p1)).setCell ⟨w3.heap.size, 2, none⟩ (.int .i64 p2)).setCell ⟨w3.heap.size, 3, none⟩ (.string p3)).setCell ⟨w3.heap.size, 4, none⟩ (.string p4)).setCell ⟨w3.heap.size, 5, none⟩ (.bool false)) w3.heap.size [.int .i64 (kn : Int), .int .i64 p1, .int .i64 p2, .string p3, .string p4, .bool false, .int .i64 0, .string ⟨#[]⟩]) :=
          ⟨((((HI5.out.f1.other1 (by show w.heap.size + 1 ≠ w3.heap.size; omega)).other1 (by show w.heap.size + 1 ≠ w3.heap.size; omega)).other1 (by show w.heap.size + 1 ≠ w3.heap.size; omega)).other1 (by show w.heap.size + 1 ≠ w3.heap.size; omega)).other1 (by show w.heap.size + 1 ≠ w3.heap.size; omega),
           Full.put1 (a := [.int .i64 (kn : Int), .int .i64 p1, .int .i64 p2, .string p3, .string p4]) (Full.put1 (a := [.int .i64 (kn : Int), .int .i64 p1, .int .i64 p2, .string p3]) (Full.put1 (a := [.int .i64 (kn : Int), .int .i64 p1, .int .i64 p2]) (Full.put1 (a := [.int .i64 (kn : Int), .int .i64 p1]) (Full.put1 (a := [.int .i64 (kn : Int)]) HI5.out.f4 _) _) _) _) _,
           ((((HI5.out.b.setCell (p := ⟨w3.heap.size, 1, none⟩) (by show w.heap.size ≤ w3.heap.size; omega) _).setCell (p := ⟨w3.heap.size, 2, none⟩) (by show w.heap.size ≤ w3.heap.size; omega) _).setCell (p := ⟨w3.heap.size, 3, none⟩) (by show w.heap.size ≤ w3.heap.size; omega) _).setCell (p := ⟨w3.heap.size, 4, none⟩) (by show w.heap.size ≤ w3.heap.size; omega) _).setCell (p := ⟨w3.heap.size, 5, none⟩) (by show w.heap.size ≤ w3.heap.size; omega) _⟩
        obtain ⟨W7, hW7⟩ : ∃ W7, ((((w5.setCell ⟨w3.heap.size, 1, none⟩ (.int .i64 p1)).setCell ⟨w3.heap.size, 2, none⟩ (.int .i64 p2)).setCell ⟨w3.heap.size, 3, none⟩ (.string p3)).setCell ⟨w3.heap.size, 4, none⟩ (.string p4)).setCell ⟨w3.heap.size, 5, none⟩ (.bool false) = W7 := ⟨_, rfl⟩
        rw [hW7] at HI7 ⊢
        clear hW7 r0 r1 r2 r3 r4 r5 r6 r7 s0 s1 s2 s3 s4 s5 s6 s7
        obtain ⟨⟨g0, k0⟩, ⟨g1, k1⟩, ⟨g2, k2⟩, ⟨g3, k3⟩, ⟨g4, k4⟩, ⟨g5, k5⟩, ⟨g6, k6⟩, ⟨g7, k7⟩⟩ := HI7.out.f1.cell8
        obtain ⟨⟨r0, s0⟩, ⟨r1, s1⟩, ⟨r2, s2⟩, ⟨r3, s3⟩, ⟨r4, s4⟩, ⟨r5, s5⟩, ⟨r6, s6⟩, ⟨r7, s7⟩⟩ := HI7.out.f4.cell8
        go_wp2
        rcases hq.out.1 with ⟨rfl, hb⟩ | ⟨rfl, hb⟩
        · refine bodyPost_ret (by exact ret_cmd (HI7.out.f1.eight _ _ _ _ _ _ _ _) rfl rfl) (by rfl) ?_
          unfold CmP
          exact ⟨kn, p1, p2, p3, p4, 0, ⟨#[]⟩, true, rfl, .inl ⟨rfl, by rw [HP.out, hb]; rfl⟩, below_eight HI7.out.b (by omega) _ _ _ _ _ _ _ _⟩
        · refine bodyPost_ret (by exact ret_cmd (HI7.out.f1.eight _ _ _ _ _ _ _ _) rfl rfl) (by rfl) ?_
          unfold CmP
          exact ⟨kn, p1, p2, p3, p4, 0, ⟨#[]⟩, false, rfl, .inr ⟨rfl, by rw [HP.out, hb]; rfl⟩, below_eight HI7.out.b (by omega) _ _ _ _ _ _ _ _⟩
  by_cases h4 : tn = 4
  · have hP : cmdP ws x.data.toList = if (oneO numO ws).2 then some ⟨kn, 0, 0, [], [], false, (oneO numO ws).1, []⟩ else none := by
      rw [HP0.out, h4, HWL.out.2.1]
      cases wt with
      | nil => rfl
      | cons a b =>
        cases b with
        | nil => rfl
        | cons c d => rfl
    have HP : Hid _ := hP
    have HC := one_any numO 30 (by first | exact .inl rfl | exact .inr rfl) (fun s w h1 h2 => number_any s w h1 h2) hWs x hTb
    rw [HWL.out.1] at HC
    generalize oneO numO ws = N at HC HP
    obtain ⟨n, fl⟩ := N
    have q1 := (HB 1).2 (by omega)
    have q2 := (HB 2).2 (by omega)
    have q3 := (HB 3).2 (by omega)
    have q4 := (HB 4).1 h4
    have q5 := (HB 5).2 (by omega)
    have q6 := (HB 6).2 (by omega)
    clear hP HB h4 HP0 hWs hTb fb
    go_wp2_with fail
    refine HC.mono ?_
    rintro e w5 ⟨rfl, hb5⟩
    clear HC
    have HI5 : Hid (CmI w (w5.setCell ⟨w3.heap.size, 6, none⟩ (.int .i64 n)) w3.heap.size [.int .i64 (kn : Int), .int .i64 0, .int .i64 0, .string ⟨#[]⟩, .string ⟨#[]⟩, .bool false, .int .i64 n, .string ⟨#[]⟩]) := by
      have h := HI4.out.next hb5
      exact ⟨h.f1.other1 (by show w.heap.size + 1 ≠ w3.heap.size; omega), Full.put1 (a := [.int .i64 (kn : Int), .int .i64 0, .int .i64 0, .string ⟨#[]⟩, .string ⟨#[]⟩, .bool false]) h.f4 _, h.b.setCell (p := ⟨w3.heap.size, 6, none⟩) (by show w.heap.size ≤ w3.heap.size; omega) _⟩
    clear g0 g1 g2 g3 g4 g5 g6 g7 k0 k1 k2 k3 k4 k5 k6 k7 r0 r1 r2 r3 r4 r5 r6 r7 s0 s1 s2 s3 s4 s5 s6 s7
    obtain ⟨⟨g0, k0⟩, ⟨g1, k1⟩, ⟨g2, k2⟩, ⟨g3, k3⟩, ⟨g4, k4⟩, ⟨g5, k5⟩, ⟨g6, k6⟩, ⟨g7, k7⟩⟩ := (HI4.out.next hb5).f1.cell8
    obtain ⟨⟨r0, s0⟩, ⟨r1, s1⟩, ⟨r2, s2⟩, ⟨r3, s3⟩, ⟨r4, s4⟩, ⟨r5, s5⟩, ⟨r6, s6⟩, ⟨r7, s7⟩⟩ := (HI4.out.next hb5).f4.cell8
    have hzz : ¬ w.heap.size + 1 = w3.heap.size := by omega
    go_wp2
    cases fl
    · refine bodyPost_ret (by exact ret_cmd (HI5.out.f1.eight _ _ _ _ _ _ _ _) rfl rfl) (by rfl) ?_
      unfold CmP
      exact ⟨kn, 0, 0, ⟨#[]⟩, ⟨#[]⟩, n, ⟨#[]⟩, false, rfl, .inr ⟨rfl, by rw [HP.out]; rfl⟩, below_eight HI5.out.b (by omega) _ _ _ _ _ _ _ _⟩
    · refine bodyPost_ret (by exact ret_cmd (HI5.out.f1.eight _ _ _ _ _ _ _ _) rfl rfl) (by rfl) ?_
      unfold CmP
      exact ⟨kn, 0, 0, ⟨#[]⟩, ⟨#[]⟩, n, ⟨#[]⟩, true, rfl, .inl ⟨rfl, by rw [HP.out]; rfl⟩, below_eight HI5.out.b (by omega) _ _ _ _ _ _ _ _⟩
  by_cases h5 : tn = 5
  · have hP : cmdP ws x.data.toList = if (oneO posO ws).2 then some ⟨kn, 0, 0, [], [], false, (oneO posO ws).1, []⟩ else none := by
      rw [HP0.out, h5, HWL.out.2.1]
      cases wt with
      | nil => rfl
      | cons a b =>
        cases b with
        | nil => rfl
        | cons c d => rfl
    have HP : Hid _ := hP
    have HC := one_any posO 31 (by first | exact .inl rfl | exact .inr rfl) (fun s w h1 h2 => position_any s w h1 h2) hWs x hTb
    rw [HWL.out.1] at HC
    generalize oneO posO ws = N at HC HP
    obtain ⟨n, fl⟩ := N
    have q1 := (HB 1).2 (by omega)
    have q2 := (HB 2).2 (by omega)
    have q3 := (HB 3).2 (by omega)
    have q4 := (HB 4).2 (by omega)
    have q5 := (HB 5).1 h5
    have q6 := (HB 6).2 (by omega)
    clear hP HB h5 HP0 hWs hTb fb
    go_wp2_with fail
    refine HC.mono ?_
    rintro e w5 ⟨rfl, hb5⟩
    clear HC
    have HI5 : Hid (CmI w (w5.setCell ⟨w3.heap.size, 6, none⟩ (.int .i64 n)) w3.heap.size [.int .i64 (kn : Int), .int .i64 0, .int .i64 0, .string ⟨#[]⟩, .string ⟨#[]⟩, .bool false, .int .i64 n, .string ⟨#[]⟩]) := by
      have h := HI4.out.next hb5
      exact ⟨h.f1.other1 (by show w.heap.size + 1 ≠ w3.heap.size; omega), Full.put1 (a := [.int .i64 (kn : Int), .int .i64 0, .int .i64 0, .string ⟨#[]⟩, .string ⟨#[]⟩, .bool false]) h.f4 _, h.b.setCell (p := ⟨w3.heap.size, 6, none⟩) (by show w.heap.size ≤ w3.heap.size; omega) _⟩
    clear g0 g1 g2 g3 g4 g5 g6 g7 k0 k1 k2 k3 k4 k5 k6 k7 r0 r1 r2 r3 r4 r5 r6 r7 s0 s1 s2 s3 s4 s5 s6 s7
    obtain ⟨⟨g0, k0⟩, ⟨g1, k1⟩, ⟨g2, k2⟩, ⟨g3, k3⟩, ⟨g4, k4⟩, ⟨g5, k5⟩, ⟨g6, k6⟩, ⟨g7, k7⟩⟩ := (HI4.out.next hb5).f1.cell8
    obtain ⟨⟨r0, s0⟩, ⟨r1, s1⟩, ⟨r2, s2⟩, ⟨r3, s3⟩, ⟨r4, s4⟩, ⟨r5, s5⟩, ⟨r6, s6⟩, ⟨r7, s7⟩⟩ := (HI4.out.next hb5).f4.cell8
    have hzz : ¬ w.heap.size + 1 = w3.heap.size := by omega
    go_wp2
    cases fl
    · refine bodyPost_ret (by exact ret_cmd (HI5.out.f1.eight _ _ _ _ _ _ _ _) rfl rfl) (by rfl) ?_
      unfold CmP
      exact ⟨kn, 0, 0, ⟨#[]⟩, ⟨#[]⟩, n, ⟨#[]⟩, false, rfl, .inr ⟨rfl, by rw [HP.out]; rfl⟩, below_eight HI5.out.b (by omega) _ _ _ _ _ _ _ _⟩
    · refine bodyPost_ret (by exact ret_cmd (HI5.out.f1.eight _ _ _ _ _ _ _ _) rfl rfl) (by rfl) ?_
      unfold CmP
      exact ⟨kn, 0, 0, ⟨#[]⟩, ⟨#[]⟩, n, ⟨#[]⟩, true, rfl, .inl ⟨rfl, by rw [HP.out]; rfl⟩, below_eight HI5.out.b (by omega) _ _ _ _ _ _ _ _⟩
  by_cases h6 : tn = 6
  · have hP : cmdP ws x.data.toList = if x.data.toList = [] then none else some ⟨kn, 0, 0, [], [], false, 0, x.data.toList⟩ := by
      rw [HP0.out, if_neg h1, if_neg h23, if_neg h4, if_neg h5, if_pos h6]; rfl
    have HP : Hid _ := hP
    have hsz := Lib.size_eq x
    have HCl : Hid (∀ W : World, Calls Tryd.prog 15 #[.string x] W fun e w' => e = .returned (.string x) ∧ Below W.heap.size W w') := fun W => Lx.clone_any x W (by omega)
    have q1 := (HB 1).2 (by omega)
    have q2 := (HB 2).2 (by omega)
    have q3 := (HB 3).2 (by omega)
    have q4 := (HB 4).2 (by omega)
    have q5 := (HB 5).2 (by omega)
    have q6 := (HB 6).1 h6
    clear hP HB h6 HP0 hWs hTb fb h1 h23 h4 h5 hsz
    go_upto_region 16 with fail
    generalize w3.alloc (.cells #[.int .i64 (kn : Int), .int .i64 0, .int .i64 0, .string ⟨#[]⟩, .string ⟨#[]⟩, .bool false, .int .i64 0, .string ⟨#[]⟩] 39) = Y at *
    have dx : Y.drew.cell? ⟨w.heap.size, 1, none⟩ = some (.string x) := c1
    have HI5 : Hid (∀ w5, Below Y.drew.heap.size Y.drew w5 → CmI w w5 w3.heap.size [.int .i64 (kn : Int), .int .i64 0, .int .i64 0, .string ⟨#[]⟩, .string ⟨#[]⟩, .bool false, .int .i64 0, .string ⟨#[]⟩] ∧ w5.cell? ⟨w.heap.size, 1, none⟩ = some (.string x)) := fun w5 hb5 => by
      have hb : Below Y.heap.size Y w5 := (Below.refl _ Y).drew.trans hb5
      exact ⟨HI4.out.next hb, ((HG.out w5 hb).1.cell 1 _ rfl).1⟩
    clear g0 g1 g2 g3 g4 g5 g6 g7 k0 k1 k2 k3 k4 k5 k6 k7 r0 r1 r2 r3 r4 r5 r6 r7 s0 s1 s2 s3 s4 s5 s6 s7
    by_cases hx : x.data.toList = []
    · have e0 : (x.toList == []) = true := by rw [Lx.toL, hx]; rfl
      have HP2 : Hid (cmdP ws x.data.toList = none) := by
        show cmdP ws x.data.toList = none
        rw [HP.out, if_pos hx]
      clear hx HP
      go_region_law (first
        | (refine step_call (by rfl) 15 [.tmp 61] _ [.string x] (by rfl) (by rfl) (callClone _) (fun v w' => v = .string x ∧ Hid (Below Y.drew.heap.size Y.drew w')) ((HCl.out Y.drew).mono fun _ _ q => ⟨_, q.1, rfl, q.2⟩) ?_; rintro v5 w5 ⟨rfl, hb5⟩; obtain ⟨hi5, hx5⟩ := HI5.out w5 hb5.out; obtain ⟨⟨r0, s0⟩, ⟨r1, s1⟩, ⟨r2, s2⟩, ⟨r3, s3⟩, ⟨r4, s4⟩, ⟨r5, s5⟩, ⟨r6, s6⟩, ⟨r7, s7⟩⟩ := hi5.f4.cell8; have HI6 : Hid _ := hi5; clear hi5)
        | fail)
      all_goals
        have HI7 : Hid (CmI w (w5.setCell ⟨w3.heap.size, 7, none⟩ (.string x)) w3.heap.size [.int .i64 (kn : Int), .int .i64 0, .int .i64 0, .string ⟨#[]⟩, .string ⟨#[]⟩, .bool false, .int .i64 0, .string x]) := ⟨HI6.out.f1.other1 (by show w.heap.size + 1 ≠ w3.heap.size; omega), Full.put1 (a := [.int .i64 (kn : Int), .int .i64 0, .int .i64 0, .string ⟨#[]⟩, .string ⟨#[]⟩, .bool false, .int .i64 0]) HI6.out.f4 _, HI6.out.b.setCell (p := ⟨w3.heap.size, 7, none⟩) (by show w.heap.size ≤ w3.heap.size; omega) _⟩
        obtain ⟨W7, hW7⟩ : ∃ W7, w5.setCell ⟨w3.heap.size, 7, none⟩ (.string x) = W7 := ⟨_, rfl⟩
        rw [hW7] at HI7 ⊢
        clear hW7 r0 r1 r2 r3 r4 r5 r6 r7 s0 s1 s2 s3 s4 s5 s6 s7
        obtain ⟨⟨g0, k0⟩, ⟨g1, k1⟩, ⟨g2, k2⟩, ⟨g3, k3⟩, ⟨g4, k4⟩, ⟨g5, k5⟩, ⟨g6, k6⟩, ⟨g7, k7⟩⟩ := HI7.out.f1.cell8
        obtain ⟨⟨r0, s0⟩, ⟨r1, s1⟩, ⟨r2, s2⟩, ⟨r3, s3⟩, ⟨r4, s4⟩, ⟨r5, s5⟩, ⟨r6, s6⟩, ⟨r7, s7⟩⟩ := HI7.out.f4.cell8
        go_wp2
        refine bodyPost_ret (by exact ret_cmd (HI7.out.f1.eight _ _ _ _ _ _ _ _) rfl rfl) (by rfl) ?_
        unfold CmP
        exact ⟨kn, 0, 0, ⟨#[]⟩, ⟨#[]⟩, 0, x, false, rfl, .inr ⟨rfl, HP2.out⟩, below_eight HI7.out.b (by omega) _ _ _ _ _ _ _ _⟩
    · have e0 : (x.toList == []) = false := by rw [Lx.toL, beq_eq_false_iff_ne]; exact hx
      have HP2 : Hid (cmdP ws x.data.toList = some ⟨kn, 0, 0, [], [], false, 0, x.data.toList⟩) := by
        show cmdP ws x.data.toList = _
        rw [HP.out, if_neg hx]
      clear hx HP
      go_region_law (first
        | (refine step_call (by rfl) 15 [.tmp 61] _ [.string x] (by rfl) (by rfl) (callClone _) (fun v w' => v = .string x ∧ Hid (Below Y.drew.heap.size Y.drew w')) ((HCl.out Y.drew).mono fun _ _ q => ⟨_, q.1, rfl, q.2⟩) ?_; rintro v5 w5 ⟨rfl, hb5⟩; obtain ⟨hi5, hx5⟩ := HI5.out w5 hb5.out; obtain ⟨⟨r0, s0⟩, ⟨r1, s1⟩, ⟨r2, s2⟩, ⟨r3, s3⟩, ⟨r4, s4⟩, ⟨r5, s5⟩, ⟨r6, s6⟩, ⟨r7, s7⟩⟩ := hi5.f4.cell8; have HI6 : Hid _ := hi5; clear hi5)
        | fail)
      all_goals
        have HI7 : Hid (CmI w (w5.setCell ⟨w3.heap.size, 7, none⟩ (.string x)) w3.heap.size [.int .i64 (kn : Int), .int .i64 0, .int .i64 0, .string ⟨#[]⟩, .string ⟨#[]⟩, .bool false, .int .i64 0, .string x]) := ⟨HI6.out.f1.other1 (by show w.heap.size + 1 ≠ w3.heap.size; omega), Full.put1 (a := [.int .i64 (kn : Int), .int .i64 0, .int .i64 0, .string ⟨#[]⟩, .string ⟨#[]⟩, .bool false, .int .i64 0]) HI6.out.f4 _, HI6.out.b.setCell (p := ⟨w3.heap.size, 7, none⟩) (by show w.heap.size ≤ w3.heap.size; omega) _⟩
        obtain ⟨W7, hW7⟩ : ∃ W7, w5.setCell ⟨w3.heap.size, 7, none⟩ (.string x) = W7 := ⟨_, rfl⟩
        rw [hW7] at HI7 ⊢
        clear hW7 r0 r1 r2 r3 r4 r5 r6 r7 s0 s1 s2 s3 s4 s5 s6 s7
        obtain ⟨⟨g0, k0⟩, ⟨g1, k1⟩, ⟨g2, k2⟩, ⟨g3, k3⟩, ⟨g4, k4⟩, ⟨g5, k5⟩, ⟨g6, k6⟩, ⟨g7, k7⟩⟩ := HI7.out.f1.cell8
        obtain ⟨⟨r0, s0⟩, ⟨r1, s1⟩, ⟨r2, s2⟩, ⟨r3, s3⟩, ⟨r4, s4⟩, ⟨r5, s5⟩, ⟨r6, s6⟩, ⟨r7, s7⟩⟩ := HI7.out.f4.cell8
        go_wp2
        refine bodyPost_ret (by exact ret_cmd (HI7.out.f1.eight _ _ _ _ _ _ _ _) rfl rfl) (by rfl) ?_
        unfold CmP
        exact ⟨kn, 0, 0, ⟨#[]⟩, ⟨#[]⟩, 0, x, true, rfl, .inl ⟨rfl, HP2.out⟩, below_eight HI7.out.b (by omega) _ _ _ _ _ _ _ _⟩
  have hP : cmdP ws x.data.toList = none := by
    rw [HP0.out, if_neg h1, if_neg h23, if_neg h4, if_neg h5, if_neg h6]
  have HP : Hid _ := hP
  have q1 := (HB 1).2 (by omega)
  have q2 := (HB 2).2 (by omega)
  have q3 := (HB 3).2 (by omega)
  have q4 := (HB 4).2 (by omega)
  have q5 := (HB 5).2 (by omega)
  have q6 := (HB 6).2 (by omega)
  clear hP HB h1 h23 h4 h5 h6 HP0 hWs hTb fb
  go_wp2
  refine bodyPost_ret (by exact ret_cmd (HI4.out.f1.eight _ _ _ _ _ _ _ _) rfl rfl) (by rfl) ?_
  unfold CmP
  exact ⟨kn, 0, 0, ⟨#[]⟩, ⟨#[]⟩, 0, ⟨#[]⟩, false, rfl, .inr ⟨rfl, HP.out⟩, below_eight HI4.out.b (by omega) _ _ _ _ _ _ _ _⟩
end Go.Proofs.YtichbejmelkjeaaDoor
