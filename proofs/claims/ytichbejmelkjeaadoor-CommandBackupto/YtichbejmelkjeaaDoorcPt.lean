import Derived.Test.YtichbejmelkjeaaDoorcOn
namespace Go.Proofs.YtichbejmelkjeaaDoor
open Go.RowKit

theorem callClone (a : Value) (w : World) : (callFunc 15 #[a]).run Tryd.prog w = .ok (.enter 15 #[a]) w := by kernel_rfl
def pntW (t : Nat) (ws : List (List UInt8)) (e : List UInt8) : Option Cm := if ws.length = 2 ∨ (ws.length = 3 ∧ e ≠ []) then pntO t (ws.getD 1 []) e else none
theorem ret_point {w : World} {B : Nat} {a b c d e x : Value} {tm : Array Value} (hf : Full w B 37 [a, b, c, d, e]) (h4 : tm[4]?.getD undef = .pointer (some ⟨B, 0, none⟩)) (h5 : tm[5]?.getD undef = x) :
    (results Tryd.f28 tm).run Tryd.prog w = .ok (.tuple #[.agg #[a, b, c, d, e], x]) w := by
  have c0 := (hf.cell 0 _ rfl).1
  have c1 := (hf.cell 1 _ rfl).1
  have c2 := (hf.cell 2 _ rfl).1
  have c3 := (hf.cell 3 _ rfl).1
  have c4 := (hf.cell 4 _ rfl).1
  simp [results, Tryd.results28, go_sem, h4, h5, c0, c1, c2, c3, c4]
theorem Full.cell5 {W : World} {B : Nat} {t : TypeId} {a b c d e : Value} (h : Full W B t [a, b, c, d, e]) : (W.cell? ⟨B, 0, none⟩ = some a ∧ W.frozen? ⟨B, 0, none⟩ = false) ∧ (W.cell? ⟨B, 1, none⟩ = some b ∧ W.frozen? ⟨B, 1, none⟩ = false) ∧ (W.cell? ⟨B, 2, none⟩ = some c ∧ W.frozen? ⟨B, 2, none⟩ = false) ∧ (W.cell? ⟨B, 3, none⟩ = some d ∧ W.frozen? ⟨B, 3, none⟩ = false) ∧ (W.cell? ⟨B, 4, none⟩ = some e ∧ W.frozen? ⟨B, 4, none⟩ = false) :=
  ⟨h.cell 0 _ rfl, h.cell 1 _ rfl, h.cell 2 _ rfl, h.cell 3 _ rfl, h.cell 4 _ rfl⟩
theorem below_fiveB {w0 w : World} {A B : Nat} (h : Below A w0 w) (hA : A ≤ B) (y0 y1 y2 y3 y4 : Value) :
    Below A w0 (((((w.setCell ⟨B, 0, none⟩ y0).setCell ⟨B, 1, none⟩ y1).setCell ⟨B, 2, none⟩ y2).setCell ⟨B, 3, none⟩ y3).setCell ⟨B, 4, none⟩ y4) :=
  ((((h.setCell (p := ⟨B, 0, none⟩) hA _).setCell (p := ⟨B, 1, none⟩) hA _).setCell (p := ⟨B, 2, none⟩) hA _).setCell (p := ⟨B, 3, none⟩) hA _).setCell (p := ⟨B, 4, none⟩) hA _

/-- What point answers. -/
def PtP (w : World) (t : Nat) (ws : List (List UInt8)) (x : ByteArray) (e : Ending) (w' : World) : Prop :=
  ∃ (p1 p2 : Int) (p3 p4 : ByteArray) (b : Bool), e = .returned (.tuple #[.agg #[.int .i64 p1, .int .i64 p2, .string p3, .string p4, .bool false], .bool b]) ∧ Hid (((b = true ∧ pntW t ws x.data.toList = some ⟨0, p1, p2, p3.data.toList, p4.data.toList, false, 0, []⟩) ∨ (b = false ∧ pntW t ws x.data.toList = none)) ∧ Below w.heap.size w w')
set_option maxRecDepth 100000 in
set_option maxHeartbeats 4000000 in
theorem point_any (t : Nat) {q : Option Addr} {cap : Nat} {ws : List (List UInt8)} {w : World} (hA : WsA w q cap ws) (x : ByteArray) (hxs : x.size ≤ 300) (hT : Tb w) :
    Calls Tryd.prog 28 #[.agg #[.slice q ws.length cap, .string x], .int .i64 (t : Int)] w (PtP w t ws x) := by
  obtain ⟨X1, hX1⟩ : ∃ X1, w.alloc (.cells #[.slice q ws.length cap, .string x] 59) = X1 := ⟨_, rfl⟩
  have b1 : Below w.heap.size w X1 := by rw [← hX1]; exact (Below.refl _ w).alloc (Nat.le_refl _) _
  have f1 : Full X1 w.heap.size 59 [.slice q ws.length cap, .string x] := by rw [← hX1]; exact Full.new w _ _
  have z1 : X1.heap.size = w.heap.size + 1 := by rw [← hX1]; simp
  obtain ⟨X2, hX2⟩ : ∃ X2, X1.alloc (.cells #[.int .i64 0, .int .i64 0, .string ⟨#[]⟩, .string ⟨#[]⟩, .bool false] 37) = X2 := ⟨_, rfl⟩
  have n2 : Below X1.heap.size X1 X2 := by rw [← hX2]; exact (Below.refl _ X1).alloc (Nat.le_refl _) _
  have b2 : Below w.heap.size w X2 := b1.trans (n2.mono b1.size)
  have f2 : Full X2 (w.heap.size + 1) 37 [.int .i64 0, .int .i64 0, .string ⟨#[]⟩, .string ⟨#[]⟩, .bool false] := by rw [← hX2, ← z1]; exact Full.new X1 _ _
  have f12 := f1.next n2
  have hAX := hA.next b2
  have hTX := hT.next b2
  have c0 := (f12.cell 0 _ rfl).1
  have c1 := (f12.cell 1 _ rfl).1
  have hle := hA.le
  have hsz := Lib.size_eq x
  obtain ⟨⟨g0, k0⟩, ⟨g1, k1⟩, ⟨g2, k2⟩, ⟨g3, k3⟩, ⟨g4, k4⟩⟩ := f2.cell5
  have HNo : ∀ W, Full W (w.heap.size + 1) 37 [.int .i64 0, .int .i64 0, .string ⟨#[]⟩, .string ⟨#[]⟩, .bool false] → Below w.heap.size w W → pntW t ws x.data.toList = none → Hid (Full (((((W.setCell ⟨w.heap.size + 1, 0, none⟩ (.int .i64 0)).setCell ⟨w.heap.size + 1, 1, none⟩ (.int .i64 0)).setCell ⟨w.heap.size + 1, 2, none⟩ (.string ⟨#[]⟩)).setCell ⟨w.heap.size + 1, 3, none⟩ (.string ⟨#[]⟩)).setCell ⟨w.heap.size + 1, 4, none⟩ (.bool false)) (w.heap.size + 1) 37 [.int .i64 0, .int .i64 0, .string ⟨#[]⟩, .string ⟨#[]⟩, .bool false] ∧ pntW t ws x.data.toList = none ∧ Below w.heap.size w (((((W.setCell ⟨w.heap.size + 1, 0, none⟩ (.int .i64 0)).setCell ⟨w.heap.size + 1, 1, none⟩ (.int .i64 0)).setCell ⟨w.heap.size + 1, 2, none⟩ (.string ⟨#[]⟩)).setCell ⟨w.heap.size + 1, 3, none⟩ (.string ⟨#[]⟩)).setCell ⟨w.heap.size + 1, 4, none⟩ (.bool false))) := fun W hW hb hn => ⟨hW.five _ _ _ _ _, hn, below_fiveB hb (by omega) _ _ _ _ _⟩
  by_cases hok : ws.length = 2 ∨ (ws.length = 3 ∧ x.data.toList ≠ [])
  · have hw2 : 2 ≤ ws.length := by omega
    obtain ⟨g, rfl, -⟩ := hA.at_ (by omega)
    obtain ⟨y, hy⟩ : ∃ y : ByteArray, y.data.toList = ws.getD 1 [] := ⟨⟨(ws.getD 1 []).toArray⟩, rfl⟩
    have hy1 : ws[1]? = some y.data.toList := by rw [hy, List.getD_eq_getElem?_getD, List.getElem?_eq_getElem (by omega)]; rfl
    have d1 : X2.cell? ⟨g, 1, none⟩ = some (.string y) := hAX.cell 1 y hy1
    have HC := whole_any y X2 (by rw [Lib.size_eq]; exact hA.sm _ (List.mem_of_getElem? hy1)) hTX
    have hP0 : pntW t ws x.data.toList = pntO t y.data.toList x.data.toList := by unfold pntW; rw [if_pos hok, hy]
    unfold pntO at hP0
    unfold tkA at HC
    generalize whl y.data.toList = tok at HC hP0
    obtain ⟨kd, ln, tx, it⟩ := tok
    obtain ⟨tb, htb⟩ : ∃ tb : ByteArray, (⟨tx.toArray⟩ : ByteArray) = tb := ⟨_, rfl⟩
    have htx : tx = tb.data.toList := by rw [← htb]
    simp only [htb] at HC
    simp only [htx] at hP0
    have HP0 : Hid (pntW t ws x.data.toList = _) := hP0
    have HF4 : Hid (∀ w3 W4, Below X2.heap.size X2 w3 → w3.alloc (.cells #[.int .i64 (kd : Int), .int .i64 0, .int .i64 (ln : Int), .string tb, .int .i64 it] 89) = W4 → ∀ W5, Below W4.heap.size W4 W5 → Full W5 (w.heap.size + 1) 37 [.int .i64 0, .int .i64 0, .string ⟨#[]⟩, .string ⟨#[]⟩, .bool false] ∧ Full W5 w3.heap.size 89 [.int .i64 (kd : Int), .int .i64 0, .int .i64 (ln : Int), .string tb, .int .i64 it] ∧ W5.cell? ⟨w.heap.size, 1, none⟩ = some (.string x) ∧ Below w.heap.size w W5) := by
      intro w3 W4 h3 h4 W5 h5
      have n4 : Below w3.heap.size w3 W4 := by rw [← h4]; exact (Below.refl _ w3).alloc (Nat.le_refl _) _
      have b4 : Below X2.heap.size X2 W4 := h3.trans (n4.mono h3.size)
      have b5 : Below X2.heap.size X2 W5 := b4.trans (h5.mono b4.size)
      have f4 : Full W4 w3.heap.size 89 [.int .i64 (kd : Int), .int .i64 0, .int .i64 (ln : Int), .string tb, .int .i64 it] := by rw [← h4]; exact Full.new w3 _ _
      exact ⟨f2.next b5, f4.next h5, ((f12.next b5).cell 1 _ rfl).1, b2.trans (b5.mono b2.size)⟩
    have HCl : Hid (∀ W : World, Calls Tryd.prog 15 #[.string x] W fun e w' => e = .returned (.string x) ∧ Below W.heap.size W w') := fun W => Lx.clone_any x W (by omega)
    have hwl : ws.length = 2 ∨ ws.length = 3 := by omega
    have hnx : ws.length = 3 → (x.toList == []) = false := fun h => by
      rw [Lx.toL, beq_eq_false_iff_ne]; rcases hok with h' | h'
      · omega
      · exact h'.2
    obtain ⟨nw, hnw⟩ : ∃ nw, ws.length = nw := ⟨_, rfl⟩
    rw [hnw] at hwl hnx hw2 hle c0 hX1 ⊢
    clear hA hAX hTX hT f1 f12 f2 b1 b2 n2 hok hP0 htx htb hy hy1 hsz hnw
    go_enter Tryd.func28, Tryd.ntmps28
    have go1 : nw = 2 ∨ nw = 3 := hwl
    clear hwl
    rcases go1 with rfl | rfl
    · go_wp2_with fail
      refine HC.mono ?_
      rintro e w3 ⟨rfl, hb3⟩
      clear HC
      obtain ⟨W4, hW4⟩ : ∃ W4, w3.alloc (.cells #[.int .i64 (kd : Int), .int .i64 0, .int .i64 (ln : Int), .string tb, .int .i64 it] 89) = W4 := ⟨_, rfl⟩
      have HG : Hid _ := HF4.out w3 W4 hb3 hW4
      clear HF4 hb3 g0 k0 g1 k1 g2 k2 g3 k3 g4 k4
      obtain ⟨h40, h41, h42, h43⟩ := HG.out W4 (Below.refl _ _)
      obtain ⟨⟨g0, k0⟩, ⟨g1, k1⟩, ⟨g2, k2⟩, ⟨g3, k3⟩, ⟨g4, k4⟩⟩ := h40.cell5
      obtain ⟨⟨t0, -⟩, -, -, ⟨t3, -⟩, ⟨t4, -⟩⟩ := h41.cell5
      have HN4 : Hid (pntW t ws x.data.toList = none → _) := HNo W4 h40 h43
      clear HNo h40 h43
      have d0 : W4.drew.cell? ⟨w3.heap.size, 3, none⟩ = some (.string tb) := t3
      have d4 : W4.drew.cell? ⟨w3.heap.size, 4, none⟩ = some (.int .i64 it) := t4
      have dx : W4.drew.cell? ⟨w.heap.size, 1, none⟩ = some (.string x) := h42
      by_cases q1 : kd = 1
      · have q1t : ((kd : Int) == 1) = true := by rw [q1]; rfl
        by_cases q3 : t = 3
        · have q3t : ((t : Int) == 3) = true := by rw [q3]; rfl
          have HP : Hid (pntW t ws x.data.toList = some ⟨0, 3, 0, (tb : ByteArray).data.toList, x.data.toList, false, 0, []⟩) := by
            show pntW t ws x.data.toList = _
            rw [HP0.out]; (try simp_all [cm0]) <;> (try (intros; omega))
          try clear q1
          try clear q2
          try clear q3
          try clear q5
          go_upto_region 5 with fail
          go_region_law (first
            | (refine step_call (by rfl) 15 [.tmp 39] _ [.string x] (by rfl) (by rfl) (callClone _) (fun v w' => v = .string x ∧ Hid (Below W4.drew.heap.size W4.drew w')) ((HCl.out W4.drew).mono fun _ _ q => ⟨_, q.1, rfl, q.2⟩) ?_; rintro v5 w5 ⟨rfl, hb5⟩; obtain ⟨h50, h51, h52, h53⟩ := HG.out w5 ((Below.refl _ W4).drew.trans hb5.out); obtain ⟨⟨u0, v0⟩, ⟨u1, v1⟩, ⟨u2, v2⟩, ⟨u3, v3⟩, ⟨u4, v4⟩⟩ := h50.cell5; obtain ⟨-, -, -, ⟨r3, -⟩, ⟨r4, -⟩⟩ := h51.cell5)
            | fail)
          all_goals
            go_wp2
            refine bodyPost_ret (ret_point (h50.five _ _ _ _ _) rfl rfl) rfl ?_
            unfold PtP
            exact ⟨3, 0, tb, x, true, rfl, .inl ⟨rfl, HP.out⟩, below_fiveB h53 (by omega) _ _ _ _ _⟩
        · have q3f : ((t : Int) == 3) = false := by rw [beq_eq_false_iff_ne]; omega
          have HP : Hid (pntW t ws x.data.toList = some ⟨0, 2, 0, (tb : ByteArray).data.toList, x.data.toList, false, 0, []⟩) := by
            show pntW t ws x.data.toList = _
            rw [HP0.out]; (try simp_all [cm0]) <;> (try (intros; omega))
          try clear q1
          try clear q2
          try clear q3
          try clear q5
          go_upto_region 7 with fail
          go_region_law (first
            | (refine step_call (by rfl) 15 [.tmp 49] _ [.string x] (by rfl) (by rfl) (callClone _) (fun v w' => v = .string x ∧ Hid (Below W4.drew.heap.size W4.drew w')) ((HCl.out W4.drew).mono fun _ _ q => ⟨_, q.1, rfl, q.2⟩) ?_; rintro v5 w5 ⟨rfl, hb5⟩; obtain ⟨h50, h51, h52, h53⟩ := HG.out w5 ((Below.refl _ W4).drew.trans hb5.out); obtain ⟨⟨u0, v0⟩, ⟨u1, v1⟩, ⟨u2, v2⟩, ⟨u3, v3⟩, ⟨u4, v4⟩⟩ := h50.cell5; obtain ⟨-, -, -, ⟨r3, -⟩, ⟨r4, -⟩⟩ := h51.cell5)
            | fail)
          all_goals
            go_wp2
            refine bodyPost_ret (ret_point (h50.five _ _ _ _ _) rfl rfl) rfl ?_
            unfold PtP
            exact ⟨2, 0, tb, x, true, rfl, .inl ⟨rfl, HP.out⟩, below_fiveB h53 (by omega) _ _ _ _ _⟩
      · have q1f : ((kd : Int) == 1) = false := by rw [beq_eq_false_iff_ne]; omega
        by_cases q2 : kd = 2
        · have q2t : ((kd : Int) == 2) = true := by rw [q2]; rfl
          by_cases q4 : 1 ≤ it
          · by_cases q5 : t = 2
            · have q5t : ((t : Int) == 2) = true := by rw [q5]; rfl
              have HP : Hid (pntW t ws x.data.toList = some ⟨0, 1, it, (⟨#[]⟩ : ByteArray).data.toList, x.data.toList, false, 0, []⟩) := by
                show pntW t ws x.data.toList = _
                rw [HP0.out]; (try simp_all [cm0]) <;> (try (intros; omega))
              try clear q1
              try clear q2
              try clear q3
              try clear q5
              go_upto_region 9 with fail
              go_region_law (first
                | (refine step_call (by rfl) 15 [.tmp 68] _ [.string x] (by rfl) (by rfl) (callClone _) (fun v w' => v = .string x ∧ Hid (Below W4.drew.heap.size W4.drew w')) ((HCl.out W4.drew).mono fun _ _ q => ⟨_, q.1, rfl, q.2⟩) ?_; rintro v5 w5 ⟨rfl, hb5⟩; obtain ⟨h50, h51, h52, h53⟩ := HG.out w5 ((Below.refl _ W4).drew.trans hb5.out); obtain ⟨⟨u0, v0⟩, ⟨u1, v1⟩, ⟨u2, v2⟩, ⟨u3, v3⟩, ⟨u4, v4⟩⟩ := h50.cell5; obtain ⟨-, -, -, ⟨r3, -⟩, ⟨r4, -⟩⟩ := h51.cell5)
                | fail)
              all_goals
                go_wp2
                refine bodyPost_ret (ret_point (h50.five _ _ _ _ _) rfl rfl) rfl ?_
                unfold PtP
                exact ⟨1, it, ⟨#[]⟩, x, true, rfl, .inl ⟨rfl, HP.out⟩, below_fiveB h53 (by omega) _ _ _ _ _⟩
            · have q5f : ((t : Int) == 2) = false := by rw [beq_eq_false_iff_ne]; omega
              have HP : Hid (pntW t ws x.data.toList = none) := by
                show pntW t ws x.data.toList = none
                rw [HP0.out]; (try simp_all) <;> (try (intros; omega))
              have HD : Hid _ := HN4.out HP.out
              try clear q1
              try clear q2
              try clear q3
              try clear q5
              go_wp2
              refine bodyPost_ret (v := .tuple #[.agg #[.int .i64 0, .int .i64 0, .string ⟨#[]⟩, .string ⟨#[]⟩, .bool false], .bool false]) (by exact ret_point HD.out.1 rfl rfl) (by rfl) ?_
              unfold PtP
              exact ⟨0, 0, ⟨#[]⟩, ⟨#[]⟩, false, rfl, .inr ⟨rfl, HD.out.2.1⟩, HD.out.2.2⟩
          · have HP : Hid (pntW t ws x.data.toList = none) := by
              show pntW t ws x.data.toList = none
              rw [HP0.out]; (try simp_all) <;> (try (intros; omega))
            have HD : Hid _ := HN4.out HP.out
            try clear q1
            try clear q2
            try clear q3
            try clear q5
            go_wp2
            refine bodyPost_ret (v := .tuple #[.agg #[.int .i64 0, .int .i64 0, .string ⟨#[]⟩, .string ⟨#[]⟩, .bool false], .bool false]) (by exact ret_point HD.out.1 rfl rfl) (by rfl) ?_
            unfold PtP
            exact ⟨0, 0, ⟨#[]⟩, ⟨#[]⟩, false, rfl, .inr ⟨rfl, HD.out.2.1⟩, HD.out.2.2⟩
        · have q2f : ((kd : Int) == 2) = false := by rw [beq_eq_false_iff_ne]; omega
          have HP : Hid (pntW t ws x.data.toList = none) := by
            show pntW t ws x.data.toList = none
            rw [HP0.out]; (try simp_all) <;> (try (intros; omega))
          have HD : Hid _ := HN4.out HP.out
          try clear q1
          try clear q2
          try clear q3
          try clear q5
          go_wp2
          refine bodyPost_ret (v := .tuple #[.agg #[.int .i64 0, .int .i64 0, .string ⟨#[]⟩, .string ⟨#[]⟩, .bool false], .bool false]) (by exact ret_point HD.out.1 rfl rfl) (by rfl) ?_
          unfold PtP
          exact ⟨0, 0, ⟨#[]⟩, ⟨#[]⟩, false, rfl, .inr ⟨rfl, HD.out.2.1⟩, HD.out.2.2⟩
    · have hnx2 := hnx rfl
      go_wp2_with fail
      refine HC.mono ?_
      rintro e w3 ⟨rfl, hb3⟩
      clear HC
      obtain ⟨W4, hW4⟩ : ∃ W4, w3.alloc (.cells #[.int .i64 (kd : Int), .int .i64 0, .int .i64 (ln : Int), .string tb, .int .i64 it] 89) = W4 := ⟨_, rfl⟩
      have HG : Hid _ := HF4.out w3 W4 hb3 hW4
      clear HF4 hb3 g0 k0 g1 k1 g2 k2 g3 k3 g4 k4
      obtain ⟨h40, h41, h42, h43⟩ := HG.out W4 (Below.refl _ _)
      obtain ⟨⟨g0, k0⟩, ⟨g1, k1⟩, ⟨g2, k2⟩, ⟨g3, k3⟩, ⟨g4, k4⟩⟩ := h40.cell5
      obtain ⟨⟨t0, -⟩, -, -, ⟨t3, -⟩, ⟨t4, -⟩⟩ := h41.cell5
      have HN4 : Hid (pntW t ws x.data.toList = none → _) := HNo W4 h40 h43
      clear HNo h40 h43
      have d0 : W4.drew.cell? ⟨w3.heap.size, 3, none⟩ = some (.string tb) := t3
      have d4 : W4.drew.cell? ⟨w3.heap.size, 4, none⟩ = some (.int .i64 it) := t4
      have dx : W4.drew.cell? ⟨w.heap.size, 1, none⟩ = some (.string x) := h42
      by_cases q1 : kd = 1
      · have q1t : ((kd : Int) == 1) = true := by rw [q1]; rfl
        by_cases q3 : t = 3
        · have q3t : ((t : Int) == 3) = true := by rw [q3]; rfl
          have HP : Hid (pntW t ws x.data.toList = some ⟨0, 3, 0, (tb : ByteArray).data.toList, x.data.toList, false, 0, []⟩) := by
            show pntW t ws x.data.toList = _
            rw [HP0.out]; (try simp_all [cm0]) <;> (try (intros; omega))
          try clear q1
          try clear q2
          try clear q3
          try clear q5
          go_upto_region 5 with fail
          go_region_law (first
            | (refine step_call (by rfl) 15 [.tmp 39] _ [.string x] (by rfl) (by rfl) (callClone _) (fun v w' => v = .string x ∧ Hid (Below W4.drew.heap.size W4.drew w')) ((HCl.out W4.drew).mono fun _ _ q => ⟨_, q.1, rfl, q.2⟩) ?_; rintro v5 w5 ⟨rfl, hb5⟩; obtain ⟨h50, h51, h52, h53⟩ := HG.out w5 ((Below.refl _ W4).drew.trans hb5.out); obtain ⟨⟨u0, v0⟩, ⟨u1, v1⟩, ⟨u2, v2⟩, ⟨u3, v3⟩, ⟨u4, v4⟩⟩ := h50.cell5; obtain ⟨-, -, -, ⟨r3, -⟩, ⟨r4, -⟩⟩ := h51.cell5)
            | fail)
          all_goals
            go_wp2
            refine bodyPost_ret (ret_point (h50.five _ _ _ _ _) rfl rfl) rfl ?_
            unfold PtP
            exact ⟨3, 0, tb, x, true, rfl, .inl ⟨rfl, HP.out⟩, below_fiveB h53 (by omega) _ _ _ _ _⟩
        · have q3f : ((t : Int) == 3) = false := by rw [beq_eq_false_iff_ne]; omega
          have HP : Hid (pntW t ws x.data.toList = some ⟨0, 2, 0, (tb : ByteArray).data.toList, x.data.toList, false, 0, []⟩) := by
            show pntW t ws x.data.toList = _
            rw [HP0.out]; (try simp_all [cm0]) <;> (try (intros; omega))
          try clear q1
          try clear q2
          try clear q3
          try clear q5
          go_upto_region 7 with fail
          go_region_law (first
            | (refine step_call (by rfl) 15 [.tmp 49] _ [.string x] (by rfl) (by rfl) (callClone _) (fun v w' => v = .string x ∧ Hid (Below W4.drew.heap.size W4.drew w')) ((HCl.out W4.drew).mono fun _ _ q => ⟨_, q.1, rfl, q.2⟩) ?_; rintro v5 w5 ⟨rfl, hb5⟩; obtain ⟨h50, h51, h52, h53⟩ := HG.out w5 ((Below.refl _ W4).drew.trans hb5.out); obtain ⟨⟨u0, v0⟩, ⟨u1, v1⟩, ⟨u2, v2⟩, ⟨u3, v3⟩, ⟨u4, v4⟩⟩ := h50.cell5; obtain ⟨-, -, -, ⟨r3, -⟩, ⟨r4, -⟩⟩ := h51.cell5)
            | fail)
          all_goals
            go_wp2
            refine bodyPost_ret (ret_point (h50.five _ _ _ _ _) rfl rfl) rfl ?_
            unfold PtP
            exact ⟨2, 0, tb, x, true, rfl, .inl ⟨rfl, HP.out⟩, below_fiveB h53 (by omega) _ _ _ _ _⟩
      · have q1f : ((kd : Int) == 1) = false := by rw [beq_eq_false_iff_ne]; omega
        by_cases q2 : kd = 2
        · have q2t : ((kd : Int) == 2) = true := by rw [q2]; rfl
          by_cases q4 : 1 ≤ it
          · by_cases q5 : t = 2
            · have q5t : ((t : Int) == 2) = true := by rw [q5]; rfl
              have HP : Hid (pntW t ws x.data.toList = some ⟨0, 1, it, (⟨#[]⟩ : ByteArray).data.toList, x.data.toList, false, 0, []⟩) := by
                show pntW t ws x.data.toList = _
                rw [HP0.out]; (try simp_all [cm0]) <;> (try (intros; omega))
              try clear q1
              try clear q2
              try clear q3
              try clear q5
              go_upto_region 9 with fail
              go_region_law (first
                | (refine step_call (by rfl) 15 [.tmp 68] _ [.string x] (by rfl) (by rfl) (callClone _) (fun v w' => v = .string x ∧ Hid (Below W4.drew.heap.size W4.drew w')) ((HCl.out W4.drew).mono fun _ _ q => ⟨_, q.1, rfl, q.2⟩) ?_; rintro v5 w5 ⟨rfl, hb5⟩; obtain ⟨h50, h51, h52, h53⟩ := HG.out w5 ((Below.refl _ W4).drew.trans hb5.out); obtain ⟨⟨u0, v0⟩, ⟨u1, v1⟩, ⟨u2, v2⟩, ⟨u3, v3⟩, ⟨u4, v4⟩⟩ := h50.cell5; obtain ⟨-, -, -, ⟨r3, -⟩, ⟨r4, -⟩⟩ := h51.cell5)
                | fail)
              all_goals
                go_wp2
                refine bodyPost_ret (ret_point (h50.five _ _ _ _ _) rfl rfl) rfl ?_
                unfold PtP
                exact ⟨1, it, ⟨#[]⟩, x, true, rfl, .inl ⟨rfl, HP.out⟩, below_fiveB h53 (by omega) _ _ _ _ _⟩
            · have q5f : ((t : Int) == 2) = false := by rw [beq_eq_false_iff_ne]; omega
              have HP : Hid (pntW t ws x.data.toList = none) := by
                show pntW t ws x.data.toList = none
                rw [HP0.out]; (try simp_all) <;> (try (intros; omega))
              have HD : Hid _ := HN4.out HP.out
              try clear q1
              try clear q2
              try clear q3
              try clear q5
              go_wp2
              refine bodyPost_ret (v := .tuple #[.agg #[.int .i64 0, .int .i64 0, .string ⟨#[]⟩, .string ⟨#[]⟩, .bool false], .bool false]) (by exact ret_point HD.out.1 rfl rfl) (by rfl) ?_
              unfold PtP
              exact ⟨0, 0, ⟨#[]⟩, ⟨#[]⟩, false, rfl, .inr ⟨rfl, HD.out.2.1⟩, HD.out.2.2⟩
          · have HP : Hid (pntW t ws x.data.toList = none) := by
              show pntW t ws x.data.toList = none
              rw [HP0.out]; (try simp_all) <;> (try (intros; omega))
            have HD : Hid _ := HN4.out HP.out
            try clear q1
            try clear q2
            try clear q3
            try clear q5
            go_wp2
            refine bodyPost_ret (v := .tuple #[.agg #[.int .i64 0, .int .i64 0, .string ⟨#[]⟩, .string ⟨#[]⟩, .bool false], .bool false]) (by exact ret_point HD.out.1 rfl rfl) (by rfl) ?_
            unfold PtP
            exact ⟨0, 0, ⟨#[]⟩, ⟨#[]⟩, false, rfl, .inr ⟨rfl, HD.out.2.1⟩, HD.out.2.2⟩
        · have q2f : ((kd : Int) == 2) = false := by rw [beq_eq_false_iff_ne]; omega
          have HP : Hid (pntW t ws x.data.toList = none) := by
            show pntW t ws x.data.toList = none
            rw [HP0.out]; (try simp_all) <;> (try (intros; omega))
          have HD : Hid _ := HN4.out HP.out
          try clear q1
          try clear q2
          try clear q3
          try clear q5
          go_wp2
          refine bodyPost_ret (v := .tuple #[.agg #[.int .i64 0, .int .i64 0, .string ⟨#[]⟩, .string ⟨#[]⟩, .bool false], .bool false]) (by exact ret_point HD.out.1 rfl rfl) (by rfl) ?_
          unfold PtP
          exact ⟨0, 0, ⟨#[]⟩, ⟨#[]⟩, false, rfl, .inr ⟨rfl, HD.out.2.1⟩, HD.out.2.2⟩
  · have hn : pntW t ws x.data.toList = none := by unfold pntW; rw [if_neg hok]
    have HD : Hid _ := HNo X2 f2 b2 hn
    have hl2 : ((ws.length : Int) == 2) = false := by rw [beq_eq_false_iff_ne]; omega
    by_cases h3 : ws.length = 3
    · have hx0 : (x.toList == []) = true := by
        have : x.data.toList = [] := Classical.byContradiction fun h => hok (.inr ⟨h3, h⟩)
        rw [Lx.toL, this]; rfl
      obtain ⟨nw, hnw⟩ : ∃ nw, ws.length = nw := ⟨_, rfl⟩
      rw [hnw] at c0 hX1 hl2 h3 ⊢
      subst h3
      clear hA hAX hTX hT f1 f12 f2 b1 b2 n2 hok hn hsz hle hnw HNo hl2
      go_enter Tryd.func28, Tryd.ntmps28
      go_wp2
      refine bodyPost_ret (v := .tuple #[.agg #[.int .i64 0, .int .i64 0, .string ⟨#[]⟩, .string ⟨#[]⟩, .bool false], .bool false]) (by exact ret_point HD.out.1 rfl rfl) (by rfl) ?_
      unfold PtP
      exact ⟨0, 0, ⟨#[]⟩, ⟨#[]⟩, false, rfl, .inr ⟨rfl, HD.out.2.1⟩, HD.out.2.2⟩
    · obtain ⟨nw, hnw⟩ : ∃ nw, ws.length = nw := ⟨_, rfl⟩
      have hn2 : ¬ nw = 2 := by omega
      have hn3 : ¬ nw = 3 := by omega
      have hl3 : ((nw : Int) == 3) = false := by rw [beq_eq_false_iff_ne]; omega
      have hi2 : ¬ (nw : Int) = 2 := by omega
      have hi3 : ¬ (nw : Int) = 3 := by omega
      rw [hnw] at c0 hX1 hl2 ⊢
      clear hA hAX hTX hT f1 f12 f2 b1 b2 n2 hok hn hsz hle HNo h3 hnw
      go_enter Tryd.func28, Tryd.ntmps28
      go_wp2
      refine bodyPost_ret (v := .tuple #[.agg #[.int .i64 0, .int .i64 0, .string ⟨#[]⟩, .string ⟨#[]⟩, .bool false], .bool false]) (by exact ret_point HD.out.1 rfl rfl) (by rfl) ?_
      unfold PtP
      exact ⟨0, 0, ⟨#[]⟩, ⟨#[]⟩, false, rfl, .inr ⟨rfl, HD.out.2.1⟩, HD.out.2.2⟩
end Go.Proofs.YtichbejmelkjeaaDoor
