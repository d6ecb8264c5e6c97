import Derived.Test.YtdcaonfnhdjibaaDoorVD1
namespace Go.Proofs.YtdcaonfnhdjibaaDoor
open Go.RowKit

/-! Of the reference: Last, Followers. -/
section
variable {w w' : World} {B : Nat} {iq eq tq : Option Addr} {Es : List Em} {c : Cd}
set_option maxRecDepth 100000 in
set_option maxHeartbeats 4000000 in
theorem last_any (m : CodeM w B iq eq tq Es c) (hc : CodeOk c) (ia ea ta : Nat) (hB : B ≤ w.heap.size) (f : Nat) (hf : f < c.ens.length) :
    Calls Tryd.prog 15 #[codeV iq eq tq ia ea ta c, .int .i64 (f : Int)] w fun z w' => z = .returned (.int .i64 (endS c f)) ∧ Below w.heap.size w w' := by
  obtain ⟨R, HR⟩ : ∃ R, Hid (endS c f = R) := ⟨_, (rfl : endS c f = _)⟩
  rw [HR.out]
  have B1 : Below w.heap.size w (w.alloc (.cells #[.slice iq c.ins.length ia, .slice eq c.ens.length ea, .slice tq c.txs.length ta, .int .i64 c.main] 26)) := (Below.refl _ w).alloc (Nat.le_refl _) _
  have x0 := (cells_new w #[.slice iq c.ins.length ia, .slice eq c.ens.length ea, .slice tq c.txs.length ta, .int .i64 c.main] 26 0 (.slice iq c.ins.length ia) rfl).1
  have x1 := (cells_new w #[.slice iq c.ins.length ia, .slice eq c.ens.length ea, .slice tq c.txs.length ta, .int .i64 c.main] 26 1 (.slice eq c.ens.length ea) rfl).1
  have m1 := m.below B1 hB
  obtain ⟨f1, hf1⟩ : ∃ f1 : Nat, f1 = f + 1 := ⟨_, rfl⟩
  have hel := hc.el
  have hw : IntKind.i64.wrap ((f : Int) + 1) = (f1 : Int) := by rw [IntKind.wrap_i64]; omega
  unfold codeV
  by_cases hlt : f1 < c.ens.length
  · obtain ⟨g, o, dq, dc, rfl, hg, hr, -⟩ := code_ent m1 f1 hlt
    have r1 := hr 1 _ rfl
    have a0 : (0 : Int) ≤ (f1 : Int) := by omega
    have a1 : (f1 : Int) < (c.ens.length : Int) := by omega
    have HE : Hid ((enAt c.ens f1).start = R) := by show _ = R; rw [← HR.out]; unfold endS; rw [if_pos (by omega), hf1]
    rw [HE.out] at r1
    clear HR m m1 hc hB hr hg hlt hf1 hel hf
    go_enter Tryd.func15, Tryd.ntmps15
    go_upto_region 1 with fail
    generalize w.alloc (.cells #[.slice iq c.ins.length ia, .slice (some ⟨g, o, none⟩) c.ens.length ea, .slice tq c.txs.length ta, .int .i64 c.main] 26) = X at *
    go_wp2
    go_ret
    exact ⟨rfl, B1⟩
  · have a1 : ¬ ((f1 : Int) < (c.ens.length : Int)) := by omega
    have HE : Hid ((c.ins.length : Int) = R) := by show _ = R; rw [← HR.out]; unfold endS; rw [if_neg (by omega)]
    clear HR m m1 hc hB hlt hf1 hel hf
    go_enter Tryd.func15, Tryd.ntmps15
    go_upto_region 1 with fail
    generalize w.alloc (.cells #[.slice iq c.ins.length ia, .slice eq c.ens.length ea, .slice tq c.txs.length ta, .int .i64 c.main] 26) = X at *
    go_wp2
    go_ret
    exact ⟨by rw [← HE.out]; rfl, B1⟩
end
/-- Followers in memory. -/
def fc (f : Int × Int) : List Value := [.int .i64 f.1, .int .i64 f.2]
def FlM (w : World) (v : Value) (l : List (Int × Int)) : Prop := (l = [] ∧ v = .slice none 0 0) ∨ (l ≠ [] ∧ ∃ g, v = .slice (some ⟨g, 0, none⟩) l.length l.length ∧ Full w g 54 (l.flatMap fc))
set_option maxRecDepth 100000 in
set_option maxHeartbeats 4000000 in
theorem rfollowers_any (w : World) (x : In) (i : Nat) (hi : i ≤ 60000) : Calls Tryd.prog 14 #[.agg #[.int .i64 x.1, .int .i64 x.2.1, .int .i64 x.2.2], .int .i64 (i : Int)] w fun z w' => Hid (∃ v, z = .returned v ∧ FlM w' v (flS x i) ∧ Below w.heap.size w w') := by
  obtain ⟨k, A, Bb⟩ := x
  have hw : IntKind.i64.wrap ((i : Int) + 1) = (i : Int) + 1 := by rw [IntKind.wrap_i64]; omega
  obtain ⟨X, hX⟩ : ∃ X, ((w.alloc (.cells #[.int .i64 k, .int .i64 A, .int .i64 Bb] 38)).alloc (.cells #[.int .i64 ((i : Int) + 1), .int .i64 144] 54)).alloc (.cells #[.int .i64 A, .int .i64 140] 54) = X := ⟨_, rfl⟩
  have bX : Below w.heap.size w X := by rw [← hX]; exact ((((Below.refl _ w).alloc (Nat.le_refl _) _).alloc (by simp) _).alloc (by simp; omega) _)
  have zX : X.heap.size = w.heap.size + 1 + 1 + 1 := by rw [← hX]; simp
  have HE : Hid (∀ (l : List (Int × Int)) (Cc : Array Value), l ≠ [] → Cc.toList = l.flatMap fc → FlM (X.alloc (.cells Cc 54)) (.slice (some ⟨w.heap.size + 1 + 1 + 1, 0, none⟩) l.length l.length) l ∧ Below w.heap.size w (X.alloc (.cells Cc 54))) := fun l Cc h0 h1 => by
    refine ⟨.inr ⟨h0, _, rfl, ?_⟩, below2 bX ((Below.refl _ X).alloc (Nat.le_refl _) _)⟩
    rw [← h1, ← zX]
    exact Full.new X _ _
  have HBX : Hid (Below w.heap.size w X) := bX
  rw [← hX] at HE HBX
  clear bX zX hX
  by_cases h9 : k = 9
  · subst h9
    have HL : Hid (flS (9, A, Bb) i = [(A, 140)]) := rfl
    rw [HL.out]
    go_enter Tryd.func14, Tryd.ntmps14
    go_wp2
    go_ret
    exact ⟨_, rfl, HE.out [(A, 140)] #[.int .i64 A, .int .i64 140] (by simp) rfl⟩
  by_cases h10 : k = 10
  · subst h10
    have HL : Hid (flS (10, A, Bb) i = [((i : Int) + 1, 144), (A, 140)]) := rfl
    rw [HL.out]
    clear h9
    go_enter Tryd.func14, Tryd.ntmps14
    go_wp2
    go_ret
    exact ⟨_, rfl, HE.out [((i : Int) + 1, 144), (A, 140)] #[.int .i64 ((i : Int) + 1), .int .i64 144, .int .i64 A, .int .i64 140] (by simp) rfl⟩
  by_cases h12 : k = 12
  · subst h12
    have HL : Hid (flS (12, A, Bb) i = []) := rfl
    rw [HL.out]
    clear h9 h10
    go_enter Tryd.func14, Tryd.ntmps14
    go_wp2
    go_ret
    exact ⟨_, rfl, .inl ⟨rfl, rfl⟩, HBX.out⟩
  by_cases h13 : k = 13
  · subst h13
    have HL : Hid (flS (13, A, Bb) i = []) := rfl
    rw [HL.out]
    clear h9 h10 h12
    go_enter Tryd.func14, Tryd.ntmps14
    go_wp2
    go_ret
    exact ⟨_, rfl, .inl ⟨rfl, rfl⟩, HBX.out⟩
  have HL : Hid (flS (k, A, Bb) i = [((i : Int) + 1, 144)]) := by
    show flS (k, A, Bb) i = _
    unfold flS
    rw [if_neg (fun h => h.elim h12 h13), if_neg h9, if_neg h10]
  rw [HL.out]
  have e9 : (k == 9) = false := by rw [beq_eq_false_iff_ne]; exact h9
  have e10 : (k == 10) = false := by rw [beq_eq_false_iff_ne]; exact h10
  have e12 : (k == 12) = false := by rw [beq_eq_false_iff_ne]; exact h12
  have e13 : (k == 13) = false := by rw [beq_eq_false_iff_ne]; exact h13
  clear h9 h10 h12 h13
  go_enter Tryd.func14, Tryd.ntmps14
  go_wp2
  go_ret
  exact ⟨_, rfl, HE.out [((i : Int) + 1, 144)] #[.int .i64 ((i : Int) + 1), .int .i64 144] (by simp) rfl⟩
end Go.Proofs.YtdcaonfnhdjibaaDoor
namespace Go.Proofs.YtdcaonfnhdjibaaDoor
open Go.RowKit

/-! Of the reference: there. -/
section
variable {w w' : World} {B : Nat} {iq eq tq : Option Addr} {Es : List Em} {c : Cd}
set_option maxRecDepth 100000 in
set_option maxHeartbeats 4000000 in
theorem there_any (m : CodeM w B iq eq tq Es c) (ia ea ta : Nat) (hB : B ≤ w.heap.size) (f : Nat) (hf : f < c.ens.length) (x : In) :
    Calls Tryd.prog 32 #[codeV iq eq tq ia ea ta c, .int .i64 (f : Int), .agg #[.int .i64 x.1, .int .i64 x.2.1, .int .i64 x.2.2]] w fun z w' => z = .returned (.bool (namedS c (enAt c.ens f) x)) ∧ Below w.heap.size w w' := by
  obtain ⟨k, A, Bb⟩ := x
  obtain ⟨R, HR⟩ : ∃ R, Hid (namedS c (enAt c.ens f) (k, A, Bb) = R) := ⟨_, (rfl : namedS c (enAt c.ens f) (k, A, Bb) = _)⟩
  rw [HR.out]
  have HN : Hid ((if k = 3 then decide (A < (c.txs.length : Int)) else if k = 4 ∨ k = 5 then decide (A < ((enAt c.ens f).sorts.length : Int)) else if k = 22 then decide (Bb < ((enAt c.ens f).sorts.length : Int)) else if k = 11 then decide (A < (c.ens.length : Int)) else true) = R) := HR.out
  obtain ⟨X, hX⟩ : ∃ X, w.alloc (.cells #[.slice iq c.ins.length ia, .slice eq c.ens.length ea, .slice tq c.txs.length ta, .int .i64 c.main] 26) = X := ⟨_, rfl⟩
  have zX : X.heap.size = w.heap.size + 1 := by rw [← hX]; simp
  obtain ⟨Y, hY⟩ : ∃ Y, X.alloc (.cells #[.int .i64 k, .int .i64 A, .int .i64 Bb] 38) = Y := ⟨_, rfl⟩
  have bX : Below w.heap.size w X := by rw [← hX]; exact (Below.refl _ w).alloc (Nat.le_refl _) _
  have bY : Below X.heap.size X Y := by rw [← hY]; exact (Below.refl _ X).alloc (Nat.le_refl _) _
  have B1 : Below w.heap.size w Y := below2 bX bY
  have FX : Full Y w.heap.size 26 [.slice iq c.ins.length ia, .slice eq c.ens.length ea, .slice tq c.txs.length ta, .int .i64 c.main] := by
    have : Full X w.heap.size 26 [.slice iq c.ins.length ia, .slice eq c.ens.length ea, .slice tq c.txs.length ta, .int .i64 c.main] := by rw [← hX]; exact Full.new w _ _
    exact this.next bY
  have FY : Full Y (w.heap.size + 1) 38 [.int .i64 k, .int .i64 A, .int .i64 Bb] := by
    have : Full Y X.heap.size 38 [.int .i64 k, .int .i64 A, .int .i64 Bb] := by rw [← hY]; exact Full.new X _ _
    rw [zX] at this
    exact this
  have x1 := (FX.cell 1 _ rfl).1
  have x2 := (FX.cell 2 _ rfl).1
  have y0 := (FY.cell 0 _ rfl).1
  have y1 := (FY.cell 1 _ rfl).1
  have y2 := (FY.cell 2 _ rfl).1
  obtain ⟨g, o, dq, dc, hq, hg, hr, -⟩ := code_ent (m.below B1 hB) f hf
  have r3 := hr 3 _ rfl
  subst hq
  have a0 : (0 : Int) ≤ (f : Int) := by omega
  have a1 : (f : Int) < (c.ens.length : Int) := by omega
  have HB1 : Hid (Below w.heap.size w Y) := B1
  generalize (enAt c.ens f).sorts.length = sl at *
  clear m hB hf bX bY B1 FX FY hr hg HR
  unfold codeV
  by_cases h3 : k = 3
  · subst h3
    have HE : Hid (decide (A < (c.txs.length : Int)) = R) := HN.out
    clear HN
    go_enter Tryd.func32, Tryd.ntmps32
    go_wp2
    go_ret
    exact ⟨by rw [← HE.out]; rfl, HB1.out⟩
  have e3 : (k == 3) = false := by rw [beq_eq_false_iff_ne]; exact h3
  by_cases h45 : k = 4 ∨ k = 5
  · have HE : Hid (decide (A < (sl : Int)) = R) := by show _ = R; rw [← HN.out, if_neg h3, if_pos h45]
    clear HN h3
    have HBd : Hid (Below w.heap.size w Y.drew) := HB1.out.drew
    rcases h45 with rfl | rfl
    all_goals
      go_enter Tryd.func32, Tryd.ntmps32
      go_upto_region 6 with fail
      go_region
      go_wp2
      go_ret
      exact ⟨by rw [← HE.out]; rfl, HBd.out⟩
  have e4 : (k == 4) = false := by rw [beq_eq_false_iff_ne]; exact fun h => h45 (.inl h)
  have e5 : (k == 5) = false := by rw [beq_eq_false_iff_ne]; exact fun h => h45 (.inr h)
  by_cases h22 : k = 22
  · have HE : Hid (decide (Bb < (sl : Int)) = R) := by show _ = R; rw [← HN.out, if_neg h3, if_neg h45, if_pos h22]
    clear HN h3 h45 e3 e4 e5
    have HBd : Hid (Below w.heap.size w Y.drew) := HB1.out.drew
    subst h22
    go_enter Tryd.func32, Tryd.ntmps32
    go_upto_region 8 with fail
    go_region
    go_wp2
    go_ret
    exact ⟨by rw [← HE.out]; rfl, HBd.out⟩
  have e22 : (k == 22) = false := by rw [beq_eq_false_iff_ne]; exact h22
  by_cases h11 : k = 11
  · have HE : Hid (decide (A < (c.ens.length : Int)) = R) := by show _ = R; rw [← HN.out, if_neg h3, if_neg h45, if_neg h22, if_pos h11]
    clear HN h3 h45 h22 e3 e4 e5 e22
    subst h11
    go_enter Tryd.func32, Tryd.ntmps32
    go_wp2
    go_ret
    exact ⟨by rw [← HE.out]; rfl, HB1.out⟩
  have e11 : (k == 11) = false := by rw [beq_eq_false_iff_ne]; exact h11
  have HE : Hid (true = R) := by show _ = R; rw [← HN.out, if_neg h3, if_neg h45, if_neg h22, if_neg h11]
  clear HN h3 h45 h22 h11
  go_enter Tryd.func32, Tryd.ntmps32
  go_wp2
  go_ret
  exact ⟨by rw [← HE.out]; rfl, HB1.out⟩
end
end Go.Proofs.YtdcaonfnhdjibaaDoor
