import Derived.Test.YtdcaonfnhdjibaaDoorVCa
namespace Go.Proofs.YtdcaonfnhdjibaaDoor
open Go.RowKit

/-- What Check answers. -/
def chkS (c : Cd) : Int × Int := match surS c with | .ok _ => (0, 0) | .error k => k
theorem two_cells {w : World} {A B : Nat} (hne : A ≠ B) {x y : Value} (u v : Value) (cA : w.cell? ⟨A, 0, none⟩ = some x) (cB : w.cell? ⟨B, 0, none⟩ = some y) :
    ((w.setCell ⟨A, 0, none⟩ u).setCell ⟨B, 0, none⟩ v).cell? ⟨A, 0, none⟩ = some u ∧ ((w.setCell ⟨A, 0, none⟩ u).setCell ⟨B, 0, none⟩ v).cell? ⟨B, 0, none⟩ = some v := by
  constructor
  · rw [World.cell?_setCell_other _ _ _ _ (fun e => by injection e with e; exact hne e.symm)]
    exact World.cell?_setCell_same' _ _ _ (by rw [cA]; rfl)
  · exact World.cell?_setCell_same' _ _ _ (by rw [World.cell?_setCell_other _ _ _ _ (fun e => by injection e with e; exact hne e), cB]; rfl)
section
variable {w : World} {B : Nat} {iq eq tq : Option Addr} {Es : List Em} {c : Cd}
set_option maxRecDepth 100000 in
set_option maxHeartbeats 2000000 in
theorem check_any (m : CodeM w B iq eq tq Es c) (cp : ∀ y ∈ Es, y.1.sorts.length ≤ y.2.2 ∧ (y.2.1 = none → y.1.sorts.length = 0)) (ia ea ta : Nat) (hB : B ≤ w.heap.size) (ht : Tabs w) :
    Calls Tryd.prog 16 #[codeV iq eq tq ia ea ta c] w fun z w' => z = .returned (.tuple #[.int .i64 (chkS c).1, .int .i64 (chkS c).2]) ∧ Below w.heap.size w w' := by
  have hmf : ∀ (fn : Fn) (first cap : Array Value) (w : World), (Instr.makeFunc fn first cap).run Tryd.prog w = .ok (.func fn first cap) w := fun _ _ _ _ => rfl
  obtain ⟨X, hX⟩ : ∃ X, w.alloc (.cells #[.slice iq c.ins.length ia, .slice eq c.ens.length ea, .slice tq c.txs.length ta, .int .i64 c.main] 26) = X := ⟨_, rfl⟩
  have zX : X.heap.size = w.heap.size + 1 := by rw [← hX]; simp
  obtain ⟨Y, hY⟩ : ∃ Y, X.alloc (.cells #[.int .i64 0] 31) = Y := ⟨_, rfl⟩
  have zY : Y.heap.size = w.heap.size + 2 := by rw [← hY]; simp [zX]
  obtain ⟨w1, hw1⟩ : ∃ w1, Y.alloc (.cells #[.int .i64 0] 3) = w1 := ⟨_, rfl⟩
  have zW : w1.heap.size = w.heap.size + 3 := by rw [← hw1]; simp [zY]
  have bX : Below w.heap.size w X := by rw [← hX]; exact (Below.refl _ w).alloc (Nat.le_refl _) _
  have bY : Below X.heap.size X Y := by rw [← hY]; exact (Below.refl _ X).alloc (Nat.le_refl _) _
  have bW : Below Y.heap.size Y w1 := by rw [← hw1]; exact (Below.refl _ Y).alloc (Nat.le_refl _) _
  have B1 : Below w.heap.size w w1 := below2 (below2 bX bY) bW
  have FX : Full w1 w.heap.size 26 [.slice iq c.ins.length ia, .slice eq c.ens.length ea, .slice tq c.txs.length ta, .int .i64 c.main] := by
    have : Full X w.heap.size 26 [.slice iq c.ins.length ia, .slice eq c.ens.length ea, .slice tq c.txs.length ta, .int .i64 c.main] := by rw [← hX]; exact Full.new w _ _
    exact (this.next bY).next bW
  have FA : Full w1 (w.heap.size + 1) 31 [.int .i64 0] := by
    have : Full Y X.heap.size 31 [.int .i64 0] := by rw [← hY]; exact Full.new X _ _
    rw [zX] at this
    exact this.next bW
  have FB : Full w1 (w.heap.size + 2) 3 [.int .i64 0] := by
    have : Full w1 Y.heap.size 3 [.int .i64 0] := by rw [← hw1]; exact Full.new Y _ _
    rw [zY] at this
    exact this
  have x0 := (FX.cell 0 _ rfl).1
  have x1 := (FX.cell 1 _ rfl).1
  have x2 := (FX.cell 2 _ rfl).1
  have x3 := (FX.cell 3 _ rfl).1
  have HB1 : Hid (Below w.heap.size w w1) := B1
  have HF : Hid (Full w1 (w.heap.size + 1) 31 [.int .i64 0] ∧ Full w1 (w.heap.size + 2) 3 [.int .i64 0]) := ⟨FA, FB⟩
  have c1 := survey_any (m.below B1 hB) cp ia ea ta (Nat.le_trans hB B1.size) (ht.next B1)
  obtain ⟨R, HR⟩ : ∃ R, Hid (surS c = R) := ⟨_, (rfl : surS c = _)⟩
  rw [HR.out] at c1
  obtain ⟨p, Hp⟩ : ∃ p, Hid (chkS c = p) := ⟨_, (rfl : chkS c = _)⟩
  rw [Hp.out]
  unfold codeV at c1 ⊢
  clear m cp hB ht bX bY bW B1 FX FA FB
  go_enter_defers Tryd.func16, Tryd.ntmps16
  go_wp2_with fail
  refine c1.mono ?_
  rintro z w2 h2
  replace h2 := h2.out
  have HCL : Hid (∀ w', Below w1.heap.size w1 w' → (w'.cell? ⟨w.heap.size + 1, 0, none⟩ = some (.int .i64 0) ∧ w'.frozen? ⟨w.heap.size + 1, 0, none⟩ = false) ∧ w'.cell? ⟨w.heap.size + 2, 0, none⟩ = some (.int .i64 0) ∧ w'.frozen? ⟨w.heap.size + 2, 0, none⟩ = false) := fun w' hb => ⟨(HF.out.1.next hb).cell 0 _ rfl, (HF.out.2.next hb).cell 0 _ rfl⟩
  clear c1 x0 x1 x2 x3 hX hY hw1 zX zY zW HF hmf
  cases hR : R with
  | error k =>
    rw [hR] at h2 HR
    obtain ⟨rfl, hb2⟩ := h2
    have hp : p = k := by rw [← Hp.out]; unfold chkS; rw [HR.out]
    subst hp
    obtain ⟨⟨c1, f1⟩, c2, f2⟩ := HCL.out w2 hb2
    go_wp2
    refine leaves_cons (f := 37) (args := #[.pointer (some ⟨w.heap.size + 1, 0, none⟩), .pointer (some ⟨w.heap.size + 2, 0, none⟩)]) (by simp) (by simp [go_sem]) ?_
    refine (catch_yes (w.heap.size + 1) (w.heap.size + 2) p.1 p.2 _ _ w2 c1 c2 f1 f2 (by omega)).mono ?_
    rintro e u' w3 ⟨rfl, rfl, W, hbW, rfl⟩
    obtain ⟨⟨c1', -⟩, c2', -⟩ := HCL.out W (hb2.trans (hbW.mono hb2.size))
    obtain ⟨d1, d2⟩ := two_cells (A := w.heap.size + 1) (B := w.heap.size + 2) (by omega) (.int .i64 p.1) (.int .i64 p.2) c1' c2'
    have b3 : Below w.heap.size w ((W.setCell ⟨w.heap.size + 1, 0, none⟩ (.int .i64 p.1)).setCell ⟨w.heap.size + 2, 0, none⟩ (.int .i64 p.2)) := ((below2 (below2 HB1.out hb2) hbW).setCell (p := ⟨w.heap.size + 1, 0, none⟩) (Nat.le_succ _) _).setCell (p := ⟨w.heap.size + 2, 0, none⟩) (by show w.heap.size ≤ w.heap.size + 2; omega) _
    simp [Leaves, settle, results, Tryd.results16, go_sem, d1, d2]
    exact b3
  | ok K =>
    rw [hR] at h2 HR
    obtain ⟨kg, ks, rfl, -, -, hb2⟩ := h2
    have hp : p = (0, 0) := by rw [← Hp.out]; unfold chkS; rw [HR.out]
    subst hp
    obtain ⟨⟨c1, f1⟩, c2, f2⟩ := HCL.out w2 hb2
    have c2b : ∀ v, (w2.setCell ⟨w.heap.size + 1, 0, none⟩ v).cell? ⟨w.heap.size + 2, 0, none⟩ = some (.int .i64 0) := fun v => by
      rw [World.cell?_setCell_other _ _ _ _ (fun e => by injection e with e; omega)]
      exact c2
    go_wp2
    obtain ⟨d1, d2⟩ := two_cells (A := w.heap.size + 1) (B := w.heap.size + 2) (by omega) (.int .i64 0) (.int .i64 0) c1 c2
    have b3 : Below w.heap.size w ((w2.setCell ⟨w.heap.size + 1, 0, none⟩ (.int .i64 0)).setCell ⟨w.heap.size + 2, 0, none⟩ (.int .i64 0)) := ((below2 HB1.out hb2).setCell (p := ⟨w.heap.size + 1, 0, none⟩) (Nat.le_succ _) _).setCell (p := ⟨w.heap.size + 2, 0, none⟩) (by show w.heap.size ≤ w.heap.size + 2; omega) _
    refine leaves_cons (f := 37) (args := #[.pointer (some ⟨w.heap.size + 1, 0, none⟩), .pointer (some ⟨w.heap.size + 2, 0, none⟩)]) (by simp) (by simp [go_sem]) ?_
    refine (catch_no (w.heap.size + 1) (w.heap.size + 2) _ _ _ d1 d2 (by simp [f1]) (by simp [f2]) (by omega)).mono ?_
    rintro e u' w3 ⟨rfl, rfl, rfl⟩
    obtain ⟨d3, d4⟩ := two_cells (A := w.heap.size + 1) (B := w.heap.size + 2) (by omega) (.int .i64 0) (.int .i64 0) d1 d2
    have b4 := (b3.setCell (p := ⟨w.heap.size + 1, 0, none⟩) (Nat.le_succ _) (.int .i64 0)).setCell (p := ⟨w.heap.size + 2, 0, none⟩) (by show w.heap.size ≤ w.heap.size + 2; omega) (.int .i64 0)
    simp [Leaves, settle, results, Tryd.results16, go_sem, d3, d4]
    exact b4
end
end Go.Proofs.YtdcaonfnhdjibaaDoor
