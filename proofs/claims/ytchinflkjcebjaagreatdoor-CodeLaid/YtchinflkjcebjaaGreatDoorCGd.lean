import Derived.Test.YtchinflkjcebjaaGreatDoorCGc
namespace Go.Proofs.YtchinflkjcebjaaGreatDoor
open Go.RowKit

/-! The gaps, and the text spread. -/
def gapAt (G : List ByteArray) (n : Nat) : ByteArray := if G = [] then e0 else G.getD (n % G.length) e0
abbrev laidC (a0 a1 a2 a3 : Value) (gq : Option Addr) (ga : Nat) (G : List ByteArray) : Array Value := #[a0, a1, a2, a3, .slice gq G.length ga]
/-- The argument in its box. -/
def Lb (W : World) (p : Nat) (a0 a1 a2 a3 : Value) (gq : Option Addr) (ga : Nat) (G : List ByteArray) : Prop := W.heap[p]? = some (.cells #[a0, a1, a2, a3, .slice gq G.length ga] 37)
theorem Lb.next {W W' : World} {p : Nat} {a0 a1 a2 a3 : Value} {gq : Option Addr} {ga : Nat} {G : List ByteArray} (h : Lb W p a0 a1 a2 a3 gq ga G) (k : Below W.heap.size W W') : Lb W' p a0 a1 a2 a3 gq ga G := (k.block _ (Array.getElem?_eq_some_iff.1 h).1).trans h
theorem Lb.cs {W : World} {p : Nat} {a0 a1 a2 a3 : Value} {gq : Option Addr} {ga : Nat} {G : List ByteArray} (h : Lb W p a0 a1 a2 a3 gq ga G) : W.cell? ⟨p, 0, none⟩ = some a0 ∧ W.cell? ⟨p, 1, none⟩ = some a1 ∧ W.cell? ⟨p, 2, none⟩ = some a2 ∧ W.cell? ⟨p, 3, none⟩ = some a3 ∧ W.cell? ⟨p, 4, none⟩ = some (.slice gq G.length ga) := ⟨(blk_cell h 0 _ rfl).1, (blk_cell h 1 _ rfl).1, (blk_cell h 2 _ rfl).1, (blk_cell h 3 _ rfl).1, (blk_cell h 4 _ rfl).1⟩
theorem rem_nat (n m : Nat) : Int.tmod (n : Int) (m : Int) = ((n % m : Nat) : Int) := by
  rw [Int.tmod_eq_emod_of_nonneg (by omega)]
  omega
set_option maxRecDepth 100000 in
set_option maxHeartbeats 4000000 in
theorem one_any (a0 a1 a2 a3 : Value) (gq : Option Addr) (ga : Nat) (G : List ByteArray) (n : Nat) (w : World) (hr : Row w w.heap.size gq G.length (tv G)) (hl : G.length ≤ 140737488351232) : Calls Tryz.prog 33 #[.agg #[a0, a1, a2, a3, .slice gq G.length ga], .int .i64 (n : Int)] w fun e w' => e = .returned (.string (gapAt G n)) ∧ Below w.heap.size w w' := by
  obtain ⟨R, HR⟩ : ∃ R, Hid (R = gapAt G n) := ⟨_, (rfl : gapAt G n = _)⟩
  rw [← HR.out]
  obtain ⟨W1, hW1⟩ : ∃ W1, W1 = w.alloc (.cells #[a0, a1, a2, a3, .slice gq G.length ga] 37) := ⟨_, rfl⟩
  have H1 : Hid (Lb W1 w.heap.size a0 a1 a2 a3 gq ga G ∧ Below w.heap.size w W1) := by
    rw [hW1]
    exact ⟨World.alloc_heap_new w _, (Below.refl _ w).alloc (Nat.le_refl _) _⟩
  go_enter Tryz.func33, Tryz.ntmps33
  go_upto_region 1 with fail
  rw [← hW1]
  clear hW1
  obtain ⟨x0, x1, x2, x3, x4⟩ := H1.out.1.cs
  by_cases h0 : G = []
  · have e : R = e0 := by rw [HR.out]; unfold gapAt; rw [if_pos h0]
    have hz : (G.length : Int) = 0 := by rw [h0]; rfl
    have HE : Hid (R = e0) := e
    have HB : Hid (Below w.heap.size w W1) := H1.out.2
    clear HR e h0 H1 x0 x1 x2 x3
    go_wp2
    go_ret
    exact ⟨by rw [HE.out]; rfl, HB.out⟩
  · have hp : 0 < G.length := List.length_pos_iff.2 h0
    have hm : n % G.length < G.length := Nat.mod_lt _ hp
    have er : R = G[n % G.length] := by
      rw [HR.out]
      unfold gapAt
      rw [if_neg h0, List.getD_eq_getElem?_getD, List.getElem?_eq_getElem hm]
      rfl
    obtain ⟨g, o, rfl, hg, hc⟩ := row_get (hr.below H1.out.2 (Nat.le_refl _)) (n % G.length) hm
    have hcell := hc (n % G.length) (.string G[n % G.length]) (by unfold tv; rw [List.getElem?_map, List.getElem?_eq_getElem hm]; rfl)
    rw [← er] at hcell
    have ht := rem_nat n G.length
    have hz : ¬ (G.length : Int) = 0 := by omega
    have hz2 : ((G.length : Int) == 0) = false := by rw [beq_eq_false_iff_ne]; exact hz
    have HB : Hid (Below w.heap.size w W1) := H1.out.2
    have q0 : (0 : Int) ≤ ((n % G.length : Nat) : Int) := by omega
    have q1 : ((n % G.length : Nat) : Int) < (G.length : Int) := by omega
    clear HR er h0 H1 hc hr x0 x1 x2 x3
    generalize n % G.length = m at *
    generalize G.length = gl at *
    have y4 := cell_regrown x4
    have yc := cell_regrown hcell
    go_upto_region 3 with fail
    go_wp2_with fail
    refine wp_region_quiet_below (by kernel_rfl) (by kernel_rfl) ?_
    repeat (first | go_big_quiet_step (first | fail) | quiet_step (first | fail))
    refine wpQuiet_nil ?_
    intro _ hw'
    obtain ⟨⟨dq, osq⟩, hw''⟩ := hw'
    subst hw''
    have hY := below_regrown W1 dq osq
    first | (change Exit.then _ _ Exit.normal _ (Sort.grow (redrawn W1 dq) osq)) | skip
    generalize Sort.grow (redrawn W1 dq) osq = Y at hY ⊢
    go_wp2
    go_ret
    exact ⟨rfl, HB.out.trans (hY.mono HB.out.size)⟩
end Go.Proofs.YtchinflkjcebjaaGreatDoor
