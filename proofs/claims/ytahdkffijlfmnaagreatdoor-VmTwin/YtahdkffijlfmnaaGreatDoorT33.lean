import Derived.Test.YtahdkffijlfmnaaGreatDoorT30
namespace Go.Proofs.YtahdkffijlfmnaaGreatDoor
open Go.RowKit
open Hp (V vc vcs)
theorem full_range {w : World} {b : Nat} {t : TypeId} {vs : List Value} (h : Full w b t vs) : w.rangeAt b 0 vs := fun j v hv => by
  rw [Nat.zero_add]
  exact (h.cell j v hv).1
def Lz (w w1 : World) (g : Nat) (S : Ms) : Prop := ∃ K, Mz w1 (fun b => w.heap.size ≤ b) g K S ∧ K.c = cL ∧ Below w.heap.size w w1
theorem Lz.next {w w1 w2 : World} {g : Nat} {S : Ms} (h : Lz w w1 g S) (k : Below w1.heap.size w1 w2) : Lz w w2 g S := by
  obtain ⟨K, h1, h2, h3⟩ := h
  exact ⟨K, h1.next k, h2, below2 h3 k⟩
theorem Lz.went {w w1 w2 : World} {g : Nat} {K : Cg} {S : Ms} (h : Mz w2 (fun b => w.heap.size ≤ b ∨ w1.heap.size ≤ b) g K S) (hc : K.c = cL) (b : Below w.heap.size w w1) (k : Kp (fun b => w.heap.size ≤ b) w1 w2) : Lz w w2 g S :=
  ⟨K, h.mono fun x hx _ => by rcases hx with q | q; exact q; exact Nat.le_trans b.size q, hc, b.trans (k.below (fun _ q => q) b.size)⟩
theorem Lz.run {w w1 : World} {g : Nat} (h : Lz w w1 g sL0) : Calls Tryz.prog 15 #[.pointer (some ⟨g, 0, none⟩), .int .i64 9] w1 fun z w' => z = .returned (.tuple #[.agg #[.int .i64 5, .bool false, .int .i64 0, .int .i64 0, .string Hp.e0], .bool true]) ∧ Hid (Lz w w' g sL1) := by
  obtain ⟨K, h1, h2, h3⟩ := h
  have q := h1.run 9 (by decide) (by decide)
  rw [mrunL h2 h1.kok.1.en] at q
  exact q.mono fun z w' q => ⟨q.1, Lz.went q.2.out.1 h2 h3 q.2.out.2⟩
theorem Lz.step {w w1 : World} {g : Nat} (h : Lz w w1 g sL1) : Calls Tryz.prog 12 #[.pointer (some ⟨g, 0, none⟩)] w1 fun z w' => z = .returned (.tuple #[.agg #[.int .i64 0, .bool false, .int .i64 0, .int .i64 0, .string Hp.e0], .bool false]) ∧ Hid (Lz w w' g sL2) := by
  obtain ⟨K, h1, h2, h3⟩ := h
  have q := h1.step (by decide)
  rw [mstepL2 h2 h1.kok.1.en] at q
  exact q.mono fun z w' q => ⟨q.1, Lz.went q.2.out.1 h2 h3 q.2.out.2⟩
theorem Lz.depth {w w1 : World} {g : Nat} {S : Ms} (h : Lz w w1 g S) : Calls Tryz.prog 10 #[.pointer (some ⟨g, 0, none⟩)] w1 fun z w' => z = .returned (.int .i64 (S.fs.length : Int)) ∧ Below w1.heap.size w1 w' := by
  obtain ⟨K, h1, h2, h3⟩ := h
  exact h1.depth
theorem Lz.steps {w w1 : World} {g : Nat} {S : Ms} (h : Lz w w1 g S) : Calls Tryz.prog 18 #[.pointer (some ⟨g, 0, none⟩)] w1 fun z w' => z = .returned (.int .i64 S.steps) ∧ Below w1.heap.size w1 w' := by
  obtain ⟨K, h1, h2, h3⟩ := h
  exact h1.steps
theorem Lz.result {w w1 : World} {g : Nat} (h : Lz w w1 g sL2) : Calls Tryz.prog 9 #[.pointer (some ⟨g, 0, none⟩)] w1 fun z w' => z = .returned (.agg #[.int .i64 1, .int .i64 0, .string ⟨#[]⟩, .int .i64 0, .int .i64 2, .slice none 0 0, .slice (some ⟨w1.heap.size + 1, 0, none⟩) 1 1]) ∧ Below w1.heap.size w1 w' := by
  obtain ⟨K, h1, h2, h3⟩ := h
  exact h1.result.mono fun z w' q => ⟨q.1, q.2.2⟩
def esL : List Em := [(eL, none, 0)]
theorem leastNew {w X : World} (hG : Glo w) (hX : ((w.alloc (.cells #[.int .i64 21, .int .i64 5, .int .i64 0, .int .i64 13, .int .i64 0, .int .i64 0] 86)).alloc (.cells #[.string mainB, .int .i64 0, .int .i64 0, .slice none 0 0, .int .i64 0] 71)).alloc (.cells #[.slice (some ⟨w.heap.size, 0, none⟩) 2 2, .slice (some ⟨w.heap.size + 1, 0, none⟩) 1 1, .slice none 0 0, .int .i64 0] 26) = X) :
    Below w.heap.size w X ∧ Calls Tryz.prog 7 #[.agg #[.slice (some ⟨w.heap.size, 0, none⟩) 2 2, .slice (some ⟨w.heap.size + 1, 0, none⟩) 1 1, .slice none 0 0, .int .i64 0], .slice none 0 0, .agg #[.int .i64 1, .int .i64 0]] X fun z w' => ∃ g, z = .returned (.tuple #[.pointer (some ⟨g, 0, none⟩), .int .i64 0]) ∧ Hid (Lz w w' g sL0) := by
  obtain ⟨A, hA⟩ : ∃ A, w.alloc (.cells #[.int .i64 21, .int .i64 5, .int .i64 0, .int .i64 13, .int .i64 0, .int .i64 0] 86) = A := ⟨_, rfl⟩
  rw [hA] at hX
  obtain ⟨B, hB⟩ : ∃ B, A.alloc (.cells #[.string mainB, .int .i64 0, .int .i64 0, .slice none 0 0, .int .i64 0] 71) = B := ⟨_, rfl⟩
  rw [hB] at hX
  have zA : A.heap.size = w.heap.size + 1 := by rw [← hA]; simp
  have fA : Full A w.heap.size 86 [.int .i64 21, .int .i64 5, .int .i64 0, .int .i64 13, .int .i64 0, .int .i64 0] := by rw [← hA]; exact Full.new w _ _
  have fB : Full B A.heap.size 71 [.string mainB, .int .i64 0, .int .i64 0, .slice none 0 0, .int .i64 0] := by rw [← hB]; exact Full.new A _ _
  have bA : Below w.heap.size w A := by rw [← hA]; exact (Below.refl _ w).alloc (Nat.le_refl _) _
  have bB : Below A.heap.size A B := by rw [← hB]; exact (Below.refl _ A).alloc (Nat.le_refl _) _
  have bX : Below B.heap.size B X := by rw [← hX]; exact (Below.refl _ B).alloc (Nat.le_refl _) _
  rw [zA] at fB
  have fA2 := (fA.next bB).next bX
  have fB2 := fB.next bX
  have bW : Below w.heap.size w X := below2 (below2 bA bB) bX
  have hC : CdR X (some ⟨w.heap.size, 0, none⟩) (some ⟨w.heap.size + 1, 0, none⟩) none 2 1 0 esL cL := by
    refine ⟨rfl, ⟨fun q => (by cases q), fun _ => ⟨_, _, rfl, full_range fA2⟩⟩, ⟨fun q => (by cases q), fun _ => ⟨_, _, rfl, full_range fB2⟩⟩, ⟨fun _ => rfl, fun q => (by cases q)⟩, fun x hx => ?_⟩
    have : x = (eL, none, 0) := by simpa [esL] using hx
    subst this
    exact ⟨fun _ => rfl, fun q => by cases q⟩
  have hM := hC.codeM (by decide) (by decide) (by decide) (fun t ht => by cases ht) (fun x hx => by
    have : x = (eL, none, 0) := by simpa [esL] using hx
    subst this
    exact ⟨by decide, by decide⟩)
  have hGX := hG.next bW
  refine ⟨bW, ?_⟩
  have q := new_any (inp := []) (nq := none) (na := 0) hC hM ⟨fun _ => rfl, fun q => by cases q⟩ (fun x hx => by cases hx) (by decide) 1 0 hGX.tabs
  refine q.mono fun z w' q => ?_
  rw [if_pos (by exact newE_cL)] at q
  obtain ⟨g, rfl, hq⟩ := q
  obtain ⟨K, k1, k2, -⟩ := newM_mz hq.out.1 (hGX.next hq.out.2) (by have := hGX.tabs.size; omega)
  exact ⟨g, rfl, K, k1.mono fun b hb _ => Nat.le_trans bW.size hb, k2, below2 bW hq.out.2⟩
theorem fldR (a b c d e f h : Value) : ∀ w : World, (Instr.field 46 (.agg #[a, b, c, d, e, f, h]) 0).run Tryz.prog w = .ok (.agg #[a, b]) w := fun w => by
  kernel_rfl
set_option maxRecDepth 100000 in
set_option maxHeartbeats 2000000 in
theorem least_any {w : World} (hG : Glo w) :
    Calls Tryz.prog 8 #[] w fun z w' => z = .returned (.bool true) ∧ Below w.heap.size w w' := by
  obtain ⟨bX, dN⟩ := leastNew hG rfl
  unfold mainB at dN
  clear bX
  go_enter Tryz.func8, Tryz.ntmps8
  go_wp2_with (first
    | (go_at_call 7; refine dN.mono ?_; rintro z1 w1 ⟨g, rfl, H1⟩)
    | (go_at_call 15; refine H1.out.run.mono ?_; rintro z2 w2 ⟨rfl, H2⟩; have HA : Hid (Lz w (w2.alloc (.cells #[.int .i64 5, .bool false, .int .i64 0, .int .i64 0, .string Hp.e0] 54)) g sL1) := H2.out.next ((Below.refl _ w2).alloc (Nat.le_refl _) _))
    | (go_at_call 18; refine HA.out.steps.mono ?_; rintro z3 w3 ⟨rfl, hb3⟩; have HB : Hid (Lz w w3 g sL1) := HA.out.next hb3; clear hb3)
    | (go_at_call 10; refine HB.out.depth.mono ?_; rintro z4 w4 ⟨rfl, hb4⟩; have HC : Hid (Lz w w4 g sL1) := HB.out.next hb4; clear hb4)
    | (go_at_call 12; refine HC.out.step.mono ?_; rintro z5 w5 ⟨rfl, H5⟩; have HD : Hid (Lz w (w5.alloc (.cells #[.int .i64 0, .bool false, .int .i64 0, .int .i64 0, .string Hp.e0] 54)) g sL2) := H5.out.next ((Below.refl _ w5).alloc (Nat.le_refl _) _); clear HB)
    | (go_at_call 9; refine HD.out.result.mono ?_; rintro z6 w6 ⟨rfl, hb6⟩; have hfd := fldR (.int .i64 1) (.int .i64 0) (.string ⟨#[]⟩) (.int .i64 0) (.int .i64 2) (.slice none 0 0) (.slice (some ⟨w5.heap.size + 1 + 1, 0, none⟩) 1 1); have HB : Hid (Lz w w6 g sL2) := HD.out.next hb6; clear hb6)
    | (go_at_call 10; refine HB.out.depth.mono ?_; rintro z7 w7 ⟨rfl, hb7⟩; have HE : Hid (Lz w w7 g sL2) := HB.out.next hb7; clear hb7)
    | fail)
  go_ret
  obtain ⟨K, -, -, hb⟩ := HE.out
  exact ⟨rfl, hb⟩
end Go.Proofs.YtahdkffijlfmnaaGreatDoor
