import Derived.Test.YtgncoeihlfcaiaaDoorLines
namespace Go.Proofs.YtgncoeihlfcaiaaDoor
open Go.RowKit Go.Shelf
attribute [local go_sem] Oper.semAt_some

set_option maxHeartbeats 400000 in
theorem where_no (s : ByteArray) (at_ : Int) (w : World) (hs : s.size ≤ 140737488355328) (h : at_ < 0 ∨ (s.size : Int) < at_) :
    Calls Tryd.prog 8 #[.string s, .int .i64 at_] w fun e w' => e = .returned (.tuple #[.agg #[.int .i64 0, .int .i64 0], .int .i64 10]) ∧ Below w.heap.size w w' := by
  rcases h with h | h
  · go_enter Tryd.func8, Tryd.ntmps8
    go_wp2
    exact bodyPost_ret (v := .tuple #[.agg #[.int .i64 0, .int .i64 0], .int .i64 10]) (by simp [results, Tryd.results8, go_sem]) rfl ⟨rfl, (Below.refl _ _).alloc (Nat.le_refl _) _⟩
  · have h' : ¬ at_ < 0 := by omega
    go_enter Tryd.func8, Tryd.ntmps8
    go_wp2
    exact bodyPost_ret (v := .tuple #[.agg #[.int .i64 0, .int .i64 0], .int .i64 10]) (by simp [results, Tryd.results8, go_sem]) rfl ⟨rfl, (Below.refl _ _).alloc (Nat.le_refl _) _⟩

theorem two_set {W : World} {B : Nat} {a b : Value} (u v : Value) (h0 : W.cell? ⟨B, 0, none⟩ = some a) (h1 : W.cell? ⟨B, 1, none⟩ = some b) :
    ((W.setCell ⟨B, 0, none⟩ u).setCell ⟨B, 1, none⟩ v).cell? ⟨B, 0, none⟩ = some u ∧ ((W.setCell ⟨B, 0, none⟩ u).setCell ⟨B, 1, none⟩ v).cell? ⟨B, 1, none⟩ = some v ∧
    (∀ C o, C ≠ B → ((W.setCell ⟨B, 0, none⟩ u).setCell ⟨B, 1, none⟩ v).cell? ⟨C, o, none⟩ = W.cell? ⟨C, o, none⟩) ∧ (∀ p, ((W.setCell ⟨B, 0, none⟩ u).setCell ⟨B, 1, none⟩ v).frozen? p = W.frozen? p) := by
  have e : (W.setCell ⟨B, 0, none⟩ u).cell? ⟨B, 1, none⟩ = some b := by rw [World.cell?_setCell_other _ _ _ _ (by simp)]; exact h1
  refine ⟨?_, ?_, ?_, ?_⟩
  · rw [World.cell?_setCell_other _ _ _ _ (by simp)]
    exact World.cell?_setCell_same' _ _ _ (by rw [h0]; rfl)
  · exact World.cell?_setCell_same' _ _ _ (by rw [e]; rfl)
  · intro C o hC
    rw [World.cell?_setCell_other _ _ _ _ (fun e => hC (by cases e; rfl)), World.cell?_setCell_other _ _ _ _ (fun e => hC (by cases e; rfl))]
  · intro p
    rw [World.frozen?_setCell, World.frozen?_setCell]

/-- What the rounds have left in the variable 'place'. -/
def lastP (pre : List (Nat × ByteArray)) : Int × Int := match pre.getLast? with
  | none => (0, 0)
  | some x => ((x.1 : Int), wrap64 ((x.2.size : Int) + 1))
theorem lastP_snoc (pre : List (Nat × ByteArray)) (x : Nat × ByteArray) : lastP (pre ++ [x]) = ((x.1 : Int), wrap64 ((x.2.size : Int) + 1)) := by simp [lastP]

set_option maxRecDepth 100000 in
set_option maxHeartbeats 2000000 in
theorem where_yes (s : ByteArray) (k : Nat) (w : World) (hs : s.size ≤ 140737488355328) (hk : k ≤ s.size) :
    Calls Tryd.prog 8 #[.string s, .int .i64 (k : Int)] w fun e w' => e = .returned (.tuple #[.agg #[.int .i64 (lastP (Src.rows 1 (Src.lns (s.extract 0 k).data.toList))).1, .int .i64 (lastP (Src.rows 1 (Src.lns (s.extract 0 k).data.toList))).2], .int .i64 0]) ∧ Below w.heap.size w w' := by
  have k0 : (0 : Int) ≤ k := by omega
  have k1 : (k : Int) ≤ s.size := by omega
  have b0 : decide ((k : Int) < 0) = false := by simp
  generalize hP : lastP (Src.rows 1 (Src.lns (s.extract 0 k).data.toList)) = P
  have HP : Hid (lastP (Src.rows 1 (Src.lns (s.extract 0 k).data.toList)) = P) := hP
  clear hP
  refine (callsIn_wide (n := 6)).1 ?_
  refine callsIn_of_wp_marks Tryd.func8 rfl trivial ?_ rfl
  simp only [Tryd.ntmps8, List.size_toArray, List.length_cons, List.length_nil, Nat.reduceAdd, Nat.reduceSub, Array.replicate_succ, Array.replicate_zero, List.push_toArray, List.append_toArray, List.nil_append, List.cons_append]
  gi_wp2_with (refine ⟨trivial, ?_⟩; gi_at_call 11; refine (callsIn_wide.2 (seq_any _ _)).mono ?_; rintro e w' ⟨rfl, rfl⟩)
  have c0 := new_pair w (.int .i64 0) (.int .i64 0) 23
  have c1 := new_pair (w.alloc (.cells #[.int .i64 0, .int .i64 0] 23)) (.int .i64 0) (.int .i64 0) 23
  have c2 := new_cell ((w.alloc (.cells #[.int .i64 0, .int .i64 0] 23)).alloc (.cells #[.int .i64 0, .int .i64 0] 23)) (.string (s.extract 0 k)) 9
  simp only [World.size_alloc] at c1 c2
  have hB0 : Below w.heap.size w (((w.alloc (.cells #[.int .i64 0, .int .i64 0] 23)).alloc (.cells #[.int .i64 0, .int .i64 0] 23)).alloc (.cells #[.string (s.extract 0 k)] 9)) := (((Below.refl _ w).alloc (Nat.le_refl _) _).alloc (by simp) _).alloc (by simp; omega) _
  refine wpIn_rangeFunc_ownF rfl (by omega) (gf := 21) (lb := #[.pointer (some ⟨w.heap.size + 1 + 1, 0, none⟩)]) rfl trivial (enters_of Tryd.func21 (by kernel_rfl) rfl)
    (it_stops 5 (by omega) (w.heap.size + 1 + 1) (s.extract 0 k) _ (by simp; omega) (by simp) c2.1) (fun _ _ => trivial) (fun _ _ _ _ _ _ _ _ => trivial) (Below.refl _ _) (fun _ => rfl)
    (fun pre W => ((W.cell? ⟨w.heap.size + 1, 0, none⟩ = some (.int .i64 (lastP pre).1) ∧ W.frozen? ⟨w.heap.size + 1, 0, none⟩ = false) ∧ (W.cell? ⟨w.heap.size + 1, 1, none⟩ = some (.int .i64 (lastP pre).2) ∧ W.frozen? ⟨w.heap.size + 1, 1, none⟩ = false) ∧
      (W.cell? ⟨w.heap.size, 0, none⟩ = some (.int .i64 0) ∧ W.frozen? ⟨w.heap.size, 0, none⟩ = false) ∧ (W.cell? ⟨w.heap.size, 1, none⟩ = some (.int .i64 0) ∧ W.frozen? ⟨w.heap.size, 1, none⟩ = false)) ∧ Below w.heap.size w W)
    (fun _ _ _ => False)
    (OwnFrom.and (Own.from (fun s A B row hs hg hr => ⟨⟨cell_kept hs.1.1 hg hr, (frozen_kept hs.1.1 hg hr).trans hs.1.2⟩, ⟨cell_kept hs.2.1.1 hg hr, (frozen_kept hs.2.1.1 hg hr).trans hs.2.1.2⟩, ⟨cell_kept hs.2.2.1.1 hg hr, (frozen_kept hs.2.2.1.1 hg hr).trans hs.2.2.1.2⟩, ⟨cell_kept hs.2.2.2.1 hg hr, (frozen_kept hs.2.2.2.1 hg hr).trans hs.2.2.2.2⟩⟩) _) (ownFrom_below (Nat.le_refl _) (by simp; omega)))
    (fun _ _ _ _ _ hs _ _ => hs)
    ⟨⟨⟨cell_alloc_l _ c1.1.1, frozen_alloc_l _ c1.1.1 c1.1.2⟩, ⟨cell_alloc_l _ c1.2.1, frozen_alloc_l _ c1.2.1 c1.2.2⟩,
      ⟨cell_alloc_l _ (cell_alloc_l _ c0.1.1), frozen_alloc_l _ (cell_alloc_l _ c0.1.1) (frozen_alloc_l _ c0.1.1 c0.1.2)⟩, ⟨cell_alloc_l _ (cell_alloc_l _ c0.2.1), frozen_alloc_l _ (cell_alloc_l _ c0.2.1) (frozen_alloc_l _ c0.2.1 c0.2.2)⟩⟩, hB0⟩
    (fun x => { tmps := #[.string s, .int .i64 k, undef, undef, .pointer (some ⟨w.heap.size, 0, none⟩), .int .i64 0, .pointer (some ⟨w.heap.size + 1, 0, none⟩), .int .i64 (x.1 : Int), .string x.2, .int .i64 k, .bool false, .bool false, .int .i64 k, .string s, .int .i64 s.size, .bool false, .bool false, undef, .string s, .int .i64 k, .string (s.extract 0 k), .func (.func 21) #[] #[.pointer (some ⟨w.heap.size + 1 + 1, 0, none⟩)], .int .i64 (x.1 : Int), .string x.2, undef, undef, undef, undef, undef, undef], defers := [] }) ?assign ?body ?done ?stop
  case assign =>
    intro l x W K hK
    gi_wp2
    simpa [encs] using hK
  case body =>
    rintro l pre x W ⟨⟨⟨p0, f0⟩, ⟨p1, f1⟩, ⟨r0, g0⟩, r1, g1⟩, hB⟩ hlen
    clear c0 c1 c2 hB0
    gi_wp2
    obtain ⟨t0, t1, t2, t3⟩ := two_set (.int .i64 (x.1 : Int)) (.int .i64 (wrap64 ((x.2.size : Int) + 1))) p0 p1
    refine ⟨(KeepsOthers.setCell _ _ _).trans (KeepsOthers.setCell _ _ _), trivial, ?_, (hB.setCell (p := ⟨w.heap.size + 1, 0, none⟩) (by simp) _).setCell (p := ⟨w.heap.size + 1, 1, none⟩) (by simp) _⟩
    rw [lastP_snoc, t0, t1, t2 _ _ (by omega), t2 _ _ (by omega), t3, t3, t3, t3]
    exact ⟨⟨rfl, f0⟩, ⟨rfl, f1⟩, ⟨r0, g0⟩, r1, g1⟩
  case done =>
    rintro D ys W hD rfl ⟨⟨⟨p0, f0⟩, ⟨p1, f1⟩, ⟨r0, g0⟩, r1, g1⟩, hB⟩ hK
    clear c0 c1 c2 hB0
    rw [HP.out] at p0 p1
    gi_wp2
    obtain ⟨t0, t1, t2, t3⟩ := two_set (.int .i64 P.1) (.int .i64 P.2) r0 r1
    have hK' := ((KeepsOthers.setCell W ⟨w.heap.size, 0, none⟩ (.int .i64 P.1)).trans (KeepsOthers.setCell _ ⟨w.heap.size, 1, none⟩ (.int .i64 P.2))).same D _ hK rfl
    refine ⟨by simp, .inl ⟨_, _, rfl, run_takeDeferred hK', ?_⟩⟩
    have e0 := cell_kept t0 (grownBy_putObj' _ D (.deferred none)) (fun r e => by cases e; exact ⟨_, hK', rfl⟩)
    have e1 := cell_kept t1 (grownBy_putObj' _ D (.deferred none)) (fun r e => by cases e; exact ⟨_, hK', rfl⟩)
    refine ⟨.tuple #[.agg #[.int .i64 P.1, .int .i64 P.2], .int .i64 0], ?_, rfl, ((hB.setCell (p := ⟨w.heap.size, 0, none⟩) (by simp) _).setCell (p := ⟨w.heap.size, 1, none⟩) (by simp) _).trans (belowK_b (w := w) (Nat.le_refl _) _ D _ _ (by simp at hD; omega) hK' rfl rfl)⟩
    simp [results, Tryd.results8, go_sem, e0, e1]
  case stop =>
    rintro D c pre W _ _ h _
    exact h.elim

end Go.Proofs.YtgncoeihlfcaiaaDoor
