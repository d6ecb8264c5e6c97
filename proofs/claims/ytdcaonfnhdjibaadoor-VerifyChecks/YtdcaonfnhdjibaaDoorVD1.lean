import Derived.Test.YtdcaonfnhdjibaaDoorVC1
namespace Go.Proofs.YtdcaonfnhdjibaaDoor
open Go.RowKit

/-! The law's own codes. -/
def plE : En := { name := ⟨#[109, 97, 105, 110]⟩, start := 0, params := 0, sorts := [], result := 0 }
def plC : Cd := { ins := [(1, 1, 0), (19, 1, 0), (13, 0, 0)], ens := [plE], txs := [], main := 0 }
def plD : Cd := { ins := [(1, 1, 0), (19, 1, 0)], ens := [plE], txs := [], main := 0 }
theorem sur_pl : surS plC = .ok [some [], some [1], some []] := by kernel_rfl
theorem chk_pl : chkS plD = (144, 1) := by decide
set_option maxRecDepth 100000 in
set_option maxHeartbeats 1000000 in
theorem plain_any (w : World) : Calls Tryd.prog 22 #[] w fun z w' => Hid (∃ g e, z = .returned (codeV (some ⟨g, 0, none⟩) (some ⟨e, 0, none⟩) none 3 1 0 plC) ∧ CodeM w' w'.heap.size (some ⟨g, 0, none⟩) (some ⟨e, 0, none⟩) none [(plE, none, 0)] plC ∧ Below w.heap.size w w') := by
  obtain ⟨X1, hX1⟩ : ∃ X1, w.alloc (.cells #[.slice (some ⟨w.heap.size + 1, 0, none⟩) 3 3, .slice (some ⟨w.heap.size + 1 + 1, 0, none⟩) 1 1, .slice none 0 0, .int .i64 0] 26) = X1 := ⟨_, rfl⟩
  have z1 : X1.heap.size = w.heap.size + 1 := by rw [← hX1]; simp
  obtain ⟨X2, hX2⟩ : ∃ X2, X1.alloc (.cells #[.int .i64 1, .int .i64 1, .int .i64 0, .int .i64 19, .int .i64 1, .int .i64 0, .int .i64 13, .int .i64 0, .int .i64 0] 38) = X2 := ⟨_, rfl⟩
  have z2 : X2.heap.size = w.heap.size + 1 + 1 := by rw [← hX2]; simp [z1]
  obtain ⟨X3, hX3⟩ : ∃ X3, X2.alloc (.cells #[.string ⟨#[109, 97, 105, 110]⟩, .int .i64 0, .int .i64 0, .slice none 0 0, .int .i64 0] 47) = X3 := ⟨_, rfl⟩
  have z3 : X3.heap.size = w.heap.size + 3 := by rw [← hX3]; simp [z2]
  have b1 : Below w.heap.size w X1 := by rw [← hX1]; exact (Below.refl _ w).alloc (Nat.le_refl _) _
  have b2 : Below X1.heap.size X1 X2 := by rw [← hX2]; exact (Below.refl _ X1).alloc (Nat.le_refl _) _
  have b3 : Below X2.heap.size X2 X3 := by rw [← hX3]; exact (Below.refl _ X2).alloc (Nat.le_refl _) _
  have F1 : Full X3 w.heap.size 26 [.slice (some ⟨w.heap.size + 1, 0, none⟩) 3 3, .slice (some ⟨w.heap.size + 1 + 1, 0, none⟩) 1 1, .slice none 0 0, .int .i64 0] := by
    have : Full X1 w.heap.size 26 [.slice (some ⟨w.heap.size + 1, 0, none⟩) 3 3, .slice (some ⟨w.heap.size + 1 + 1, 0, none⟩) 1 1, .slice none 0 0, .int .i64 0] := by rw [← hX1]; exact Full.new w _ _
    exact (this.next b2).next b3
  have F2 : Full X3 (w.heap.size + 1) 38 ([.int .i64 1, .int .i64 1, .int .i64 0, .int .i64 19, .int .i64 1, .int .i64 0, .int .i64 13, .int .i64 0, .int .i64 0] ++ []) := by
    have : Full X2 X1.heap.size 38 [.int .i64 1, .int .i64 1, .int .i64 0, .int .i64 19, .int .i64 1, .int .i64 0, .int .i64 13, .int .i64 0, .int .i64 0] := by rw [← hX2]; exact Full.new X1 _ _
    rw [z1] at this
    exact this.next b3
  have F3 : Full X3 (w.heap.size + 1 + 1) 47 ([.string ⟨#[109, 97, 105, 110]⟩, .int .i64 0, .int .i64 0, .slice none 0 0, .int .i64 0] ++ []) := by
    have : Full X3 X2.heap.size 47 [.string ⟨#[109, 97, 105, 110]⟩, .int .i64 0, .int .i64 0, .slice none 0 0, .int .i64 0] := by rw [← hX3]; exact Full.new X2 _ _
    rw [z2] at this
    exact this
  have q0 := (F1.cell 0 _ rfl).1
  have q1 := (F1.cell 1 _ rfl).1
  have q2 := (F1.cell 2 _ rfl).1
  have q3 := (F1.cell 3 _ rfl).1
  have HE : Hid (∃ g e, Ending.returned (.agg #[.slice (some ⟨w.heap.size + 1, 0, none⟩) 3 3, .slice (some ⟨w.heap.size + 1 + 1, 0, none⟩) 1 1, .slice none 0 0, .int .i64 0]) = .returned (codeV (some ⟨g, 0, none⟩) (some ⟨e, 0, none⟩) none 3 1 0 plC) ∧ CodeM X3 X3.heap.size (some ⟨g, 0, none⟩) (some ⟨e, 0, none⟩) none [(plE, none, 0)] plC ∧ Below w.heap.size w X3) := by
    refine ⟨w.heap.size + 1, w.heap.size + 1 + 1, rfl, ⟨rfl, fun _ => ⟨_, _, rfl, by omega, F2.range⟩, fun _ => ⟨_, _, rfl, by omega, F3.range⟩, fun h => absurd h (by decide), fun x hx => ?_, by decide, by decide, by decide, fun t ht => by cases ht⟩, below2 (below2 b1 b2) b3⟩
    simp only [List.mem_singleton] at hx
    subst hx
    exact ⟨fun h => absurd h (by decide), by decide, by decide⟩
  rw [← hX3, ← hX2, ← hX1] at q0 q1 q2 q3 HE
  clear F1 F2 F3 b1 b2 b3 hX3 hX2 hX1 z1 z2 z3
  go_enter Tryd.func22, Tryd.ntmps22
  go_wp2
  refine bodyPost_ret (v := .agg #[.slice (some ⟨w.heap.size + 1, 0, none⟩) 3 3, .slice (some ⟨w.heap.size + 1 + 1, 0, none⟩) 1 1, .slice none 0 0, .int .i64 0]) (by simp [results, Tryd.results22, go_sem, q0, q1, q2, q3]) rfl HE
end Go.Proofs.YtdcaonfnhdjibaaDoor
namespace Go.Proofs.YtdcaonfnhdjibaaDoor
open Go.RowKit

theorem sz_Ins : ∀ w : World, (sizeOf 38).run Tryd.prog w = .ok 3 w := fun w => by kernel_rfl
theorem pl_cp : ∀ y ∈ [((plE, none, 0) : Em)], y.1.sorts.length ≤ y.2.2 ∧ (y.2.1 = none → y.1.sorts.length = 0) := fun y hy => by
  simp only [List.mem_singleton] at hy
  subst hy
  exact ⟨Nat.le_refl _, fun _ => rfl⟩
theorem cut_plain {w : World} {B : Nat} {g e : Nat} (h : CodeM w B (some ⟨g, 0, none⟩) (some ⟨e, 0, none⟩) none [(plE, none, 0)] plC) : CodeM w B (some ⟨g, 0, none⟩) (some ⟨e, 0, none⟩) none [(plE, none, 0)] plD := by
  refine ⟨rfl, fun _ => ?_, h.er, h.tr, h.sr, by decide, h.el, h.tl, h.ts⟩
  obtain ⟨g', o', h1, h2, h3⟩ := h.ir (by decide)
  refine ⟨g', o', h1, h2, fun j v hv => h3 j v ?_⟩
  have hj : j < 6 := (List.getElem?_eq_some_iff.1 hv).1
  rw [← hv]
  match j, hj with
  | 0, _ => rfl
  | 1, _ => rfl
  | 2, _ => rfl
  | 3, _ => rfl
  | 4, _ => rfl
  | 5, _ => rfl
theorem ls_at {w : World} {b : Nat} {v : Value} {K : Kn} {n : Nat} {vs : List Value} (h : LsM w b v K n vs) (i : Nat) (hi : i < n) : ∃ g cap x, v = .slice (some ⟨g, 0, none⟩) n cap ∧ w.cell? ⟨g, i, none⟩ = some x ∧ LsAt w b (K.getD i none) x := by
  have hl : vs.length = n := by have := h.own.1; omega
  obtain ⟨q, cap, rfl, -, -⟩ := own_slice h.own
  rcases h.own.2 with ⟨e, h0⟩ | ⟨g, cap', cur, e, -⟩
  · omega
  · cases e
    refine ⟨g, _, vs[i], rfl, ?_, h.at_ i _ (List.getElem?_eq_getElem _)⟩
    rw [h.own.cellAt i (by omega), List.getElem?_eq_getElem]
set_option maxRecDepth 100000 in
set_option maxHeartbeats 2000000 in
theorem lives_any (w : World) (ht : Tabs w) : Calls Tryd.prog 7 #[] w fun z w' => z = .returned (.bool true) ∧ Below w.heap.size w w' := by
  have HT : Hid (Tabs w) := ht
  have c1 := plain_any w
  clear ht
  go_enter Tryd.func7, Tryd.ntmps7
  go_wp2_with fail
  refine c1.mono ?_
  rintro z W1 h1
  obtain ⟨g1, e1, rfl, m1, b1⟩ := h1.out
  have c2 := stacks_any m1 pl_cp 3 1 0 (Nat.le_refl _) (HT.out.next b1)
  clear c1 h1
  rw [sur_pl] at c2
  unfold codeV at c2 ⊢
  go_wp2_with fail
  refine c2.mono ?_
  rintro z W2 h2
  obtain ⟨b2, v, vs, rfl, hls⟩ := h2.out
  obtain ⟨gl, cl, x, rfl, y1, hx⟩ := ls_at hls 1 (by decide)
  obtain ⟨gx, -, rfl, hF⟩ := hx
  have y2 := (hF.cell 0 _ rfl).1
  have HB2 : Hid (Below w.heap.size w W2) := below2 b1 b2
  have c3 := plain_any W2
  clear c2 h2 hls m1 b1 b2
  have HY : Hid (∀ W, Below W2.heap.size W2 W → W.cell? ⟨gl, 1, none⟩ = some (.slice (some ⟨gx, 0, none⟩) 1 1) ∧ W.cell? ⟨gx, 0, none⟩ = some (.int .i64 1)) := fun W hb => ⟨(hb.cell (p := ⟨gl, 1, none⟩) (block_lt_of_cell y1)).trans y1, (hb.cell (p := ⟨gx, 0, none⟩) (block_lt_of_cell y2)).trans y2⟩
  clear y1 y2 hF
  go_wp2_with fail
  refine c3.mono ?_
  rintro z W3 h3
  obtain ⟨g3, e3, rfl, m3, b3⟩ := h3.out
  clear c3 h3
  have hcut := cut_run (t := 22) Tryd.underlying22 sz_Ins ⟨g3, 0, none⟩ 3 3 2 (by decide)
  simp only [Int.cast_ofNat_Int] at hcut
  have b4 : Below W3.heap.size W3 (W3.alloc (.cells #[.slice (some ⟨g3, 0, none⟩) 2 3, .slice (some ⟨e3, 0, none⟩) 1 1, .slice none 0 0, .int .i64 0] 26)) := (Below.refl _ W3).alloc (Nat.le_refl _) _
  have c4 := check_any ((cut_plain m3).below b4 (Nat.le_refl _)) pl_cp 3 1 0 b4.size (HT.out.next (below2 HB2.out (below2 b3 b4)))
  rw [chk_pl] at c4
  have HB4 : Hid (Below W2.heap.size W2 (W3.alloc (.cells #[.slice (some ⟨g3, 0, none⟩) 2 3, .slice (some ⟨e3, 0, none⟩) 1 1, .slice none 0 0, .int .i64 0] 26))) := below2 b3 b4
  clear m3 b3 b4
  unfold codeV at c4 ⊢
  go_wp2_with fail
  refine c4.mono ?_
  rintro z W5 ⟨rfl, b5⟩
  obtain ⟨y1, y2⟩ := HY.out W5 (below2 HB4.out b5)
  have HB5 : Hid (Below w.heap.size w W5) := below2 HB2.out (below2 HB4.out b5)
  clear c4 HY HB4 b5 hcut
  go_wp2
  go_ret
  exact ⟨rfl, HB5.out⟩
end Go.Proofs.YtdcaonfnhdjibaaDoor
namespace Go.Proofs.YtdcaonfnhdjibaaDoor
open Go.RowKit

/-! Stacks that read as the same are the same. -/
set_option maxRecDepth 100000 in
set_option maxHeartbeats 2000000 in
theorem same_yes {w : World} {q1 q2 : Option Addr} {n c1 c2 : Nat} {s : List Int} (h1 : Row w w.heap.size q1 n (sv s)) (h2 : Row w w.heap.size q2 n (sv s)) (hl : s.length = n) (hn : n ≤ 60000) :
    Calls Tryd.prog 12 #[.slice q1 n c1, .slice q2 n c2] w fun z w' => z = .returned (.bool true) ∧ Below w.heap.size w w' := by
  have H1 : Hid (Row w w.heap.size q1 n (sv s) ∧ Row w w.heap.size q2 n (sv s)) := ⟨h1, h2⟩
  have HL : Hid (s.length = n) := hl
  clear h1 h2 hl
  go_enter Tryd.func12, Tryd.ntmps12
  go_wp2_with fail
  go_loopw [5] (fun sv wr => ∃ i : Nat, i ≤ n ∧ sv = .int .i64 (i : Int) ∧ Hid (Below w.heap.size w wr)) (fun sv _ => n - (intOf sv).toNat)
  case atStart => exact ⟨0, Nat.zero_le _, rfl, Below.refl _ _⟩
  case round =>
    obtain ⟨i, hi, rfl, HB⟩ := hrel
    by_cases hlt : i < n
    · obtain ⟨g, o, rfl, k1, k2⟩ := (H1.out.1.below HB.out (Nat.le_refl _)) (by omega)
      obtain ⟨g', o', rfl, k1', k2'⟩ := (H1.out.2.below HB.out (Nat.le_refl _)) (by omega)
      have hsv : (sv s)[i]? = some (.int .i64 (s[i]'(by rw [HL.out]; exact hlt))) := by
        unfold sv
        rw [List.getElem?_map, List.getElem?_eq_getElem (by rw [HL.out]; exact hlt)]
        rfl
      have x1 := k2 i _ hsv
      have x2 := k2' i _ hsv
      generalize (s[i]'(by rw [HL.out]; exact hlt)) = v at x1 x2
      have a0 : (0 : Int) ≤ (i : Int) := by omega
      have a1 : (i : Int) < (n : Int) := by omega
      have hw : IntKind.i64.wrap ((i : Int) + 1) = (i : Int) + 1 := by rw [IntKind.wrap_i64]; omega
      clear hsv k1 k2 k1' k2'
      go_upto_region 6 with fail
      go_region
      have HBd : Hid (Below w.heap.size w wr.drew) := HB.out.drew
      go_wp2
      exact ⟨⟨i + 1, by omega, by go_num, HBd⟩, by simp [intOf]; omega⟩
    · obtain rfl : i = n := by omega
      have i1 : ¬ ((i : Int) < (i : Int)) := by omega
      go_wp2
      go_ret
      exact ⟨rfl, HB.out⟩
theorem LsAt.row {w : World} {b : Nat} {k : Option (List Int)} {v : Value} (h : LsAt w b k v) : ∃ q, v = .slice q (k.getD []).length (k.getD []).length ∧ Row w w.heap.size q (k.getD []).length (sv (k.getD [])) ∧ (q = none ↔ k = none) := by
  cases k with
  | none => exact ⟨none, h, fun h0 => absurd h0 (by simp), by simp⟩
  | some s =>
    obtain ⟨g, h1, h2, h3⟩ := h
    refine ⟨_, h2, fun _ => ⟨g, 0, rfl, h3.lt, ?_⟩, by simp⟩
    have f : Full w g 45 (sv s ++ []) := by rw [List.append_nil]; exact h3
    exact f.range
theorem nilEqL (w : World) : (binOp BinOp.eql 35 (.slice none 0 0) (.slice none 0 0)).run Tryd.prog w = .ok (.bool true) w := by kernel_rfl
theorem nilNeL (a : Addr) (n cap : Nat) (w : World) : (binOp BinOp.eql 35 (.slice (some a) n cap) (.slice none 0 0)).run Tryd.prog w = .ok (.bool false) w := by kernel_rfl
set_option maxRecDepth 100000 in
set_option maxHeartbeats 4000000 in
theorem sameStacks_yes {w : World} {b b' n : Nat} {v v' : Value} {K : Kn} {vs vs' : List Value} (h : LsM w b v K n vs) (h' : LsM w b' v' K n vs') (hn : n ≤ 60000) (hK : All SOk K) :
    Calls Tryd.prog 11 #[v, v'] w fun z w' => z = .returned (.bool true) ∧ Below w.heap.size w w' := by
  obtain ⟨q, cap, rfl, -⟩ := own_slice h.own
  obtain ⟨q', cap', rfl, -⟩ := own_slice h'.own
  have H : Hid (LsM w b (.slice q n cap) K n vs ∧ LsM w b' (.slice q' n cap') K n vs' ∧ All SOk K) := ⟨h, h', hK⟩
  clear h h' hK
  go_enter Tryd.func11, Tryd.ntmps11
  go_wp2_with fail
  go_loopw [13] (fun sv wr => ∃ i : Nat, i ≤ n ∧ sv = .int .i64 (i : Int) ∧ Hid (Below w.heap.size w wr)) (fun sv _ => n - (intOf sv).toNat)
  case atStart => exact ⟨0, Nat.zero_le _, rfl, Below.refl _ _⟩
  case round =>
    obtain ⟨i, hi, rfl, HB⟩ := hrel
    by_cases hlt : i < n
    · obtain ⟨g, cp, x, hv, x1, a1⟩ := ls_at (H.out.1.next HB.out) i hlt
      obtain ⟨g', cp', x', hv', x2, a2⟩ := ls_at (H.out.2.1.next HB.out) i hlt
      cases hv
      cases hv'
      have y1 := cell_regrown x1
      have y2 := cell_regrown x2
      have i0 : (0 : Int) ≤ (i : Int) := by omega
      have i1 : (i : Int) < (n : Int) := by omega
      obtain ⟨q1, rfl, r1, e1⟩ := a1.row
      obtain ⟨q2, rfl, r2, e2⟩ := a2.row
      have hlen : (((K.getD i none).getD []).length) ≤ 60000 := by
        cases hk : K.getD i none with
        | none => simp
        | some s => have := (H.out.2.2 i s hk).len; simp; omega
      have cS : ∀ dd os, Calls Tryd.prog 12 #[.slice q1 ((K.getD i none).getD []).length ((K.getD i none).getD []).length, .slice q2 ((K.getD i none).getD []).length ((K.getD i none).getD []).length] (Sort.grow (redrawn wr dd) os) fun e w'' => e = .returned (.bool true) ∧ ∃ z : Regrown, w'' = Sort.grow (redrawn wr z.d) z.os := fun dd os => by
        have hb := below_regrown wr dd os
        exact Calls.regrown_of (same_yes ((r1.below hb (Nat.le_refl _)).up hb.size) ((r2.below hb (Nat.le_refl _)).up hb.size) rfl hlen)
      have nE := nilEqL
      cases hq : K.getD i none with
      | none =>
        obtain rfl := e1.2 hq
        obtain rfl := e2.2 hq
        rw [hq] at cS y1 y2
        clear x1 x2 a1 a2 r1 r2 e1 e2 hq hlen
        simp only [Option.getD_none, List.length_nil] at cS y1 y2
        go_upto_region 6 with fail
        refine wp_region_quiet_below (by kernel_rfl) (by kernel_rfl) ?_
        repeat (first | go_big_quiet_step (first | with_reducible exact cS _ _) | quiet_step (first | with_reducible exact cS _ _))
        refine wpQuiet_nil ?_
        intro _ hw'
        obtain ⟨⟨dq, osq⟩, hw''⟩ := hw'
        subst hw''
        have hY := below_regrown wr dq osq
        first | (change Exit.then _ _ Exit.normal _ (Sort.grow (redrawn wr dq) osq)) | skip
        generalize Sort.grow (redrawn wr dq) osq = Y at hY ⊢
        clear cS
        have HBd : Hid (Below w.heap.size w Y) := below2 HB.out hY
        go_wp2
        exact ⟨⟨i + 1, by omega, by go_num, HBd⟩, by simp [intOf]; omega⟩
      | some s =>
        obtain ⟨p1, rfl⟩ := Option.ne_none_iff_exists'.1 (fun h => by have := e1.1 h; rw [hq] at this; cases this)
        obtain ⟨p2, rfl⟩ := Option.ne_none_iff_exists'.1 (fun h => by have := e2.1 h; rw [hq] at this; cases this)
        rw [hq] at cS y1 y2
        clear x1 x2 a1 a2 r1 r2 e1 e2 hq hlen
        simp only [Option.getD_some] at cS y1 y2
        have n1 := nilNeL p1 s.length s.length
        have n2 := nilNeL p2 s.length s.length
        go_upto_region 6 with fail
        refine wp_region_quiet_below (by kernel_rfl) (by kernel_rfl) ?_
        repeat (first | go_big_quiet_step (first | with_reducible exact cS _ _) | quiet_step (first | with_reducible exact cS _ _))
        refine wpQuiet_nil ?_
        intro _ hw'
        obtain ⟨⟨dq, osq⟩, hw''⟩ := hw'
        subst hw''
        have hY := below_regrown wr dq osq
        first | (change Exit.then _ _ Exit.normal _ (Sort.grow (redrawn wr dq) osq)) | skip
        generalize Sort.grow (redrawn wr dq) osq = Y at hY ⊢
        clear cS
        have HBd : Hid (Below w.heap.size w Y) := below2 HB.out hY
        go_wp2
        exact ⟨⟨i + 1, by omega, by go_num, HBd⟩, by simp [intOf]; omega⟩
    · obtain rfl : i = n := by omega
      have i1 : ¬ ((i : Int) < (i : Int)) := by omega
      go_wp2
      go_ret
      exact ⟨rfl, HB.out⟩
end Go.Proofs.YtdcaonfnhdjibaaDoor
