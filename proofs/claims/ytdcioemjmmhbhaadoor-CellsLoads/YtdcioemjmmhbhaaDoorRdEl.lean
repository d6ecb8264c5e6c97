import Derived.Test.YtdcioemjmmhbhaaDoorRd
namespace Go.Proofs.YtdcioemjmmhbhaaDoor
open Go.RowKit

theorem may_parts {v : V} {kind : Int} {c : Nat} (h : mayS v kind c = true) : v.1 = kind ∧ okV v.1 v.2.1 v.2.2 = true := by
  unfold mayS at h
  simp only [Bool.and_eq_true, beq_iff_eq] at h
  exact h.1
theorem ok_parts {k n : Int} {s : ByteArray} (h : okV k n s = true) : (k = 2 → (n = 0 ∨ n = 1) ∧ s = e0) ∧ (k = 3 → n = 0 ∧ s.size ≤ 256) ∧ (k = 1 ∨ k = 4 → s = e0) := by
  unfold okV at h
  refine ⟨fun e => ?_, fun e => ?_, fun e => ?_⟩
  · subst e
    simp at h
    exact ⟨h.1, eq_e0 h.2⟩
  · subst e
    simp at h
    exact h
  · rcases e with rfl | rfl
    · simp at h
      exact eq_e0 h
    · simp at h
      exact eq_e0 h.2

set_option maxRecDepth 100000 in
set_option maxHeartbeats 4000000 in
theorem element_any (w : World) (rb : Nat) (k n : Int) (s : ByteArray) (b : List UInt8) (c : Nat) (hk : 1 ≤ k ∧ k ≤ 4) (hm : mayS (k, n, s) k c = true) (hn : -9223372036854775808 ≤ n ∧ n ≤ 9223372036854775807) (hl : (elB (k, n, s) ++ b).length ≤ 9223372036854775807) (h : Box2 w rb (.string (str (elB (k, n, s) ++ b))) (.bool false)) :
    Calls Tryd.prog 55 #[.pointer (some ⟨rb, 0, none⟩), .int .i64 k] w fun e w' => e = .returned (.agg #[.int .i64 k, .int .i64 n, .string s]) ∧ Hid (Box2 w' rb (.string (str b)) (.bool false) ∧ Kp (fun x => x = rb) w w') := by
  have hrl : rb < w.heap.size := block_lt_of_cell h.1.1
  obtain ⟨o2, o3, o1⟩ := ok_parts (k := k) (n := n) (s := s) (may_parts hm).2
  have B0 : Below w.heap.size w ((w.alloc (.cells #[.int .i64 0, .int .i64 0, .string e0] 37)).alloc (.cells #[.int .i64 k, .int .i64 0, .string e0] 37)) := ((Below.refl _ w).alloc (Nat.le_refl _) _).alloc (by simp) _
  have b4 := (Box3.new w 0 0 e0 37).alloc (.cells #[.int .i64 k, .int .i64 0, .string e0] 37)
  have b5 := Box3.new (w.alloc (.cells #[.int .i64 0, .int .i64 0, .string e0] 37)) k 0 e0 37
  rw [World.size_alloc] at b5
  have z0 : w.heap.size + 1 < ((w.alloc (.cells #[.int .i64 0, .int .i64 0, .string e0] 37)).alloc (.cells #[.int .i64 k, .int .i64 0, .string e0] 37)).heap.size := by simp
  -- what is left when the value has been read
  have FIN : ∀ (W : World), Kp (fun x => x = rb) w W → Box2 W rb (.string (str b)) (.bool false) → Box3 W w.heap.size 0 0 e0 → Box3 (put3 W w.heap.size k n s) w.heap.size k n s ∧ Hid (Box2 (put3 W w.heap.size k n s) rb (.string (str b)) (.bool false) ∧ Kp (fun x => x = rb) w (put3 W w.heap.size k n s)) := fun W hk hb h4 =>
    ⟨h4.put k n s, hb.same (put3_heap (by omega)), kp_put3 hk (.inr (Nat.le_refl _)) _ _ _⟩
  have HFIN : Hid _ := FIN
  clear FIN
  by_cases h2 : k = 2
  · obtain ⟨n01, rfl⟩ := o2 h2
    have he : elB (k, n, e0) = numB n 1 := by unfold elB; rw [if_pos h2]; simp [numB]
    rw [he] at h hl
    have hv : numV (numB n 1) = n := by rw [nv1]; omega
    subst h2
    clear o3 o1 he
    go_enter Tryd.func55, Tryd.ntmps55
    go_wp2_with fail
    generalize (w.alloc (.cells #[.int .i64 0, .int .i64 0, .string e0] 37)).alloc (.cells #[.int .i64 2, .int .i64 0, .string e0] 37) = X at B0 b4 b5 z0 ⊢
    have hnum := number_any X rb (numB n 1) b hl (h.below B0 hrl)
    rw [numB_len, hv] at hnum
    refine hnum.mono ?_
    rintro e w1 ⟨rfl, hq⟩
    obtain ⟨q1, q2⟩ := hq.out
    have c4 := b4.same (q2.block _ (by omega) (by omega))
    have c5 := b5.same (q2.block _ z0 (by omega))
    have KP : Kp (fun x => x = rb) w w1 := (Kp.of B0).trans q2 (fun _ _ q => q)
    clear hnum b4 b5 hq
    obtain ⟨⟨⟨x0, f0⟩, ⟨x1, f1⟩⟩, x2, f2⟩ := id c4
    obtain ⟨⟨⟨y0, g0⟩, ⟨y1, g1⟩⟩, y2, g2⟩ := id c5
    have c4' := c4.set ⟨w.heap.size + 1, 1, none⟩ (.int .i64 n) (by show w.heap.size + 1 ≠ w.heap.size; omega)
    have k4' := KP.setCell (p := ⟨w.heap.size + 1, 1, none⟩) (.inr (Nat.le_succ _)) (.int .i64 n)
    have r4' : Box2 (w1.setCell ⟨w.heap.size + 1, 1, none⟩ (.int .i64 n)) rb (.string (str b)) (.bool false) := q1.same (set_heap (a := ⟨w.heap.size + 1, 1, none⟩) (by show rb ≠ w.heap.size + 1; omega))
    go_wp2
    change bodyPost Tryd.prog _ _ _ _ (put3 (w1.setCell ⟨w.heap.size + 1, 1, none⟩ (.int .i64 n)) w.heap.size _ _ _)
    obtain ⟨p, r⟩ := HFIN.out _ k4' r4' c4'
    obtain ⟨⟨⟨p0, -⟩, ⟨p1, -⟩⟩, p2, -⟩ := p
    exact bodyPost_ret (v := .agg #[.int .i64 2, .int .i64 n, .string e0]) (by simp [results, Tryd.results55, go_sem, p0, p1, p2]) rfl ⟨rfl, r⟩
  have h2' : (k == 2) = false := by simpa using h2
  by_cases h3 : k = 3
  · obtain ⟨rfl, hs⟩ := o3 h3
    have he : elB (k, 0, s) = numB (s.size : Int) 2 ++ s.data.toList := by unfold elB; rw [if_neg h2, if_pos h3]
    rw [he, List.append_assoc] at h hl
    have hv : numV (numB (s.size : Int) 2) = (s.size : Int) := by rw [nv2]; omega
    have hst : str s.data.toList = s := by simp [str]
    have hsl : (s.size : Int) = ((s.data.toList.length : Nat) : Int) := by rw [← Lib.size_eq]
    subst h3
    clear o2 o1 he h2
    go_enter Tryd.func55, Tryd.ntmps55
    go_wp2_with fail
    generalize (w.alloc (.cells #[.int .i64 0, .int .i64 0, .string e0] 37)).alloc (.cells #[.int .i64 3, .int .i64 0, .string e0] 37) = X at B0 b4 b5 z0 ⊢
    have hnum := number_any X rb (numB (s.size : Int) 2) (s.data.toList ++ b) hl (h.below B0 hrl)
    rw [numB_len, hv] at hnum
    refine hnum.mono ?_
    rintro e w1 ⟨rfl, hq⟩
    obtain ⟨q1, q2⟩ := hq.out
    have hby := bytes_any w1 rb s.data.toList b (by rw [List.length_append] at hl; omega) q1
    rw [← hsl, hst] at hby
    have r1 : Box2 (w1.setCell ⟨rb, 0, none⟩ (.string (str b))) rb (.string (str b)) (.bool false) := by
      refine ⟨⟨World.cell?_setCell_same' _ _ _ (by rw [q1.1.1]; rfl), by rw [World.frozen?_setCell]; exact q1.1.2⟩, ?_, by rw [World.frozen?_setCell]; exact q1.2.2⟩
      rw [World.cell?_setCell_other _ _ _ _ (by simp)]
      exact q1.2.1
    have k1 : Kp (fun x => x = rb) w (w1.setCell ⟨rb, 0, none⟩ (.string (str b))) := ((Kp.of B0).trans q2 (fun _ _ q => q)).setCell (p := ⟨rb, 0, none⟩) (.inl rfl) _
    have e4 := b4.same ((set_heap (w := w1) (a := ⟨rb, 0, none⟩) (v := .string (str b)) (by show w.heap.size ≠ rb; omega)).trans (q2.block _ (by omega) (by omega)))
    have e5 := b5.same ((set_heap (w := w1) (a := ⟨rb, 0, none⟩) (v := .string (str b)) (by show w.heap.size + 1 ≠ rb; omega)).trans (q2.block _ z0 (by omega)))
    have z1 : w.heap.size + 1 < (w1.setCell ⟨rb, 0, none⟩ (.string (str b))).heap.size := by rw [set_size]; have := q2.size; omega
    have hr1 : rb < (w1.setCell ⟨rb, 0, none⟩ (.string (str b))).heap.size := block_lt_of_cell r1.1.1
    clear hnum b4 b5 hq hsl
    go_wp2_with fail
    refine hby.mono ?_
    rintro e w2 ⟨rfl, rfl⟩
    generalize w1.setCell ⟨rb, 0, none⟩ (.string (str b)) = W2 at r1 k1 e4 e5 z1 hr1 ⊢
    clear hby
    go_wp2_with fail
    refine (clone_any s W2 (by omega)).mono ?_
    rintro e w3 ⟨rfl, hb3⟩
    have c4 := e4.below hb3 (by omega)
    have c5 := e5.below hb3 z1
    have r3 := r1.below hb3 hr1
    have KP := k1.next hb3
    obtain ⟨⟨⟨x0, f0⟩, ⟨x1, f1⟩⟩, x2, f2⟩ := id c4
    obtain ⟨⟨⟨y0, g0⟩, ⟨y1, g1⟩⟩, y2, g2⟩ := id c5
    have c4' := c4.set ⟨w.heap.size + 1, 2, none⟩ (.string s) (by show w.heap.size + 1 ≠ w.heap.size; omega)
    have k4' := KP.setCell (p := ⟨w.heap.size + 1, 2, none⟩) (.inr (Nat.le_succ _)) (.string s)
    have r4' : Box2 (w3.setCell ⟨w.heap.size + 1, 2, none⟩ (.string s)) rb (.string (str b)) (.bool false) := r3.same (set_heap (a := ⟨w.heap.size + 1, 2, none⟩) (by show rb ≠ w.heap.size + 1; omega))
    go_wp2
    change bodyPost Tryd.prog _ _ _ _ (put3 (w3.setCell ⟨w.heap.size + 1, 2, none⟩ (.string s)) w.heap.size _ _ _)
    obtain ⟨p, r⟩ := HFIN.out _ k4' r4' c4'
    obtain ⟨⟨⟨p0, -⟩, ⟨p1, -⟩⟩, p2, -⟩ := p
    exact bodyPost_ret (v := .agg #[.int .i64 3, .int .i64 0, .string s]) (by simp [results, Tryd.results55, go_sem, p0, p1, p2]) rfl ⟨rfl, r⟩
  · have hs0 := o1 (by omega)
    subst hs0
    have he : elB (k, n, e0) = numB n 8 := by unfold elB; rw [if_neg h2, if_neg h3]
    rw [he] at h hl
    have hv : numV (numB n 8) = n := num8 n hn.1 hn.2
    have h3' : (k == 3) = false := by simpa using h3
    clear o2 o3 o1 he h2 h3
    go_enter Tryd.func55, Tryd.ntmps55
    go_wp2_with fail
    generalize (w.alloc (.cells #[.int .i64 0, .int .i64 0, .string e0] 37)).alloc (.cells #[.int .i64 k, .int .i64 0, .string e0] 37) = X at B0 b4 b5 z0 ⊢
    have hnum := number_any X rb (numB n 8) b hl (h.below B0 hrl)
    rw [numB_len, hv] at hnum
    refine hnum.mono ?_
    rintro e w1 ⟨rfl, hq⟩
    obtain ⟨q1, q2⟩ := hq.out
    have c4 := b4.same (q2.block _ (by omega) (by omega))
    have c5 := b5.same (q2.block _ z0 (by omega))
    have KP : Kp (fun x => x = rb) w w1 := (Kp.of B0).trans q2 (fun _ _ q => q)
    clear hnum b4 b5 hq
    obtain ⟨⟨⟨x0, f0⟩, ⟨x1, f1⟩⟩, x2, f2⟩ := id c4
    obtain ⟨⟨⟨y0, g0⟩, ⟨y1, g1⟩⟩, y2, g2⟩ := id c5
    have c4' := c4.set ⟨w.heap.size + 1, 1, none⟩ (.int .i64 n) (by show w.heap.size + 1 ≠ w.heap.size; omega)
    have k4' := KP.setCell (p := ⟨w.heap.size + 1, 1, none⟩) (.inr (Nat.le_succ _)) (.int .i64 n)
    have r4' : Box2 (w1.setCell ⟨w.heap.size + 1, 1, none⟩ (.int .i64 n)) rb (.string (str b)) (.bool false) := q1.same (set_heap (a := ⟨w.heap.size + 1, 1, none⟩) (by show rb ≠ w.heap.size + 1; omega))
    go_wp2
    change bodyPost Tryd.prog _ _ _ _ (put3 (w1.setCell ⟨w.heap.size + 1, 1, none⟩ (.int .i64 n)) w.heap.size _ _ _)
    obtain ⟨p, r⟩ := HFIN.out _ k4' r4' c4'
    obtain ⟨⟨⟨p0, -⟩, ⟨p1, -⟩⟩, p2, -⟩ := p
    exact bodyPost_ret (v := .agg #[.int .i64 k, .int .i64 n, .string e0]) (by simp [results, Tryd.results55, go_sem, p0, p1, p2]) rfl ⟨rfl, r⟩
end Go.Proofs.YtdcioemjmmhbhaaDoor
