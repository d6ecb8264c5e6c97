import Derived.Test.YtchinflkjcebjabGreatDoorRXj
import Derived.Test.YtchinflkjcebjabGreatDoorCLb
namespace Go.Proofs.YtchinflkjcebjabGreatDoor
open Go.RowKit

theorem rqF_le : ∀ (f : Nat) (acc r t l : Bs), rqF f acc r = some (t, l) → t.length + l.length ≤ acc.length + r.length
  | 0, _, _, _, _, h => by cases h
  | f + 1, acc, [], t, l, h => by cases h
  | f + 1, acc, c :: r, t, l, h => by
    rw [rqF_c] at h
    split at h
    · split at h
      · injection h with h
        injection h with h1 h2
        rw [← h1, ← h2, List.length_cons]
        omega
      · cases h
    · split at h
      · rename_i b n hp
        have h1 := rqF_le f _ _ _ _ h
        have := fp_ln3 hp
        simp only [List.length_append, List.length_drop, List.length_cons, List.length_nil] at h1 this ⊢
        omega
      · cases h
theorem rwF_le : ∀ (f : Nat) (l : Bs) (T : List Tk), rwF f l = some T → T.length ≤ l.length ∧ ∀ t ∈ T, t.1.length ≤ l.length
  | 0, l, T, h => by
    injection h with h
    rw [← h]
    exact ⟨by simp, by simp⟩
  | f + 1, [], T, h => by
    injection h with h
    rw [← h]
    exact ⟨by simp, by simp⟩
  | f + 1, c :: r, T, h => by
    rw [rwF_c] at h
    split at h
    · injection h with h
      rw [← h]
      exact ⟨by simp, by simp⟩
    · split at h
      · obtain ⟨a, b⟩ := rwF_le f r T h
        rw [List.length_cons]
        exact ⟨by omega, fun t ht => by have := b t ht; omega⟩
      · split at h
        · split at h
          · cases h
          · rename_i t l hq
            split at h
            · cases h
            · rename_i T' hT
              injection h with h
              obtain ⟨a, b⟩ := rwF_le f l T' hT
              have h1 := rqF_le _ _ _ _ _ hq
              obtain ⟨k, k1, k2, el⟩ := rqF_suf _ _ _ _ _ hq
              have h2 : l.length + 1 ≤ r.length := by rw [el, List.length_drop]; omega
              simp only [List.length_nil, Nat.zero_add] at h1
              rw [← h, List.length_cons, List.length_cons]
              refine ⟨by omega, fun x hx => ?_⟩
              rcases List.mem_cons.1 hx with rfl | hx
              · show t.length ≤ _
                omega
              · have := b x hx; omega
        · rename_i h35 hbl h34
          split at h
          · cases h
          · rename_i T' hT
            injection h with h
            obtain ⟨a, b⟩ := rwF_le f _ T' hT
            have hs : isSep c = false := by
              unfold isSep
              simp only [Bool.or_eq_false_iff, beq_eq_false_iff_ne, ne_eq]
              exact ⟨⟨fun x => hbl (.inl x), fun x => hbl (.inr x)⟩, h35⟩
            have e1 := (List.takeWhile_sublist (p := fun d => !isSep d) (l := c :: r)).length_le
            have e2 : ((c :: r).dropWhile (fun d => !isSep d)).length ≤ r.length := by
              rw [List.dropWhile_cons_of_pos (by rw [hs]; rfl)]
              exact (List.dropWhile_sublist (p := fun d => !isSep d) (l := r)).length_le
            rw [List.length_cons] at e1
            rw [← h, List.length_cons, List.length_cons]
            refine ⟨by omega, fun x hx => ?_⟩
            rcases List.mem_cons.1 hx with rfl | hx
            · exact e1
            · have := b x hx; omega
structure BdW (w W : World) (s : St) : Prop where
  b : Below w.heap.size w W
  res : W.heap[w.heap.size]? = some (.cells zc 26)
  sa : BdX W (w.heap.size + 1) (w.heap.size + 1) s
theorem BdW.next {w W W' : World} {s : St} (h : BdW w W s) (k : Below W.heap.size W W') : BdW w W' s := ⟨below2 h.b k, (k.block _ (Array.getElem?_eq_some_iff.1 h.res).1).trans h.res, h.sa.next k⟩
theorem BdW.step {w W W' : World} {s s' : St} (h : BdW w W s) (k : Below (w.heap.size + 1) W W') (ha : BdX W' (w.heap.size + 1) (w.heap.size + 1) s') : BdW w W' s' := ⟨h.b.trans (k.mono (Nat.le_succ _)), (k.block _ (Nat.lt_succ_self _)).trans h.res, ha⟩
theorem BdW.start (w : World) : BdW w ((w.alloc (.cells zc 26)).alloc (.cells #[.slice none 0 0, .slice none 0 0, .slice none 0 0, .int .i64 0, .bool false] 94)) st0 := by
  have n1 : Below w.heap.size w (w.alloc (.cells zc 26)) := (Below.refl _ w).alloc (Nat.le_refl _) _
  have z1 : (w.alloc (.cells zc 26)).heap.size = w.heap.size + 1 := by simp
  have P1 : (w.alloc (.cells zc 26)).heap[w.heap.size]? = some (.cells zc 26) := World.alloc_heap_new w _
  generalize w.alloc (.cells zc 26) = X at *
  have n2 : Below X.heap.size X (X.alloc (.cells #[.slice none 0 0, .slice none 0 0, .slice none 0 0, .int .i64 0, .bool false] 94)) := (Below.refl _ X).alloc (Nat.le_refl _) _
  refine ⟨below2 n1 n2, (n2.block _ (by omega)).trans P1, none, none, none, 0, 0, 0, [], ?_, Rows.nil _ _, rfl, Nat.le_refl _, by decide, by decide, by decide⟩
  rw [← z1]
  exact World.alloc_heap_new X _

theorem ras_r {l : Bs} {n : Nat} (h : rasF (l.length + 1) 1 st0 l = .inr n) : asmC l = cz ∧ asmE l = 131 ∧ asmN l = (n : Int) := by
  have e : asmS l = .inr n := by rw [← ras_asm]; unfold rasS; rw [h]
  unfold asmC asmE asmN
  rw [e]
  exact ⟨rfl, rfl, rfl⟩
theorem ras_l {l : Bs} {s : St} {k : Nat} (h : rasF (l.length + 1) 1 st0 l = .inl (s, k)) : (lackS s = true → asmC l = cz ∧ asmE l = 131 ∧ asmN l = (k : Int)) ∧ (lackS s = false → asmC l = s.c ∧ asmE l = 0 ∧ asmN l = 0) := by
  have e : asmS l = if lackS s then .inr k else .inl s.c := by rw [← ras_asm]; unfold rasS; rw [h]
  refine ⟨fun q => ?_, fun q => ?_⟩
  · rw [if_pos q] at e
    unfold asmC asmE asmN
    rw [e]
    exact ⟨rfl, rfl, rfl⟩
  · rw [if_neg (by rw [q]; decide)] at e
    unfold asmC asmE asmN
    rw [e]
    exact ⟨rfl, rfl, rfl⟩
/-- Where the loop stands: in a line, or behind the last. -/
def LpI (t : Bs) (N : Nat) (R : (St × Nat) ⊕ Nat) (p j k : Nat) (s : St) : Prop :=
  (j ≤ N ∧ p ≤ j ∧ (∀ c ∈ (t.drop p).take (j - p), c ≠ 10) ∧ ∃ f, N - p < f ∧ rasF f k s (t.drop p) = R) ∨ (j = N + 1 ∧ R = .inl (s, k))
theorem LpI.on {t : Bs} {N : Nat} {R : (St × Nat) ⊕ Nat} {p j k : Nat} {s : St} (h : LpI t N R p j k s) (hN : t.length = N) (hj : j < N) (hc : t.getD j 0 ≠ 10) : LpI t N R p (j + 1) k s := by
  rcases h with ⟨h1, h2, h3, h4⟩ | ⟨h1, -⟩
  · refine .inl ⟨hj, by omega, ?_, h4⟩
    have hl : j - p < (t.drop p).length := by rw [List.length_drop]; omega
    rw [show j + 1 - p = (j - p) + 1 by omega, List.take_succ_eq_append_getElem hl]
    intro c hm
    rcases List.mem_append.1 hm with x | x
    · exact h3 c x
    · rw [List.mem_singleton.1 x, List.getElem_drop]
      rw [List.getD_eq_getElem?_getD, List.getElem?_eq_getElem (by omega)] at hc
      have e : p + (j - p) = j := by omega
      simp only [e]
      exact hc
  · omega
/-- At a line's end. -/
theorem LpI.line {t : Bs} {N : Nat} {R : (St × Nat) ⊕ Nat} {p j k : Nat} {s : St} (h : LpI t N R p j k s) (hN : t.length = N) (hj : j ≤ N) (hc : ¬ (j < N ∧ t.getD j 0 ≠ 10)) : lineOf (t.drop p) = (t.drop p).take (j - p) ∧ (rstepS s ((t.drop p).take (j - p)) = none → R = .inr k) ∧ ∀ s', rstepS s ((t.drop p).take (j - p)) = some s' → LpI t N R (j + 1) (j + 1) (k + 1) s' := by
  rcases h with ⟨h1, h2, h3, f, hf, h4⟩ | ⟨h1, -⟩
  · obtain ⟨f', rfl⟩ : ∃ f', f = f' + 1 := ⟨f - 1, by omega⟩
    by_cases hjN : j < N
    · have hb : t.getD j 0 = 10 := Classical.not_not.1 fun x => hc ⟨hjN, x⟩
      have hd : t.drop p = (t.drop p).take (j - p) ++ 10 :: t.drop (j + 1) := by
        conv => lhs; rw [← List.take_append_drop (j - p) (t.drop p)]
        congr 1
        rw [List.drop_drop, show p + (j - p) = j by omega, List.drop_eq_getElem_cons (by omega)]
        rw [List.getD_eq_getElem?_getD, List.getElem?_eq_getElem (by omega)] at hb
        congr 1
      obtain ⟨e1, e2⟩ := line_of (r := t.drop (j + 1)) h3
      rw [← hd] at e1 e2
      have hm : 10 ∈ t.drop p := by rw [hd]; simp
      have h5 : (match rstepS s ((t.drop p).take (j - p)) with | none => .inr k | some s' => rasF f' (k + 1) s' (t.drop (j + 1))) = R := by
        rw [← h4, rasF, e1]
        cases rstepS s ((t.drop p).take (j - p)) with
        | none => rfl
        | some s' => simp only; rw [if_pos hm, e2]
      refine ⟨e1, fun e => ?_, fun s' e => ?_⟩
      · rw [e] at h5; exact h5.symm
      · rw [e] at h5
        exact .inl ⟨by omega, Nat.le_refl _, by simp, f', by omega, h5⟩
    · have hjE : j = N := by omega
      have ht : (t.drop p).take (j - p) = t.drop p := List.take_of_length_le (by rw [List.length_drop]; omega)
      rw [ht] at h3 ⊢
      have hm : 10 ∉ t.drop p := fun x => h3 10 x rfl
      have e1 : lineOf (t.drop p) = t.drop p := by
        unfold lineOf
        have q := List.takeWhile_append_of_pos (p := fun c => c != 10) (l₁ := t.drop p) (l₂ := []) (fun c hc => by simpa using h3 c hc)
        simpa using q
      have h5 : (match rstepS s (t.drop p) with | none => .inr k | some s' => .inl (s', k + 1)) = R := by
        rw [← h4, rasF, e1]
        cases rstepS s (t.drop p) with
        | none => rfl
        | some s' => simp only; rw [if_neg hm]
      refine ⟨e1, fun e => ?_, fun s' e => ?_⟩
      · rw [e] at h5; exact h5.symm
      · rw [e] at h5
        exact .inr ⟨by omega, h5.symm⟩
  · omega
set_option maxRecDepth 100000 in
set_option maxHeartbeats 16000000 in
theorem rassemble_any (t : ByteArray) (w : World) (hb : t.size ≤ 1048576) :
    Calls Tryz.prog 21 #[.string t] w fun e w' => ∃ iq ia eq ea tq ta, e = .returned (.tuple #[codeV iq eq tq ia ea ta (asmC (lt t)), .int .i64 (asmE (lt t)), .int .i64 (asmN (lt t))]) ∧ Hid (∃ Es, RowsF w w' iq ia eq ea tq ta Es (asmC (lt t))) := by
  obtain ⟨R, HR⟩ : ∃ R, Hid (R = rasF ((lt t).length + 1) 1 st0 (lt t)) := ⟨_, rfl⟩
  obtain ⟨Cc, HCc⟩ : ∃ Cc, Hid (Cc = asmC (lt t)) := ⟨_, rfl⟩
  obtain ⟨Ee, HEe⟩ : ∃ Ee, Hid (Ee = asmE (lt t)) := ⟨_, rfl⟩
  obtain ⟨Nn, HNn⟩ : ∃ Nn, Hid (Nn = asmN (lt t)) := ⟨_, rfl⟩
  rw [← HCc.out, ← HEe.out, ← HNn.out]
  have HRr : Hid (∀ n, R = .inr n → Cc = cz ∧ Ee = 131 ∧ Nn = (n : Int)) := fun n h => by rw [HCc.out, HEe.out, HNn.out]; exact ras_r (HR.out.symm.trans h)
  have HRl : Hid (∀ s k, R = .inl (s, k) → (lackS s = true → Cc = cz ∧ Ee = 131 ∧ Nn = (k : Int)) ∧ (lackS s = false → Cc = s.c ∧ Ee = 0 ∧ Nn = 0)) := fun s k h => by rw [HCc.out, HEe.out, HNn.out]; exact ras_l (HR.out.symm.trans h)
  have HLl : Hid ((lt t).length = t.size) := lt_len t
  have HI0 : Hid (LpI (lt t) t.size R 0 0 1 st0) := .inl ⟨Nat.zero_le _, Nat.le_refl _, by simp, (lt t).length + 1, by rw [lt_len]; omega, by rw [List.drop_zero]; exact HR.out.symm⟩
  obtain ⟨X, hX⟩ : ∃ X, X = w.alloc (.cells zc 26) := ⟨_, rfl⟩
  obtain ⟨X1, hX1⟩ : ∃ X1, X1 = X.alloc (.cells #[.slice none 0 0, .slice none 0 0, .slice none 0 0, .int .i64 0, .bool false] 94) := ⟨_, rfl⟩
  have HA0 : Hid (BdW w X1 st0) := by rw [hX1, hX]; exact BdW.start w
  have hzX : X.heap.size = w.heap.size + 1 := by rw [hX]; simp
  have hti : (t.size : Int) ≤ 1048576 := by omega
  clear HCc HEe HNn HR
  go_enter Tryz.func21, Tryz.ntmps21
  go_upto_region 1 with fail
  rw [← hX]
  clear hX
  have HX1 : Hid (X1 = X.alloc (.cells #[.slice none 0 0, .slice none 0 0, .slice none 0 0, .int .i64 0, .bool false] 94)) := hX1
  clear hX1
  go_upto_region 2 with fail
  rw [← HX1.out]
  try rw [hzX]
  clear HX1 hzX
  go_wp2_with fail
  go_loopw [6, 7, 8] (fun u6 u7 u8 wr => ∃ (p k j : Nat) (s : St), u6 = .int .i64 (p : Int) ∧ u7 = .int .i64 (k : Int) ∧ u8 = .int .i64 (j : Int) ∧ j ≤ t.size + 1 ∧ p ≤ j ∧ k ≤ j + 1 ∧ Hid (LpI (lt t) t.size R p j k s) ∧ Hid (BdW w wr s)) (fun _ _ u8 _ => t.size + 1 - (intOf u8).toNat)
  case atStart => exact ⟨0, 1, 0, st0, rfl, rfl, rfl, Nat.zero_le _, Nat.le_refl _, by omega, HI0, HA0⟩
  case round =>
    clear HA0 HI0
    obtain ⟨p, k, j, s, rfl, rfl, rfl, hj, hpj, hkj, hI, hA⟩ := hrel
    by_cases hjN : j ≤ t.size
    case neg =>
      have hRl : R = .inl (s, k) := by
        rcases hI.out with ⟨h1, -⟩ | ⟨-, h2⟩
        · omega
        · exact h2
      obtain ⟨L1, L2⟩ := HRl.out s k hRl
      have z1 : ¬ (j : Int) ≤ (t.size : Int) := by omega
      obtain ⟨iq, eq, tq, ia, ea, ta, Es, ha⟩ := hA.out.sa
      have em := rempty_any ha
      have HAs : Hid (Bd wr (w.heap.size + 1) (w.heap.size + 1) s iq eq tq ia ea ta Es) := ha
      have HLk : Hid (lackS s = (!s.begun || decide ((s.c.ens.length : Int) ≤ s.c.main) || bareS s.c)) := rfl
      clear hRl ha hI HRl HRr
      generalize bareS s.c = bb at *
      go_wp2_with fail
      refine em.mono ?_
      rintro e W8 ⟨rfl, hw8⟩
      have A8 : Hid (BdW w W8 s) := hA.out.next hw8
      have G8 : Hid (Bd W8 (w.heap.size + 1) (w.heap.size + 1) s iq eq tq ia ea ta Es) := HAs.out.next hw8
      clear em hA HAs hw8
      obtain ⟨d1, -⟩ := blk_cell G8.out.box 1 (.slice eq s.c.ens.length ea) rfl
      obtain ⟨d3, -⟩ := blk_cell G8.out.box 3 (.int .i64 s.c.main) rfl
      obtain ⟨d4, -⟩ := blk_cell G8.out.box 4 (.bool s.begun) rfl
      have yd1 := cell_regrown d1
      have yd3 := cell_regrown d3
      have yd4 := cell_regrown d4
      go_upto_region 16 with fail
      go_cut [78] (fun c wx => c = .bool (lackS s) ∧ Hid (Below W8.heap.size W8 wx))
      case first =>
        cases hbg : s.begun with
        | false =>
          rw [hbg] at d4
          have yd4' := cell_regrown d4
          have HV : Hid (lackS s = true) := by show _ = _; rw [HLk.out, hbg]; rfl
          clear yd4 hbg
          go_wp2_with fail
          refine wp_region_quiet_below (by kernel_rfl) (by kernel_rfl) ?_
          repeat (first | go_big_quiet_step (first | fail) | quiet_step (first | fail))
          refine wpQuiet_nil ?_
          intro _ hw'
          obtain ⟨⟨dq, osq⟩, hw''⟩ := hw'
          subst hw''
          have hY := below_regrown W8 dq osq
          first | (change Exit.then _ _ Exit.normal _ (Sort.grow (redrawn W8 dq) osq)) | skip
          generalize Sort.grow (redrawn W8 dq) osq = Y at hY ⊢
          go_wp2
          go_meet
          case rel => exact ⟨by rw [HV.out], hY⟩
        | true =>
          rw [hbg] at d4
          have yd4' := cell_regrown d4
          cases hbb : bb with
          | true =>
            subst hbb
            have HV : Hid (lackS s = true) := by show _ = _; rw [HLk.out, hbg]; simp
            clear yd4 hbg
            go_wp2_with fail
            refine wp_region_quiet_below (by kernel_rfl) (by kernel_rfl) ?_
            repeat (first | go_big_quiet_step (first | fail) | quiet_step (first | fail))
            refine wpQuiet_nil ?_
            intro _ hw'
            obtain ⟨⟨dq, osq⟩, hw''⟩ := hw'
            subst hw''
            have hY := below_regrown W8 dq osq
            first | (change Exit.then _ _ Exit.normal _ (Sort.grow (redrawn W8 dq) osq)) | skip
            generalize Sort.grow (redrawn W8 dq) osq = Y at hY ⊢
            go_wp2
            go_meet
            case rel => exact ⟨by rw [HV.out], hY⟩
          | false =>
            subst hbb
            by_cases hm : (s.c.ens.length : Int) ≤ s.c.main
            · have k1 : decide ((s.c.ens.length : Int) ≤ s.c.main) = true := decide_eq_true hm
              have HV : Hid (lackS s = true) := by show _ = _; rw [HLk.out, hbg, k1]; rfl
              clear yd4 hbg
              go_wp2_with fail
              refine wp_region_quiet_below (by kernel_rfl) (by kernel_rfl) ?_
              repeat (first | go_big_quiet_step (first | fail) | quiet_step (first | fail))
              refine wpQuiet_nil ?_
              intro _ hw'
              obtain ⟨⟨dq, osq⟩, hw''⟩ := hw'
              subst hw''
              have hY := below_regrown W8 dq osq
              first | (change Exit.then _ _ Exit.normal _ (Sort.grow (redrawn W8 dq) osq)) | skip
              generalize Sort.grow (redrawn W8 dq) osq = Y at hY ⊢
              go_wp2
              go_meet
              case rel => exact ⟨by rw [HV.out], hY⟩
            · have k1 : decide ((s.c.ens.length : Int) ≤ s.c.main) = false := decide_eq_false hm
              have HV : Hid (lackS s = false) := by show _ = _; rw [HLk.out, hbg, k1]; rfl
              clear yd4 hbg
              go_wp2_with fail
              refine wp_region_quiet_below (by kernel_rfl) (by kernel_rfl) ?_
              repeat (first | go_big_quiet_step (first | fail) | quiet_step (first | fail))
              refine wpQuiet_nil ?_
              intro _ hw'
              obtain ⟨⟨dq, osq⟩, hw''⟩ := hw'
              subst hw''
              have hY := below_regrown W8 dq osq
              first | (change Exit.then _ _ Exit.normal _ (Sort.grow (redrawn W8 dq) osq)) | skip
              generalize Sort.grow (redrawn W8 dq) osq = Y at hY ⊢
              go_wp2
              go_meet
              case rel => exact ⟨by rw [HV.out], hY⟩
      case rest =>
        obtain ⟨rfl, hbc⟩ := hcut
        clear d1 d3 d4 yd1 yd3 yd4 HLk
        have A9 := A8.out.next hbc.out
        have G9 := G8.out.next hbc.out
        cases hlk : lackS s with
        | true =>
          have HF : Hid (Cc = cz ∧ Ee = 131 ∧ Nn = (k : Int)) := L1 hlk
          have r8 := A9.res
          have b8 := A9.b
          clear L1 L2 A8 G8 A9 G9 hbc
          obtain ⟨x0, y0⟩ := blk_cell r8 0 (.slice none 0 0) rfl
          obtain ⟨x1, y1⟩ := blk_cell r8 1 (.slice none 0 0) rfl
          obtain ⟨x2, y2⟩ := blk_cell r8 2 (.slice none 0 0) rfl
          obtain ⟨x3, y3⟩ := blk_cell r8 3 (.int .i64 0) rfl
          have HP : Hid (((((wc.setCell ⟨w.heap.size, 0, none⟩ (.slice none 0 0)).setCell ⟨w.heap.size, 1, none⟩ (.slice none 0 0)).setCell ⟨w.heap.size, 2, none⟩ (.slice none 0 0)).setCell ⟨w.heap.size, 3, none⟩ (.int .i64 0)).heap[w.heap.size]? = some (.cells zc 26) ∧ Below w.heap.size w ((((wc.setCell ⟨w.heap.size, 0, none⟩ (.slice none 0 0)).setCell ⟨w.heap.size, 1, none⟩ (.slice none 0 0)).setCell ⟨w.heap.size, 2, none⟩ (.slice none 0 0)).setCell ⟨w.heap.size, 3, none⟩ (.int .i64 0))) := ⟨put4 r8, below_put4 b8 (Nat.le_refl _)⟩
          clear b8 r8
          go_wp2
          first | (change bodyPost Tryz.prog Tryz.f21 _ Exit.ret _ _) | (simp only [Exit.noGoto]) | skip
          generalize (((wc.setCell ⟨w.heap.size, 0, none⟩ (.slice none 0 0)).setCell ⟨w.heap.size, 1, none⟩ (.slice none 0 0)).setCell ⟨w.heap.size, 2, none⟩ (.slice none 0 0)).setCell ⟨w.heap.size, 3, none⟩ (.int .i64 0) = WF at HP ⊢
          obtain ⟨q0, -⟩ := blk_cell HP.out.1 0 (.slice none 0 0) rfl
          obtain ⟨q1, -⟩ := blk_cell HP.out.1 1 (.slice none 0 0) rfl
          obtain ⟨q2, -⟩ := blk_cell HP.out.1 2 (.slice none 0 0) rfl
          obtain ⟨q3, -⟩ := blk_cell HP.out.1 3 (.int .i64 0) rfl
          refine bodyPost_ret (v := .tuple #[.agg zc, .int .i64 131, .int .i64 (k : Int)]) (by simp [results, Tryz.results21, go_sem, q0, q1, q2, q3]) rfl ⟨none, 0, none, 0, none, 0, ?_, [], ?_⟩
          · rw [HF.out.1, HF.out.2.1, HF.out.2.2]; rfl
          · rw [HF.out.1]; exact ⟨HP.out.2, Rows.nil _ _, rfl⟩
        | false =>
          have HF : Hid (Cc = s.c ∧ Ee = 0 ∧ Nn = 0) := L2 hlk
          clear L1 L2 A8 G8 hbc
          obtain ⟨x0, y0⟩ := blk_cell A9.res 0 (.slice none 0 0) rfl
          obtain ⟨x1, y1⟩ := blk_cell A9.res 1 (.slice none 0 0) rfl
          obtain ⟨x2, y2⟩ := blk_cell A9.res 2 (.slice none 0 0) rfl
          obtain ⟨x3, y3⟩ := blk_cell A9.res 3 (.int .i64 0) rfl
          obtain ⟨d0, -⟩ := blk_cell G9.box 0 (.slice iq s.c.ins.length ia) rfl
          obtain ⟨d1, -⟩ := blk_cell G9.box 1 (.slice eq s.c.ens.length ea) rfl
          obtain ⟨d2, -⟩ := blk_cell G9.box 2 (.slice tq s.c.txs.length ta) rfl
          obtain ⟨d3, -⟩ := blk_cell G9.box 3 (.int .i64 s.c.main) rfl
          have HP : Hid ((((((wc.setCell ⟨w.heap.size, 0, none⟩ (.slice iq s.c.ins.length ia)).setCell ⟨w.heap.size, 1, none⟩ (.slice eq s.c.ens.length ea)).setCell ⟨w.heap.size, 2, none⟩ (.slice tq s.c.txs.length ta)).setCell ⟨w.heap.size, 3, none⟩ (.int .i64 s.c.main))).heap[w.heap.size]? = some (.cells (cv (.slice iq s.c.ins.length ia) (.slice eq s.c.ens.length ea) (.slice tq s.c.txs.length ta) s.c.main) 26) ∧ RowsF w ((((wc.setCell ⟨w.heap.size, 0, none⟩ (.slice iq s.c.ins.length ia)).setCell ⟨w.heap.size, 1, none⟩ (.slice eq s.c.ens.length ea)).setCell ⟨w.heap.size, 2, none⟩ (.slice tq s.c.txs.length ta)).setCell ⟨w.heap.size, 3, none⟩ (.int .i64 s.c.main)) iq ia eq ea tq ta Es s.c) := ⟨put4 A9.res, below_put4 A9.b (Nat.le_refl _), ((((G9.rows.base (Nat.le_succ _)).set A9.res _).set (set_blk A9.res _) _).set (set_blk (set_blk A9.res _) _) _).set (set_blk (set_blk (set_blk A9.res _) _) _) _, G9.en⟩
          clear A9 G9
          go_wp2
          first | (change bodyPost Tryz.prog Tryz.f21 _ Exit.ret _ _) | (simp only [Exit.noGoto]) | skip
          generalize (((wc.setCell ⟨w.heap.size, 0, none⟩ (.slice iq s.c.ins.length ia)).setCell ⟨w.heap.size, 1, none⟩ (.slice eq s.c.ens.length ea)).setCell ⟨w.heap.size, 2, none⟩ (.slice tq s.c.txs.length ta)).setCell ⟨w.heap.size, 3, none⟩ (.int .i64 s.c.main) = WF at HP ⊢
          obtain ⟨q0, -⟩ := blk_cell HP.out.1 0 (.slice iq s.c.ins.length ia) rfl
          obtain ⟨q1, -⟩ := blk_cell HP.out.1 1 (.slice eq s.c.ens.length ea) rfl
          obtain ⟨q2, -⟩ := blk_cell HP.out.1 2 (.slice tq s.c.txs.length ta) rfl
          obtain ⟨q3, -⟩ := blk_cell HP.out.1 3 (.int .i64 s.c.main) rfl
          refine bodyPost_ret (v := .tuple #[.agg (cv (.slice iq s.c.ins.length ia) (.slice eq s.c.ens.length ea) (.slice tq s.c.txs.length ta) s.c.main), .int .i64 0, .int .i64 0]) (by simp [results, Tryz.results21, go_sem, q0, q1, q2, q3]) rfl ⟨iq, ia, eq, ea, tq, ta, ?_, Es, ?_⟩
          · rw [HF.out.1, HF.out.2.1, HF.out.2.2]; rfl
          · rw [HF.out.1]; exact HP.out.2
    have z1 : (j : Int) ≤ (t.size : Int) := by omega
    have j0 : (0 : Int) ≤ (j : Int) := by omega
    by_cases hcn : j < t.size ∧ (lt t).getD j 0 ≠ 10
    · have z2 : (j : Int) < (t.size : Int) := by omega
      have ixj := ix_lt t j hcn.1
      have c1 : ((((lt t).getD j 0).toNat : Int) != 10) = true := by rw [bne, show ((((lt t).getD j 0).toNat : Int) == 10) = false from b_ne (n := 10) (by decide) hcn.2]; rfl
      have k1 : ¬ (((lt t).getD j 0).toNat : Int) = 10 := fun q => hcn.2 ((byte_eq _ 10 (by decide)).2 q)
      have HI2 : Hid (LpI (lt t) t.size R p (j + 1) k s) := hI.out.on HLl.out hcn.1 hcn.2
      have hjl := hcn.1
      clear hI hcn
      generalize (lt t).getD j 0 = c at *
      generalize c.toNat = cn at *
      go_wp2
      exact ⟨⟨p, k, j + 1, s, rfl, rfl, by go_num, by omega, by omega, by omega, HI2, hA⟩, by simp [intOf]; omega⟩
    obtain ⟨l1, l2, l3⟩ := hI.out.line HLl.out hjN hcn
    obtain ⟨L, hL⟩ : ∃ L, L = ((lt t).drop p).take (j - p) := ⟨_, rfl⟩
    have HLn : Hid (L.length ≤ 1048576) := by show _ ≤ _; rw [hL, List.length_take, List.length_drop, lt_len]; omega
    rw [← hL] at l2 l3
    have HS0 : Hid (rstepS s L = none → R = .inr k) := l2
    have HS1 : Hid (∀ s', rstepS s L = some s' → LpI (lt t) t.size R (j + 1) (j + 1) (k + 1) s') := l3
    have HSt : Hid (rstepS s L = match rwS L with | none => none | some T => if T = [] then some s else rlS s T) := rfl
    obtain ⟨ln, hln⟩ : ∃ ln, ln = YtchinflkjcebjabGreatDoor.bk L := ⟨_, rfl⟩
    have ecut : t.extract p j = ln := by rw [hln, hL]; exact cut_mid t p j
    have hlz : ln.size ≤ 1048576 := by rw [hln, bk_size]; exact HLn.out
    have wA := fun W => rwords_any ln hlz W
    rw [show lt ln = L from by rw [hln]; exact bk_data L] at wA
    have HTl : Hid (∀ T, rwS L = some T → T.length ≤ 1048576 ∧ ∀ x ∈ T, x.1.length ≤ 1048576) := fun T e => by
      have := rwF_le _ _ _ e
      exact ⟨Nat.le_trans this.1 HLn.out, fun x hx => Nat.le_trans (this.2 x hx) HLn.out⟩
    clear l1 l2 l3 hL hln hlz HLn hI
    have pj : (p : Int) ≤ (j : Int) := by omega
    have HLine : Hid (∀ (T : List Tk) (W2 : World) (q : Option Addr) (cap : Nat), rwS L = some T → T ≠ [] → Below wr.heap.size wr W2 → W2.ownsRow wr.heap.size 125 2 (.slice q T.length cap) T.length (tkV T) → Calls Tryz.prog 53 #[.pointer (some ⟨w.heap.size + 1, 0, none⟩), .slice q T.length cap] W2 fun e w' => e = .returned (.bool (rstepS s L).isSome) ∧ Hid ((∀ s', rstepS s L = some s' → BdW w w' s') ∧ Below w.heap.size w w' ∧ w'.heap[w.heap.size]? = some (.cells zc 26))) := fun T W2 q cap e hne h1 h2 => by
      have A2 := hA.out.next h1
      have hTl := HTl.out T e
      have es : rstepS s L = rlS s T := by rw [HSt.out, e]; simp only; rw [if_neg hne]
      rw [es]
      have hlt : w.heap.size + 1 < wr.heap.size := by
        obtain ⟨_, _, _, _, _, _, _, hh⟩ := hA.out.sa
        exact hh.lt
      refine (bline_any A2.sa ⟨rfl, row_of_own h2, hTl.2, hTl.1⟩ (List.length_pos_iff.2 hne) (fun g o eq => ?_)).mono ?_
      · have := own_ge h2 g (by rw [eq]; rfl)
        omega
      · rintro e w' ⟨rfl, hh⟩
        exact ⟨rfl, fun s' hs => A2.step hh.out.2 (hh.out.1 s' hs), A2.b.trans (hh.out.2.mono (Nat.le_succ _)), (hh.out.2.block _ (Nat.lt_succ_self _)).trans A2.res⟩
    go_upto_region 7 with fail
    go_cut [29] (fun c wx => c = .bool false ∧ Hid (wx = wr))
    case first =>
      by_cases hjl : j < t.size
      · have z2 : (j : Int) < (t.size : Int) := by omega
        have ixj := ix_lt t j hjl
        have h10 : (lt t).getD j 0 = 10 := Classical.not_not.1 fun x => hcn ⟨hjl, x⟩
        have c1 : ((((lt t).getD j 0).toNat : Int) != 10) = false := by rw [h10]; rfl
        have k1 : (((lt t).getD j 0).toNat : Int) = 10 := by rw [h10]; rfl
        clear hcn h10
        generalize (lt t).getD j 0 = c at *
        generalize c.toNat = cn at *
        go_wp2
        go_meet
        case rel => exact ⟨by simp, rfl⟩
      · have z2 : ¬ (j : Int) < (t.size : Int) := by omega
        clear hcn
        go_wp2
        go_meet
        case rel => exact ⟨by simp, rfl⟩
    case rest =>
      obtain ⟨rfl, hwc⟩ := hcut
      have hwc' := hwc.out
      subst hwc'
      clear hwc hcn
      cases hw : rwS L with
      | none =>
        have hR := HS0.out (by rw [HSt.out, hw])
        have HF : Hid (Cc = cz ∧ Ee = 131 ∧ Nn = (k : Int)) := HRr.out k hR
        rw [hw] at wA
        have i1 : ((none : Option (List Tk)).isSome) = false := rfl
        clear hR HS0 HS1 HSt HTl HLine HRl HRr hw
        go_wp2_with fail
        refine (wA _).mono ?_
        rintro e W8 ⟨v, rfl, hw8⟩
        have A8 := hA.out.next hw8.out.2
        have r8 := A8.res
        have b8 := A8.b
        clear A8 hw8 wA hA
        obtain ⟨x0, y0⟩ := blk_cell r8 0 (.slice none 0 0) rfl
        obtain ⟨x1, y1⟩ := blk_cell r8 1 (.slice none 0 0) rfl
        obtain ⟨x2, y2⟩ := blk_cell r8 2 (.slice none 0 0) rfl
        obtain ⟨x3, y3⟩ := blk_cell r8 3 (.int .i64 0) rfl
        have HP : Hid (((((W8.setCell ⟨w.heap.size, 0, none⟩ (.slice none 0 0)).setCell ⟨w.heap.size, 1, none⟩ (.slice none 0 0)).setCell ⟨w.heap.size, 2, none⟩ (.slice none 0 0)).setCell ⟨w.heap.size, 3, none⟩ (.int .i64 0)).heap[w.heap.size]? = some (.cells zc 26) ∧ Below w.heap.size w ((((W8.setCell ⟨w.heap.size, 0, none⟩ (.slice none 0 0)).setCell ⟨w.heap.size, 1, none⟩ (.slice none 0 0)).setCell ⟨w.heap.size, 2, none⟩ (.slice none 0 0)).setCell ⟨w.heap.size, 3, none⟩ (.int .i64 0))) := ⟨put4 r8, below_put4 b8 (Nat.le_refl _)⟩
        clear b8 r8
        go_wp2
        first | (change bodyPost Tryz.prog Tryz.f21 _ Exit.ret _ _) | (simp only [Exit.noGoto]) | skip
        generalize (((W8.setCell ⟨w.heap.size, 0, none⟩ (.slice none 0 0)).setCell ⟨w.heap.size, 1, none⟩ (.slice none 0 0)).setCell ⟨w.heap.size, 2, none⟩ (.slice none 0 0)).setCell ⟨w.heap.size, 3, none⟩ (.int .i64 0) = WF at HP ⊢
        obtain ⟨q0, -⟩ := blk_cell HP.out.1 0 (.slice none 0 0) rfl
        obtain ⟨q1, -⟩ := blk_cell HP.out.1 1 (.slice none 0 0) rfl
        obtain ⟨q2, -⟩ := blk_cell HP.out.1 2 (.slice none 0 0) rfl
        obtain ⟨q3, -⟩ := blk_cell HP.out.1 3 (.int .i64 0) rfl
        refine bodyPost_ret (v := .tuple #[.agg zc, .int .i64 131, .int .i64 (k : Int)]) (by simp [results, Tryz.results21, go_sem, q0, q1, q2, q3]) rfl ⟨none, 0, none, 0, none, 0, ?_, [], ?_⟩
        · rw [HF.out.1, HF.out.2.1, HF.out.2.2]; rfl
        · rw [HF.out.1]; exact ⟨HP.out.2, Rows.nil _ _, rfl⟩
      | some T =>
        rw [hw] at wA
        have i1 : ((some T : Option (List Tk)).isSome) = true := rfl
        by_cases hT : T = []
        · subst hT
          have HNx : Hid (LpI (lt t) t.size R (j + 1) (j + 1) (k + 1) s) := HS1.out s (by rw [HSt.out, hw]; rfl)
          clear HS0 HS1 HSt HTl HLine HRl HRr hw
          go_wp2_with fail
          refine (wA _).mono ?_
          rintro e W8 ⟨v, rfl, hw8⟩
          obtain ⟨qv, cv', rfl, -, -⟩ := own_slice (hw8.out.1 [] rfl)
          have A8 : Hid (BdW w W8 s) := hA.out.next hw8.out.2
          clear hw8 wA hA
          have l0 : ([] : List Tk).length = 0 := rfl
          rw [l0]
          go_wp2
          exact ⟨⟨j + 1, k + 1, j + 1, s, by go_num, by go_num, by go_num, by omega, by omega, by omega, HNx, A8⟩, by simp [intOf]; omega⟩
        have hTp : 0 < T.length := List.length_pos_iff.2 hT
        have HL1 := fun W2 q cap => HLine.out T W2 q cap hw hT
        have hTl := HTl.out T hw
        obtain ⟨SS, HSS⟩ : ∃ SS, Hid (SS = rstepS s L) := ⟨_, rfl⟩
        rw [← HSS.out] at HL1 HS0 HS1
        have HL1' : Hid (∀ (W2 : World) (q : Option Addr) (cap : Nat), Below wc.heap.size wc W2 → W2.ownsRow wc.heap.size 125 2 (.slice q T.length cap) T.length (tkV T) → Calls Tryz.prog 53 #[.pointer (some ⟨w.heap.size + 1, 0, none⟩), .slice q T.length cap] W2 fun e w' => e = .returned (.bool SS.isSome) ∧ Hid ((∀ s', SS = some s' → BdW w w' s') ∧ Below w.heap.size w w' ∧ w'.heap[w.heap.size]? = some (.cells zc 26))) := HL1
        clear HL1 HLine HSt HTl hT hw HRl HSS
        have tp : (0 : Int) < (T.length : Int) := by omega
        go_wp2_with fail
        refine (wA _).mono ?_
        rintro e W8 ⟨v, rfl, hw8⟩
        obtain ⟨qv, cv', rfl, -, -⟩ := own_slice (hw8.out.1 T rfl)
        have tk := HL1'.out W8 qv cv' hw8.out.2 (hw8.out.1 T rfl)
        clear hw8 wA HL1' hA
        generalize hTn : T.length = nT at *
        clear hTn
        cases SS with
        | none =>
          have HF : Hid (Cc = cz ∧ Ee = 131 ∧ Nn = (k : Int)) := HRr.out k (HS0.out rfl)
          have i2 : ((none : Option St).isSome) = false := rfl
          clear HS0 HS1 HRr
          go_wp2_with fail
          refine tk.mono ?_
          rintro e W9 ⟨rfl, hw9⟩
          obtain ⟨-, b8, r8⟩ := hw9.out
          clear hw9 tk
          obtain ⟨x0, y0⟩ := blk_cell r8 0 (.slice none 0 0) rfl
          obtain ⟨x1, y1⟩ := blk_cell r8 1 (.slice none 0 0) rfl
          obtain ⟨x2, y2⟩ := blk_cell r8 2 (.slice none 0 0) rfl
          obtain ⟨x3, y3⟩ := blk_cell r8 3 (.int .i64 0) rfl
          have HP : Hid (((((W9.setCell ⟨w.heap.size, 0, none⟩ (.slice none 0 0)).setCell ⟨w.heap.size, 1, none⟩ (.slice none 0 0)).setCell ⟨w.heap.size, 2, none⟩ (.slice none 0 0)).setCell ⟨w.heap.size, 3, none⟩ (.int .i64 0)).heap[w.heap.size]? = some (.cells zc 26) ∧ Below w.heap.size w ((((W9.setCell ⟨w.heap.size, 0, none⟩ (.slice none 0 0)).setCell ⟨w.heap.size, 1, none⟩ (.slice none 0 0)).setCell ⟨w.heap.size, 2, none⟩ (.slice none 0 0)).setCell ⟨w.heap.size, 3, none⟩ (.int .i64 0))) := ⟨put4 r8, below_put4 b8 (Nat.le_refl _)⟩
          clear b8 r8
          go_wp2
          first | (change bodyPost Tryz.prog Tryz.f21 _ Exit.ret _ _) | (simp only [Exit.noGoto]) | skip
          generalize (((W9.setCell ⟨w.heap.size, 0, none⟩ (.slice none 0 0)).setCell ⟨w.heap.size, 1, none⟩ (.slice none 0 0)).setCell ⟨w.heap.size, 2, none⟩ (.slice none 0 0)).setCell ⟨w.heap.size, 3, none⟩ (.int .i64 0) = WF at HP ⊢
          obtain ⟨q0, -⟩ := blk_cell HP.out.1 0 (.slice none 0 0) rfl
          obtain ⟨q1, -⟩ := blk_cell HP.out.1 1 (.slice none 0 0) rfl
          obtain ⟨q2, -⟩ := blk_cell HP.out.1 2 (.slice none 0 0) rfl
          obtain ⟨q3, -⟩ := blk_cell HP.out.1 3 (.int .i64 0) rfl
          refine bodyPost_ret (v := .tuple #[.agg zc, .int .i64 131, .int .i64 (k : Int)]) (by simp [results, Tryz.results21, go_sem, q0, q1, q2, q3]) rfl ⟨none, 0, none, 0, none, 0, ?_, [], ?_⟩
          · rw [HF.out.1, HF.out.2.1, HF.out.2.2]; rfl
          · rw [HF.out.1]; exact ⟨HP.out.2, Rows.nil _ _, rfl⟩
        | some s' =>
          have HNx : Hid (LpI (lt t) t.size R (j + 1) (j + 1) (k + 1) s') := HS1.out s' rfl
          have i2 : ((some s' : Option St).isSome) = true := rfl
          clear HS0 HS1 HRr
          go_wp2_with fail
          refine tk.mono ?_
          rintro e W9 ⟨rfl, hw9⟩
          have A9 : Hid (BdW w W9 s') := hw9.out.1 s' rfl
          clear hw9 tk
          go_wp2
          exact ⟨⟨j + 1, k + 1, j + 1, s', by go_num, by go_num, by go_num, by omega, by omega, by omega, HNx, A9⟩, by simp [intOf]; omega⟩
end Go.Proofs.YtchinflkjcebjabGreatDoor
