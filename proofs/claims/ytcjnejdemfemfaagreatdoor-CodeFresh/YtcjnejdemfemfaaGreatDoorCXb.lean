import Derived.Test.YtcjnejdemfemfaaGreatDoorCXa
import Derived.Lib.ParseIntBCases
namespace Go.Proofs.YtcjnejdemfemfaaGreatDoor
open Go.RowKit

/-! Numbers, written and read. -/
/-- What digits say. -/
def dv (acc : Nat) (D : List UInt8) : Nat := D.foldl (fun a c => a * 10 + (c.toNat - 48)) acc
theorem dv_nil (acc : Nat) : dv acc [] = acc := rfl
theorem dv_cons (acc : Nat) (c : UInt8) (D : List UInt8) : dv acc (c :: D) = dv (acc * 10 + (c.toNat - 48)) D := by unfold dv; rw [List.foldl_cons]
theorem dv_snoc (acc : Nat) (D : List UInt8) (c : UInt8) : dv acc (D ++ [c]) = dv acc D * 10 + (c.toNat - 48) := by unfold dv; rw [List.foldl_append, List.foldl_cons, List.foldl_nil]
theorem dv_ge (D : List UInt8) : ∀ acc, acc * 10 ^ D.length ≤ dv acc D := by
  induction D with
  | nil => intro acc; simp [dv_nil]
  | cons c D ih =>
    intro acc
    rw [dv_cons, List.length_cons, Nat.pow_succ]
    refine Nat.le_trans ?_ (ih _)
    rw [Nat.mul_comm (10 ^ D.length) 10, ← Nat.mul_assoc]
    exact Nat.mul_le_mul_right _ (Nat.le_add_right _ _)
theorem dv_le (D : List UInt8) (acc : Nat) : acc ≤ dv acc D := Nat.le_trans (Nat.le_mul_of_pos_right acc (Nat.pow_pos (by omega))) (dv_ge D acc)
theorem parse_M (D : List UInt8) (hd : ∀ c ∈ D, (48 ≤ c.toNat ∧ c.toNat ≤ 57)) : ∀ acc, acc ≤ 18446744073709551615 → Lib.parseUintM 18446744073709551615 acc D = if dv acc D ≤ 18446744073709551615 then .ok (dv acc D) else .range := by
  induction D with
  | nil => intro acc h; rw [dv_nil, if_pos h]; rfl
  | cons c D ih =>
    intro acc h
    have hc : 48 ≤ c.toNat ∧ c.toNat ≤ 57 := hd c (by simp)
    have hle := dv_le D (acc * 10 + (c.toNat - 48))
    unfold Lib.parseUintM
    rw [if_pos hc, dv_cons]
    by_cases h1 : 1844674407370955162 ≤ acc
    · rw [if_pos h1, if_neg (by omega)]
    · rw [if_neg h1]
      by_cases h2 : 18446744073709551615 < acc * 10 + (c.toNat - 48)
      · rw [if_pos h2, if_neg (by omega)]
      · rw [if_neg h2, ih (fun d hd' => hd d (by simp [hd'])) _ (by omega)]
theorem parse_U (D : List UInt8) (hne : D ≠ []) (hd : ∀ c ∈ D, (48 ≤ c.toNat ∧ c.toNat ≤ 57)) (hl : dv 0 D ≤ 18446744073709551615) : Lib.parseUintB 64 D = .ok (dv 0 D) := by
  have hM := parse_M D hd 0 (by omega)
  rw [if_pos hl] at hM
  unfold Lib.parseUintB
  rw [if_neg (by simpa using hne), show (2 ^ 64 - 1 : Nat) = 18446744073709551615 from rfl, hM]
theorem dd_pos (d : Nat) (h : d < 10) : (UInt8.ofNat (48 + d)).toNat = 48 + d := by
  rw [UInt8.toNat_ofNat']
  omega
theorem dec_digits (u : Nat) : (∀ c ∈ Lib.decDigits u, 48 ≤ c.toNat ∧ c.toNat ≤ 57) ∧ Lib.decDigits u ≠ [] ∧ dv 0 (Lib.decDigits u) = u := by
  induction u using Nat.strongRecOn with
  | ind u ih =>
    rw [Lib.decDigits]
    by_cases h : u < 10
    · rw [dif_pos h]
      have e := dd_pos u h
      refine ⟨fun c hc => ?_, by simp, ?_⟩
      · rw [List.mem_singleton.1 hc, e]; omega
      · rw [dv_cons, dv_nil, e]; omega
    · rw [dif_neg h]
      obtain ⟨h1, h2, h3⟩ := ih (u / 10) (by omega)
      have e := dd_pos (u % 10) (by omega)
      refine ⟨fun c hc => ?_, by simp, ?_⟩
      · rcases List.mem_append.1 hc with hc | hc
        · exact h1 c hc
        · rw [List.mem_singleton.1 hc, e]; omega
      · rw [dv_snoc, h3, e]; omega
theorem parse_itoa {v : Int} (h0 : -9223372036854775808 ≤ v) (h1 : v ≤ 9223372036854775807) : Lib.parseIntB 64 (Lib.itoa v) = .ok v := by
  unfold Lib.itoa
  by_cases hv : v < 0
  · rw [if_pos hv]
    obtain ⟨d1, d2, d3⟩ := dec_digits v.natAbs
    rw [Lib.parseIntB_minus, parse_U _ d2 d1 (by omega), d3]
    unfold Lib.signedC
    rw [show (2 ^ (64 - 1) : Nat) = 9223372036854775808 from rfl]
    simp only
    rw [if_neg (by omega)]
    congr 1
    omega
  · rw [if_neg hv]
    obtain ⟨d1, d2, d3⟩ := dec_digits v.toNat
    have hU := parse_U _ d2 d1 (by omega)
    rw [d3] at hU
    generalize Lib.decDigits v.toNat = D at *
    match D, d2 with
    | c :: r, _ =>
      have hc := d1 c (by simp)
      rw [Lib.parseIntB_plain _ _ _ (by omega) (by omega), hU]
      unfold Lib.signlessC
      rw [show (2 ^ (64 - 1) : Nat) = 9223372036854775808 from rfl]
      simp only
      rw [if_neg (by omega)]
      congr 1
      omega
theorem num_ok {v : Int} (h0 : -9223372036854775808 ≤ v) (h1 : v ≤ 9223372036854775807) : numS (Lib.itoa v) = some v := by
  unfold numS
  rw [parse_itoa h0 h1]
  simp only
  rw [if_pos trivial]
theorem itoa_chars (v : Int) : Lib.itoa v ≠ [] ∧ ∀ c ∈ Lib.itoa v, c.toNat = 45 ∨ (48 ≤ c.toNat ∧ c.toNat ≤ 57) := by
  unfold Lib.itoa
  split
  · refine ⟨by simp, fun c hc => ?_⟩
    rcases List.mem_cons.1 hc with rfl | hc
    · exact .inl rfl
    · exact .inr ((dec_digits v.natAbs).1 c hc)
  · exact ⟨(dec_digits v.toNat).2.1, fun c hc => .inr ((dec_digits v.toNat).1 c hc)⟩

/-! Words. -/
def plainB (w : Bs) : Bool := !w.isEmpty && w.all (fun c => !isSep c && (c != 34 && c != 10))
structure Wd (w : Bs) : Prop where
  hd : ∃ c r, w = c :: r ∧ c ≠ 32 ∧ c ≠ 9 ∧ c ≠ 35
  nl : ∀ c ∈ w, c ≠ 10
  ln : ∀ r, (r = [] ∨ ∃ q, r = 32 :: q) → wdLen (w ++ r) = w.length
theorem plain_wd {w : Bs} (h : plainB w = true) : Wd w := by
  unfold plainB at h
  simp only [Bool.and_eq_true, List.all_eq_true, bne_iff_ne, ne_eq, Bool.not_eq_true'] at h
  obtain ⟨h1, h2⟩ := h
  cases w with
  | nil => cases h1
  | cons c r =>
    have hc := h2 c (by simp)
    have hs := hc.1
    unfold isSep at hs
    simp only [Bool.or_eq_false_iff, beq_eq_false_iff_ne, ne_eq] at hs
    refine ⟨⟨c, r, rfl, hs.1.1, hs.1.2, hs.2⟩, fun d hd => (h2 d hd).2.2, fun q hq => ?_⟩
    have e1 : qlS (c :: r ++ q) = 0 := by
      rw [List.cons_append]
      unfold qlS
      simp only
      rw [if_neg hc.2.1]
    unfold wdLen
    rw [e1, List.drop_zero, Nat.zero_add, List.takeWhile_append_of_pos (fun d hd => by rw [(h2 d hd).1]; rfl)]
    rcases hq with rfl | ⟨q', rfl⟩
    · simp
    · rw [List.takeWhile_cons_of_neg (by decide), List.append_nil]
theorem hex_ne : ∀ n : Fin 16, hexD n.val ≠ 34 ∧ hexD n.val ≠ 92 ∧ hexD n.val ≠ 10 ∧ nib (hexD n.val) = some n.val := by decide +kernel
theorem pcS_cases (b : UInt8) : (b = 10 ∧ pcS b = [92, 110]) ∨ ((b = 34 ∨ b = 92) ∧ pcS b = [92, b]) ∨ (b ≠ 34 ∧ b ≠ 92 ∧ 32 ≤ b.toNat ∧ b.toNat ≤ 126 ∧ pcS b = [b]) ∨ (b ≠ 34 ∧ b ≠ 92 ∧ pcS b = [92, 120, hexD (b.toNat / 16), hexD (b.toNat % 16)]) := by
  unfold pcS
  by_cases h1 : b = 10
  · exact .inl ⟨h1, if_pos h1⟩
  · rw [if_neg h1]
    by_cases h2 : b = 34 ∨ b = 92
    · exact .inr (.inl ⟨h2, if_pos h2⟩)
    · rw [if_neg h2]
      by_cases h3 : 32 ≤ b.toNat ∧ b.toNat ≤ 126
      · exact .inr (.inr (.inl ⟨fun q => h2 (.inl q), fun q => h2 (.inr q), h3.1, h3.2, if_pos h3⟩))
      · exact .inr (.inr (.inr ⟨fun q => h2 (.inl q), fun q => h2 (.inr q), if_neg h3⟩))
theorem hx16 (b : UInt8) : b.toNat / 16 < 16 ∧ b.toNat % 16 < 16 := by have := b.toNat_lt; omega
theorem pcS_nl (b : UInt8) : ∀ c ∈ pcS b, c ≠ 10 := by
  obtain ⟨hh, hl⟩ := hx16 b
  have e1 := hex_ne ⟨_, hh⟩
  have e2 := hex_ne ⟨_, hl⟩
  simp only at e1 e2
  rcases pcS_cases b with ⟨-, e⟩ | ⟨q, e⟩ | ⟨-, -, q, -, e⟩ | ⟨-, -, e⟩
  · rw [e]; decide
  · rw [e]; rcases q with rfl | rfl <;> decide
  · rw [e]
    intro c hc
    rw [List.mem_singleton.1 hc]
    rintro rfl
    simp at q
  · rw [e]
    intro c hc
    simp only [List.mem_cons, List.not_mem_nil, or_false] at hc
    rcases hc with rfl | rfl | rfl | rfl
    · decide
    · decide
    · exact e1.2.2.1
    · exact e2.2.2.1
theorem qe1 {c : UInt8} (l : Bs) (h1 : c ≠ 34) (h2 : c ≠ 92) : qeS (c :: l) = 1 + qeS l := by
  rw [qeS.eq_def]
  simp only
  rw [if_neg h1, if_neg h2]
theorem qe2 (c : UInt8) (l : Bs) : qeS (92 :: c :: l) = 2 + qeS l := by
  rw [qeS, if_neg (by decide), if_pos rfl]
theorem qe_pc (b : UInt8) (l : Bs) : qeS (pcS b ++ l) = (pcS b).length + qeS l := by
  obtain ⟨hh, hl⟩ := hx16 b
  have e1 := hex_ne ⟨_, hh⟩
  have e2 := hex_ne ⟨_, hl⟩
  simp only at e1 e2
  rcases pcS_cases b with ⟨-, e⟩ | ⟨q, e⟩ | ⟨q1, q2, -, -, e⟩ | ⟨-, -, e⟩
  · rw [e]; exact qe2 _ _
  · rw [e]; exact qe2 _ _
  · rw [e]; exact qe1 _ q1 q2
  · rw [e]
    show qeS (92 :: 120 :: hexD (b.toNat / 16) :: hexD (b.toNat % 16) :: l) = 4 + qeS l
    rw [qe2, qe1 _ e1.1 e1.2.1, qe1 _ e2.1 e2.2.1]
    omega
theorem qe_pcs : ∀ (t l : Bs), qeS (t.flatMap pcS ++ 34 :: l) = (t.flatMap pcS).length + 1
  | [], l => by rw [List.flatMap_nil, List.nil_append, qeS.eq_def]; rfl
  | b :: t, l => by rw [List.flatMap_cons, List.append_assoc, qe_pc, qe_pcs t l, List.length_append]; omega
theorem quote_wd (t : Bs) : Wd (qtS t) := by
  refine ⟨⟨34, _, rfl, by decide, by decide, by decide⟩, fun c hc => ?_, fun r hr => ?_⟩
  · unfold qtS at hc
    simp only [List.mem_cons, List.mem_append, List.mem_flatMap, List.not_mem_nil, or_false] at hc
    rcases hc with rfl | ⟨b, -, hb⟩ | rfl
    · decide
    · exact pcS_nl b c hb
    · decide
  · have e1 : qlS (qtS t ++ r) = (qtS t).length := by
      unfold qtS
      rw [List.cons_append, List.append_assoc, List.singleton_append]
      unfold qlS
      simp only
      rw [if_pos trivial, qe_pcs]
      simp only [List.length_cons, List.length_append, List.length_nil]
      omega
    unfold wdLen
    rw [e1, List.drop_left]
    rcases hr with rfl | ⟨q, rfl⟩
    · rfl
    · rw [List.takeWhile_cons_of_neg (by decide)]; rfl
/-- Quotes come back. -/
theorem fp_pc (b : UInt8) (l : Bs) : fpS (pcS b ++ l) = some (b, (pcS b).length) ∧ ∃ c r, pcS b ++ l = c :: r ∧ c ≠ 34 := by
  obtain ⟨hh, hl⟩ := hx16 b
  have e1 := hex_ne ⟨_, hh⟩
  have e2 := hex_ne ⟨_, hl⟩
  simp only at e1 e2
  rcases pcS_cases b with ⟨rfl, e⟩ | ⟨q, e⟩ | ⟨q1, q2, q3, q4, e⟩ | ⟨-, -, e⟩
  · rw [e]; exact ⟨rfl, _, _, rfl, by decide⟩
  · rw [e]
    rcases q with rfl | rfl
    · exact ⟨rfl, _, _, rfl, by decide⟩
    · exact ⟨rfl, _, _, rfl, by decide⟩
  · rw [e]
    refine ⟨?_, _, _, rfl, q1⟩
    show fpS (b :: l) = _
    unfold fpS
    simp only
    rw [if_pos q2, if_pos ⟨q3, q4⟩]
    rfl
  · rw [e]
    refine ⟨?_, _, _, rfl, by decide⟩
    show fpS (92 :: 120 :: hexD (b.toNat / 16) :: hexD (b.toNat % 16) :: l) = _
    unfold fpS
    simp only
    rw [if_neg (by decide), if_neg (by decide), if_neg (by decide), if_pos trivial, e1.2.2.2, e2.2.2.2]
    simp only
    have e3 : UInt8.ofNat (16 * (b.toNat / 16) + b.toNat % 16) = b := by
      rw [Nat.div_add_mod]
      exact UInt8.ofNat_toNat
    rw [e3]
    rfl
theorem qdF_ok : ∀ (t acc : Bs) (f : Nat), acc.length + t.length ≤ 200 → t.length < f → qdF f acc (t.flatMap pcS ++ [34]) = some (acc ++ t)
  | [], acc, f, _, hf => by
    obtain ⟨g, rfl⟩ : ∃ g, f = g + 1 := ⟨f - 1, by simp at hf; omega⟩
    rw [List.flatMap_nil, List.nil_append, List.append_nil]
    rfl
  | b :: t, acc, f, ha, hf => by
    obtain ⟨g, rfl⟩ : ∃ g, f = g + 1 := ⟨f - 1, by simp at hf; omega⟩
    rw [List.length_cons] at ha hf
    rw [List.flatMap_cons, List.append_assoc]
    obtain ⟨e1, c, r, e2, hc⟩ := fp_pc b (t.flatMap pcS ++ [34])
    have e3 : (pcS b ++ (t.flatMap pcS ++ [34])).drop (pcS b).length = t.flatMap pcS ++ [34] := List.drop_left
    rw [e2] at e1 e3 ⊢
    unfold qdF
    simp only
    rw [if_neg hc, e1]
    simp only
    rw [if_neg (by omega), e3, qdF_ok t (acc ++ [b]) g (by rw [List.length_append, List.length_singleton]; omega) (by omega), List.append_assoc, List.singleton_append]
theorem pcS_pos (b : UInt8) : 0 < (pcS b).length := by
  rcases pcS_cases b with ⟨-, e⟩ | ⟨-, e⟩ | ⟨-, -, -, -, e⟩ | ⟨-, -, e⟩ <;> rw [e] <;> simp
theorem pcs_ge : ∀ t : Bs, t.length ≤ (t.flatMap pcS).length
  | [] => by simp
  | b :: t => by
    have := pcs_ge t
    have := pcS_pos b
    rw [List.flatMap_cons, List.length_append, List.length_cons]
    omega
theorem qd_ok {t : Bs} (h : t.length ≤ 200) : qdS (qtS t) = some t := by
  unfold qtS qdS
  simp only
  rw [if_pos trivial, qdF_ok t [] _ (by simpa using h) (by have := pcs_ge t; simp only [List.length_append, List.length_cons]; omega), List.nil_append]
/-- The words of a line. -/
theorem wdsF_join : ∀ (ws : List Bs) (f k : Nat), (∀ w ∈ ws, Wd w) → k + ws.length ≤ 255 → (joinW ws).length < f → wdsF f k (joinW ws) = ws
  | [], f, k, _, _, hf => by
    obtain ⟨g, rfl⟩ : ∃ g, f = g + 1 := ⟨f - 1, by simp [joinW] at hf; omega⟩
    rfl
  | [w], f, k, hw, hk, hf => by
    obtain ⟨g, rfl⟩ : ∃ g, f = g + 1 := ⟨f - 1, by omega⟩
    have h := hw w (by simp)
    have hl := h.ln [] (.inl rfl)
    rw [List.append_nil] at hl
    obtain ⟨c, r, e, h1, h2, h3⟩ := h.hd
    show wdsF (g + 1) k w = [w]
    simp only [List.length_singleton] at hk
    rw [e] at hl ⊢
    rw [wdsF, if_neg (by omega), if_neg (by rintro (q | q); exact h1 q; exact h2 q), if_neg h3, hl, List.take_length, List.drop_length]
    cases g <;> rfl
  | w :: v :: ws, f, k, hw, hk, hf => by
    have ej : joinW (w :: v :: ws) = w ++ 32 :: joinW (v :: ws) := rfl
    rw [ej] at hf ⊢
    simp only [List.length_append, List.length_cons] at hf hk
    obtain ⟨g, rfl⟩ : ∃ g, f = g + 1 := ⟨f - 1, by omega⟩
    have h := hw w (by simp)
    have hl := h.ln (32 :: joinW (v :: ws)) (.inr ⟨_, rfl⟩)
    obtain ⟨c, r, e, h1, h2, h3⟩ := h.hd
    have hlen : 0 < w.length := by rw [e]; simp
    have et : (w ++ 32 :: joinW (v :: ws)).take w.length = w := List.take_left
    have ed : (w ++ 32 :: joinW (v :: ws)).drop w.length = 32 :: joinW (v :: ws) := List.drop_left
    have ec : w ++ 32 :: joinW (v :: ws) = c :: (r ++ 32 :: joinW (v :: ws)) := by rw [e]; rfl
    rw [ec] at hl et ed ⊢
    obtain ⟨g2, rfl⟩ : ∃ g2, g = g2 + 1 := ⟨g - 1, by omega⟩
    rw [wdsF, if_neg (by omega), if_neg (by rintro (q | q); exact h1 q; exact h2 q), if_neg h3, hl, et, ed, wdsF, if_neg (by omega), if_pos (.inl rfl), wdsF_join (v :: ws) g2 (k + 1) (fun x hx => hw x (List.mem_cons_of_mem _ hx)) (by simp only [List.length_cons]; omega) (by omega)]
theorem wds_join {ws : List Bs} (hw : ∀ w ∈ ws, Wd w) (hk : ws.length ≤ 255) : wdsS (joinW ws) = ws := wdsF_join ws _ 0 hw (by omega) (by omega)
theorem wds_join2 {ws : List Bs} (hw : ∀ w ∈ ws, Wd w) (hk : ws.length ≤ 255) : wdsS ([32, 32] ++ joinW ws) = ws := by
  unfold wdsS
  show wdsF ((32 :: 32 :: joinW ws).length + 1) 0 (32 :: 32 :: joinW ws) = ws
  rw [List.length_cons, List.length_cons, wdsF, if_neg (by omega), if_pos (.inl rfl), wdsF, if_neg (by omega), if_pos (.inl rfl)]
  exact wdsF_join ws _ 0 hw (by omega) (by omega)
theorem join_nl : ∀ {ws : List Bs}, (∀ w ∈ ws, Wd w) → ∀ c ∈ joinW ws, c ≠ 10
  | [], _, c, hc => by cases hc
  | [w], hw, c, hc => (hw w (by simp)).nl c hc
  | w :: v :: ws, hw, c, hc => by
    have ej : joinW (w :: v :: ws) = w ++ 32 :: joinW (v :: ws) := rfl
    rw [ej] at hc
    rcases List.mem_append.1 hc with hc | hc
    · exact (hw w (by simp)).nl c hc
    · rcases List.mem_cons.1 hc with rfl | hc
      · decide
      · exact join_nl (fun x hx => hw x (List.mem_cons_of_mem _ hx)) c hc
theorem line_of {a r : Bs} (h : ∀ c ∈ a, c ≠ 10) : lineOf (a ++ 10 :: r) = a ∧ restOf (a ++ 10 :: r) = r := by
  unfold lineOf restOf
  rw [List.takeWhile_append_of_pos (fun c hc => by simpa using h c hc), List.dropWhile_append_of_pos (fun c hc => by simpa using h c hc)]
  rw [List.takeWhile_cons_of_neg (by decide), List.append_nil, List.dropWhile_cons_of_neg (by decide)]
  exact ⟨rfl, rfl⟩
end Go.Proofs.YtcjnejdemfemfaaGreatDoor

