import Derived.Test.YtnecnchdffmhbaaDoorU03
namespace Go.Proofs.YtnecnchdffmhbaaDoor

/-- How many events the whole chunks among the first bytes have, and how many bytes these take. -/
def whl : Nat → List Ev → Nat → Nat × Nat
  | 0, _, _ => (0, 0)
  | m + 1, l, j => if l = [] then (0, 0) else if j < 8 + (bodyL (l.take 64)).length then (0, 0) else ((l.take 64).length + (whl m (l.drop 64) (j - (8 + (bodyL (l.take 64)).length))).1, 8 + (bodyL (l.take 64)).length + (whl m (l.drop 64) (j - (8 + (bodyL (l.take 64)).length))).2)
theorem first_cut (body r : List UInt8) (h1 : body.length < 4294967296) (j : Nat) (hj : j < 8 + body.length) : firstS ((chS body ++ r).take j) = none := by
  cases hf : firstS ((chS body ++ r).take j) with
  | none => rfl
  | some y =>
    exfalso
    obtain ⟨-, hy1, hy2⟩ := first_is _ y hf
    obtain ⟨-, hle⟩ := first_le hf
    rw [List.length_take] at hle
    have e1 : ((chS body ++ r).take j).take 4 = fxS y.length 4 := by
      rw [hy2]
      unfold chS
      rw [List.append_assoc, List.append_assoc, List.take_append_of_le_length (by rw [fxS_len]; exact Nat.le_refl _), List.take_of_length_le (by rw [fxS_len]; exact Nat.le_refl _)]
    have e2 : ((chS body ++ r).take j).take 4 = fxS body.length 4 := by
      rw [List.take_take, Nat.min_eq_left (by omega)]
      unfold chS
      rw [List.append_assoc, List.append_assoc, List.take_append_of_le_length (by rw [fxS_len]; exact Nat.le_refl _), List.take_of_length_le (by rw [fxS_len]; exact Nat.le_refl _)]
    have e3 := congrArg fxO (e1.symm.trans e2)
    rw [fxO_fxS, fxO_fxS, Nat.mod_eq_of_lt hy1, Nat.mod_eq_of_lt h1] at e3
    omega
theorem take_part {rc : Rc} (hmost : rc.evs.length ≤ 1048576) (hok : ∀ e ∈ rc.evs, evOk e = true ∧ (-9223372036854775808 ≤ e.vn ∧ e.vn ≤ 9223372036854775807)) (E l : List Ev) (n : Nat) (hE : rc.evs = E ++ l) (hE64 : E.length % 64 = 0) (hl : l ≠ []) : takeS ⟨⟨0, 0, [], 0, E⟩, n, false⟩ (bodyL (l.take 64)) = some ⟨⟨0, 0, [], 0, E ++ l.take 64⟩, n, false⟩ := by
  have hlp := List.length_pos_iff.2 hl
  have hp0 : l.take 64 ≠ [] := by intro h; have := congrArg List.length h; rw [List.length_take, List.length_nil] at this; omega
  have hp : ∀ e ∈ l.take 64, evOk e = true ∧ (-9223372036854775808 ≤ e.vn ∧ e.vn ≤ 9223372036854775807) := fun e he => hok e (by rw [hE]; exact List.mem_append_right _ (List.mem_of_mem_take he))
  have h64 : (l.take 64).length ≤ 64 := by rw [List.length_take]; omega
  have hlen : rc.evs.length = E.length + l.length := by rw [hE, List.length_append]
  unfold takeS
  have hb : (byteR (bodyL (l.take 64))).1 = 1 := rfl
  rw [if_neg (by simp), hb, if_pos rfl]
  unfold takeE
  simp only
  rw [if_neg (by omega), body_back _ hp h64, if_pos ⟨hp0, List.all_eq_true.2 fun e he => (hp e he).1, rfl⟩]
theorem fol_cut {rc : Rc} (hout : rc.out.length ≤ 16777216) (hmost : rc.evs.length ≤ 1048576) (hok : ∀ e ∈ rc.evs, evOk e = true ∧ (-9223372036854775808 ≤ e.vn ∧ e.vn ≤ 9223372036854775807)) :
    ∀ (m : Nat) (E l : List Ev) (n k j : Nat), l.length ≤ m → rc.evs = E ++ l → E.length % 64 = 0 → j < (evF l ++ chS (lastL rc)).length → j < k → folW k ⟨⟨0, 0, [], 0, E⟩, n, false⟩ ((evF l ++ chS (lastL rc)).take j) = ⟨⟨0, 0, [], 0, E ++ l.take (whl m l j).1⟩, n + (whl m l j).2, false⟩ ∧ (whl m l j).2 ≤ j ∧ (whl m l j).1 ≤ l.length := by
  have hnil : ∀ (E : List Ev) (n k j : Nat), j < (chS (lastL rc)).length → folW k ⟨⟨0, 0, [], 0, E⟩, n, false⟩ ((chS (lastL rc)).take j) = ⟨⟨0, 0, [], 0, E⟩, n, false⟩ := fun E n k j hj => by
    rw [chS_len, lastL_len] at hj
    have h := first_cut (lastL rc) [] (by rw [lastL_len]; omega) j (by rw [lastL_len]; omega)
    rw [List.append_nil] at h
    exact fol_none h
  intro m
  induction m with
  | zero =>
    intro E l n k j hm hE _ hj hk
    obtain rfl : l = [] := List.length_eq_zero_iff.1 (by omega)
    rw [evF_nil, List.nil_append] at hj ⊢
    rw [hnil E n k j hj]
    exact ⟨by simp [whl], Nat.zero_le _, Nat.zero_le _⟩
  | succ m ih =>
    intro E l n k j hm hE hE64 hj hk
    by_cases hl : l = []
    · subst hl
      rw [evF_nil, List.nil_append] at hj ⊢
      rw [hnil E n k j hj]
      exact ⟨by simp [whl], by simp [whl], by simp [whl]⟩
    · have hlp := List.length_pos_iff.2 hl
      have hp : ∀ e ∈ l.take 64, evOk e = true ∧ (-9223372036854775808 ≤ e.vn ∧ e.vn ≤ 9223372036854775807) := fun e he => hok e (by rw [hE]; exact List.mem_append_right _ (List.mem_of_mem_take he))
      have h64 : (l.take 64).length ≤ 64 := by rw [List.length_take]; omega
      have hbl := bodyL_len _ hp h64
      rw [evF_cons hl, List.append_assoc] at hj ⊢
      obtain ⟨c, hc⟩ : ∃ c, 8 + (bodyL (l.take 64)).length = c := ⟨_, rfl⟩
      by_cases hjc : j < c
      · have hw : whl (m + 1) l j = (0, 0) := by
          unfold whl
          rw [if_neg hl, if_pos (by omega)]
        rw [fol_none (first_cut _ _ (by omega) j (by omega)), hw]
        exact ⟨by simp, Nat.zero_le _, Nat.zero_le _⟩
      · have hw : whl (m + 1) l j = ((l.take 64).length + (whl m (l.drop 64) (j - c)).1, c + (whl m (l.drop 64) (j - c)).2) := by
          conv => lhs; unfold whl
          rw [hc, if_neg hl, if_neg hjc]
        have hcat : (chS (bodyL (l.take 64)) ++ (evF (l.drop 64) ++ chS (lastL rc))).take j = chS (bodyL (l.take 64)) ++ (evF (l.drop 64) ++ chS (lastL rc)).take (j - c) := by
          rw [List.take_append, List.take_of_length_le (by rw [chS_len]; omega), chS_len, hc]
        rw [hcat, hw]
        match k, hk with
        | k + 1, hk =>
          rw [chs_fol _ _ (by simp [bodyL]) (by omega), take_part hmost hok E l n hE hE64 hl]
          simp only
          rw [List.length_append, chS_len, hc] at hj
          by_cases hd : l.drop 64 = []
          · have hE2 : l.take 64 = l := by
              have := List.take_append_drop 64 l
              rw [hd, List.append_nil] at this
              exact this
            have hz : whl m (l.drop 64) (j - c) = (0, 0) := by
              rw [hd]
              cases m <;> simp [whl]
            rw [hz, hd, evF_nil, List.nil_append, hnil _ _ _ _ (by rw [hd, evF_nil, List.nil_append] at hj; omega)]
            refine ⟨?_, by show c + 0 ≤ j; omega, by show (l.take 64).length + 0 ≤ _; rw [hE2]; omega⟩
            rw [hc, hE2]
            simp
          · have hdl := List.length_pos_iff.2 hd
            rw [List.length_drop] at hdl
            obtain ⟨i1, i2, i3⟩ := ih (E ++ l.take 64) (l.drop 64) (n + c) k (j - c) (by rw [List.length_drop]; omega) (by rw [hE, List.append_assoc, List.take_append_drop]) (by rw [List.length_append, List.length_take]; omega) (by omega) (by omega)
            rw [hc, i1]
            have h6 : (l.take 64).length = 64 := by rw [List.length_take]; omega
            refine ⟨?_, by show c + _ ≤ j; omega, ?_⟩
            · congr 1
              · congr 1
                rw [List.append_assoc]
                congr 1
                show l.take 64 ++ (l.drop 64).take _ = l.take ((l.take 64).length + _)
                rw [h6, List.take_add]
              · show n + c + _ = n + (c + _)
                omega
            · show (l.take 64).length + _ ≤ _
              rw [List.length_drop] at i3
              rw [h6]
              omega
/-- What is saved of a file that was cut. -/
theorem sal_cut {rc : Rc} (h : (encS rc).2 = 0) (hv : ∀ e ∈ rc.evs, -9223372036854775808 ≤ e.vn ∧ e.vn ≤ 9223372036854775807) (n : Nat) (h2 : 2 ≤ n) (hn : n < (encS rc).1.length) :
    salS ((encS rc).1.take n) = (⟨0, 0, [], 0, rc.evs.take (whl rc.evs.length rc.evs (n - 2)).1⟩, 2 + (whl rc.evs.length rc.evs (n - 2)).2, 0) ∧ decS ((encS rc).1.take n) = (rc0, 250) ∧ (whl rc.evs.length rc.evs (n - 2)).2 + 2 ≤ n ∧ (whl rc.evs.length rc.evs (n - 2)).1 ≤ rc.evs.length := by
  obtain ⟨h1, h3, h4, h5⟩ := encS_ok h
  rw [h5] at hn ⊢
  simp only at hn ⊢
  have hf : fileL rc = [82, 1] ++ (evF rc.evs ++ chS (lastL rc)) := by unfold fileL; rw [List.append_assoc]
  have ht2 : ((fileL rc).take n).take 2 = [82, 1] := by
    rw [List.take_take, Nat.min_eq_left h2, hf]
    rfl
  have hd2 : ((fileL rc).take n).drop 2 = (evF rc.evs ++ chS (lastL rc)).take (n - 2) := by
    rw [List.drop_take, hf]
    rfl
  have hl : (fileL rc).length = 2 + (evF rc.evs ++ chS (lastL rc)).length := by
    rw [hf, List.length_append]
    rfl
  have hln : ((fileL rc).take n).length = n := by rw [List.length_take]; omega
  obtain ⟨k1, k2, k3⟩ := fol_cut h4 h3 (fun e he => ⟨List.all_eq_true.1 h1 e he, hv e he⟩) rc.evs.length [] rc.evs 2 n (n - 2) (Nat.le_refl _) rfl rfl (by omega) (by omega)
  have hfo : followS ((fileL rc).take n) = some ⟨⟨0, 0, [], 0, rc.evs.take (whl rc.evs.length rc.evs (n - 2)).1⟩, 2 + (whl rc.evs.length rc.evs (n - 2)).2, false⟩ := by
    unfold followS
    rw [if_pos ht2, hln, hd2]
    have := k1
    rw [List.nil_append] at this
    exact congrArg some this
  refine ⟨?_, ?_, by omega, k3⟩
  · unfold salS
    rw [hfo]
  · unfold decS
    rw [hfo]
    rfl
end Go.Proofs.YtnecnchdffmhbaaDoor
