import Derived.Test.YtnecnchdffmhbaaDoorV00
namespace Go.Proofs.YtnecnchdffmhbaaDoor

theorem crcT_top : ∀ i j : Fin 16, (crcT.getD i 0#32) >>> 28 = (crcT.getD j 0#32) >>> 28 → i = j := by decide +kernel
theorem shr_top (r : BitVec 32) : (r >>> 4) >>> 28 = 0#32 := by
  apply BitVec.eq_of_toNat_eq
  simp only [BitVec.toNat_ushiftRight, Nat.shiftRight_eq_div_pow, BitVec.toNat_ofNat]
  have := r.isLt
  omega
theorem crcN_inj {a b : BitVec 32} (h : crcN a = crcN b) : a = b := by
  have h1 : (crcT.getD (a.toNat % 16) 0#32) >>> 28 = (crcT.getD (b.toNat % 16) 0#32) >>> 28 := by
    have h2 := congrArg (fun x : BitVec 32 => x >>> 28) h
    unfold crcN at h2
    simp only [BitVec.ushiftRight_xor_distrib, shr_top, BitVec.zero_xor] at h2
    exact h2
  have h3 := crcT_top ⟨a.toNat % 16, Nat.mod_lt _ (by decide)⟩ ⟨b.toNat % 16, Nat.mod_lt _ (by decide)⟩ h1
  have h4 : a.toNat % 16 = b.toNat % 16 := congrArg (fun x : Fin 16 => x.val) h3
  unfold crcN at h
  rw [h4] at h
  have h5 : a >>> 4 = b >>> 4 := by
    have := congrArg (fun x : BitVec 32 => x ^^^ crcT.getD (b.toNat % 16) 0#32) h
    simpa [BitVec.xor_assoc] using this
  have h6 := congrArg BitVec.toNat h5
  simp only [BitVec.toNat_ushiftRight, Nat.shiftRight_eq_div_pow] at h6
  apply BitVec.eq_of_toNat_eq
  omega
theorem xor_inj {a b c : BitVec 32} (h : a ^^^ c = b ^^^ c) : a = b := by
  have := congrArg (fun x : BitVec 32 => x ^^^ c) h
  simpa [BitVec.xor_assoc] using this
theorem crcB_inj {a b : BitVec 32} {c : UInt8} (h : crcB a c = crcB b c) : a = b := xor_inj (crcN_inj (crcN_inj h))
theorem crcB_byte {a : BitVec 32} {c d : UInt8} (h : crcB a c = crcB a d) : c = d := by
  have h1 := crcN_inj (crcN_inj h)
  have h2 : BitVec.ofNat 32 c.toNat = BitVec.ofNat 32 d.toNat := by
    rw [BitVec.xor_comm a, BitVec.xor_comm a] at h1
    exact xor_inj h1
  have h3 := congrArg BitVec.toNat h2
  simp only [BitVec.toNat_ofNat] at h3
  have := c.toNat_lt
  have := d.toNat_lt
  exact UInt8.toNat_inj.1 (by omega)
theorem crc_run_inj : ∀ (l : List UInt8) {a b : BitVec 32}, l.foldl crcB a = l.foldl crcB b → a = b
  | [], _, _, h => h
  | _ :: l, _, _, h => crcB_inj (crc_run_inj l h)
/-- Another byte, another sum. -/
theorem sum_set {l : List UInt8} {j : Nat} {t : UInt8} (hj : j < l.length) (ht : l[j]? ≠ some t) : sumS (l.set j t) ≠ sumS l := fun h => by
  have h1 : crcR (l.set j t) = crcR l := by
    unfold sumS at h
    have h2 := BitVec.eq_of_toNat_eq h
    rw [BitVec.xor_comm, BitVec.xor_comm (0xffffffff#32)] at h2
    exact xor_inj h2
  have e1 : l.set j t = l.take j ++ t :: l.drop (j + 1) := by rw [List.set_eq_take_append_cons_drop, if_pos hj]
  have e2 : l = l.take j ++ l[j] :: l.drop (j + 1) := by rw [← List.drop_eq_getElem_cons hj, List.take_append_drop]
  unfold crcR at h1
  rw [e1] at h1
  conv at h1 => rhs; rw [e2]
  rw [List.foldl_append, List.foldl_append, List.foldl_cons, List.foldl_cons] at h1
  have h3 := crcB_byte (crc_run_inj _ h1)
  exact ht (by rw [List.getElem?_eq_getElem hj, h3])
theorem fxO_inj {a b : List UInt8} (hl : a.length = b.length) (h : fxO a = fxO b) : a = b := by
  rw [← fxS_fxO a, ← fxS_fxO b, h, hl]
theorem set_ne {l : List UInt8} {j : Nat} {t : UInt8} (hj : j < l.length) (ht : l[j]? ≠ some t) : l.set j t ≠ l := fun h => by
  have h1 : (l.set j t)[j]? = some t := by rw [List.getElem?_set_self hj]
  rw [h] at h1
  exact ht h1
/-- A chunk whose body or sum has another byte is none. -/
theorem first_spoilt (body r : List UInt8) (h1 : body.length < 4294967296) (j : Nat) (h4 : 4 ≤ j) (hj : j < 8 + body.length) (t : UInt8) (ht : (chS body ++ r)[j]? ≠ some t) : firstS ((chS body ++ r).set j t) = none := by
  obtain ⟨X, hX⟩ : ∃ X, chS body ++ r = X := ⟨_, rfl⟩
  obtain ⟨s, hs⟩ : ∃ s, body.length = s := ⟨_, rfl⟩
  have hl : X.length = 8 + s + r.length := by rw [← hX, List.length_append, chS_len, hs]
  have e4 : X.take 4 = fxS s 4 := by
    rw [← hX]
    unfold chS
    rw [List.append_assoc, List.append_assoc, List.take_append_of_le_length (by rw [fxS_len]; exact Nat.le_refl _), List.take_of_length_le (by rw [fxS_len]; exact Nat.le_refl _), hs]
  have eA : X.take (4 + s) = fxS s 4 ++ body := by
    rw [← hX, ← hs]
    unfold chS
    rw [List.append_assoc, List.take_append_of_le_length (by rw [List.length_append, fxS_len]; exact Nat.le_refl _), List.take_of_length_le (by rw [List.length_append, fxS_len]; exact Nat.le_refl _)]
  have eB : (X.drop (4 + s)).take 4 = fxS (sumS (X.take (4 + s))) 4 := by
    rw [eA, ← hX, ← hs]
    unfold chS
    rw [List.append_assoc, List.drop_append_of_le_length (by rw [List.length_append, fxS_len]; exact Nat.le_refl _), List.drop_of_length_le (by rw [List.length_append, fxS_len]; exact Nat.le_refl _), List.nil_append, List.take_append_of_le_length (by rw [fxS_len]; exact Nat.le_refl _), List.take_of_length_le (by rw [fxS_len]; exact Nat.le_refl _)]
  rw [hX] at ht ⊢
  rw [hs] at h1 hj
  have hz : fxO ((X.set j t).take 4) = s := by
    rw [List.take_set, List.set_eq_of_length_le (by rw [List.length_take]; omega), e4, fxO_fxS]
    exact Nat.mod_eq_of_lt h1
  unfold firstS
  rw [List.length_set, if_neg (by omega), hz]
  split
  · rfl
  · rw [if_neg]
    intro hsum
    have hS : fxO ((X.drop (4 + s)).take 4) = sumS (X.take (4 + s)) := by
      rw [eB, fxO_fxS]
      exact Nat.mod_eq_of_lt (sumS_lt _)
    rw [List.take_set, List.drop_set] at hsum
    by_cases hb : j < 4 + s
    · rw [if_pos hb, hS] at hsum
      exact sum_set (l := X.take (4 + s)) (by rw [List.length_take]; omega) (by rw [List.getElem?_take, if_pos hb]; exact ht) hsum
    · rw [if_neg hb, List.set_eq_of_length_le (l := X.take (4 + s)) (by rw [List.length_take]; omega), List.take_set] at hsum
      rw [← hS] at hsum
      have := fxO_inj (by rw [List.length_set]) hsum
      refine set_ne (l := (X.drop (4 + s)).take 4) (j := j - (4 + s)) (t := t) (by rw [List.length_take, List.length_drop]; omega) ?_ this.symm
      rw [List.getElem?_take, if_pos (by omega), List.getElem?_drop, show 4 + s + (j - (4 + s)) = j by omega]
      exact ht
theorem fol_spoilt {rc : Rc} (hout : rc.out.length ≤ 16777216) (hmost : rc.evs.length ≤ 1048576) (hok : ∀ e ∈ rc.evs, evOk e = true ∧ (-9223372036854775808 ≤ e.vn ∧ e.vn ≤ 9223372036854775807)) :
    ∀ (m : Nat) (E l : List Ev) (n k j : Nat) (t : UInt8), (whl m l j).2 + 4 ≤ j → (evF l ++ chS (lastL rc))[j]? ≠ some t → l.length ≤ m → rc.evs = E ++ l → E.length % 64 = 0 → j < (evF l ++ chS (lastL rc)).length → j < k → folW k ⟨⟨0, 0, [], 0, E⟩, n, false⟩ ((evF l ++ chS (lastL rc)).set j t) = ⟨⟨0, 0, [], 0, E ++ l.take (whl m l j).1⟩, n + (whl m l j).2, false⟩ ∧ (whl m l j).2 ≤ j ∧ (whl m l j).1 ≤ l.length := by
  have hnil : ∀ (E : List Ev) (n k j : Nat) (t : UInt8), 4 ≤ j → (chS (lastL rc))[j]? ≠ some t → j < (chS (lastL rc)).length → folW k ⟨⟨0, 0, [], 0, E⟩, n, false⟩ ((chS (lastL rc)).set j t) = ⟨⟨0, 0, [], 0, E⟩, n, false⟩ := fun E n k j t h4 ht hj => by
    rw [chS_len, lastL_len] at hj
    have h := first_spoilt (lastL rc) [] (by rw [lastL_len]; omega) j h4 (by rw [lastL_len]; omega) t (by rw [List.append_nil]; exact ht)
    rw [List.append_nil] at h
    exact fol_none h
  intro m
  induction m with
  | zero =>
    intro E l n k j t h4 ht hm hE _ hj hk
    obtain rfl : l = [] := List.length_eq_zero_iff.1 (by omega)
    rw [evF_nil, List.nil_append] at hj ht ⊢
    rw [hnil E n k j t (by omega) ht hj]
    exact ⟨by simp [whl], Nat.zero_le _, Nat.zero_le _⟩
  | succ m ih =>
    intro E l n k j t h4 ht hm hE hE64 hj hk
    by_cases hl : l = []
    · subst hl
      rw [evF_nil, List.nil_append] at hj ht ⊢
      rw [hnil E n k j t (by omega) ht hj]
      exact ⟨by simp [whl], by simp [whl], by simp [whl]⟩
    · have hlp := List.length_pos_iff.2 hl
      have hp : ∀ e ∈ l.take 64, evOk e = true ∧ (-9223372036854775808 ≤ e.vn ∧ e.vn ≤ 9223372036854775807) := fun e he => hok e (by rw [hE]; exact List.mem_append_right _ (List.mem_of_mem_take he))
      have h64 : (l.take 64).length ≤ 64 := by rw [List.length_take]; omega
      have hbl := bodyL_len _ hp h64
      rw [evF_cons hl, List.append_assoc] at hj ht ⊢
      obtain ⟨c, hc⟩ : ∃ c, 8 + (bodyL (l.take 64)).length = c := ⟨_, rfl⟩
      by_cases hjc : j < c
      · have hw : whl (m + 1) l j = (0, 0) := by
          unfold whl
          rw [if_neg hl, if_pos (by omega)]
        rw [fol_none (first_spoilt _ _ (by omega) j (by rw [hw] at h4; omega) (by omega) t ht), hw]
        exact ⟨by simp, Nat.zero_le _, Nat.zero_le _⟩
      · have hw : whl (m + 1) l j = ((l.take 64).length + (whl m (l.drop 64) (j - c)).1, c + (whl m (l.drop 64) (j - c)).2) := by
          conv => lhs; unfold whl
          rw [hc, if_neg hl, if_neg hjc]
        have hcat : (chS (bodyL (l.take 64)) ++ (evF (l.drop 64) ++ chS (lastL rc))).set j t = chS (bodyL (l.take 64)) ++ (evF (l.drop 64) ++ chS (lastL rc)).set (j - c) t := by
          rw [List.set_append, if_neg (by rw [chS_len]; omega), chS_len, hc]
        have ht2 : (evF (l.drop 64) ++ chS (lastL rc))[j - c]? ≠ some t := by
          rw [List.getElem?_append_right (by rw [chS_len]; omega), chS_len, hc] at ht
          exact ht
        rw [hw] at h4
        rw [hcat, hw]
        match k, hk with
        | k + 1, hk =>
          rw [chs_fol _ _ (by simp [bodyL]) (by omega), take_part hmost hok E l n hE hE64 hl]
          simp only
          rw [List.length_append, chS_len, hc] at hj
          by_cases hd : l.drop 64 = []
          · have hE2 : l.take 64 = l := by
              have := List.take_append_drop 64 l
              rw [hd, List.append_nil] at this
              exact this
            have hz : whl m (l.drop 64) (j - c) = (0, 0) := by
              rw [hd]
              cases m <;> simp [whl]
            rw [hz, hd, evF_nil, List.nil_append, hnil _ _ _ _ t (by rw [hz] at h4; omega) (by rw [hd, evF_nil, List.nil_append] at ht2; exact ht2) (by rw [hd, evF_nil, List.nil_append] at hj; omega)]
            refine ⟨?_, by show c + 0 ≤ j; omega, by show (l.take 64).length + 0 ≤ _; rw [hE2]; omega⟩
            rw [hc, hE2]
            simp
          · have hdl := List.length_pos_iff.2 hd
            rw [List.length_drop] at hdl
            obtain ⟨i1, i2, i3⟩ := ih (E ++ l.take 64) (l.drop 64) (n + c) k (j - c) t (by omega) ht2 (by rw [List.length_drop]; omega) (by rw [hE, List.append_assoc, List.take_append_drop]) (by rw [List.length_append, List.length_take]; omega) (by omega) (by omega)
            rw [hc, i1]
            have h6 : (l.take 64).length = 64 := by rw [List.length_take]; omega
            refine ⟨?_, by show c + _ ≤ j; omega, ?_⟩
            · congr 1
              · congr 1
                rw [List.append_assoc]
                congr 1
                show l.take 64 ++ (l.drop 64).take _ = l.take ((l.take 64).length + _)
                rw [h6, List.take_add]
              · show n + c + _ = n + (c + _)
                omega
            · show (l.take 64).length + _ ≤ _
              rw [List.length_drop] at i3
              rw [h6]
              omega
/-- What is saved of a file with another byte in a chunk's body or sum. -/
theorem sal_spoilt {rc : Rc} (h : (encS rc).2 = 0) (hv : ∀ e ∈ rc.evs, -9223372036854775808 ≤ e.vn ∧ e.vn ≤ 9223372036854775807) (n : Nat) (h2 : 2 ≤ n) (hn : n < (encS rc).1.length) (t : UInt8) (h4 : 2 + (whl rc.evs.length rc.evs (n - 2)).2 + 4 ≤ n) (ht : (encS rc).1[n]? ≠ some t) :
    salS ((encS rc).1.set n t) = (⟨0, 0, [], 0, rc.evs.take (whl rc.evs.length rc.evs (n - 2)).1⟩, 2 + (whl rc.evs.length rc.evs (n - 2)).2, 0) ∧ decS ((encS rc).1.set n t) = (rc0, 250) := by
  obtain ⟨h1, h3, hq, h5⟩ := encS_ok h
  rw [h5] at hn ht ⊢
  simp only at hn ht ⊢
  have hf : fileL rc = [82, 1] ++ (evF rc.evs ++ chS (lastL rc)) := by unfold fileL; rw [List.append_assoc]
  have hl : (fileL rc).length = 2 + (evF rc.evs ++ chS (lastL rc)).length := by
    rw [hf, List.length_append]
    rfl
  have hset : (fileL rc).set n t = [82, 1] ++ (evF rc.evs ++ chS (lastL rc)).set (n - 2) t := by
    rw [hf, List.set_append, if_neg (by show ¬ n < 2; omega)]
    rfl
  have ht2 : (evF rc.evs ++ chS (lastL rc))[n - 2]? ≠ some t := by
    rw [hf, List.getElem?_append_right (by show 2 ≤ n; exact h2)] at ht
    exact ht
  obtain ⟨k1, k2, k3⟩ := fol_spoilt hq h3 (fun e he => ⟨List.all_eq_true.1 h1 e he, hv e he⟩) rc.evs.length [] rc.evs 2 (fileL rc).length (n - 2) t (by omega) ht2 (Nat.le_refl _) rfl rfl (by omega) (by omega)
  have hfo : followS ((fileL rc).set n t) = some ⟨⟨0, 0, [], 0, rc.evs.take (whl rc.evs.length rc.evs (n - 2)).1⟩, 2 + (whl rc.evs.length rc.evs (n - 2)).2, false⟩ := by
    unfold followS
    rw [List.length_set, hset, if_pos (show (([82, 1] : List UInt8) ++ (evF rc.evs ++ chS (lastL rc)).set (n - 2) t).take 2 = [82, 1] from rfl), show ([82, 1] ++ (evF rc.evs ++ chS (lastL rc)).set (n - 2) t : List UInt8).drop 2 = (evF rc.evs ++ chS (lastL rc)).set (n - 2) t from rfl]
    rw [List.nil_append] at k1
    exact congrArg some k1
  refine ⟨?_, ?_⟩
  · unfold salS
    rw [hfo]
  · unfold decS
    rw [hfo]
    rfl
end Go.Proofs.YtnecnchdffmhbaaDoor
