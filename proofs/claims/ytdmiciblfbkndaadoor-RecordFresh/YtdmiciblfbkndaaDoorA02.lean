import Derived.Test.YtdmiciblfbkndaaDoorA01
namespace Go.Proofs.YtdmiciblfbkndaaDoor

/-- An event as it comes in: whole numbers of 64 bits. -/
def evIn (e : Ev) : Prop := (-9223372036854775808 ≤ e.k ∧ e.k ≤ 9223372036854775807) ∧ (-9223372036854775808 ≤ e.n ∧ e.n ≤ 9223372036854775807) ∧ (-9223372036854775808 ≤ e.vk ∧ e.vk ≤ 9223372036854775807) ∧ -9223372036854775808 ≤ e.vn ∧ e.vn ≤ 9223372036854775807
theorem numS_len : ∀ (k n : Nat), n < 128 ^ (k + 1) → (numS n).length ≤ k + 1 := by
  intro k
  induction k with
  | zero =>
    intro n h
    unfold numS
    rw [if_pos (by simpa using h)]
    simp
  | succ k ih =>
    intro n h
    unfold numS
    split
    · simp
    · simp only [List.length_cons]
      have := ih (n / 128) (by rw [Nat.pow_succ] at h; exact Nat.div_lt_of_lt_mul (by omega))
      omega
theorem numS_ten (n : Nat) (h : n < 18446744073709551616) : (numS n).length ≤ 10 := numS_len 9 n (Nat.lt_of_lt_of_le h (by decide))
theorem vlS_len (vk vn : Int) (vs : List UInt8) (h : valOk vk vn vs = true) (hn : -9223372036854775808 ≤ vn ∧ vn ≤ 9223372036854775807) : (vlS vk vn vs).length ≤ 266 := by
  have hv : vk = 3 → vs.length ≤ 256 := by
    rintro rfl
    unfold valOk at h
    simp at h
    exact h.2
  unfold vlS
  split
  · have := numS_ten _ (zz_lt vn hn)
    unfold sgnS
    omega
  · split
    · simp
    · split
      · rename_i h3
        have := hv h3
        have := numS_ten vs.length (by omega)
        rw [List.length_append]
        omega
      · split
        · have := numS_ten vn.toNat (by omega)
          omega
        · simp
theorem evL_len (nd : Int) (ns : List (List UInt8)) (e : Ev) (h : evOk e = true) (hv : -9223372036854775808 ≤ e.vn ∧ e.vn ≤ 9223372036854775807) (hnd : 0 ≤ nd ∧ nd < 40000) (hns : ns.length < 1000) : (evL nd ns e).length ≤ 400 := by
  obtain ⟨hok, hk1, hk8, hn0, hn1, hnm⟩ := evOk_parts h
  have h1 := numS_ten _ (zz_lt (e.n - nd) (by omega))
  have h2 := vlS_len _ _ _ hok hv
  have h3 : (nmS ns e.nm).length ≤ 40 := by
    unfold nmS
    split
    · have := numS_ten 0 (by decide); omega
    · split
      · rename_i hm
        have hi : ns.idxOf e.nm < ns.length := List.idxOf_lt_length_iff.2 hm
        have := numS_ten (ns.idxOf e.nm + 1) (by omega)
        omega
      · have := numS_ten (ns.length + 1) (by omega)
        rw [List.length_append, List.length_cons]
        omega
  unfold evL sgnS
  simp only [List.length_cons, List.length_append]
  omega
theorem evsL_len : ∀ (l : List Ev) (nd : Int) (ns : List (List UInt8)), (∀ e ∈ l, evOk e = true ∧ (-9223372036854775808 ≤ e.vn ∧ e.vn ≤ 9223372036854775807)) → 0 ≤ nd ∧ nd < 40000 → ns.length + l.length < 1000 → (evsL nd ns l).length ≤ 400 * l.length := by
  intro l
  induction l with
  | nil => intro nd ns _ _ _; simp [evsL]
  | cons e l ih =>
    intro nd ns hl hnd hns
    obtain ⟨h1, h2⟩ := hl e (by simp)
    simp only [List.length_cons] at hns ⊢
    have h3 := evL_len nd ns e h1 h2 hnd (by omega)
    have := nmN_len ns e.nm
    obtain ⟨-, -, -, h4, h5, -⟩ := evOk_parts h1
    have h6 := ih e.n (nmN ns e.nm) (fun x hx => hl x (by simp [hx])) ⟨h4, h5⟩ (by omega)
    show (evL nd ns e ++ evsL e.n (nmN ns e.nm) l).length ≤ _
    rw [List.length_append]
    omega
theorem bodyL_len (l : List Ev) (hl : ∀ e ∈ l, evOk e = true ∧ (-9223372036854775808 ≤ e.vn ∧ e.vn ≤ 9223372036854775807)) (h64 : l.length ≤ 64) : (bodyL l).length ≤ 30000 := by
  unfold bodyL
  have := evsL_len l 0 [] hl (by decide) (by simp; omega)
  rw [List.length_cons]
  omega
theorem endOk_parts {ph tr inp : Int} (h : endOk ph tr inp = true) : (0 ≤ ph ∧ ph ≤ 2) ∧ (0 ≤ tr ∧ tr ≤ 7) ∧ 0 ≤ inp ∧ inp ≤ 1000 := by
  unfold endOk at h
  simp only [Bool.and_eq_true, Bool.or_eq_true, decide_eq_true_eq, beq_iff_eq] at h
  omega
theorem last_back (rc : Rc) (h : endOk rc.ph rc.tr rc.inp = true) : lastR (lastL rc) rc.evs = rc := by
  obtain ⟨h1, h2, h3⟩ := endOk_parts h
  have e1 : (UInt8.ofNat rc.ph.toNat).toNat = rc.ph.toNat := by rw [UInt8.toNat_ofNat']; omega
  have e2 : (UInt8.ofNat rc.tr.toNat).toNat = rc.tr.toNat := by rw [UInt8.toNat_ofNat']; omega
  have e3 : (fxS rc.inp.toNat 2 ++ fxS rc.evs.length 4 ++ rc.out).take 2 = fxS rc.inp.toNat 2 := by
    rw [List.append_assoc, List.take_append_of_le_length (by rw [fxS_len]; exact Nat.le_refl _), List.take_of_length_le (by rw [fxS_len]; exact Nat.le_refl _)]
  have e4 : (fxS rc.inp.toNat 2 ++ fxS rc.evs.length 4 ++ rc.out).drop 6 = rc.out := by
    rw [List.drop_append_of_le_length (by rw [List.length_append, fxS_len, fxS_len]; exact Nat.le_refl _), List.drop_of_length_le (by rw [List.length_append, fxS_len, fxS_len]; exact Nat.le_refl _)]
    rfl
  unfold lastR lastL
  simp only [List.cons_append, List.nil_append, byteR]
  rw [e1, e2, e3, e4, fxO_fxS, Nat.mod_eq_of_lt (by omega), Int.toNat_of_nonneg h1.1, Int.toNat_of_nonneg h2.1, Int.toNat_of_nonneg h3.1]
theorem lastL_len (rc : Rc) : (lastL rc).length = 9 + rc.out.length := by
  unfold lastL
  simp [fxS_len] <;> omega
theorem chs_fol (b r : List UInt8) (h0 : b ≠ []) (h1 : b.length < 4294967296) (k : Nat) (w : Wy) : folW (k + 1) w (chS b ++ r) = (match takeS w b with | none => w | some w' => folW k ⟨w'.rc, w'.len + (8 + b.length), w'.fin⟩ r) := by
  rw [folW]
  rw [first_ch b r h0 h1]
  simp only
  rw [List.drop_append_of_le_length (by rw [chS_len]; exact Nat.le_refl _), List.drop_of_length_le (by rw [chS_len]; exact Nat.le_refl _), List.nil_append]
  cases takeS w b <;> rfl
/-- The way through what is left of a file. -/
theorem fol_file (rc : Rc) (hout : rc.out.length ≤ 16777216) (hend : endOk rc.ph rc.tr rc.inp = true) (hmost : rc.evs.length ≤ 1048576) (hok : ∀ e ∈ rc.evs, evOk e = true ∧ (-9223372036854775808 ≤ e.vn ∧ e.vn ≤ 9223372036854775807)) :
    ∀ (m : Nat) (E l : List Ev) (n k : Nat), l.length ≤ m → rc.evs = E ++ l → E.length % 64 = 0 → (cks l).length + 1 < k → folW k ⟨⟨0, 0, [], 0, E⟩, n, false⟩ (evF l ++ chS (lastL rc)) = ⟨rc, n + (evF l ++ chS (lastL rc)).length, true⟩ := by
  have hlast : ∀ (E : List Ev) (n k : Nat), rc.evs = E → 1 < k → folW k ⟨⟨0, 0, [], 0, E⟩, n, false⟩ (chS (lastL rc)) = ⟨rc, n + (chS (lastL rc)).length, true⟩ := by
    intro E n k hE hk
    match k, hk with
    | k + 2, _ =>
      have hc := chs_fol (lastL rc) [] (by simp [lastL]) (by rw [lastL_len]; omega) (k + 1) ⟨⟨0, 0, [], 0, E⟩, n, false⟩
      rw [List.append_nil] at hc
      have ht : takeS ⟨⟨0, 0, [], 0, E⟩, n, false⟩ (lastL rc) = some ⟨rc, n, true⟩ := by
        unfold takeS
        have hb : (byteR (lastL rc)).1 = 2 := rfl
        rw [if_neg (by simp), hb, if_neg (by decide), if_pos rfl]
        unfold takeL
        simp only
        rw [← hE, last_back rc hend, if_pos ⟨hout, hend, rfl⟩]
      rw [hc, ht, chS_len]
      show folW (k + 1) _ [] = _
      rw [folW]
      have : firstS [] = none := rfl
      rw [this]
  intro m
  induction m with
  | zero =>
    intro E l n k hm hE _ hk
    obtain rfl : l = [] := List.length_eq_zero_iff.1 (by omega)
    rw [evF_nil, List.nil_append]
    exact hlast E n k (by simpa using hE) (by omega)
  | succ m ih =>
    intro E l n k hm hE hE64 hk
    by_cases hl : l = []
    · subst hl
      rw [evF_nil, List.nil_append]
      exact hlast E n k (by simpa using hE) (by omega)
    · have hlp := List.length_pos_iff.2 hl
      have hck := cks_cons hl
      have hF : evF l = chS (bodyL (l.take 64)) ++ evF (l.drop 64) := by unfold evF; rw [hck]; rfl
      have hp0 : l.take 64 ≠ [] := by intro h; have := congrArg List.length h; rw [List.length_take, List.length_nil] at this; omega
      have hp : ∀ e ∈ l.take 64, evOk e = true ∧ (-9223372036854775808 ≤ e.vn ∧ e.vn ≤ 9223372036854775807) := fun e he => hok e (by rw [hE]; exact List.mem_append_right _ (List.mem_of_mem_take he))
      have h64 : (l.take 64).length ≤ 64 := by rw [List.length_take]; omega
      have hlen : rc.evs.length = E.length + l.length := by rw [hE, List.length_append]
      rw [hck] at hk
      simp only [List.length_cons] at hk
      match k, hk with
      | k + 1, hk =>
        rw [hF, List.append_assoc, chs_fol _ _ (by simp [bodyL]) (by have := bodyL_len _ hp h64; omega)]
        have ht : takeS ⟨⟨0, 0, [], 0, E⟩, n, false⟩ (bodyL (l.take 64)) = some ⟨⟨0, 0, [], 0, E ++ l.take 64⟩, n, false⟩ := by
          unfold takeS
          have hb : (byteR (bodyL (l.take 64))).1 = 1 := rfl
          rw [if_neg (by simp), hb, if_pos rfl]
          unfold takeE
          simp only
          rw [if_neg (by omega), body_back _ hp h64, if_pos ⟨hp0, List.all_eq_true.2 fun e he => (hp e he).1, rfl⟩]
        rw [ht]
        simp only
        by_cases hd : l.drop 64 = []
        · have hE2 : rc.evs = E ++ l.take 64 := by
            rw [hE]
            congr 1
            have := List.take_append_drop 64 l
            rw [hd, List.append_nil] at this
            exact this.symm
          rw [hd, evF_nil, List.nil_append, hlast _ _ _ hE2 (by omega)]
          congr 1
          simp only [List.length_append, chS_len]
          omega
        · have hdl := List.length_pos_iff.2 hd
          rw [List.length_drop] at hdl
          rw [ih (E ++ l.take 64) (l.drop 64) _ k (by rw [List.length_drop]; omega) (by rw [hE, List.append_assoc, List.take_append_drop]) (by rw [List.length_append, List.length_take]; omega) (by omega)]
          congr 1
          simp only [List.length_append, chS_len]
          omega
theorem cks_len : ∀ (m : Nat) (l : List Ev), l.length ≤ m → (cks l).length ≤ (evF l).length := by
  intro m
  induction m with
  | zero =>
    intro l hm
    obtain rfl : l = [] := List.length_eq_zero_iff.1 (by omega)
    rw [cks_nil]
    exact Nat.zero_le _
  | succ m ih =>
    intro l hm
    by_cases hl : l = []
    · subst hl
      rw [cks_nil]
      exact Nat.zero_le _
    · have hlp := List.length_pos_iff.2 hl
      have hck := cks_cons hl
      have hF : evF l = chS (bodyL (l.take 64)) ++ evF (l.drop 64) := by unfold evF; rw [hck]; rfl
      have := ih (l.drop 64) (by rw [List.length_drop]; omega)
      rw [hck, hF, List.length_append, chS_len, List.length_cons]
      omega
/-- What is encoded is decoded to itself; and saved whole. -/
theorem enc_dec (rc : Rc) (h : (encS rc).2 = 0) (hv : ∀ e ∈ rc.evs, evIn e) : decS (encS rc).1 = (rc, 0) ∧ salS (encS rc).1 = (rc, (encS rc).1.length, 0) := by
  unfold encS at h
  split at h
  · cases h
  · rename_i h1
    split at h
    · rename_i h2
      simp only [Bool.and_eq_true] at h2
      rw [enc_of h2.2 (by omega) (by omega) h2.1]
      have hok : ∀ e ∈ rc.evs, evOk e = true ∧ (-9223372036854775808 ≤ e.vn ∧ e.vn ≤ 9223372036854775807) := fun e he => ⟨List.all_eq_true.1 h2.2 e he, (hv e he).2.2.2⟩
      have hf : followS (fileL rc) = some ⟨rc, (fileL rc).length, true⟩ := by
        unfold followS
        rw [if_pos (by unfold fileL; rfl)]
        have hd : (fileL rc).drop 2 = evF rc.evs ++ chS (lastL rc) := by unfold fileL; rfl
        have hl : (fileL rc).length = 2 + (evF rc.evs ++ chS (lastL rc)).length := by unfold fileL; simp [List.length_append]; omega
        rw [hd]
        unfold wy0
        rw [fol_file rc (by omega) h2.1 (by omega) hok rc.evs.length [] rc.evs 2 _ (Nat.le_refl _) rfl rfl (by have := cks_len _ rc.evs (Nat.le_refl _); rw [hl, List.length_append, chS_len, lastL_len]; omega), hl]
      refine ⟨?_, ?_⟩
      · unfold decS
        rw [hf]
        simp
      · unfold salS
        rw [hf]
    · cases h
end Go.Proofs.YtdmiciblfbkndaaDoor
