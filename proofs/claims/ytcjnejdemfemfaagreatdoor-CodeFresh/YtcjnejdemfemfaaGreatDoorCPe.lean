import Derived.Test.YtcjnejdemfemfaaGreatDoorCP1
namespace Go.Proofs.YtcjnejdemfemfaaGreatDoor
open Go.RowKit

theorem joinW_len (M : Nat) : ∀ (ws : List Bs), (∀ x ∈ ws, x.length ≤ M) → (joinW ws).length ≤ ws.length * (M + 1)
  | [], _ => by simp [joinW]
  | [x], h => by have := h x (List.mem_cons_self ..); simp only [joinW, List.length_cons, List.length_nil]; omega
  | x :: y :: r, h => by
    have h1 := h x (List.mem_cons_self ..)
    have h2 := joinW_len M (y :: r) (fun z hz => h z (List.mem_cons_of_mem _ hz))
    show (x ++ 32 :: joinW (y :: r)).length ≤ (r.length + 1 + 1) * (M + 1)
    rw [List.length_append, List.length_cons, Nat.succ_mul]
    simp only [List.length_cons] at h2
    omega
theorem lnS_len (M : Nat) (ws : List Bs) (h : ∀ x ∈ ws, x.length ≤ M) : (lnS ws).length ≤ ws.length * (M + 1) + 1 := by
  have := joinW_len M ws h
  unfold lnS
  rw [List.length_append]
  simp only [List.length_cons, List.length_nil]
  omega
theorem getD_len (T : List ByteArray) (M : Nat) (h : ∀ x ∈ T, x.data.toList.length ≤ M) (k : Nat) : (T.getD k e0).data.toList.length ≤ M := by
  rw [List.getD_eq_getElem?_getD]
  cases hq : T[k]? with
  | none => simp [e0]
  | some x => exact h x (List.mem_of_getElem? hq)
theorem tyW_len (n : Int) : (tyW n).length ≤ 12 := getD_len tyT 12 (by decide +kernel) _
theorem opW_len (o : Nat) (n : Int) (h0 : -9223372036854775808 ≤ n) (h1 : n ≤ 9223372036854775807) : (opW o n).length ≤ 21 := by
  unfold opW
  split
  · split <;> simp
  split
  · have := getD_len sgT 12 (by decide +kernel) n.toNat; omega
  split
  · have := getD_len tyT 12 (by decide +kernel) n.toNat; omega
  · exact Lib.itoa_length_le n h0 h1
theorem may_i64 {o : Nat} {n : Int} (ho : o < 13) (h : mayS o n = true) : -9223372036854775808 ≤ n ∧ n ≤ 9223372036854775807 := by
  obtain ⟨r0, r1⟩ := may_rng h
  have a := (by decide : ∀ k : Fin 13, -9223372036854775808 ≤ shLo.getD k.1 0 ∧ shHi.getD k.1 0 ≤ 9223372036854775807) ⟨o, ho⟩
  simp only at a
  omega
theorem ins_i64 {x : In} (h : insS x = true) : (-9223372036854775808 ≤ x.2.1 ∧ x.2.1 ≤ 9223372036854775807) ∧ (-9223372036854775808 ≤ x.2.2 ∧ x.2.2 ≤ 9223372036854775807) := by
  unfold insS at h
  simp only [Bool.and_eq_true, decide_eq_true_eq] at h
  exact ⟨may_i64 (opA_lt _) h.2.2.1, may_i64 (opB_lt _) h.2.2.2⟩
theorem insW_len {x : In} (h : insS x = true) : (lnS (insW x)).length ≤ 67 := by
  obtain ⟨⟨a0, a1⟩, b0, b1⟩ := ins_i64 h
  have hw : ∀ y ∈ insW x, y.length ≤ 21 := fun y hy => by
    unfold insW at hy
    simp only [List.mem_append, List.mem_cons, List.not_mem_nil, or_false] at hy
    rcases hy with rfl | hy | hy
    · have := getD_len wdT 21 (by decide +kernel) x.1.toNat; omega
    · split at hy
      · cases hy
      · obtain rfl := List.mem_singleton.1 hy; exact opW_len _ _ a0 a1
    · split at hy
      · cases hy
      · obtain rfl := List.mem_singleton.1 hy; exact opW_len _ _ b0 b1
  have h1 := lnS_len 21 _ hw
  have h2 : (insW x).length ≤ 3 := by
    unfold insW
    simp only [List.length_append, List.length_cons, List.length_nil]
    split <;> split <;> simp
  omega
theorem entW_word {e : En} (h : EntOk e) : ∀ y ∈ entW e, y.length ≤ 24 := fun y hy => by
  unfold entW at hy
  simp only [List.mem_append, List.mem_cons, List.not_mem_nil, or_false, List.mem_map] at hy
  rcases hy with (rfl | rfl | rfl | rfl) | ⟨n, _, rfl⟩
  · simp
  · exact (name_len h.nm).2
  · have := h.p0
    have := h.p8
    have := Lib.itoa_length_le e.params (by omega) (by omega)
    omega
  · split
    · simp
    · have := tyW_len e.result; omega
  · have := tyW_len n; omega
theorem entW_len {e : En} (h : EntOk e) : (lnS (entW e)).length ≤ 6351 := by
  have h1 := lnS_len 24 _ (entW_word h)
  have h2 : (entW e).length = 4 + e.sorts.length := by unfold entW; simp; omega
  have := h.sl
  rw [h2] at h1
  omega
theorem pcS_len (b : UInt8) : (pcS b).length ≤ 4 := by
  unfold pcS
  split; · simp
  split; · simp
  split <;> simp
theorem qtS_len (l : Bs) : (qtS l).length ≤ 4 * l.length + 2 := by
  unfold qtS
  have : (l.flatMap pcS).length ≤ 4 * l.length := by
    induction l with
    | nil => simp
    | cons c l ih => have := pcS_len c; rw [List.flatMap_cons, List.length_append, List.length_cons]; omega
  simp only [List.length_cons, List.length_append, List.length_nil]
  omega
theorem poolW_len {t : ByteArray} (h : t.size ≤ 200) : (poolW t).length ≤ 1607 := by
  unfold poolW
  have h1 := lnS_len 802 [[112, 111, 111, 108], qtS t.data.toList] (fun y hy => by
    simp only [List.mem_cons, List.not_mem_nil, or_false] at hy
    rcases hy with rfl | rfl
    · simp
    · have := qtS_len t.data.toList
      rw [← Lib.size_eq] at this
      omega)
  simp only [List.length_cons, List.length_nil] at h1
  omega
theorem flat_len {α : Type} (f : α → Bs) (M : Nat) : ∀ (l : List α), (∀ x ∈ l, (f x).length ≤ M) → (l.flatMap f).length ≤ M * l.length
  | [], _ => by simp
  | x :: l, h => by
    have h1 := h x (List.mem_cons_self ..)
    have h2 := flat_len f M l (fun y hy => h y (List.mem_cons_of_mem _ hy))
    rw [List.flatMap_cons, List.length_append, List.length_cons, Nat.mul_succ]
    omega
theorem bodyS_len (L : List En) (hL : ∀ e ∈ L, EntOk e) : ∀ (k n : Nat) (l : List In), (∀ x ∈ l, insS x = true) → (bodyS L k n l).length ≤ 6420 * l.length
  | _, _, [], _ => by simp [bodyS]
  | k, n, x :: r, h => by
    have h1 := insW_len (h x (List.mem_cons_self ..))
    have h2 := bodyS_len L hL (if atE L k n then k + 1 else k) (n + 1) r (fun y hy => h y (List.mem_cons_of_mem _ hy))
    rw [bodyS]
    simp only [List.length_append, List.length_cons, List.length_nil]
    have h3 : (if atE L k n = true then lnS (entW (enAt L k)) else []).length ≤ 6351 := by
      by_cases hq : atE L k n = true
      · rw [if_pos hq]
        unfold atE at hq
        simp only [Bool.and_eq_true, decide_eq_true_eq] at hq
        refine entW_len (hL _ ?_)
        unfold enAt
        rw [List.getD_eq_getElem?_getD, List.getElem?_eq_getElem hq.1]
        exact List.getElem_mem _
      · rw [if_neg hq]; simp
    omega
theorem print_len {c : Cd} (h : CodeOk c) : (printS c).length ≤ 400000000 := by
  have h1 : (mainW c.main).length ≤ 100 := by
    unfold mainW
    have m0 := h.m0
    have ml := h.ml
    have el := h.el
    have := lnS_len 21 [[109, 97, 105, 110], Lib.itoa c.main] (fun y hy => by
      simp only [List.mem_cons, List.not_mem_nil, or_false] at hy
      rcases hy with rfl | rfl
      · simp
      · exact Lib.itoa_length_le _ (by omega) (by omega))
    simp only [List.length_cons, List.length_nil] at this
    omega
  have h2 := flat_len poolW 1607 c.txs (fun t ht => poolW_len (h.ts t ht))
  have h3 := bodyS_len c.ens (fun e he => ent_ok.1 (h.es e he)) 0 0 c.ins h.is
  have := h.tl
  have := h.il
  unfold printS
  simp only [List.length_append]
  omega
end Go.Proofs.YtcjnejdemfemfaaGreatDoor

