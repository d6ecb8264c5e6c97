import Derived.Test.YtcjnejdemfemfaaGreatDoorCAsm
namespace Go.Proofs.YtcjnejdemfemfaaGreatDoor
open Go.RowKit

/-! What is assembled may be. -/
theorem qdF_len : ∀ (f : Nat) (acc l t : Bs), acc.length ≤ 200 → qdF f acc l = some t → t.length ≤ 200
  | 0, _, _, _, _, h => by simp [qdF] at h
  | f + 1, acc, l, t, ha, h => by
    cases l with
    | nil => simp [qdF] at h
    | cons c r =>
      simp only [qdF] at h
      by_cases hc : c = 34
      · rw [if_pos hc] at h
        split at h
        · cases h; exact ha
        · cases h
      · rw [if_neg hc] at h
        split at h
        · split at h
          · cases h
          · exact qdF_len f _ _ _ (by rw [List.length_append, List.length_singleton]; omega) h
        · cases h
theorem qdS_len {w t : Bs} (h : qdS w = some t) : t.length ≤ 200 := by
  cases w with
  | nil => simp [qdS] at h
  | cons c r =>
    simp only [qdS] at h
    split at h
    · exact qdF_len _ _ _ _ (by simp) h
    · cases h
theorem seekO_may {o : Nat} {w : Bs} : ∀ (k : Nat) (n v : Int), seekO o w k n = some v → mayS o v = true
  | 0, _, _, h => by simp [seekO] at h
  | k + 1, n, v, h => by
    unfold seekO at h
    split at h
    · rename_i q
      cases h
      simp only [Bool.and_eq_true] at q
      exact q.1
    · exact seekO_may k _ _ h
theorem readO_may {o : Nat} {w : Bs} {v : Int} (h : readO o w = some v) : mayS o v = true := by
  unfold readO at h
  split at h
  · exact seekO_may _ _ _ h
  · split at h
    · split at h
      · rename_i q
        cases h
        exact q
      · cases h
    · cases h
theorem nextO_may {o : Nat} {ws r : List Bs} {v : Int} (h : nextO o ws = some (v, r)) : mayS o v = true := by
  unfold nextO at h
  split at h
  · rename_i q
    cases h
    rw [q]
    rfl
  · split at h
    · cases h
    · split at h
      · rename_i q
        cases h
        exact readO_may q
      · cases h
theorem seekI_rng {w : Bs} : ∀ (k n m : Nat), seekI w k n = some m → n ≤ m ∧ m < n + k
  | 0, _, _, h => by simp [seekI] at h
  | k + 1, n, m, h => by
    unfold seekI at h
    split at h
    · cases h
      omega
    · have := seekI_rng k (n + 1) m h
      omega
theorem rdIns_ok {ws : List Bs} {x : In} (h : rdIns ws = some x) : insS x = true := by
  unfold rdIns at h
  split at h
  · cases h
  · rename_i op q
    have r := seekI_rng _ _ _ q
    split at h
    · cases h
    · rename_i a r1 qa
      split at h
      · cases h
      · rename_i b r2 qb
        split at h
        · cases h
          unfold insS
          simp only [Bool.and_eq_true, decide_eq_true_eq, Int.toNat_natCast]
          exact ⟨by omega, by omega, nextO_may qa, nextO_may qb⟩
        · cases h
theorem ent_if {x e : En} (h : (if entS x = true then some x else none) = some e) : entS e = true := by
  split at h
  · rename_i q
    cases h
    exact q
  · cases h
theorem rdEnt_ok {ws : List Bs} {e : En} (h : rdEnt ws = some e) : entS e = true := by
  unfold rdEnt at h
  split at h
  · cases h
  · split at h
    · cases h
    · split at h
      · cases h
      · exact ent_if h
theorem enAt_app {L : List En} {e : En} {i : Nat} (h : i < L.length) : enAt (L ++ [e]) i = enAt L i := by
  unfold enAt
  rw [List.getD_eq_getElem?_getD, List.getD_eq_getElem?_getD, List.getElem?_append_left h]
theorem enAt_last (L : List En) (e : En) : enAt (L ++ [e]) L.length = e := by
  unfold enAt
  rw [List.getD_eq_getElem?_getD, List.getElem?_append_right (Nat.le_refl _), Nat.sub_self]
  rfl
/-- What the assembler has always. -/
structure Fit (s : St) : Prop where
  el : s.c.ens.length ≤ 60
  il : s.c.ins.length ≤ 60000
  tl : s.c.txs.length ≤ 4000
  es : ∀ e ∈ s.c.ens, entS e = true
  is : ∀ x ∈ s.c.ins, insS x = true
  ts : ∀ t ∈ s.c.txs, t.size ≤ 200
  m0 : 0 ≤ s.c.main
  ne : s.c.ens.length = 0 → s.c.ins.length = 0
  s0 : (enAt s.c.ens 0).start = 0
  sl : ∀ i, i < s.c.ens.length → (enAt s.c.ens i).start ≤ (s.c.ins.length : Int)
  si : ∀ i, 0 < i → i < s.c.ens.length → (enAt s.c.ens (i - 1)).start < (enAt s.c.ens i).start
theorem Fit.zero : Fit st0 := ⟨by decide, by decide, by decide, (fun _ h => by cases h), (fun _ h => by cases h), (fun _ h => by cases h), by decide, fun _ => rfl, rfl, fun i h => absurd h (Nat.not_lt_zero _), fun i _ h => absurd h (Nat.not_lt_zero _)⟩
theorem bare_last {s : St} (h : Fit s) (hb : bareS s.c = false) (hn : 0 < s.c.ens.length) : (enAt s.c.ens (s.c.ens.length - 1)).start < (s.c.ins.length : Int) := by
  have h1 := h.sl (s.c.ens.length - 1) (by omega)
  unfold bareS at hb
  rw [decide_eq_true hn, Bool.true_and] at hb
  have h2 : (enAt s.c.ens (s.c.ens.length - 1)).start ≠ (s.c.ins.length : Int) := by
    intro q
    rw [q] at hb
    simp at hb
  omega
theorem Fit.main {s s' : St} {ws : List Bs} (h : Fit s) (e : takeMain s ws = some s') : Fit s' := by
  unfold takeMain at e
  split at e
  · cases q : readO 8 (wAt ws 1) with
    | none => rw [q] at e; cases e
    | some m =>
      rw [q] at e
      cases e
      have hm := readO_may q
      unfold mayS at hm
      simp only [Bool.and_eq_true, decide_eq_true_eq] at hm
      exact ⟨h.el, h.il, h.tl, h.es, h.is, h.ts, hm.1, h.ne, h.s0, h.sl, h.si⟩
  · cases e
theorem Fit.pool {s s' : St} {ws : List Bs} (h : Fit s) (e : takePool s ws = some s') : Fit s' := by
  unfold takePool at e
  split at e
  · rename_i g
    cases q : qdS (wAt ws 1) with
    | none => rw [q] at e; cases e
    | some t =>
      rw [q] at e
      cases e
      have ht := qdS_len q
      refine ⟨h.el, h.il, ?_, h.es, h.is, ?_, h.m0, h.ne, h.s0, h.sl, h.si⟩
      · have := h.tl
        simp only [List.length_append, List.length_singleton]
        omega
      · intro x hx
        rcases List.mem_append.1 hx with hx | hx
        · exact h.ts x hx
        · rw [List.mem_singleton.1 hx, bk_size]; exact ht
  · cases e
theorem Fit.ins {s s' : St} {ws : List Bs} (h : Fit s) (e : takeIns s ws = some s') : Fit s' := by
  unfold takeIns at e
  split at e
  · rename_i g
    cases q : rdIns ws with
    | none => rw [q] at e; cases e
    | some x =>
      rw [q] at e
      cases e
      refine ⟨h.el, ?_, h.tl, h.es, ?_, h.ts, h.m0, fun z => absurd z g.1, h.s0, fun i hi => ?_, h.si⟩
      · have := h.il
        simp only [List.length_append, List.length_singleton]
        omega
      · intro y hy
        rcases List.mem_append.1 hy with hy | hy
        · exact h.is y hy
        · rw [List.mem_singleton.1 hy]; exact rdIns_ok q
      · have := h.sl i hi
        simp only [List.length_append, List.length_singleton]
        omega
  · cases e
theorem Fit.ent {s s' : St} {ws : List Bs} (h : Fit s) (e : takeEnt s ws = some s') : Fit s' := by
  unfold takeEnt at e
  split at e
  · rename_i g
    cases q : rdEnt ws with
    | none => rw [q] at e; cases e
    | some x =>
      rw [q] at e
      cases e
      have hx := rdEnt_ok q
      have hl : ∀ i, i < s.c.ens.length → (enAt s.c.ens i).start < (s.c.ins.length : Int) := fun i hi => by
        have hb := bare_last h g.2.2 (by omega)
        by_cases hc : i = s.c.ens.length - 1
        · rw [hc]; exact hb
        · have hmono : ∀ d, i + d < s.c.ens.length → (enAt s.c.ens i).start ≤ (enAt s.c.ens (i + d)).start := by
            intro d
            induction d with
            | zero => intro _; exact Int.le_refl _
            | succ d ih =>
              intro hd
              have h1 := ih (by omega)
              have h2 := h.si (i + (d + 1)) (by omega) hd
              rw [show i + (d + 1) - 1 = i + d by omega] at h2
              omega
          have := hmono (s.c.ens.length - 1 - i) (by omega)
          rw [show i + (s.c.ens.length - 1 - i) = s.c.ens.length - 1 by omega] at this
          omega
      refine ⟨?_, h.il, h.tl, ?_, h.is, h.ts, h.m0, fun z => ?_, ?_, fun i hi => ?_, fun i h0 hi => ?_⟩
      · have := h.el
        simp only [List.length_append, List.length_singleton]
        omega
      · intro y hy
        rcases List.mem_append.1 hy with hy | hy
        · exact h.es y hy
        · rw [List.mem_singleton.1 hy]; exact hx
      · simp at z
      · simp only
        by_cases hz : s.c.ens.length = 0
        · have e0 := List.length_eq_zero_iff.1 hz
          rw [e0, h.ne hz]
          rfl
        · rw [enAt_app (by omega)]
          exact h.s0
      · simp only [List.length_append, List.length_singleton] at hi ⊢
        by_cases hc : i < s.c.ens.length
        · rw [enAt_app hc]
          exact h.sl i hc
        · rw [show i = s.c.ens.length by omega, enAt_last]
          exact Int.le_refl _
      · simp only [List.length_append, List.length_singleton] at hi ⊢
        by_cases hc : i < s.c.ens.length
        · rw [enAt_app hc, enAt_app (by omega)]
          exact h.si i h0 hc
        · rw [show i = s.c.ens.length by omega, enAt_last, enAt_app (by omega)]
          exact hl _ (by omega)
  · cases e
theorem Fit.step {s s' : St} {l : Bs} (h : Fit s) (e : stepS s l = some s') : Fit s' := by
  unfold stepS at e
  split at e
  · cases e; exact h
  · unfold takeS at e
    split at e
    · exact h.main e
    · split at e
      · exact h.pool e
      · split at e
        · exact h.ent e
        · exact h.ins e
theorem Fit.all : ∀ (f n : Nat) (s : St) (l : Bs) (s' : St), Fit s → asmF f n s l = .inl s' → Fit s'
  | 0, _, _, _, _, h, e => by cases e; exact h
  | f + 1, n, s, l, s', h, e => by
    unfold asmF at e
    split at e
    · cases e; exact h
    · split at e
      · cases e
      · rename_i s1 q
        exact Fit.all f _ _ _ _ (h.step q) e
theorem Fit.over {s : St} (h : Fit s) (hl : lackS s = false) : CodeOk s.c := by
  unfold lackS at hl
  simp only [Bool.or_eq_false_iff, decide_eq_false_iff_not] at hl
  obtain ⟨⟨-, hm⟩, hb⟩ := hl
  have hn : 0 < s.c.ens.length := by have := h.m0; omega
  have hlast := bare_last h hb hn
  refine ⟨h.el, h.il, h.tl, h.m0, by omega, ?_, h.es, h.is, h.ts⟩
  unfold stsS
  simp only [Bool.and_eq_true, beq_iff_eq, List.all_eq_true, List.mem_range]
  refine ⟨h.s0, fun i hi => ?_⟩
  unfold stAt
  simp only [Bool.and_eq_true, decide_eq_true_eq, Bool.or_eq_true, beq_iff_eq]
  refine ⟨?_, ?_⟩
  · by_cases hc : i = s.c.ens.length - 1
    · rw [hc]; exact hlast
    · have h1 := h.si (i + 1) (by omega) (by omega)
      rw [Nat.add_sub_cancel] at h1
      have h2 := h.sl (i + 1) (by omega)
      omega
  · by_cases hc : i = 0
    · exact .inl hc
    · exact .inr (h.si i (by omega) hi)
theorem asm_only {l : Bs} {c : Cd} (h : asmS l = .inl c) : CodeOk c := by
  unfold asmS at h
  split at h
  · cases h
  · rename_i s q
    split at h
    · cases h
    · rename_i hl
      cases h
      exact (Fit.all _ _ _ _ _ Fit.zero q).over (by simpa using hl)
/-- Where it is refused, a line is named. -/
theorem asmF_pos : ∀ (f n : Nat) (s : St) (l : Bs) (m : Nat), 1 ≤ n → asmF f n s l = .inr m → 1 ≤ m
  | 0, _, _, _, _, _, e => by cases e
  | f + 1, n, s, l, m, hn, e => by
    unfold asmF at e
    split at e
    · cases e
    · split at e
      · cases e; exact hn
      · exact asmF_pos f _ _ _ _ (by omega) e
theorem asm_pos {l : Bs} {n : Nat} (h : asmS l = .inr n) : 1 ≤ n := by
  unfold asmS at h
  split at h
  · rename_i m q
    cases h
    exact asmF_pos _ _ _ _ _ (Nat.le_refl _) q
  · split at h
    · cases h
      omega
    · cases h
end Go.Proofs.YtcjnejdemfemfaaGreatDoor

