import Derived.Test.YtdcaonfnhdjibaaDoorVWg
namespace Go.Proofs.YtdcaonfnhdjibaaDoor
open Go.RowKit

/-! Two stacks compared; stacks that are said. -/
set_option maxRecDepth 100000 in
set_option maxHeartbeats 2000000 in
theorem same_any {w : World} {q1 q2 : Option Addr} {c1 c2 : Nat} {s1 s2 : List Int} (h1 : Row w w.heap.size q1 s1.length (sv s1)) (h2 : Row w w.heap.size q2 s2.length (sv s2)) (hl : s1.length ≤ 9223372036854775807) :
    Calls Tryd.prog 12 #[.slice q1 s1.length c1, .slice q2 s2.length c2] w fun z w' => z = .returned (.bool (decide (s1 = s2))) ∧ Below w.heap.size w w' := by
  obtain ⟨R, HR⟩ : ∃ R, Hid (decide (s1 = s2) = R) := ⟨_, (rfl : decide (s1 = s2) = _)⟩
  rw [HR.out]
  obtain ⟨n, Hn⟩ : ∃ n, Hid (s1.length = n) := ⟨_, (rfl : s1.length = _)⟩
  obtain ⟨n2, Hn2⟩ : ∃ n2, Hid (s2.length = n2) := ⟨_, (rfl : s2.length = _)⟩
  have H1 : Hid (Row w w.heap.size q1 n (sv s1) ∧ Row w w.heap.size q2 n2 (sv s2)) := ⟨by rw [← Hn.out]; exact h1, by rw [← Hn2.out]; exact h2⟩
  have hnI : (n : Int) ≤ 9223372036854775807 := by have := Hn.out; omega
  rw [Hn.out, Hn2.out]
  clear h1 h2 hl
  by_cases hne : n = n2
  · subst hne
    go_enter Tryd.func12, Tryd.ntmps12
    go_wp2_with fail
    go_loopw [5] (fun sv wr => ∃ i : Nat, i ≤ n ∧ sv = .int .i64 (i : Int) ∧ Hid (Below w.heap.size w wr ∧ ∀ j, j < i → s1.getD j 0 = s2.getD j 0)) (fun sv _ => n - (intOf sv).toNat)
    case atStart => exact ⟨0, Nat.zero_le _, rfl, Below.refl _ _, fun j h => absurd h (Nat.not_lt_zero _)⟩
    case round =>
      obtain ⟨i, hi, rfl, HB⟩ := hrel
      by_cases hlt : i < n
      · obtain ⟨g, o, rfl, k1, k2⟩ := (H1.out.1.below HB.out.1 (Nat.le_refl _)) (by omega)
        obtain ⟨g', o', rfl, k1', k2'⟩ := (H1.out.2.below HB.out.1 (Nat.le_refl _)) (by omega)
        have x1 := k2 i _ (sv_get (by rw [Hn.out]; exact hlt))
        have x2 := k2' i _ (sv_get (by rw [Hn2.out]; exact hlt))
        obtain ⟨a, Ha⟩ : ∃ a, Hid (s1.getD i 0 = a) := ⟨_, (rfl : s1.getD i 0 = _)⟩
        obtain ⟨b, Hb⟩ : ∃ b, Hid (s2.getD i 0 = b) := ⟨_, (rfl : s2.getD i 0 = _)⟩
        rw [Ha.out] at x1
        rw [Hb.out] at x2
        have a0 : (0 : Int) ≤ (i : Int) := by omega
        have a1 : (i : Int) < (n : Int) := by omega
        have hw : IntKind.i64.wrap ((i : Int) + 1) = (i : Int) + 1 := by rw [IntKind.wrap_i64]; omega
        clear k1 k2 k1' k2'
        have HBd : Hid (Below w.heap.size w wr.drew) := HB.out.1.drew
        by_cases hab : a = b
        · have eab : (a == b) = true := by rw [hab]; exact beq_self_eq_true _
          have HN : Hid (Below w.heap.size w wr.drew ∧ ∀ j, j < i + 1 → s1.getD j 0 = s2.getD j 0) := ⟨HBd.out, fun j h => by
            rcases Nat.lt_succ_iff_lt_or_eq.1 h with h | rfl
            · exact HB.out.2 j h
            · rw [Ha.out, Hb.out]; exact hab⟩
          subst hab
          go_upto_region 6 with fail
          go_region
          go_wp2
          exact ⟨⟨i + 1, by omega, by go_num, HN⟩, by simp [intOf]; omega⟩
        · have eab : (a == b) = false := by rw [beq_eq_false_iff_ne]; exact hab
          have HE : Hid (false = R) := by
            show false = R
            rw [← HR.out, eq_comm, decide_eq_false_iff_not]
            rintro rfl
            exact hab (Ha.out.symm.trans Hb.out)
          clear hab
          go_upto_region 6 with fail
          go_region
          go_wp2
          go_ret
          exact ⟨by rw [← HE.out]; rfl, HBd.out⟩
      · obtain rfl : i = n := by omega
        have i1 : ¬ ((i : Int) < (i : Int)) := by omega
        have HE : Hid (true = R) := by
          show true = R
          rw [← HR.out, eq_comm, decide_eq_true_eq]
          apply List.ext_getElem (by rw [Hn.out, Hn2.out])
          intro j h1 h2
          have := HB.out.2 j (by rw [← Hn.out]; exact h1)
          rw [List.getD_eq_getElem?_getD, List.getElem?_eq_getElem h1, List.getD_eq_getElem?_getD, List.getElem?_eq_getElem h2] at this
          exact this
        go_wp2
        go_ret
        exact ⟨by rw [← HE.out]; rfl, HB.out.1⟩
  · have e1 : ((n : Int) == (n2 : Int)) = false := by rw [beq_eq_false_iff_ne]; omega
    have e2 : (n == n2) = false := by rw [beq_eq_false_iff_ne]; exact hne
    have HE : Hid (false = R) := by
      show false = R
      rw [← HR.out, eq_comm, decide_eq_false_iff_not]
      rintro rfl
      exact hne (Hn.out.symm.trans Hn2.out)
    go_enter Tryd.func12, Tryd.ntmps12
    go_wp2
    go_ret
    exact ⟨by rw [← HE.out]; rfl, Below.refl _ _⟩
/-- One stack that is said. -/
def ElM (w : World) (k : Option (List Int)) (x : Value) : Prop := match k with
  | none => x = .slice none 0 0
  | some s => ∃ a cap, x = .slice (some a) s.length cap ∧ StQ w (some a) cap s ∧ (∀ y ∈ s, -9223372036854775808 ≤ y ∧ y ≤ 9223372036854775807) ∧ s.length * 8 ≤ 140737488351232
theorem ElM.next {w w' : World} {k : Option (List Int)} {x : Value} (h : ElM w k x) (b : Below w.heap.size w w') : ElM w' k x := by
  cases k with
  | none => exact h
  | some s =>
    obtain ⟨a, cap, e, h1, h2⟩ := h
    exact ⟨a, cap, e, h1.next b, h2⟩
/-- All stacks that are said. -/
def LlM (w : World) (v : Value) (K : Kn) : Prop := ∃ q cap, v = .slice q K.length cap ∧ ∀ i, i < K.length → ∃ g o x, q = some ⟨g, o, none⟩ ∧ g < w.heap.size ∧ w.cell? ⟨g, o + i, none⟩ = some x ∧ ElM w (K.getD i none) x
theorem LlM.next {w w' : World} {v : Value} {K : Kn} (h : LlM w v K) (b : Below w.heap.size w w') : LlM w' v K := by
  obtain ⟨q, cap, e, h⟩ := h
  refine ⟨q, cap, e, fun i hi => ?_⟩
  obtain ⟨g, o, x, h1, h2, h3, h4⟩ := h i hi
  exact ⟨g, o, x, h1, Nat.lt_of_lt_of_le h2 b.size, (b.cell (p := ⟨g, o + i, none⟩) h2).trans h3, h4.next b⟩
theorem ll_of_ls {w : World} {b : Nat} {v : Value} {K : Kn} {vs : List Value} (h : LsM w b v K K.length vs) (hK : All SOk K) : LlM w v K := by
  obtain ⟨q, cap, rfl, hc, hr⟩ := own_slice h.own
  refine ⟨q, cap, rfl, fun i hi => ?_⟩
  obtain ⟨g, cc, x, hv, y1, hx⟩ := ls_at h i hi
  cases hv
  refine ⟨g, 0, x, rfl, (own_blk h.own g rfl).lt, by rw [Nat.zero_add]; exact y1, ?_⟩
  cases hk : K.getD i none with
  | none => rw [hk] at hx; exact hx
  | some s =>
    rw [hk] at hx
    obtain ⟨gx, -, e, hf⟩ := hx
    have hs := hK i s hk
    refine ⟨⟨gx, 0, none⟩, s.length, e, ⟨Nat.le_refl _, fun h => (by cases h), fun a ha _ => ?_⟩, sok_i64 hs, by have := hs.len; omega⟩
    cases ha
    exact ⟨gx, 0, rfl, hf.lt, Full.range (d := []) (by rw [List.append_nil]; exact hf)⟩
/-- The stacks fit at one instruction. -/
def FitP (c : Cd) (f : Nat) (K : Kn) (i : Nat) : Prop := ∀ s, K.getD i none = some s → FitR c (enAt c.ens f) (endS c f) K i s
end Go.Proofs.YtdcaonfnhdjibaaDoor
