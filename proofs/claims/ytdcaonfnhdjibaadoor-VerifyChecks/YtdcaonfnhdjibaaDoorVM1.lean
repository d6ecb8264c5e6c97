import Derived.Test.YtdcaonfnhdjibaaDoorVMa
namespace Go.Proofs.YtdcaonfnhdjibaaDoor
open Go.RowKit

/-! What is known only grows; what was looked at fits. -/
/-- K' knows all that K knows. -/
def Gr (K K' : Kn) : Prop := K'.length = K.length ∧ ∀ (i : Nat) s, K.getD i none = some s → K'.getD i none = some s
theorem Gr.refl (K : Kn) : Gr K K := ⟨rfl, fun _ _ h => h⟩
theorem Gr.trans {A B C : Kn} (h : Gr A B) (k : Gr B C) : Gr A C := ⟨k.1.trans h.1, fun i s e => k.2 i s (h.2 i s e)⟩
theorem set_getD (K : Kn) (i j : Nat) (x : Option (List Int)) : (K.set i x).getD j none = if i = j ∧ i < K.length then x else K.getD j none := by
  rw [List.getD_eq_getElem?_getD, List.getD_eq_getElem?_getD, List.getElem?_set]
  by_cases h : i = j
  · subst h
    by_cases h2 : i < K.length
    · rw [if_pos rfl, if_pos h2, if_pos ⟨rfl, h2⟩]; rfl
    · rw [if_pos rfl, if_neg h2, if_neg (by simp [h2]), List.getElem?_eq_none (by omega)]
  · rw [if_neg h, if_neg (by simp [h])]
theorem gr_set {K : Kn} {i : Nat} {s : List Int} (h : K.getD i none = none) : Gr K (K.set i (some s)) := ⟨by simp, fun j t e => by
  rw [set_getD]
  split
  · rename_i q
    obtain ⟨rfl, -⟩ := q
    rw [h] at e
    cases e
  · exact e⟩
/-- The instruction i with the stack s is all right, and K knows so of its followers. -/
def Fit (c : Cd) (e : En) (hi : Int) (K : Kn) (i : Nat) (s : List Int) : Prop :=
  namedS c e (insAt c i) = true ∧ ∃ s', effS c e (insAt c i) s = .ok s' ∧ ∀ f ∈ flS (insAt c i) i, (e.start ≤ f.1 ∧ f.1 < hi) ∧ K.getD f.1.toNat none = some s'
theorem Fit.gr {c : Cd} {e : En} {hi : Int} {K K' : Kn} {i : Nat} {s : List Int} (h : Fit c e hi K i s) (g : Gr K K') : Fit c e hi K' i s := by
  obtain ⟨h1, s', h2, h3⟩ := h
  exact ⟨h1, s', h2, fun f hf => ⟨(h3 f hf).1, g.2 _ _ (h3 f hf).2⟩⟩
/-- Where the search stands: all that is known in the piece is open or fits; what is open is known. -/
structure Inv (c : Cd) (e : En) (hi : Int) (st : Vst) : Prop where
  st0 : 0 ≤ e.start
  hi1 : hi ≤ (st.1.length : Int)
  op : ∀ y ∈ st.2, (e.start ≤ y ∧ y < hi) ∧ ∃ s, st.1.getD y.toNat none = some s
  fit : ∀ (i : Nat) s, e.start ≤ (i : Int) → (i : Int) < hi → st.1.getD i none = some s → (i : Int) ∈ st.2 ∨ Fit c e hi st.1 i s
theorem fw_ok {e : En} {hi : Int} {s : List Int} {st st' : Vst} {f : Int × Int} (h : fwS e.start hi s st f = .ok st') (h0 : 0 ≤ e.start) (h1 : hi ≤ (st.1.length : Int)) :
    (e.start ≤ f.1 ∧ f.1 < hi) ∧ Gr st.1 st'.1 ∧ st'.1.getD f.1.toNat none = some s ∧ (∀ y, y ∈ st.2 → y ∈ st'.2) ∧ (∀ y, y ∈ st'.2 → y ∈ st.2 ∨ y = f.1) ∧ (∀ i s', st'.1.getD i none = some s' → st.1.getD i none = some s' ∨ (i = f.1.toNat ∧ s' = s ∧ f.1 ∈ st'.2)) := by
  unfold fwS at h
  split at h
  · rename_i hr
    have hl : f.1.toNat < st.1.length := by omega
    split at h
    · rename_i hn
      cases h
      refine ⟨hr, gr_set hn, by rw [set_getD, if_pos ⟨rfl, hl⟩], fun y hy => (push_mem _ _ _).2 (.inr hy), fun y hy => ((push_mem _ _ _).1 hy).symm, fun i s' hs => ?_⟩
      rw [set_getD] at hs
      split at hs
      · rename_i q
        cases hs
        exact .inr ⟨q.1.symm, rfl, (push_mem _ _ _).2 (.inl rfl)⟩
      · exact .inl hs
    · rename_i k hk
      split at h
      · cases h
      · split at h
        · cases h
        · rename_i q
          cases h
          have q' : k = s := Classical.byContradiction q
          subst q'
          exact ⟨hr, Gr.refl _, hk, fun y hy => hy, fun y hy => .inl hy, fun i s' hs => .inl hs⟩
  · cases h
theorem fws_ok {e : En} {hi : Int} {s : List Int} (h0 : 0 ≤ e.start) : ∀ (l : List (Int × Int)) {st st' : Vst}, fwsS e.start hi s l st = .ok st' → hi ≤ (st.1.length : Int) →
    (∀ f ∈ l, (e.start ≤ f.1 ∧ f.1 < hi) ∧ st'.1.getD f.1.toNat none = some s) ∧ Gr st.1 st'.1 ∧ (∀ y, y ∈ st.2 → y ∈ st'.2) ∧ (∀ y, y ∈ st'.2 → y ∈ st.2 ∨ ∃ f ∈ l, y = f.1) ∧ (∀ i s', st'.1.getD i none = some s' → st.1.getD i none = some s' ∨ ((i : Int) ∈ st'.2))
  | [], st, st', h, h1 => by
    cases h
    exact ⟨(fun f hf => by cases hf), Gr.refl _, fun y hy => hy, fun y hy => .inl hy, fun i s' hs => .inl hs⟩
  | f :: r, st, st', h, h1 => by
    rw [fwsS] at h
    cases hf : fwS e.start hi s st f with
    | error k => rw [hf] at h; cases h
    | ok st1 =>
      rw [hf] at h
      obtain ⟨a1, a2, a3, a4, a5, a6⟩ := fw_ok hf h0 h1
      obtain ⟨b1, b2, b3, b4, b5⟩ := fws_ok h0 r h (by rw [a2.1]; exact h1)
      refine ⟨fun g hg => ?_, a2.trans b2, fun y hy => b3 y (a4 y hy), fun y hy => ?_, fun i s' hs => ?_⟩
      · rcases List.mem_cons.1 hg with rfl | hg
        · exact ⟨a1, b2.2 _ _ a3⟩
        · exact b1 g hg
      · rcases b4 y hy with hy | ⟨g, hg, rfl⟩
        · rcases a5 y hy with hy | rfl
          · exact .inl hy
          · exact .inr ⟨f, List.mem_cons_self .., rfl⟩
        · exact .inr ⟨g, List.mem_cons_of_mem _ hg, rfl⟩
      · rcases b5 i s' hs with hs | hs
        · rcases a6 i s' hs with hs | ⟨h1, -, h3⟩
          · exact .inl hs
          · refine .inr (b3 _ ?_)
            have : f.1 = ((i : Nat) : Int) := by omega
            rw [← this]; exact h3
        · exact .inr hs
theorem lk_ok {c : Cd} {e : En} {hi : Int} {at_ : Nat} {st st' : Vst} {s : List Int} (h : lkS c e hi at_ st = .ok st') (h0 : 0 ≤ e.start) (h1 : hi ≤ (st.1.length : Int)) (hs : st.1.getD at_ none = some s) :
    Fit c e hi st'.1 at_ s ∧ Gr st.1 st'.1 ∧ (∀ y, y ∈ st.2 → y ∈ st'.2) ∧ (∀ y, y ∈ st'.2 → y ∈ st.2 ∨ ((e.start ≤ y ∧ y < hi) ∧ ∃ s, st'.1.getD y.toNat none = some s)) ∧ (∀ i s', st'.1.getD i none = some s' → st.1.getD i none = some s' ∨ ((i : Int) ∈ st'.2)) := by
  unfold lkS at h
  have e1 : stkAt st.1 at_ = s := by unfold stkAt; rw [hs]; rfl
  rw [e1] at h
  split at h
  · rename_i hn
    cases he : effS c e (insAt c at_) s with
    | error k => rw [he] at h; cases h
    | ok s' =>
      rw [he] at h
      obtain ⟨b1, b2, b3, b4, b5⟩ := fws_ok h0 _ h h1
      refine ⟨⟨hn, s', he, b1⟩, b2, b3, fun y hy => ?_, b5⟩
      rcases b4 y hy with hy | ⟨f, hf, rfl⟩
      · exact .inl hy
      · exact .inr ⟨(b1 f hf).1, _, (b1 f hf).2⟩
  · cases h
/-- What is told of a piece that is all right. -/
structure Told (c : Cd) (e : En) (hi : Int) (K K' : Kn) : Prop where
  gr : Gr K K'
  fit : ∀ (i : Nat) s, e.start ≤ (i : Int) → (i : Int) < hi → K'.getD i none = some s → Fit c e hi K' i s
/-- How many rounds are left at most. -/
def lft (st : Vst) : Nat := (st.1.countP (·.isNone)) + st.2.length
theorem cnt_set {K : Kn} {i : Nat} {s : List Int} (h : i < K.length) (hn : K.getD i none = none) : (K.set i (some s)).countP (·.isNone) + 1 = K.countP (·.isNone) := by
  induction K generalizing i with
  | nil => simp at h
  | cons a K ih =>
    cases i with
    | zero =>
      have : a = none := hn
      subst this
      simp
    | succ i =>
      rw [List.set_cons_succ, List.countP_cons, List.countP_cons]
      have := ih (i := i) (by simpa using h) hn
      omega
theorem fw_lft {e : En} {hi : Int} {s : List Int} {st st' : Vst} {f : Int × Int} (h : fwS e.start hi s st f = .ok st') (h0 : 0 ≤ e.start) (h1 : hi ≤ (st.1.length : Int)) : lft st' = lft st ∧ st'.1.length = st.1.length := by
  unfold fwS at h
  split at h
  · rename_i hr
    split at h
    · rename_i hn
      cases h
      unfold lft
      have := cnt_set (s := s) (K := st.1) (i := f.1.toNat) (by omega) hn
      rw [push_len]
      refine ⟨?_, by simp⟩
      simp only
      omega
    · split at h
      · cases h
      · split at h
        · cases h
        · cases h; exact ⟨rfl, rfl⟩
  · cases h
theorem fws_lft {e : En} {hi : Int} {s : List Int} (h0 : 0 ≤ e.start) : ∀ (l : List (Int × Int)) {st st' : Vst}, fwsS e.start hi s l st = .ok st' → hi ≤ (st.1.length : Int) → lft st' = lft st ∧ st'.1.length = st.1.length
  | [], st, st', h, _ => by cases h; exact ⟨rfl, rfl⟩
  | f :: r, st, st', h, h1 => by
    rw [fwsS] at h
    cases hf : fwS e.start hi s st f with
    | error k => rw [hf] at h; cases h
    | ok st1 =>
      rw [hf] at h
      obtain ⟨a, b⟩ := fw_lft hf h0 h1
      obtain ⟨a', b'⟩ := fws_lft h0 r h (by rw [b]; exact h1)
      exact ⟨a'.trans a, b'.trans b⟩
theorem lk_lft {c : Cd} {e : En} {hi : Int} {at_ : Nat} {st st' : Vst} (h : lkS c e hi at_ st = .ok st') (h0 : 0 ≤ e.start) (h1 : hi ≤ (st.1.length : Int)) : lft st' = lft st ∧ st'.1.length = st.1.length := by
  unfold lkS at h
  split at h
  · cases he : effS c e (insAt c at_) (stkAt st.1 at_) with
    | error k => rw [he] at h; cases h
    | ok s' => rw [he] at h; exact fws_lft h0 _ h h1
  · cases h
/-- The search of a piece, told. -/
theorem pc_ok {c : Cd} {e : En} {hi : Int} : ∀ (n : Nat) {st : Vst} {K' : Kn}, pieceS c e hi n st = .ok K' → Inv c e hi st → lft st < n → Told c e hi st.1 K'
  | 0, st, K', h, hI, hn => by omega
  | n + 1, st, K', h, hI, hn => by
    rw [pieceS] at h
    by_cases ho : st.2 = []
    · rw [if_pos ho] at h
      cases h
      refine ⟨Gr.refl _, fun i s a b d => ?_⟩
      rcases hI.fit i s a b d with q | q
      · rw [ho] at q; cases q
      · exact q
    · rw [if_neg ho] at h
      have hm := mem_pop ho
      have hlen : ((popL st.2).take (st.2.length - 1)).length + 1 = st.2.length := by
        have : 0 < st.2.length := List.length_pos_iff.2 ho
        rw [List.length_take, pop_len]
        omega
      generalize (popL st.2).getD (st.2.length - 1) 0 = y at h hm
      generalize (popL st.2).take (st.2.length - 1) = O at h hm hlen
      obtain ⟨hy, s, hs⟩ := hI.op y ((hm y).2 (.inl rfl))
      cases hl : lkS c e hi y.toNat (st.1, O) with
      | error k => rw [hl] at h; cases h
      | ok st' =>
        rw [hl] at h
        obtain ⟨f1, f2, f3, f4, f5⟩ := lk_ok hl hI.st0 hI.hi1 hs
        obtain ⟨g1, g2⟩ := lk_lft hl hI.st0 hI.hi1
        have hI' : Inv c e hi st' := by
          refine ⟨hI.st0, by rw [g2]; exact hI.hi1, fun z hz => ?_, fun i t a b d => ?_⟩
          · rcases f4 z hz with hz | hz
            · obtain ⟨q1, t, q2⟩ := hI.op z ((hm z).2 (.inr hz))
              exact ⟨q1, t, f2.2 _ _ q2⟩
            · exact hz
          · rcases f5 i t d with q | q
            · rcases hI.fit i t a b q with r | r
              · rcases (hm i).1 r with r | r
                · refine .inr ?_
                  have e1 : y.toNat = i := by omega
                  rw [e1] at f1 hs
                  have e2 : t = s := by
                    have : st.1.getD i none = some t := q
                    rw [hs] at this
                    exact (Option.some.inj this).symm
                  rw [e2]
                  exact f1
                · exact .inl (f3 _ r)
              · exact .inr (r.gr f2)
            · exact .inl q
        have hlf : lft (st.1, O) + 1 = lft st := by unfold lft; simp only; omega
        have := pc_ok n h hI' (by omega)
        exact ⟨f2.trans this.gr, this.fit⟩
end Go.Proofs.YtdcaonfnhdjibaaDoor
namespace Go.Proofs.YtdcaonfnhdjibaaDoor
open Go.RowKit

/-! Where stacks are said that fit, the search finds no other. -/
/-- In the piece K knows no other than L. -/
def Sb (lo hi : Int) (K L : Kn) : Prop := ∀ (i : Nat) s, lo ≤ (i : Int) → (i : Int) < hi → K.getD i none = some s → L.getD i none = some s
theorem fw_yes {lo hi : Int} {s : List Int} {st : Vst} {f : Int × Int} {L : Kn} (h0 : 0 ≤ lo) (hr : lo ≤ f.1 ∧ f.1 < hi) (hL : L.getD f.1.toNat none = some s) (hs : Sb lo hi st.1 L) : ∃ st', fwS lo hi s st f = .ok st' ∧ Sb lo hi st'.1 L := by
  unfold fwS
  rw [if_pos hr]
  cases hk : st.1.getD f.1.toNat none with
  | none =>
    refine ⟨_, rfl, fun i t a b d => ?_⟩
    rw [set_getD] at d
    split at d
    · rename_i q
      cases d
      rw [← q.1]
      exact hL
    · exact hs i t a b d
  | some k =>
    have := hs f.1.toNat k (by omega) (by omega) hk
    rw [hL] at this
    cases this
    simp only [ne_eq, not_true_eq_false, if_false]
    exact ⟨_, rfl, hs⟩
theorem fws_yes {lo hi : Int} {s : List Int} {L : Kn} (h0 : 0 ≤ lo) : ∀ (l : List (Int × Int)) {st : Vst}, (∀ f ∈ l, (lo ≤ f.1 ∧ f.1 < hi) ∧ L.getD f.1.toNat none = some s) → Sb lo hi st.1 L → ∃ st', fwsS lo hi s l st = .ok st' ∧ Sb lo hi st'.1 L
  | [], st, _, hs => ⟨st, rfl, hs⟩
  | f :: r, st, hf, hs => by
    obtain ⟨st1, h1, h2⟩ := fw_yes (st := st) h0 (hf f (List.mem_cons_self ..)).1 (hf f (List.mem_cons_self ..)).2 hs
    obtain ⟨st2, h3, h4⟩ := fws_yes h0 r (fun g hg => hf g (List.mem_cons_of_mem _ hg)) h2
    refine ⟨st2, ?_, h4⟩
    rw [fwsS, h1]
    exact h3
theorem lk_yes {c : Cd} {e : En} {hi : Int} {at_ : Nat} {st : Vst} {s : List Int} {L : Kn} (h0 : 0 ≤ e.start) (hk : st.1.getD at_ none = some s) (hF : Fit c e hi L at_ s) (hs : Sb e.start hi st.1 L) : ∃ st', lkS c e hi at_ st = .ok st' ∧ Sb e.start hi st'.1 L := by
  obtain ⟨h1, s', h2, h3⟩ := hF
  have e1 : stkAt st.1 at_ = s := by unfold stkAt; rw [hk]; rfl
  unfold lkS
  rw [if_pos h1, e1, h2]
  exact fws_yes h0 _ h3 hs
/-- How the places of the search lie. -/
structure Wl (e : En) (hi : Int) (st : Vst) : Prop where
  st0 : 0 ≤ e.start
  hi1 : hi ≤ (st.1.length : Int)
  op : ∀ y ∈ st.2, (e.start ≤ y ∧ y < hi) ∧ ∃ s, st.1.getD y.toNat none = some s
theorem Wl.pop {c : Cd} {e : En} {hi : Int} {st st' : Vst} (h : Wl e hi st) (ho : st.2 ≠ []) (hl : lkS c e hi ((popL st.2).getD (st.2.length - 1) 0).toNat (st.1, (popL st.2).take (st.2.length - 1)) = .ok st') : Wl e hi st' ∧ lft st' < lft st := by
  have hm := mem_pop ho
  have hlen : ((popL st.2).take (st.2.length - 1)).length + 1 = st.2.length := by
    have : 0 < st.2.length := List.length_pos_iff.2 ho
    rw [List.length_take, pop_len]
    omega
  generalize (popL st.2).getD (st.2.length - 1) 0 = y at hl hm
  generalize (popL st.2).take (st.2.length - 1) = O at hl hm hlen
  obtain ⟨hy, s, hs⟩ := h.op y ((hm y).2 (.inl rfl))
  obtain ⟨f1, f2, f3, f4, f5⟩ := lk_ok hl h.st0 h.hi1 hs
  obtain ⟨g1, g2⟩ := lk_lft hl h.st0 h.hi1
  refine ⟨⟨h.st0, by rw [g2]; exact h.hi1, fun z hz => ?_⟩, ?_⟩
  · rcases f4 z hz with hz | hz
    · obtain ⟨q1, t, q2⟩ := h.op z ((hm z).2 (.inr hz))
      exact ⟨q1, t, f2.2 _ _ q2⟩
    · exact hz
  · rw [g1]
    unfold lft
    simp only
    omega
theorem Wl.top {e : En} {hi : Int} {st : Vst} (h : Wl e hi st) (ho : st.2 ≠ []) : (e.start ≤ (popL st.2).getD (st.2.length - 1) 0 ∧ (popL st.2).getD (st.2.length - 1) 0 < hi) ∧ ∃ s, st.1.getD ((popL st.2).getD (st.2.length - 1) 0).toNat none = some s :=
  h.op _ ((mem_pop ho _).2 (.inl rfl))
theorem pc_yes {c : Cd} {e : En} {hi : Int} {L : Kn} (hC : ∀ (i : Nat) s, e.start ≤ (i : Int) → (i : Int) < hi → L.getD i none = some s → Fit c e hi L i s) : ∀ (n : Nat) {st : Vst}, Wl e hi st → Sb e.start hi st.1 L → ∃ K', pieceS c e hi n st = .ok K' ∧ Sb e.start hi K' L
  | 0, st, _, hs => ⟨st.1, rfl, hs⟩
  | n + 1, st, hW, hs => by
    rw [pieceS]
    by_cases ho : st.2 = []
    · rw [if_pos ho]
      exact ⟨_, rfl, hs⟩
    · rw [if_neg ho]
      obtain ⟨h1, s, h2⟩ := hW.top ho
      have hy0 := hW.st0
      obtain ⟨st', h3, h4⟩ := lk_yes (c := c) (st := (st.1, (popL st.2).take (st.2.length - 1))) hW.st0 h2 (hC _ s (by omega) (by omega) (hs _ s (by omega) (by omega) h2)) hs
      have h5 := (hW.pop ho h3).1
      rw [h3]
      exact pc_yes hC n h5 h4
/-- A refusal is told of a place of the piece. -/
theorem pc_err {c : Cd} {e : En} {hi : Int} : ∀ (n : Nat) {st : Vst} {k : Int × Int}, Wl e hi st → pieceS c e hi n st = .error k → e.start ≤ k.2 ∧ k.2 < hi
  | 0, st, k, _, h => by cases h
  | n + 1, st, k, hW, h => by
    rw [pieceS] at h
    by_cases ho : st.2 = []
    · rw [if_pos ho] at h
      cases h
    · rw [if_neg ho] at h
      split at h
      · cases h
        exact (hW.top ho).1
      · rename_i st' hl
        exact pc_err n (hW.pop ho hl).1 h
/-- What lies outside the piece stays; stacks that come keep what effS keeps. -/
theorem fw_out {lo hi : Int} {s : List Int} {st st' : Vst} {f : Int × Int} (h0 : 0 ≤ lo) (h : fwS lo hi s st f = .ok st') (i : Nat) (hi' : ¬ (lo ≤ (i : Int) ∧ (i : Int) < hi)) : st'.1.getD i none = st.1.getD i none := by
  unfold fwS at h
  split at h
  · rename_i hr
    split at h
    · cases h
      rw [set_getD, if_neg]
      rintro ⟨rfl, -⟩
      omega
    · split at h
      · cases h
      · split at h
        · cases h
        · cases h; rfl
  · cases h
theorem fws_out {lo hi : Int} {s : List Int} (h0 : 0 ≤ lo) (i : Nat) (hi' : ¬ (lo ≤ (i : Int) ∧ (i : Int) < hi)) : ∀ (l : List (Int × Int)) {st st' : Vst}, fwsS lo hi s l st = .ok st' → st'.1.getD i none = st.1.getD i none
  | [], st, st', h => by cases h; rfl
  | f :: r, st, st', h => by
    rw [fwsS] at h
    cases hf : fwS lo hi s st f with
    | error k => rw [hf] at h; cases h
    | ok st1 =>
      rw [hf] at h
      exact (fws_out h0 i hi' r h).trans (fw_out h0 hf i hi')
theorem pc_out {c : Cd} {e : En} {hi : Int} (h0 : 0 ≤ e.start) (i : Nat) (hi' : ¬ (e.start ≤ (i : Int) ∧ (i : Int) < hi)) : ∀ (n : Nat) {st : Vst} {K' : Kn}, pieceS c e hi n st = .ok K' → K'.getD i none = st.1.getD i none
  | 0, st, K', h => by cases h; rfl
  | n + 1, st, K', h => by
    rw [pieceS] at h
    by_cases ho : st.2 = []
    · rw [if_pos ho] at h
      cases h; rfl
    · rw [if_neg ho] at h
      split at h
      · cases h
      · rename_i st' hl
        rw [pc_out h0 i hi' n h]
        unfold lkS at hl
        split at hl
        · split at hl
          · cases hl
          · exact fws_out (st := (st.1, (popL st.2).take (st.2.length - 1))) h0 i hi' _ hl
        · cases hl
/-- All known stacks are so. -/
def All (P : List Int → Prop) (K : Kn) : Prop := ∀ (i : Nat) s, K.getD i none = some s → P s
theorem fw_all {P : List Int → Prop} {lo hi : Int} {s : List Int} {st st' : Vst} {f : Int × Int} (hP : P s) (h : fwS lo hi s st f = .ok st') (hA : All P st.1) : All P st'.1 := by
  unfold fwS at h
  split at h
  · split at h
    · cases h
      intro i t d
      rw [set_getD] at d
      split at d
      · cases d; exact hP
      · exact hA i t d
    · split at h
      · cases h
      · split at h
        · cases h
        · cases h; exact hA
  · cases h
theorem fws_all {P : List Int → Prop} {lo hi : Int} {s : List Int} (hP : P s) : ∀ (l : List (Int × Int)) {st st' : Vst}, fwsS lo hi s l st = .ok st' → All P st.1 → All P st'.1
  | [], st, st', h, hA => by cases h; exact hA
  | f :: r, st, st', h, hA => by
    rw [fwsS] at h
    cases hf : fwS lo hi s st f with
    | error k => rw [hf] at h; cases h
    | ok st1 =>
      rw [hf] at h
      exact fws_all hP r h (fw_all hP hf hA)
theorem lk_all {P : List Int → Prop} {c : Cd} {e : En} {hi : Int} {at_ : Nat} {st st' : Vst} {s : List Int} (hk : st.1.getD at_ none = some s) (hP : ∀ s s', P s → namedS c e (insAt c at_) = true → effS c e (insAt c at_) s = .ok s' → P s') (h : lkS c e hi at_ st = .ok st') (hA : All P st.1) : All P st'.1 := by
  have e1 : stkAt st.1 at_ = s := by unfold stkAt; rw [hk]; rfl
  unfold lkS at h
  rw [e1] at h
  split at h
  · rename_i hn
    split at h
    · cases h
    · rename_i s' he
      exact fws_all (hP s s' (hA _ s hk) hn he) _ h hA
  · cases h
theorem pc_all {P : List Int → Prop} {c : Cd} {e : En} {hi : Int} (hP : ∀ (i : Nat) s s', (i : Int) < hi → P s → namedS c e (insAt c i) = true → effS c e (insAt c i) s = .ok s' → P s') : ∀ (n : Nat) {st : Vst} {K' : Kn}, Wl e hi st → pieceS c e hi n st = .ok K' → All P st.1 → All P K'
  | 0, st, K', _, h, hA => by cases h; exact hA
  | n + 1, st, K', hW, h, hA => by
    rw [pieceS] at h
    by_cases ho : st.2 = []
    · rw [if_pos ho] at h
      cases h; exact hA
    · rw [if_neg ho] at h
      split at h
      · cases h
      · rename_i st' hl
        obtain ⟨h1, s, h2⟩ := hW.top ho
        have hy0 := hW.st0
        exact pc_all hP n (hW.pop ho hl).1 h (lk_all (st := (st.1, (popL st.2).take (st.2.length - 1))) h2 (fun s s' a b d => hP _ s s' (by omega) a b d) hl hA)
end Go.Proofs.YtdcaonfnhdjibaaDoor
namespace Go.Proofs.YtdcaonfnhdjibaaDoor
open Go.RowKit

/-! The whole survey. -/
theorem lo_mono {c : Cd} (h : CodeOk c) : ∀ (d f : Nat), f + d < c.ens.length → (enAt c.ens f).start + (d : Int) ≤ (enAt c.ens (f + d)).start
  | 0, f, _ => by simp
  | d + 1, f, hf => by
    have h1 := lo_mono h d f (by omega)
    have h2 := ((st_get h.st).2 (f + d + 1) (by omega)).2 (by omega)
    rw [Nat.add_sub_cancel] at h2
    show (enAt c.ens f).start + ((d + 1 : Nat) : Int) ≤ (enAt c.ens (f + d + 1)).start
    have h3 : (enAt c.ens (f + d)).start < (enAt c.ens (f + d + 1)).start := h2
    omega
theorem piece_ok {c : Cd} (h : CodeOk c) {f : Nat} (hf : f < c.ens.length) : 0 ≤ (enAt c.ens f).start ∧ (enAt c.ens f).start < endS c f ∧ endS c f ≤ (c.ins.length : Int) := by
  have h0 : (enAt c.ens 0).start = 0 := (st_get h.st).1
  have h1 := lo_mono h f 0 (by omega)
  rw [Nat.zero_add] at h1
  have h2 : (enAt c.ens f).start < (c.ins.length : Int) := ((st_get h.st).2 f hf).1
  refine ⟨by omega, ?_⟩
  unfold endS
  split
  · rename_i q
    have h3 := ((st_get h.st).2 (f + 1) q).2 (by omega)
    have h4 := ((st_get h.st).2 (f + 1) q).1
    rw [Nat.add_sub_cancel] at h3
    exact ⟨h3, by omega⟩
  · exact ⟨h2, by omega⟩
theorem piece_apart {c : Cd} (h : CodeOk c) {f g : Nat} (hf : g < f) (hl : f < c.ens.length) : endS c g ≤ (enAt c.ens f).start := by
  unfold endS
  rw [if_pos (by omega)]
  have h1 := lo_mono h (f - (g + 1)) (g + 1) (by omega)
  rw [show g + 1 + (f - (g + 1)) = f by omega] at h1
  show (enAt c.ens (g + 1)).start ≤ _
  omega
/-- Stacks that fit one another everywhere. -/
structure Cert (c : Cd) (K : Kn) : Prop where
  st : ∀ f, f < c.ens.length → K.getD ((enAt c.ens f).start).toNat none = some []
  fit : ∀ f, f < c.ens.length → ∀ (i : Nat) s, (enAt c.ens f).start ≤ (i : Int) → (i : Int) < endS c f → K.getD i none = some s → Fit c (enAt c.ens f) (endS c f) K i s
/-- What is known when the f-th function's turn comes. -/
structure Pre (c : Cd) (f : Nat) (K : Kn) : Prop where
  len : K.length = c.ins.length
  no : ∀ i : Nat, (∀ g, g < f → g < c.ens.length → ¬ ((enAt c.ens g).start ≤ (i : Int) ∧ (i : Int) < endS c g)) → K.getD i none = none
  st : ∀ g, g < f → g < c.ens.length → K.getD ((enAt c.ens g).start).toNat none = some []
  fit : ∀ g, g < f → g < c.ens.length → ∀ (i : Nat) s, (enAt c.ens g).start ≤ (i : Int) → (i : Int) < endS c g → K.getD i none = some s → Fit c (enAt c.ens g) (endS c g) K i s
theorem Pre.start (c : Cd) : Pre c 0 (List.replicate c.ins.length none) := by
  refine ⟨List.length_replicate, fun i _ => ?_, fun g hg => by omega, fun g hg => by omega⟩
  rw [List.getD_eq_getElem?_getD, List.getElem?_replicate]
  split <;> rfl
theorem Pre.none_at {c : Cd} {f : Nat} {K : Kn} (h : Pre c f K) (hc : CodeOk c) (hf : f < c.ens.length) (i : Nat) (hi : (enAt c.ens f).start ≤ (i : Int)) : K.getD i none = none :=
  h.no i fun g hg hgl q => by
    have := piece_apart hc hg hf
    omega
theorem Pre.wl {c : Cd} {f : Nat} {K : Kn} (h : Pre c f K) (hc : CodeOk c) (hf : f < c.ens.length) : Wl (enAt c.ens f) (endS c f) (K.set ((enAt c.ens f).start).toNat (some []), pushH [] ((enAt c.ens f).start)) := by
  obtain ⟨p1, p2, p3⟩ := piece_ok hc hf
  have hl : ((enAt c.ens f).start).toNat < K.length := by rw [h.len]; omega
  refine ⟨p1, by rw [List.length_set, h.len]; exact p3, fun y hy => ?_⟩
  rcases (push_mem [] _ y).1 hy with rfl | hy
  · exact ⟨⟨Int.le_refl _, p2⟩, [], by rw [set_getD, if_pos ⟨rfl, hl⟩]⟩
  · cases hy
theorem Pre.inv {c : Cd} {f : Nat} {K : Kn} (h : Pre c f K) (hc : CodeOk c) (hf : f < c.ens.length) : Inv c (enAt c.ens f) (endS c f) (K.set ((enAt c.ens f).start).toNat (some []), pushH [] ((enAt c.ens f).start)) := by
  have w := h.wl hc hf
  refine ⟨w.st0, w.hi1, w.op, fun i s a b d => ?_⟩
  rw [set_getD] at d
  split at d
  · rename_i q
    refine .inl ((push_mem [] (enAt c.ens f).start _).2 (.inl ?_))
    have := w.st0
    obtain ⟨q1, -⟩ := q
    show (i : Int) = (enAt c.ens f).start
    omega
  · rw [h.none_at hc hf i a] at d
    cases d
theorem Pre.lft {c : Cd} {f : Nat} {K : Kn} (h : Pre c f K) (hc : CodeOk c) (hf : f < c.ens.length) : YtdcaonfnhdjibaaDoor.lft (K.set ((enAt c.ens f).start).toNat (some []), pushH [] ((enAt c.ens f).start)) < c.ins.length + 1 := by
  obtain ⟨p1, p2, p3⟩ := piece_ok hc hf
  have hl : ((enAt c.ens f).start).toNat < K.length := by rw [h.len]; omega
  have e1 := cnt_set (s := []) hl (h.none_at hc hf _ (by omega))
  have e2 : K.countP (·.isNone) ≤ K.length := List.countP_le_length
  have e3 := h.len
  unfold YtdcaonfnhdjibaaDoor.lft
  rw [push_len]
  simp only [List.length_nil]
  omega
theorem Pre.next {c : Cd} {f : Nat} {K K' : Kn} (h : Pre c f K) (hc : CodeOk c) (hf : f < c.ens.length) (hk : fnS c f K = .ok K') : Pre c (f + 1) K' ∧ Gr K K' := by
  obtain ⟨p1, p2, p3⟩ := piece_ok hc hf
  have hl : ((enAt c.ens f).start).toNat < K.length := by rw [h.len]; omega
  have T := pc_ok _ hk (h.inv hc hf) (h.lft hc hf)
  have G : Gr K K' := (gr_set (h.none_at hc hf _ (by omega))).trans T.gr
  have O : ∀ i : Nat, ¬ ((enAt c.ens f).start ≤ (i : Int) ∧ (i : Int) < endS c f) → K'.getD i none = K.getD i none := fun i hi => by
    rw [pc_out p1 i hi _ hk, set_getD, if_neg]
    rintro ⟨rfl, -⟩
    exact hi ⟨by omega, by omega⟩
  refine ⟨⟨G.1.trans h.len, fun i hi => ?_, fun g hg hgl => ?_, fun g hg hgl i s a b d => ?_⟩, G⟩
  · rw [O i (hi f (Nat.lt_succ_self f) hf)]
    exact h.no i fun g hg hgl => hi g (by omega) hgl
  · by_cases e : g = f
    · subst e
      exact T.gr.2 _ _ (by rw [set_getD, if_pos ⟨rfl, hl⟩])
    · exact G.2 _ _ (h.st g (by omega) hgl)
  · by_cases e : g = f
    · subst e
      exact T.fit i s a b d
    · have hap := piece_apart hc (f := f) (g := g) (by omega) hf
      rw [O i (by omega)] at d
      exact (h.fit g (by omega) hgl i s a b d).gr G
theorem fns_ok {c : Cd} (hc : CodeOk c) : ∀ (n f : Nat) {K K' : Kn}, Pre c f K → f + n = c.ens.length → fnsS c f n K = .ok K' → Pre c c.ens.length K'
  | 0, f, K, K', h, hn, hk => by
    cases hk
    rw [← hn]
    exact h
  | n + 1, f, K, K', h, hn, hk => by
    rw [fnsS] at hk
    cases hf : fnS c f K with
    | error k => rw [hf] at hk; cases hk
    | ok K1 =>
      rw [hf] at hk
      exact fns_ok hc n (f + 1) (h.next hc (by omega) hf).1 (by omega) hk
theorem fns_err {c : Cd} (hc : CodeOk c) : ∀ (n f : Nat) {K : Kn} {k : Int × Int}, Pre c f K → f + n = c.ens.length → fnsS c f n K = .error k → 0 ≤ k.2 ∧ k.2 < (c.ins.length : Int)
  | 0, f, K, k, h, hn, hk => by cases hk
  | n + 1, f, K, k, h, hn, hk => by
    rw [fnsS] at hk
    cases hf : fnS c f K with
    | error k' =>
      rw [hf] at hk
      cases hk
      obtain ⟨p1, p2, p3⟩ := piece_ok hc (f := f) (by omega)
      have := pc_err _ (h.wl hc (by omega)) hf
      omega
    | ok K1 =>
      rw [hf] at hk
      exact fns_err hc n (f + 1) (h.next hc (by omega) hf).1 (by omega) hk
theorem fns_yes {c : Cd} {L : Kn} (hc : CodeOk c) (hL : Cert c L) : ∀ (n f : Nat) {K : Kn}, Pre c f K → f + n = c.ens.length → (∀ (i : Nat) s, K.getD i none = some s → L.getD i none = some s) → ∃ K', fnsS c f n K = .ok K' ∧ ∀ (i : Nat) s, K'.getD i none = some s → L.getD i none = some s
  | 0, f, K, h, hn, hs => ⟨K, rfl, hs⟩
  | n + 1, f, K, h, hn, hs => by
    have hf : f < c.ens.length := by omega
    obtain ⟨p1, p2, p3⟩ := piece_ok hc hf
    have hl : ((enAt c.ens f).start).toNat < K.length := by rw [h.len]; omega
    obtain ⟨K1, h1, h2⟩ := pc_yes (hL.fit f hf) (c.ins.length + 1) (h.wl hc hf) (fun i s a b d => by
      rw [set_getD] at d
      split at d
      · rename_i q
        cases d
        rw [← q.1]
        exact hL.st f hf
      · exact hs i s d)
    obtain ⟨P1, G1⟩ := h.next hc hf h1
    obtain ⟨K', h3, h4⟩ := fns_yes hc hL n (f + 1) P1 (by omega) (fun i s d => by
      by_cases q : (enAt c.ens f).start ≤ (i : Int) ∧ (i : Int) < endS c f
      · exact h2 i s q.1 q.2 d
      · rw [pc_out p1 i q _ h1, set_getD, if_neg (by rintro ⟨rfl, -⟩; exact q ⟨by omega, by omega⟩)] at d
        exact hs i s d)
    refine ⟨K', ?_, h4⟩
    rw [fnsS]
    have h1' : fnS c f K = .ok K1 := h1
    rw [h1']
    exact h3
/-- The main function wants nothing and gives nothing. -/
def freeS (c : Cd) : Prop := ¬ (0 < (enAt c.ens c.main.toNat).params ∨ (enAt c.ens c.main.toNat).result ≠ 0)
theorem sur_ok {c : Cd} {K : Kn} (h : surS c = .ok K) : CodeOk c ∧ freeS c ∧ K.length = c.ins.length ∧ Cert c K ∧ (∀ i : Nat, (∀ g, g < c.ens.length → ¬ ((enAt c.ens g).start ≤ (i : Int) ∧ (i : Int) < endS c g)) → K.getD i none = none) := by
  unfold surS at h
  split at h
  · cases h
  · rename_i hv
    have hc : CodeOk c := code_ok.1 (Classical.byContradiction hv)
    split at h
    · cases h
    · rename_i hf
      have := fns_ok hc _ _ (Pre.start c) (by omega) h
      exact ⟨hc, hf, this.len, ⟨fun f hf => this.st f hf hf, fun f hf => this.fit f hf hf⟩, fun i hi => this.no i fun g hg _ => hi g hg⟩
theorem sur_yes {c : Cd} {L : Kn} (hc : CodeOk c) (hf : freeS c) (hL : Cert c L) : ∃ K, surS c = .ok K ∧ ∀ (i : Nat) s, K.getD i none = some s → L.getD i none = some s := by
  unfold surS
  rw [if_neg (by rw [code_ok.2 hc]; simp), if_neg hf]
  exact fns_yes hc hL _ _ (Pre.start c) (by omega) (fun i s d => by
    rw [List.getD_eq_getElem?_getD, List.getElem?_replicate] at d
    split at d <;> cases d)
theorem en_mem {c : Cd} {f : Nat} (h : f < c.ens.length) : enAt c.ens f ∈ c.ens := by
  unfold enAt
  rw [List.getD_eq_getElem?_getD, List.getElem?_eq_getElem h]
  exact List.getElem_mem _
theorem main_lt {c : Cd} (hc : CodeOk c) : c.main.toNat < c.ens.length := by
  have := hc.m0
  have := hc.ml
  omega
theorem sur_err {c : Cd} {k : Int × Int} (h : surS c = .error k) : (validS c ≠ 0 ∧ k = (validS c, 0)) ∨ (CodeOk c ∧ 0 ≤ k.2 ∧ k.2 < (c.ins.length : Int)) := by
  unfold surS at h
  split at h
  · rename_i hv
    cases h
    exact .inl ⟨hv, rfl⟩
  · rename_i hv
    have hc : CodeOk c := code_ok.1 (Classical.byContradiction hv)
    split at h
    · cases h
      obtain ⟨p1, p2, p3⟩ := piece_ok hc (main_lt hc)
      exact .inr ⟨hc, p1, by show (enAt c.ens _).start < _; omega⟩
    · exact .inr ⟨hc, fns_err hc _ _ (Pre.start c) (by omega) h⟩
/-- All stacks are so, where effS keeps it. -/
theorem fns_all {P : List Int → Prop} {c : Cd} (hc : CodeOk c) (h0 : P []) (hP : ∀ (f i : Nat) s s', f < c.ens.length → i < c.ins.length → P s → namedS c (enAt c.ens f) (insAt c i) = true → effS c (enAt c.ens f) (insAt c i) s = .ok s' → P s') : ∀ (n f : Nat) {K K' : Kn}, Pre c f K → f + n = c.ens.length → fnsS c f n K = .ok K' → All P K → All P K'
  | 0, f, K, K', _, _, hk, hA => by cases hk; exact hA
  | n + 1, f, K, K', h, hn, hk, hA => by
    rw [fnsS] at hk
    cases hf : fnS c f K with
    | error k => rw [hf] at hk; cases hk
    | ok K1 =>
      rw [hf] at hk
      have hfl : f < c.ens.length := by omega
      obtain ⟨p1, p2, p3⟩ := piece_ok hc hfl
      refine fns_all hc h0 hP n (f + 1) (h.next hc hfl hf).1 (by omega) hk (pc_all (fun i s s' a b d k => hP f i s s' hfl (by omega) b d k) _ (h.wl hc hfl) hf (fun i s d => ?_))
      rw [set_getD] at d
      split at d
      · cases d; exact h0
      · exact hA i s d
theorem sur_all {P : List Int → Prop} {c : Cd} {K : Kn} (h : surS c = .ok K) (h0 : P []) (hP : ∀ (f i : Nat) s s', f < c.ens.length → i < c.ins.length → P s → namedS c (enAt c.ens f) (insAt c i) = true → effS c (enAt c.ens f) (insAt c i) s = .ok s' → P s') : All P K := by
  have hc := (sur_ok h).1
  unfold surS at h
  rw [if_neg (by rw [code_ok.2 hc]; simp)] at h
  split at h
  · cases h
  · exact fns_all hc h0 hP _ _ (Pre.start c) (by omega) h (fun i s d => by
      rw [List.getD_eq_getElem?_getD, List.getElem?_replicate] at d
      split at d <;> cases d)
end Go.Proofs.YtdcaonfnhdjibaaDoor
namespace Go.Proofs.YtdcaonfnhdjibaaDoor
open Go.RowKit

/-! The document's table says the same. -/
def ofR (s t : Int) : Bool := if t = -1 then true else if t = -2 then decide (5 ≤ s) else if t = -3 then decide (1 ≤ s) && decide (s ≤ 3) else if t = -4 then false else s == t
def takR (c : Cd) (e : En) (x : In) : List Int :=
  if x.1 = 5 then [e.sorts.getD x.2.1.toNat 0]
  else if x.1 = 6 ∨ x.1 = 23 then [-1]
  else if x.1 = 7 then (if x.2.1 = 1 then [1] else [2])
  else if x.1 = 8 then [-1, -1]
  else if x.1 = 10 then [2]
  else if x.1 = 11 then (enAt c.ens x.2.1.toNat).sorts.take (enAt c.ens x.2.1.toNat).params.toNat
  else if x.1 = 12 then (if e.result = 0 then [-4] else [e.result])
  else if x.1 = 14 then [1]
  else if x.1 = 15 then [-1, 1]
  else if x.1 = 16 then [-2, 1, -1]
  else if x.1 = 17 then [-1]
  else if x.1 = 18 then [-3]
  else if x.1 = 19 then List.replicate x.2.1.toNat (-3)
  else []
def opR (op s : Int) : Bool × Int := if op = 3 then (s == 1 || s == 3, s) else if 4 ≤ op ∧ op ≤ 7 then (s == 1, s) else if op = 8 ∨ op = 9 then (true, 2) else (s == 1 || s == 3, 2)
def furR (e : En) (x : In) (v : List Int) : Bool :=
  if x.1 = 8 then decide (v.getD 0 0 = v.getD 1 0) && (opR x.2.1 (v.getD 0 0)).1
  else if x.1 = 15 ∨ x.1 = 17 then decide (5 ≤ v.getD 0 0) || v.getD 0 0 == 3
  else if x.1 = 16 then decide (v.getD 2 0 = v.getD 0 0 - 4)
  else if x.1 = 13 then decide (e.result = 0)
  else true
def givR (c : Cd) (e : En) (x : In) (v : List Int) : Int :=
  if x.1 = 1 ∨ x.1 = 20 ∨ x.1 = 17 then 1
  else if x.1 = 2 then 2
  else if x.1 = 3 ∨ x.1 = 18 then 3
  else if x.1 = 4 then e.sorts.getD x.2.1.toNat 0
  else if x.1 = 7 ∨ x.1 = 23 then v.getD 0 0
  else if x.1 = 8 then (opR x.2.1 (v.getD 0 0)).2
  else if x.1 = 11 then (enAt c.ens x.2.1.toNat).result
  else if x.1 = 14 then x.2.1 + 4
  else if x.1 = 15 then (if v.getD 0 0 = 3 then 1 else v.getD 0 0 - 4)
  else 0
def ofAll (v t : List Int) : Bool := (List.zipWith ofR v t).all id
def outL (g : Int) (r : List Int) : List Int := if g = 0 then r else r ++ [g]
def outR (g : Int) (r : List Int) : Ex := if 400 < (outL g r).length then .error 141 else .ok (outL g r)
def doesR (c : Cd) (e : En) (x : In) (s : List Int) : Ex :=
  if namedS c e x then tkS (takR c e x).length s fun r v => wtS (ofAll v (takR c e x) && furR e x v) (outR (givR c e x v) r) else .error 143
/-- Sorts that may be, not too many. -/
structure SOk (s : List Int) : Prop where
  len : s.length ≤ 400
  so : ∀ v ∈ s, sortS v = true
theorem sort_ok {v : Int} (h : sortS v = true) : 1 ≤ v ∧ v < 20 ∧ v ≠ 4 := by
  unfold sortS at h
  simp only [Bool.and_eq_true, decide_eq_true_eq] at h
  refine ⟨by omega, h.2.1, ?_⟩
  rintro rfl
  exact absurd h.2.2 (by decide)
theorem sort_up {v : Int} (h : sortS v = true) (hv : v < 16) : sortS (v + 4) = true := by
  have h1 := sort_ok h
  have key : ∀ n : Fin 16, sortS (n.val : Int) = true → sortS ((n.val : Int) + 4) = true := by decide
  have e : v = ((⟨v.toNat, by omega⟩ : Fin 16).val : Int) := by show v = (v.toNat : Int); omega
  rw [e] at h ⊢
  exact key _ h
theorem sort_down {v : Int} (h : sortS v = true) (hv : 4 < v) : sortS (v - 4) = true := by
  have h1 := sort_ok h
  have key : ∀ n : Fin 20, 4 < n.val → sortS (n.val : Int) = true → sortS ((n.val : Int) - 4) = true := by decide
  have e : v = ((⟨v.toNat, by omega⟩ : Fin 20).val : Int) := by show v = (v.toNat : Int); omega
  rw [e] at h ⊢
  exact key _ (by show 4 < v.toNat; omega) h
theorem tk_app (r v : List Int) (k : List Int → List Int → Ex) : tkS v.length (r ++ v) k = k r v := by
  unfold tkS
  rw [if_neg (by simp), show (r ++ v).length - v.length = r.length by simp, List.take_left, List.drop_left]
theorem tk_cases (n : Nat) (s : List Int) : s.length < n ∨ ∃ r v, s = r ++ v ∧ v.length = n := by
  by_cases h : s.length < n
  · exact .inl h
  · exact .inr ⟨s.take (s.length - n), s.drop (s.length - n), (List.take_append_drop _ _).symm, by rw [List.length_drop]; omega⟩
theorem tk_eq {n : Nat} {s : List Int} {k k' : List Int → List Int → Ex} (h : ∀ r v, s = r ++ v → v.length = n → k r v = k' r v) : tkS n s k = tkS n s k' := by
  rcases tk_cases n s with q | ⟨r, v, rfl, rfl⟩
  · unfold tkS
    rw [if_pos q, if_pos q]
  · rw [tk_app, tk_app]
    exact h r v rfl rfl
theorem out_some {g : Int} {r : List Int} (hg : g ≠ 0) (hr : r.length ≤ 400) : outR g r = gvS g r := by
  unfold outR outL gvS
  rw [if_neg hg]
  simp only [List.length_append, List.length_singleton]
  by_cases q : r.length = 400
  · rw [if_pos (by omega), if_pos q]
  · rw [if_neg (by omega), if_neg q]
theorem out_none {r : List Int} (hr : r.length ≤ 400) : outR 0 r = .ok r := by
  unfold outR outL
  rw [if_pos rfl, if_neg (by omega)]
theorem tk_zero (s : List Int) (k : List Int → List Int → Ex) : tkS 0 s k = k s [] := by
  have := tk_app s [] k
  simpa using this
theorem all_one (v t : Int) : ofAll [v] [t] = ofR v t := by simp [ofAll]
theorem ofR_sort {v t : Int} (ht : 0 ≤ t) : ofR v t = (v == t) := by
  unfold ofR
  rw [if_neg (by omega), if_neg (by omega), if_neg (by omega), if_neg (by omega)]
theorem all_sorts : ∀ (v t : List Int), (∀ y ∈ t, 0 ≤ y) → v.length = t.length → ofAll v t = decide (v = t)
  | [], [], _, _ => rfl
  | x :: v, y :: t, h, hl => by
    have ih := all_sorts v t (fun z hz => h z (List.mem_cons_of_mem _ hz)) (by simpa using hl)
    unfold ofAll at ih ⊢
    rw [List.zipWith_cons_cons, List.all_cons, ih, id, ofR_sort (h y (List.mem_cons_self ..))]
    by_cases q : x = y
    · subst q; simp
    · have : (x == y) = false := by simpa using q
      rw [this]
      simp [q]
theorem len1 {v : List Int} (h : v.length = 1) : ∃ a, v = [a] := by
  match v, h with
  | [a], _ => exact ⟨a, rfl⟩
theorem len2 {v : List Int} (h : v.length = 2) : ∃ a b, v = [a, b] := by
  match v, h with
  | [a, b], _ => exact ⟨a, b, rfl⟩
theorem len3 {v : List Int} (h : v.length = 3) : ∃ a b d, v = [a, b, d] := by
  match v, h with
  | [a, b, d], _ => exact ⟨a, b, d, rfl⟩
theorem SOk.parts {r v : List Int} (h : SOk (r ++ v)) : r.length ≤ 400 ∧ (∀ y ∈ v, sortS y = true) ∧ ∀ y ∈ r, sortS y = true := by
  have := h.len
  rw [List.length_append] at this
  exact ⟨by omega, fun y hy => h.so y (List.mem_append_right _ hy), fun y hy => h.so y (List.mem_append_left _ hy)⟩
theorem wt_eq {a b : Bool} {k k' : Ex} (h1 : a = b) (h2 : b = true → k = k') : wtS a k = wtS b k' := by
  subst h1
  unfold wtS
  cases a with
  | true => exact h2 rfl
  | false => rfl
theorem ins_op {x : In} (h : insS x = true) : (0 ≤ x.1 ∧ x.1 < 24) ∧ mayS (opA.getD x.1.toNat 0) x.2.1 = true := by
  unfold insS at h
  simp only [Bool.and_eq_true, decide_eq_true_eq] at h
  exact ⟨⟨h.1, h.2.1⟩, h.2.2.1⟩
theorem may_lo {o : Nat} {n : Int} (h : mayS o n = true) : shLo.getD o 0 ≤ n ∧ n ≤ shHi.getD o 0 ∧ (o = 9 → sortS n = true) := by
  unfold mayS at h
  simp only [Bool.and_eq_true, decide_eq_true_eq, Bool.or_eq_true, bne_iff_ne] at h
  refine ⟨h.1, h.2.1, fun e => ?_⟩
  rcases h.2.2 with q | q
  · exact absurd e q
  · exact q
theorem does_eq {c : Cd} {e : En} {x : In} {s : List Int} (hs : SOk s) (he : EntOk e) (hx : insS x = true) (hc : ∀ e ∈ c.ens, EntOk e) : doesR c e x s = if namedS c e x then effS c e x s else .error 143 := by
  unfold doesR
  by_cases hn : namedS c e x = true
  case neg => rw [if_neg hn, if_neg hn]
  rw [if_pos hn, if_pos hn]
  obtain ⟨⟨x0, x1⟩, hA⟩ := ins_op hx
  have hm := may_lo hA
  obtain ⟨o, a, b⟩ := x
  simp only at x0 x1 hm hn ⊢
  clear hx hA
  have h24 : o = 0 ∨ o = 1 ∨ o = 2 ∨ o = 3 ∨ o = 4 ∨ o = 5 ∨ o = 6 ∨ o = 7 ∨ o = 8 ∨ o = 9 ∨ o = 10 ∨ o = 11 ∨ o = 12 ∨ o = 13 ∨ o = 14 ∨ o = 15 ∨ o = 16 ∨ o = 17 ∨ o = 18 ∨ o = 19 ∨ o = 20 ∨ o = 21 ∨ o = 22 ∨ o = 23 := by omega
  have hl := hs.len
  rcases h24 with rfl | rfl | rfl | rfl | rfl | rfl | rfl | rfl | rfl | rfl | rfl | rfl | rfl | rfl | rfl | rfl | rfl | rfl | rfl | rfl | rfl | rfl | rfl | rfl
  all_goals simp only [takR, furR, givR, effS, Int.reduceEq, if_false, if_true, or_false, or_true, or_self, List.length_nil, List.length_cons, Nat.reduceAdd, tk_zero, Bool.and_true]
  · exact out_none hl
  · exact out_some (by decide) hl
  · exact out_some (by decide) hl
  · exact out_some (by decide) hl
  · refine out_some ?_ hl
    simp only [namedS, Int.reduceEq, if_false, if_true, or_false, decide_eq_true_eq] at hn
    have h0 : 0 ≤ a := hm.1
    have hlt : a.toNat < e.sorts.length := by omega
    rw [List.getD_eq_getElem?_getD, List.getElem?_eq_getElem hlt]
    have := sort_ok (he.ss _ (List.getElem_mem hlt))
    show e.sorts[a.toNat] ≠ 0
    omega
  · simp only [namedS, Int.reduceEq, if_false, if_true, or_true, decide_eq_true_eq] at hn
    have h0 : 0 ≤ a := hm.1
    have hlt : a.toNat < e.sorts.length := by omega
    have hso := sort_ok (he.ss _ (List.getElem_mem hlt))
    have eq : e.sorts.getD a.toNat 0 = e.sorts[a.toNat] := by rw [List.getD_eq_getElem?_getD, List.getElem?_eq_getElem hlt]; rfl
    rw [eq]
    unfold tjS
    refine tk_eq fun r v e1 hv => wt_eq ?_ fun _ => out_none (by subst e1; exact hs.parts.1)
    exact all_sorts _ _ (fun y hy => by obtain rfl := List.mem_singleton.1 hy; omega) hv
  · refine tk_eq fun r v e1 hv => ?_
    obtain ⟨u, rfl⟩ := len1 hv
    subst e1
    rw [all_one]
    show wtS true _ = _
    exact out_none hs.parts.1
  · have h12 : a = 1 ∨ a = 2 := by
      have h1 : (1 : Int) ≤ a := hm.1
      have h2 : a ≤ 2 := hm.2.1
      omega
    rcases h12 with rfl | rfl
    · simp only [Int.reduceEq, if_false, if_true, List.length_cons, List.length_nil, Nat.reduceAdd]
      unfold tjS
      refine tk_eq fun r v e1 hv => ?_
      obtain ⟨u, rfl⟩ := len1 hv
      subst e1
      refine wt_eq (all_sorts _ _ (fun y hy => by obtain rfl := List.mem_singleton.1 hy; decide) rfl) fun hd => ?_
      have : u = 1 := by simpa using hd
      subst this
      exact out_some (by decide) hs.parts.1
    · simp only [Int.reduceEq, if_false, if_true, List.length_cons, List.length_nil, Nat.reduceAdd]
      unfold tjS
      refine tk_eq fun r v e1 hv => ?_
      obtain ⟨u, rfl⟩ := len1 hv
      subst e1
      refine wt_eq (all_sorts _ _ (fun y hy => by obtain rfl := List.mem_singleton.1 hy; decide) rfl) fun hd => ?_
      have : u = 2 := by simpa using hd
      subst this
      exact out_some (by decide) hs.parts.1
  · refine tk_eq fun r v e1 hv => ?_
    obtain ⟨u, u', rfl⟩ := len2 hv
    subst e1
    obtain ⟨p1, p2, -⟩ := hs.parts
    have hu := sort_ok (p2 u (by simp))
    have h1 : (3 : Int) ≤ a := hm.1
    have h2 : a ≤ 13 := hm.2.1
    have k0 : ofAll [u, u'] [-1, -1] = true := rfl
    have k1 : (opR a u).1 = opnd a u := by
      unfold opR opnd
      by_cases q1 : a = 3
      · subst q1; rfl
      · rw [if_neg q1]
        by_cases q2 : 4 ≤ a ∧ a ≤ 7
        · rw [if_pos q2, if_neg (by omega), if_pos q2]
        · rw [if_neg q2]
          by_cases q3 : a = 8 ∨ a = 9
          · rw [if_pos q3, if_pos q3]
          · rw [if_neg q3, if_neg q3, if_neg q2]
    have k2 : (opR a u).2 = if a ≤ 7 then u else 2 := by
      unfold opR
      by_cases q1 : a = 3
      · subst q1; rfl
      · rw [if_neg q1]
        by_cases q2 : 4 ≤ a ∧ a ≤ 7
        · rw [if_pos q2, if_pos q2.2]
        · rw [if_neg q2, if_neg (by omega : ¬ a ≤ 7)]
          by_cases q3 : a = 8 ∨ a = 9
          · rw [if_pos q3]
          · rw [if_neg q3]
    have g0 : ([u, u'] : List Int).getD 0 0 = u := rfl
    have g1 : ([u, u'] : List Int).getD 1 0 = u' := rfl
    rw [k0, Bool.true_and, g0, g1, k1, k2]
    refine wt_eq rfl fun _ => out_some ?_ p1
    split
    · omega
    · decide
  · exact out_none hl
  · unfold tjS
    refine tk_eq fun r v e1 hv => ?_
    subst e1
    exact wt_eq (all_sorts _ _ (fun y hy => by obtain rfl := List.mem_singleton.1 hy; decide) hv) fun _ => out_none hs.parts.1
  · simp only [namedS, Int.reduceEq, if_false, if_true, or_self, decide_eq_true_eq] at hn
    have h0 : 0 ≤ a := hm.1
    have hk := hc _ (en_mem (c := c) (f := a.toNat) (by omega))
    generalize enAt c.ens a.toNat = d at hk
    unfold tjS
    refine tk_eq fun r v e1 hv => ?_
    subst e1
    refine wt_eq (all_sorts _ _ (fun y hy => ?_) hv) fun _ => ?_
    · have := sort_ok (hk.ss y (List.mem_of_mem_take hy))
      omega
    · by_cases q : d.result = 0
      · show outR d.result r = if d.result = 0 then _ else _
        rw [q, if_pos rfl]
        exact out_none hs.parts.1
      · show outR d.result r = if d.result = 0 then _ else _
        rw [if_neg q]
        exact out_some q hs.parts.1
  · unfold tjS
    by_cases q : e.result = 0
    · rw [q, if_pos rfl]
      refine tk_eq fun r v e1 hv => ?_
      obtain ⟨u, rfl⟩ := len1 hv
      subst e1
      have hu := sort_ok (hs.parts.2.1 u (by simp))
      refine wt_eq ?_ fun _ => out_none hs.parts.1
      rw [all_one]
      show false = decide ([u] = [0])
      symm
      rw [decide_eq_false_iff_not]
      intro hh
      have : u = 0 := by simpa using hh
      omega
    · rw [if_neg q]
      have hr : sortS e.result = true := by
        rcases he.rs with h | h
        · exact absurd h q
        · exact h
      have := sort_ok hr
      refine tk_eq fun r v e1 hv => ?_
      subst e1
      exact wt_eq (all_sorts _ _ (fun y hy => by obtain rfl := List.mem_singleton.1 hy; omega) hv) fun _ => out_none hs.parts.1
  · refine wt_eq ?_ fun _ => out_none hl
    show (true && _) = _
    rw [Bool.true_and]
  · unfold tjS
    have hso := sort_ok (hm.2.2 rfl)
    refine tk_eq fun r v e1 hv => ?_
    subst e1
    exact wt_eq (all_sorts _ _ (fun y hy => by obtain rfl := List.mem_singleton.1 hy; decide) hv) fun _ => out_some (by omega) hs.parts.1
  · refine tk_eq fun r v e1 hv => ?_
    obtain ⟨u, u', rfl⟩ := len2 hv
    subst e1
    obtain ⟨p1, p2, -⟩ := hs.parts
    have hu := sort_ok (p2 u (by simp))
    have g0 : ([u, u'] : List Int).getD 0 0 = u := rfl
    have g1 : ([u, u'] : List Int).getD 1 0 = u' := rfl
    rw [g0, g1]
    have k0 : ofAll [u, u'] [-1, 1] = (u' == 1) := by simp [ofAll, ofR]
    have k1 : hasL u = (decide (5 ≤ u) || u == 3) := by unfold hasL; rw [decide_eq_decide.2 (by omega : 4 < u ↔ 5 ≤ u)]
    refine wt_eq ?_ fun hd => ?_
    · rw [k0, k1, Bool.and_comm]
      congr 1
    · have hg : (if u = 3 then 1 else u - 4) ≠ 0 := by
        split
        · decide
        · omega
      exact out_some hg p1
  · refine tk_eq fun r v e1 hv => ?_
    obtain ⟨u, u', u'', rfl⟩ := len3 hv
    subst e1
    obtain ⟨p1, p2, -⟩ := hs.parts
    have g0 : ([u, u', u''] : List Int).getD 0 0 = u := rfl
    have g1 : ([u, u', u''] : List Int).getD 1 0 = u' := rfl
    have g2 : ([u, u', u''] : List Int).getD 2 0 = u'' := rfl
    rw [g0, g1, g2]
    refine wt_eq ?_ fun _ => out_none p1
    have k0 : ofAll [u, u', u''] [-2, 1, -1] = (decide (5 ≤ u) && (u' == 1)) := by simp [ofAll, ofR]
    rw [k0, decide_eq_decide.2 (by omega : 4 < u ↔ 5 ≤ u)]
    by_cases q : 5 ≤ u
    · have : eltS u = u - 4 := by unfold eltS; rw [if_neg (by omega)]
      rw [this]
      congr 2
    · simp [q]
  · refine tk_eq fun r v e1 hv => ?_
    obtain ⟨u, rfl⟩ := len1 hv
    subst e1
    have g0 : ([u] : List Int).getD 0 0 = u := rfl
    have k0 : ofAll [u] [-1] = true := rfl
    rw [g0, k0, Bool.true_and]
    refine wt_eq ?_ fun _ => out_some (by decide) hs.parts.1
    unfold hasL
    rw [decide_eq_decide.2 (by omega : 4 < u ↔ 5 ≤ u)]
  · refine tk_eq fun r v e1 hv => ?_
    obtain ⟨u, rfl⟩ := len1 hv
    subst e1
    have hu := sort_ok (hs.parts.2.1 u (by simp))
    have g0 : ([u] : List Int).getD 0 0 = u := rfl
    rw [g0, all_one]
    refine wt_eq ?_ fun _ => out_some (by decide) hs.parts.1
    show (decide (1 ≤ u) && decide (u ≤ 3)) = _
    rw [← decide_not, ← Bool.decide_and]
    exact decide_eq_decide.2 (by omega)
  · have key : ∀ (v : List Int), (∀ y ∈ v, sortS y = true) → ofAll v (List.replicate v.length (-3)) = v.all fun y => !decide (4 < y) := fun v => by
      induction v with
      | nil => intro _; rfl
      | cons u v ih =>
        intro h
        have hu := sort_ok (h u (List.mem_cons_self ..))
        have := ih fun y hy => h y (List.mem_cons_of_mem _ hy)
        unfold ofAll at this ⊢
        rw [List.length_cons, List.replicate_succ, List.zipWith_cons_cons, List.all_cons, List.all_cons, this]
        congr 1
        show (decide (1 ≤ u) && decide (u ≤ 3)) = _
        rw [← decide_not, ← Bool.decide_and]
        exact decide_eq_decide.2 (by omega)
    rw [List.length_replicate]
    refine tk_eq fun r v e1 hv => ?_
    subst e1
    refine wt_eq ?_ fun _ => out_none hs.parts.1
    rw [← hv]
    exact key v hs.parts.2.1
  · exact out_some (by decide) hl
  · exact out_none hl
  · exact out_none hl
  · refine tk_eq fun r v e1 hv => ?_
    obtain ⟨u, rfl⟩ := len1 hv
    subst e1
    have hu := sort_ok (hs.parts.2.1 u (by simp))
    have g0 : ([u] : List Int).getD 0 0 = u := rfl
    have k0 : ofAll [u] [-1] = true := rfl
    rw [g0, k0]
    exact out_some (by omega) hs.parts.1
end Go.Proofs.YtdcaonfnhdjibaaDoor
namespace Go.Proofs.YtdcaonfnhdjibaaDoor
open Go.RowKit

theorem sok_nil : SOk [] := ⟨by decide, fun v h => by cases h⟩
theorem giv_sort {c : Cd} {e : En} {x : In} {v : List Int} (he : EntOk e) (hx : insS x = true) (hc : ∀ e ∈ c.ens, EntOk e) (hn : namedS c e x = true) (hv : ∀ y ∈ v, sortS y = true) (hl : v.length = (takR c e x).length) (hf : furR e x v = true) : givR c e x v = 0 ∨ sortS (givR c e x v) = true := by
  obtain ⟨⟨x0, x1⟩, hA⟩ := ins_op hx
  have hm := may_lo hA
  obtain ⟨o, a, b⟩ := x
  simp only at x0 x1 hm hn
  have h24 : o = 0 ∨ o = 1 ∨ o = 2 ∨ o = 3 ∨ o = 4 ∨ o = 5 ∨ o = 6 ∨ o = 7 ∨ o = 8 ∨ o = 9 ∨ o = 10 ∨ o = 11 ∨ o = 12 ∨ o = 13 ∨ o = 14 ∨ o = 15 ∨ o = 16 ∨ o = 17 ∨ o = 18 ∨ o = 19 ∨ o = 20 ∨ o = 21 ∨ o = 22 ∨ o = 23 := by omega
  have g0 : 0 < v.length → sortS (v.getD 0 0) = true := fun h => by
    rw [List.getD_eq_getElem?_getD, List.getElem?_eq_getElem h]
    exact hv _ (List.getElem_mem h)
  clear hx hA
  rcases h24 with rfl | rfl | rfl | rfl | rfl | rfl | rfl | rfl | rfl | rfl | rfl | rfl | rfl | rfl | rfl | rfl | rfl | rfl | rfl | rfl | rfl | rfl | rfl | rfl
  · exact .inl rfl
  · exact .inr (show sortS 1 = true by decide)
  · exact .inr (show sortS 2 = true by decide)
  · exact .inr (show sortS 3 = true by decide)
  · refine .inr ?_
    have h0 : 0 ≤ a := hm.1
    have hn' : decide (a < (e.sorts.length : Int)) = true := hn
    have hlt : a.toNat < e.sorts.length := by have := of_decide_eq_true hn'; omega
    show sortS (e.sorts.getD a.toNat 0) = true
    rw [List.getD_eq_getElem?_getD, List.getElem?_eq_getElem hlt]
    exact he.ss _ (List.getElem_mem hlt)
  · exact .inl rfl
  · exact .inl rfl
  · refine .inr (g0 ?_)
    rw [hl]
    show 0 < (if a = 1 then [1] else [2] : List Int).length
    split <;> decide
  · have hs := g0 (by rw [hl]; show 0 < 2; decide)
    refine .inr ?_
    show sortS (opR a (v.getD 0 0)).2 = true
    unfold opR
    split
    · exact hs
    · split
      · exact hs
      · split
        · show sortS 2 = true; decide
        · show sortS 2 = true; decide
  · exact .inl rfl
  · exact .inl rfl
  · have h0 : 0 ≤ a := hm.1
    have hn' : decide (a < (c.ens.length : Int)) = true := hn
    have hk := hc _ (en_mem (c := c) (f := a.toNat) (by have := of_decide_eq_true hn'; omega))
    exact hk.rs
  · exact .inl rfl
  · exact .inl rfl
  · have h1 := hm.2.2 rfl
    have h2 : a ≤ 15 := hm.2.1
    exact .inr (sort_up h1 (by show a < 16; omega))
  · have hs := g0 (by rw [hl]; show 0 < 2; decide)
    have hf' : (decide (5 ≤ v.getD 0 0) || v.getD 0 0 == 3) = true := hf
    simp only [Bool.or_eq_true, decide_eq_true_eq, beq_iff_eq] at hf'
    refine .inr ?_
    show sortS (if v.getD 0 0 = 3 then 1 else v.getD 0 0 - 4) = true
    split
    · decide
    · rename_i q
      exact sort_down hs (by omega)
  · exact .inl rfl
  · exact .inr (show sortS 1 = true by decide)
  · exact .inr (show sortS 3 = true by decide)
  · exact .inl rfl
  · exact .inr (show sortS 1 = true by decide)
  · exact .inl rfl
  · exact .inl rfl
  · exact .inr (g0 (by rw [hl]; show 0 < 1; decide))
theorem eff_sok {c : Cd} {e : En} {x : In} {s s' : List Int} (hs : SOk s) (he : EntOk e) (hx : insS x = true) (hc : ∀ e ∈ c.ens, EntOk e) (hn : namedS c e x = true) (h : effS c e x s = .ok s') : SOk s' := by
  have hd := does_eq hs he hx hc
  rw [if_pos hn, h] at hd
  unfold doesR at hd
  rw [if_pos hn] at hd
  rcases tk_cases (takR c e x).length s with q | ⟨r, v, rfl, hv⟩
  · unfold tkS at hd
    rw [if_pos q] at hd
    cases hd
  · rw [← hv, tk_app] at hd
    unfold wtS at hd
    split at hd
    · rename_i hw
      simp only [Bool.and_eq_true] at hw
      obtain ⟨p1, p2, p3⟩ := hs.parts
      unfold outR at hd
      split at hd
      · cases hd
      · rename_i hlen
        cases hd
        refine ⟨by omega, fun y hy => ?_⟩
        unfold outL at hy
        split at hy
        · exact p3 y hy
        · rename_i hg
          rcases List.mem_append.1 hy with hy | hy
          · exact p3 y hy
          · obtain rfl := List.mem_singleton.1 hy
            rcases giv_sort he hx hc hn p2 hv hw.2 with q | q
            · exact absurd q hg
            · exact q
    · cases hd
theorem ins_mem {c : Cd} {i : Nat} (h : i < c.ins.length) : insAt c i ∈ c.ins := by
  unfold insAt
  rw [List.getD_eq_getElem?_getD, List.getElem?_eq_getElem h]
  exact List.getElem_mem _
theorem sur_sok {c : Cd} {K : Kn} (h : surS c = .ok K) : All SOk K := by
  have hc := (sur_ok h).1
  exact sur_all h sok_nil fun f i s s' hf hi hs hn he => eff_sok hs (ent_ok.1 (hc.es _ (en_mem hf))) (hc.is _ (ins_mem hi)) (fun e he => ent_ok.1 (hc.es e he)) hn he

/-! Certificates, by the document's table. -/
def FitR (c : Cd) (e : En) (hi : Int) (L : Kn) (i : Nat) (s : List Int) : Prop :=
  ∃ s', doesR c e (insAt c i) s = .ok s' ∧ ∀ f ∈ flS (insAt c i) i, (e.start ≤ f.1 ∧ f.1 < hi) ∧ L.getD f.1.toNat none = some s'
structure CertR (c : Cd) (L : Kn) : Prop where
  st : ∀ f, f < c.ens.length → L.getD (enAt c.ens f).start.toNat none = some []
  fit : ∀ f, f < c.ens.length → ∀ (i : Nat) s, (enAt c.ens f).start ≤ (i : Int) → (i : Int) < endS c f → L.getD i none = some s → FitR c (enAt c.ens f) (endS c f) L i s
open Classical in
/-- Of what is said, the stacks that may be. -/
noncomputable def mayL (L : Kn) : Kn := L.map fun o => o.bind fun s => if SOk s then some s else none
theorem may_get (L : Kn) (i : Nat) (s : List Int) : (mayL L).getD i none = some s ↔ L.getD i none = some s ∧ SOk s := by
  unfold mayL
  rw [List.getD_eq_getElem?_getD, List.getD_eq_getElem?_getD, List.getElem?_map]
  cases h : L[i]? with
  | none => simp
  | some o =>
    cases o with
    | none => simp
    | some t =>
      simp only [Option.map_some, Option.bind_some, Option.getD_some]
      by_cases q : SOk t
      · rw [if_pos q]
        constructor
        · intro e
          cases e
          exact ⟨rfl, q⟩
        · exact fun e => e.1
      · rw [if_neg q]
        constructor
        · intro e; cases e
        · rintro ⟨e, k⟩
          cases e
          exact absurd k q
theorem cert_of {c : Cd} {L : Kn} (hc : CodeOk c) (h : CertR c L) : Cert c (mayL L) := by
  refine ⟨fun f hf => (may_get _ _ _).2 ⟨h.st f hf, sok_nil⟩, fun f hf i s a b d => ?_⟩
  obtain ⟨d1, d2⟩ := (may_get _ _ _).1 d
  obtain ⟨s', e1, e2⟩ := h.fit f hf i s a b d1
  obtain ⟨p1, p2, p3⟩ := piece_ok hc hf
  have he := ent_ok.1 (hc.es _ (en_mem hf))
  have hx := hc.is _ (ins_mem (c := c) (i := i) (by omega))
  have hcs : ∀ e ∈ c.ens, EntOk e := fun e he => ent_ok.1 (hc.es e he)
  rw [does_eq d2 he hx hcs] at e1
  split at e1
  · rename_i hn
    have hk := eff_sok d2 he hx hcs hn e1
    exact ⟨hn, s', e1, fun g hg => ⟨(e2 g hg).1, (may_get _ _ _).2 ⟨(e2 g hg).2, hk⟩⟩⟩
  · cases e1
theorem certR_of {c : Cd} {K : Kn} (h : surS c = .ok K) : CertR c K := by
  obtain ⟨hc, -, -, C, -⟩ := sur_ok h
  have hA := sur_sok h
  refine ⟨C.st, fun f hf i s a b d => ?_⟩
  obtain ⟨hn, s', e1, e2⟩ := C.fit f hf i s a b d
  obtain ⟨p1, p2, p3⟩ := piece_ok hc hf
  refine ⟨s', ?_, e2⟩
  rw [does_eq (hA i s d) (ent_ok.1 (hc.es _ (en_mem hf))) (hc.is _ (ins_mem (by omega))) (fun e he => ent_ok.1 (hc.es e he)), if_pos hn]
  exact e1
/-- Where stacks are said that fit by the document's table, the code is safe. -/
theorem safe_of {c : Cd} {L : Kn} (hc : CodeOk c) (hf : freeS c) (h : CertR c L) : ∃ K, surS c = .ok K := by
  obtain ⟨K, h1, -⟩ := sur_yes hc hf (cert_of hc h)
  exact ⟨K, h1⟩
/-- Instructions that no way leads to. -/
theorem sur_dead {c d : Cd} {K : Kn} (h : surS c = .ok K) (hd : CodeOk d) (h1 : d.ens = c.ens) (h2 : d.txs = c.txs) (h3 : d.main = c.main) (h4 : d.ins.length = c.ins.length) (h5 : ∀ i s, K.getD i none = some s → insAt d i = insAt c i) : surS d = .ok K := by
  obtain ⟨hc, hf, hl, C, hno⟩ := sur_ok h
  have hen : ∀ f, endS d f = endS c f := fun f => by unfold endS; rw [h1, h4]
  have hfd : freeS d := by unfold freeS at hf ⊢; rw [h1, h3]; exact hf
  have nm : ∀ e x, namedS d e x = namedS c e x := fun e x => by unfold namedS; rw [h1, h2]
  have ef : ∀ e x s, effS d e x s = effS c e x s := fun e x s => by unfold effS; rw [h1]
  have Cd' : Cert d K := by
    refine ⟨fun f hf => by rw [h1] at hf ⊢; exact C.st f hf, fun f hf i s a b e => ?_⟩
    rw [h1] at hf a
    rw [hen] at b ⊢
    obtain ⟨n1, s', n2, n3⟩ := C.fit f hf i s a b e
    have ei := h5 i s e
    refine ⟨by rw [nm, ei, h1]; exact n1, s', by rw [ef, ei, h1]; exact n2, ?_⟩
    rw [ei, h1]
    exact n3
  obtain ⟨K', k1, k2⟩ := sur_yes hd hfd Cd'
  obtain ⟨-, -, hl', C', -⟩ := sur_ok k1
  have Cc : Cert c K' := by
    refine ⟨fun f hf => by have := C'.st f (by rw [h1]; exact hf); rw [h1] at this; exact this, fun f hf i s a b e => ?_⟩
    obtain ⟨n1, s', n2, n3⟩ := C'.fit f (by rw [h1]; exact hf) i s (by rw [h1]; exact a) (by rw [hen]; exact b) e
    have ei := h5 i s (k2 i s e)
    rw [nm, ei, h1] at n1
    rw [ef, ei, h1] at n2
    rw [ei, h1, hen] at n3
    exact ⟨n1, s', n2, n3⟩
  obtain ⟨K2, q1, q2⟩ := sur_yes hc hf Cc
  rw [h] at q1
  cases q1
  have : K' = K := by
    apply List.ext_getElem?
    intro i
    have hll : K'.length = K.length := by rw [hl', hl, h4]
    by_cases hi : i < K.length
    · have a1 : K'[i]? = some (K'[i]'(by omega)) := List.getElem?_eq_getElem (by omega)
      have a2 : K[i]? = some K[i] := List.getElem?_eq_getElem hi
      have b1 := k2 i
      have b2 := q2 i
      rw [List.getD_eq_getElem?_getD, List.getD_eq_getElem?_getD, a1, a2] at b1 b2
      rw [a1, a2]
      simp only [Option.getD_some] at b1 b2
      congr 1
      cases hK : K[i] with
      | none =>
        cases hK' : K'[i]'(by omega) with
        | none => rfl
        | some s => have := b1 s hK'; rw [hK] at this; cases this
      | some s => exact b2 s hK
    · rw [List.getElem?_eq_none (by omega), List.getElem?_eq_none (by omega)]
  rw [← this]
  exact k1
end Go.Proofs.YtdcaonfnhdjibaaDoor
namespace Go.Proofs.YtdcaonfnhdjibaaDoor
open Go.RowKit

/-! No refusal is the number 0. -/
def Nz (x : Ex) : Prop := ∀ k, x = .error k → k ≠ 0
theorem nz_ok (s : List Int) : Nz (.ok s) := fun k h => by cases h
theorem nz_gv (v : Int) (s : List Int) : Nz (gvS v s) := fun k h => by
  unfold gvS at h
  split at h <;> cases h
  decide
theorem nz_wt {b : Bool} {x : Ex} (hx : Nz x) : Nz (wtS b x) := fun k h => by
  unfold wtS at h
  split at h
  · exact hx k h
  · cases h; decide
theorem nz_tk {n : Nat} {s : List Int} {f : List Int → List Int → Ex} (hf : ∀ a b, Nz (f a b)) : Nz (tkS n s f) := fun k h => by
  unfold tkS at h
  split at h
  · cases h; decide
  · exact hf _ _ k h
theorem nz_tj {l s : List Int} {f : List Int → Ex} (hf : ∀ a, Nz (f a)) : Nz (tjS l s f) := nz_tk fun a _ => nz_wt (hf a)
theorem nz_ite {p : Prop} [Decidable p] {a b : Ex} (ha : Nz a) (hb : Nz b) : Nz (if p then a else b) := by
  by_cases h : p
  · rw [if_pos h]; exact ha
  · rw [if_neg h]; exact hb
theorem nz_eff (c : Cd) (e : En) (x : In) (s : List Int) : Nz (effS c e x s) := by
  unfold effS
  repeat' with_reducible refine nz_ite ?_ ?_
  all_goals first
    | exact nz_gv _ _
    | exact nz_ok _
    | exact nz_tj fun a => nz_ok a
    | exact nz_tj fun a => nz_gv _ a
    | exact nz_tk fun a _ => nz_ok a
    | exact nz_wt (nz_ok _)
    | exact nz_tk fun a _ => nz_gv _ a
    | exact nz_tk fun a _ => nz_wt (nz_gv _ a)
    | exact nz_tk fun a _ => nz_wt (nz_ok a)
    | (refine nz_tj fun a => ?_; with_reducible refine nz_ite ?_ ?_; exact nz_ok _; exact nz_gv _ _)
theorem nz_fl (x : In) (i : Nat) : ∀ f ∈ flS x i, f.2 ≠ 0 := fun f hf => by
  unfold flS at hf
  repeat' split at hf
  all_goals simp only [List.mem_cons, List.not_mem_nil, or_false] at hf
  · subst hf; show (140 : Int) ≠ 0; decide
  · rcases hf with rfl | rfl
    · show (144 : Int) ≠ 0; decide
    · show (140 : Int) ≠ 0; decide
  · subst hf; show (144 : Int) ≠ 0; decide
theorem nz_fw {lo hi : Int} {s : List Int} {st : Vst} {f : Int × Int} (hf : f.2 ≠ 0) {k : Int} (h : fwS lo hi s st f = .error k) : k ≠ 0 := by
  unfold fwS at h
  repeat' split at h
  all_goals first
    | (cases h; decide)
    | (cases h; exact hf)
    | cases h
theorem nz_fws {lo hi : Int} {s : List Int} : ∀ (l : List (Int × Int)) {st : Vst} {k : Int}, (∀ f ∈ l, f.2 ≠ 0) → fwsS lo hi s l st = .error k → k ≠ 0
  | [], st, k, _, h => by cases h
  | f :: r, st, k, hl, h => by
    rw [fwsS] at h
    cases hw : fwS lo hi s st f with
    | error k' =>
      rw [hw] at h
      cases h
      exact nz_fw (hl f (by simp)) hw
    | ok st' =>
      rw [hw] at h
      exact nz_fws r (fun g hg => hl g (by simp [hg])) h
theorem nz_lk {c : Cd} {e : En} {hi : Int} {i : Nat} {st : Vst} {k : Int} (h : lkS c e hi i st = .error k) : k ≠ 0 := by
  unfold lkS at h
  split at h
  · split at h
    · rename_i k' hk
      cases h
      exact nz_eff _ _ _ _ _ hk
    · exact nz_fws _ (nz_fl _ _) h
  · cases h; decide
theorem nz_piece {c : Cd} {e : En} {hi : Int} : ∀ (n : Nat) {st : Vst} {k : Int × Int}, pieceS c e hi n st = .error k → k.1 ≠ 0
  | 0, st, k, h => by cases h
  | n + 1, st, k, h => by
    rw [pieceS] at h
    split at h
    · cases h
    · split at h
      · rename_i k' hk
        cases h
        exact nz_lk hk
      · exact nz_piece n h
theorem nz_fns {c : Cd} : ∀ (n f : Nat) {K : Kn} {k : Int × Int}, fnsS c f n K = .error k → k.1 ≠ 0
  | 0, f, K, k, h => by cases h
  | n + 1, f, K, k, h => by
    rw [fnsS] at h
    split at h
    · rename_i k' hk
      cases h
      exact nz_piece _ hk
    · exact nz_fns n (f + 1) h
theorem sur_nz {c : Cd} {k : Int × Int} (h : surS c = .error k) : k.1 ≠ 0 := by
  unfold surS at h
  split at h
  · rename_i hv
    cases h
    exact hv
  · split at h
    · cases h; show (142 : Int) ≠ 0; decide
    · exact nz_fns _ _ h
end Go.Proofs.YtdcaonfnhdjibaaDoor
