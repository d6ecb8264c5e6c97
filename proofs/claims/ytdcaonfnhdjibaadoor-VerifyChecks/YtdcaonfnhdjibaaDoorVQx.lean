import Derived.Lib.QuietBelow
import Derived.Test.YtdcaonfnhdjibaaDoorVL3
namespace Go.Proofs.YtdcaonfnhdjibaaDoor
open Go.RowKit

/-- In every world of the class the operation ends in what 'Q' takes, whatever else lies in the frame's slots, and nothing comes behind it. -/
def PanicsIn (P : Program) (ops : Array Oper) (C : World → Prop) (Q : Exit → Act → World → Prop) (o : Oper) (a : Act) : Prop :=
  Region.wanted o (yielded ops a.tmps) = true ∧ ∀ w, C w → ∀ (K : Act → World → Prop) (a' : Act), a'.defers = a.defers → execOp a'.eval o = execOp a.eval o → o.wp P a' w K Q

theorem PanicsIn.of_put {P : Program} {ops : Array Oper} {C : World → Prop} {Q : Exit → Act → World → Prop} {oi o : Oper} {v : Value} {a : Act} (hs : ∀ cs b, o.op ≠ .select cs b) (h1 : ∀ d, oi.dst = some d → d ∉ o.looksAt ops) (h : PanicsIn P ops C Q o (a.put oi.dst v)) : PanicsIn P ops C Q o a := by
  refine ⟨by rw [← wanted_put o a oi.dst v h1]; exact h.1, fun w hw K a' hd he => h.2 w hw K a' ?_ ?_⟩
  · rw [hd]; cases oi.dst <;> rfl
  · rw [he, execOp_put o hs a oi.dst v h1]

def xOp (P : Program) (ops : Array Oper) (C : World → Prop) (Q : Exit → Act → World → Prop) (i : Nat) (K : Act → Prop) (a : Act) : Prop :=
  (∃ o, ops[i]? = some o ∧ PanicsIn P ops C Q o a) ∨ qOp P ops C i K a

def wpAnyX (P : Program) (md : Region.Mode) (ops : Array Oper) (C : World → Prop) (Q : Exit → Act → World → Prop) : Nat → Array Bool → Act → Prop
  | 0, _, _ => False
  | fuel + 1, listed, a => Region.ready md ops listed ≠ [] ∧ ∀ i ∈ Region.ready md ops listed, xOp P ops C Q i (wpAnyX P md ops C Q fuel (listed.setIfInBounds i true)) a

theorem wpAny_of_X {P : Program} {md : Region.Mode} {ops : Array Oper} {C : World → Prop} {Q : Exit → Act → World → Prop} : ∀ (fuel : Nat) (listed : Array Bool) (a : Act) (w : World), C w → wpAnyX P md ops C Q fuel listed a → wpAny P md ops Q fuel listed a w
  | 0, _, _, _, _, h => h.elim
  | fuel + 1, _, _, _, hw, h => ⟨fun h0 => (h.1 h0).elim, fun i hi => by
      rcases h.2 i hi with ⟨o, ho, h1, h2⟩ | h3
      · unfold wpOp
        simp only [ho, h1, if_true]
        exact .inl (h2 _ hw _ _ rfl rfl)
      · exact wpOp_of_qOp hw (fun a' w' hw' => wpAny_of_X fuel _ a' w' hw') h3⟩

theorem wpAnyX_first {P : Program} {md : Region.Mode} {ops : Array Oper} {C : World → Prop} {Q : Exit → Act → World → Prop} {i : Nat} {oi : Oper} {v : Value} (hi : ops[i]? = some oi) (hsel : ∀ (j : Nat) (o : Oper) cs b, ops[j]? = some o → o.op ≠ .select cs b) :
    ∀ (fuel : Nat) (listed : Array Bool) (a : Act),
      (∀ j oj, ops[j]? = some oj → j ≠ i → listed.getD j true = false → (∀ e ∈ oj.after, Region.binds md e = true → e.on ≠ i) → oi.apart ops oj = true) →
      i ∈ Region.ready md ops listed → YieldsIn P ops C oi v a →
      wpAnyX P md ops C Q fuel (listed.setIfInBounds i true) (a.put oi.dst v) → wpAnyX P md ops C Q (fuel + 1) listed a := by
  intro fuel
  induction fuel with
  | zero => intro _ _ _ _ _ H; exact H.elim
  | succ fuel ih =>
    intro listed a hfree hr hy H
    refine ⟨fun h => (by rw [h] at hr; cases hr), fun j hj => ?_⟩
    by_cases hji : j = i
    · subst hji; exact .inr (hy.qOp hi H)
    · have h1 := H.2 j (ready_mono hj hji)
      obtain ⟨hjun, oj, hoj, hall⟩ := mem_ready.1 hj
      have hnot : ∀ e ∈ oj.after, Region.binds md e = true → e.on ≠ i := fun e he hb heq => by
        have h1 := hall e he hb
        have h0 := (mem_ready.1 hr).1
        rw [heq] at h1
        rcases Nat.lt_or_ge i listed.size with h' | h'
        · simp [h'] at h0 h1; rw [h0] at h1; cases h1
        · simp [Array.getElem?_eq_none h'] at h1
      have hap := hfree j oj hoj hji hjun hnot
      rcases h1 with ⟨o, ho, hp⟩ | h1
      · rw [hoj] at ho
        cases ho
        exact .inl ⟨oj, hoj, hp.of_put (fun cs b => hsel j oj cs b hoj) (Oper.apart_spec hap).1⟩
      · have h2 := qOp_put hoj hap (fun cs b => hsel i oi cs b hi) (fun cs b => hsel j oj cs b hoj) hy h1
        have hfree' : ∀ k ok, ops[k]? = some ok → k ≠ i → (listed.setIfInBounds j true).getD k true = false →
            (∀ e ∈ ok.after, Region.binds md e = true → e.on ≠ i) → oi.apart ops ok = true := fun k ok hk hki hun hno => by
          refine hfree k ok hk hki ?_ hno
          by_cases hjk : j = k
          · subst hjk; exact hjun
          · rw [getD_set_ne true hjk] at hun; exact hun
        refine .inr (qOp_mono (fun a' h3 => ih (listed.setIfInBounds j true) a' hfree' (ready_mono hr (Ne.symm hji)) h3.1 ?_) h2)
        rw [Array.setIfInBounds_comm _ _ hji]
        exact h3.2

theorem wpAnyX_lex {P : Program} {md : Region.Mode} {ops : Array Oper} {C : World → Prop} {Q : Exit → Act → World → Prop} {z : Oper} (hs : Region.noSelect ops = true) : ∀ (l : List Oper) (k : Nat) (listed : Array Bool) (a : Act), (∀ j, (l ++ [z])[j]? = ops[k + j]?) →
    Region.lexFrom md ops (l.length + 1) k listed = true → wpQuiet P ops C (fun a' => PanicsIn P ops C Q z a') l a → wpAnyX P md ops C Q (l.length + 1) listed a
  | [], k, listed, a, hl, hB, h => by
    have h0 : ops[k]? = some z := by simpa using (hl 0).symm
    simp only [Region.lexFrom, Bool.and_eq_true] at hB
    obtain ⟨⟨hr, _⟩, hB'⟩ := hB
    have hr' : k ∈ Region.ready md ops listed := by simpa using hr
    have he : Region.ready md ops (listed.setIfInBounds k true) = [] := by simpa [Region.lexFrom] using hB'
    refine ⟨fun h => (by rw [h] at hr'; cases hr'), fun j hj => ?_⟩
    by_cases hjk : j = k
    · subst hjk; exact .inl ⟨z, h0, h⟩
    · have := ready_mono hj hjk
      rw [he] at this
      cases this
  | o :: l, k, listed, a, hl, hB, h => by
    have h0 : ops[k]? = some o := by simpa using (hl 0).symm
    simp only [List.length_cons, Region.lexFrom, Bool.and_eq_true] at hB
    obtain ⟨⟨hr, hf⟩, hB'⟩ := hB
    have hst : qOp P ops C k (wpQuiet P ops C (fun a' => PanicsIn P ops C Q z a') l) a := by unfold qOp; simp only [h0]; exact h
    obtain ⟨v, hy, hK⟩ := yieldsIn_of_qOp h0 hst
    exact wpAnyX_first h0 (Region.noSelect_spec hs) (l.length + 1) listed a (Region.free_spec h0 hf) (by simpa using hr) hy
      (wpAnyX_lex hs l (k + 1) _ _ (fun j => by have := hl (j + 1); simpa [Nat.add_assoc, Nat.add_comm 1 j] using this) (by simpa [Region.lexFrom, Bool.and_eq_true] using hB') hK)

theorem wp_region_quiet_panic {P : Program} {id : Nat} {Q : Exit → Act → World → Prop} {a : Act} {w : World} {l l' : List Oper} {z : Oper} (he : l = l' ++ [z]) (hm : P.follows .mixedOrders = true) (hB : Region.lexB .any l.toArray = true)
    (h : wpQuiet P l.toArray (fun w' => ∃ p : Regrown, w' = Sort.grow (redrawn w p.d) p.os) (fun a' => PanicsIn P l.toArray (fun w' => ∃ p : Regrown, w' = Sort.grow (redrawn w p.d) p.os) Q z a') l' a) : (Code.region id l.toArray true).wp P Q a w := by
  simp only [Region.lexB, Bool.and_eq_true] at hB
  subst he
  refine wp_region_any hm (wpAny_of_X (C := fun w' => ∃ p : Regrown, w' = Sort.grow (redrawn w p.d) p.os) _ _ _ _ ⟨⟨w.drawn + 1, #[]⟩, by rw [Sort.grow_empty]; rfl⟩ ?_)
  have := wpAnyX_lex (md := .any) hB.1 l' 0 (Array.replicate (l' ++ [z]).toArray.size false) a (by simp) (by simpa using hB.2) h
  simpa using this
end Go.Proofs.YtdcaonfnhdjibaaDoor
