import Derived.Test.YtchinflkjcebjaaGreatDoorCGa
namespace Go.Proofs.YtchinflkjcebjaaGreatDoor
open Go.RowKit

/-! A text as lines of words. -/
abbrev Ln := Bool × List Bs
def txt (x : Ln) : Bs := (if x.1 = true then [32, 32] else []) ++ lnS x.2
structure LnOk (x : Ln) : Prop where
  ne : x.2 ≠ []
  le : x.2.length ≤ 255
  pw : ∀ w ∈ x.2, Pw w
def runL : List Ln → St → Option St
  | [], s => some s
  | x :: L, s => match takeS s x.2 with | none => none | some s' => runL L s'
theorem txt_app (x : Ln) (r : Bs) : txt x ++ r = ((if x.1 = true then [32, 32] else []) ++ joinW x.2) ++ 10 :: r := by
  unfold txt lnS
  simp only [List.append_assoc, List.singleton_append]
theorem run_of : ∀ (L : List Ln) (f n : Nat) (s e : St), (∀ x ∈ L, LnOk x) → (L.flatMap txt).length < f → asmF f n s (L.flatMap txt) = .inl e → runL L s = some e
  | [], f, n, s, e, _, hf, h => by
    obtain ⟨g, rfl⟩ : ∃ g, f = g + 1 := ⟨f - 1, by simp at hf; omega⟩
    rw [List.flatMap_nil, asmF, if_pos rfl] at h
    rw [runL]
    injection h with h
    rw [h]
  | x :: L, f, n, s, e, hL, hf, h => by
    obtain ⟨g, rfl⟩ : ∃ g, f = g + 1 := ⟨f - 1, by omega⟩
    have hx := hL x (by simp)
    have hw : ∀ w ∈ x.2, Wd w := fun w hw => (hx.pw w hw).wd
    rw [List.flatMap_cons, txt_app] at hf h
    simp only [List.length_append, List.length_cons] at hf
    have hnl : ∀ c ∈ (if x.1 = true then [32, 32] else []) ++ joinW x.2, c ≠ 10 := nl_app (by split <;> simp) (join_nl hw)
    have hst : stepS s ((if x.1 = true then [32, 32] else []) ++ joinW x.2) = takeS s x.2 := by
      split
      · exact step_words2 hw hx.le hx.ne
      · rw [List.nil_append]; exact step_words hw hx.le hx.ne
    rw [asmF, if_neg (by simp), (line_of hnl).1, (line_of hnl).2, hst] at h
    rw [runL]
    cases ht : takeS s x.2 with
    | none => rw [ht] at h; cases h
    | some s' =>
      rw [ht] at h
      exact run_of L g (n + 1) s' e (fun y hy => hL y (List.mem_cons_of_mem _ hy)) (by omega) h
theorem goes_run (g : Nat → Bs) : ∀ (L : List Ln) (n : Nat) (s e : St), (∀ x ∈ L, LnOk x) → runL L s = some e → Goes s (spS g false n (L.flatMap txt)) e [] ∧ spK false (L.flatMap txt) = true
  | [], n, s, e, _, h => by
    rw [runL] at h
    injection h with h
    rw [← h]
    exact ⟨fun f n hf => ⟨f, n, hf, rfl⟩, rfl⟩
  | x :: L, n, s, e, hL, h => by
    have hx := hL x (by simp)
    rw [runL] at h
    cases ht : takeS s x.2 with
    | none => rw [ht] at h; cases h
    | some s' =>
      rw [ht] at h
      have hr : runL L s' = some e := h
      rw [List.flatMap_cons, txt_app, List.append_assoc]
      by_cases hi : x.1 = true
      · rw [if_pos hi]
        obtain ⟨⟨a, u, n', e1, hg⟩, ek⟩ := sp_line g x.2 hx.ne hx.pw (n + 1 + 1) (L.flatMap txt)
        obtain ⟨ih, ik⟩ := goes_run g L n' s' e (fun y hy => hL y (List.mem_cons_of_mem _ hy)) hr
        obtain ⟨a1, a2⟩ := sp_blank g n (32 :: (joinW x.2 ++ 10 :: L.flatMap txt))
        obtain ⟨b1, b2⟩ := sp_blank g (n + 1) (joinW x.2 ++ 10 :: L.flatMap txt)
        show Goes s (spS g false n (32 :: 32 :: (joinW x.2 ++ 10 :: L.flatMap txt))) e [] ∧ spK false (32 :: 32 :: (joinW x.2 ++ 10 :: L.flatMap txt)) = true
        rw [a1, a2, b1, b2, e1, ek]
        have hg2 : Gl x.2 (blS (g n) ++ (blS (g (n + 1)) ++ a)) := hg.ind.ind
        have := goes_words (r := spS g false n' (L.flatMap txt)) u hg2 hx.le hx.ne ht
        simp only [List.append_assoc] at this
        exact ⟨this.trans ih, ik⟩
      · rw [if_neg hi, List.nil_append]
        obtain ⟨⟨a, u, n', e1, hg⟩, ek⟩ := sp_line g x.2 hx.ne hx.pw n (L.flatMap txt)
        obtain ⟨ih, ik⟩ := goes_run g L n' s' e (fun y hy => hL y (List.mem_cons_of_mem _ hy)) hr
        rw [e1, ek]
        exact ⟨(goes_words u hg hx.le hx.ne ht).trans ih, ik⟩
def bodyL (E : List En) : Nat → Nat → List In → List Ln
  | _, _, [] => []
  | k, n, x :: r => (if atE E k n then [(false, entW (enAt E k))] else []) ++ ((true, insW x) :: bodyL E (if atE E k n then k + 1 else k) (n + 1) r)
def linesC (c : Cd) : List Ln := (false, [[109, 97, 105, 110], Lib.itoa c.main]) :: (c.txs.map (fun t => ((false, [[112, 111, 111, 108], qtS t.data.toList]) : Ln)) ++ bodyL c.ens 0 0 c.ins)
theorem body_txt (E : List En) : ∀ (l : List In) (k n : Nat), (bodyL E k n l).flatMap txt = bodyS E k n l
  | [], _, _ => rfl
  | x :: r, k, n => by
    rw [bodyL, bodyS, List.flatMap_append, List.flatMap_cons, body_txt E r]
    congr 1
    · split
      · rw [List.flatMap_cons, List.flatMap_nil, List.append_nil]
        unfold txt
        rfl
      · rfl
    try (unfold txt; rw [if_pos rfl, List.append_assoc])
theorem lines_txt (c : Cd) : (linesC c).flatMap txt = printS c := by
  unfold linesC printS
  rw [List.flatMap_cons, List.flatMap_append, body_txt]
  congr 1
  congr 1
  rw [List.flatMap_map]
  rfl
theorem oW_pw {o : Nat} {n : Int} (ho : o < 13) (h : mayS o n = true) : ∀ w ∈ oW o n, Pw w := by
  unfold oW
  split
  · intro w hw; cases hw
  · intro w hw; rw [List.mem_singleton.1 hw]; exact .inl (readO_ok ho h).2
theorem ins_lok {x : In} (h : insS x = true) : LnOk (true, insW x) := by
  have k := ins_ok h
  have hx := wd_all ⟨x.1.toNat, by have := k.o0; have := k.o1; omega⟩
  simp only at hx
  obtain ⟨-, w2, w3, -, -⟩ := insW_wd h
  refine ⟨w3, w2, fun w hw => ?_⟩
  simp only [insW_eq] at hw
  rcases List.mem_cons.1 hw with rfl | hw
  · exact .inl hx.2.1
  · rcases List.mem_append.1 hw with hw | hw
    · exact oW_pw (opA_lt _) k.ma w hw
    · exact oW_pw (opB_lt _) k.mb w hw
theorem ent_lok {e : En} (h : EntOk e) : LnOk (false, entW e) := by
  obtain ⟨-, w2, w3, -⟩ := entW_wd h
  refine ⟨w3, w2, fun w hw => ?_⟩
  unfold entW at hw
  rcases List.mem_append.1 hw with hw | hw
  · simp only [List.mem_cons, List.not_mem_nil, or_false] at hw
    rcases hw with rfl | rfl | rfl | rfl
    · exact .inl (by decide)
    · exact .inl (name_plain h.nm)
    · exact .inl (itoa_plain _)
    · exact .inl (rs_ok h.rs).1
  · obtain ⟨n, hn, rfl⟩ := List.mem_map.1 hw
    exact .inl (ty_ok (h.ss n hn)).2.1
theorem body_lok {E : List En} (hE : ∀ e ∈ E, EntOk e) : ∀ (l : List In) (k n : Nat), (∀ x ∈ l, insS x = true) → ∀ y ∈ bodyL E k n l, LnOk y
  | [], _, _, _ => fun y hy => by cases hy
  | x :: r, k, n, h => fun y hy => by
    rw [bodyL] at hy
    rcases List.mem_append.1 hy with hy | hy
    · split at hy
      · rename_i ha
        rw [List.mem_singleton.1 hy]
        unfold atE at ha
        simp only [Bool.and_eq_true, decide_eq_true_eq] at ha
        exact ent_lok (hE _ (ent_mem ha.1))
      · cases hy
    · rcases List.mem_cons.1 hy with rfl | hy
      · exact ins_lok (h x (by simp))
      · exact body_lok hE r _ _ (fun z hz => h z (List.mem_cons_of_mem _ hz)) y hy
theorem lines_lok {c : Cd} (hv : CodeOk c) : ∀ y ∈ linesC c, LnOk y := fun y hy => by
  unfold linesC at hy
  rcases List.mem_cons.1 hy with rfl | hy
  · refine ⟨by simp, by simp, fun w hw => ?_⟩
    simp only [List.mem_cons, List.not_mem_nil, or_false] at hw
    rcases hw with rfl | rfl
    · exact .inl (by decide)
    · exact .inl (itoa_plain _)
  · rcases List.mem_append.1 hy with hy | hy
    · obtain ⟨t, -, rfl⟩ := List.mem_map.1 hy
      refine ⟨by simp, by simp, fun w hw => ?_⟩
      simp only [List.mem_cons, List.not_mem_nil, or_false] at hw
      rcases hw with rfl | rfl
      · exact .inl (by decide)
      · exact .inr ⟨_, rfl⟩
    · exact body_lok (fun e he => ent_ok.1 (hv.es e he)) c.ins 0 0 hv.is y hy
/-- A code's text, laid otherwise, is that code. -/
theorem asm_laid {c : Cd} (h : validS c = 0) (g : Nat → Bs) : asmS (spS g false 0 (printS c)) = .inl c ∧ spK false (printS c) = true := by
  have hv := code_ok.1 h
  have hp := asm_print h
  unfold asmS at hp
  cases hF : asmF ((printS c).length + 1) 1 st0 (printS c) with
  | inr n => rw [hF] at hp; cases hp
  | inl s =>
    rw [hF] at hp
    simp only at hp
    have hl : lackS s = false := by
      cases hq : lackS s with
      | false => rfl
      | true => rw [hq] at hp; cases hp
    rw [hl, if_neg (by simp)] at hp
    have hr := run_of (linesC c) ((printS c).length + 1) 1 st0 s (lines_lok hv) (by rw [lines_txt]; omega) (by rw [lines_txt]; exact hF)
    obtain ⟨hg, hk⟩ := goes_run g (linesC c) 0 st0 s (lines_lok hv) hr
    rw [lines_txt] at hg hk
    refine ⟨?_, hk⟩
    obtain ⟨f', n', h1, h2⟩ := hg ((spS g false 0 (printS c)).length + 1) 1 (by omega)
    unfold asmS
    rw [h2]
    obtain ⟨g', rfl⟩ : ∃ g', f' = g' + 1 := ⟨f' - 1, by simp at h1; omega⟩
    rw [asmF, if_pos rfl]
    simp only
    rw [hl, if_neg (by simp)]
    exact hp
theorem bl_le (u : Bs) : (blS u).length ≤ 17 := by
  unfold blS
  rw [List.length_cons, List.length_map, List.length_take]
  omega
theorem pcB_le (c : UInt8) : (pcB c).length ≤ 5 := by
  unfold pcB
  split
  · simp
  · split
    · simp
    · split <;> simp
theorem pcs_le : ∀ u : Bs, (u.flatMap pcB).length ≤ 5 * u.length
  | [] => by simp
  | c :: u => by
    have := pcs_le u
    have := pcB_le c
    rw [List.flatMap_cons, List.length_append, List.length_cons]
    omega
theorem bh_le (u : Bs) : (bhS u).length ≤ 80 := by
  unfold bhS
  have := pcs_le (u.take 16)
  rw [List.length_take] at this
  omega
theorem sp_len (g : Nat → Bs) : ∀ (m : Nat) (q : Bool) (n : Nat) (l : Bs), l.length ≤ m → (spS g q n l).length ≤ 81 * l.length
  | m, q, n, [], _ => by simp [spS]
  | 0, q, n, c :: r, h => by simp at h
  | m + 1, q, n, c :: r, h => by
    rw [List.length_cons] at h ⊢
    rw [spS.eq_def]
    simp only
    split
    · cases r with
      | nil => simp
      | cons d r' =>
        simp only [List.length_cons] at h ⊢
        have := sp_len g m q n r' (by omega)
        omega
    · split
      · have := sp_len g m (!q) n r (by omega)
        rw [List.length_cons]
        omega
      · split
        · have := sp_len g m q (n + 1) r (by omega)
          have := bl_le (g n)
          rw [List.length_append]
          omega
        · split
          · have := sp_len g m q (n + 1) r (by omega)
            have := bh_le (g n)
            rw [List.length_append, List.length_cons]
            omega
          · have := sp_len g m q n r (by omega)
            rw [List.length_cons]
            omega
end Go.Proofs.YtchinflkjcebjaaGreatDoor
