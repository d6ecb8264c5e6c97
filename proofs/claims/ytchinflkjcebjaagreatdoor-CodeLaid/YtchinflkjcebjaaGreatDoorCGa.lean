import Derived.Test.YtchinflkjcebjaaGreatDoorCX1
namespace Go.Proofs.YtchinflkjcebjaaGreatDoor
open Go.RowKit

/-! A text laid otherwise. -/
def blS (s : Bs) : Bs := 32 :: (s.take 16).map (fun c => if c.toNat % 2 = 0 then 9 else 32)
def pcB (c : UInt8) : Bs := if c.toNat % 4 = 0 then [32] else if c.toNat % 4 = 1 then [32, 35, 32, 34, 120] else if c.toNat % 4 = 2 then [10] else []
def bhS (s : Bs) : Bs := (s.take 16).flatMap pcB
def spS (g : Nat → Bs) : Bool → Nat → Bs → Bs
  | _, _, [] => []
  | q, n, c :: r => if q = true ∧ c = 92 then (match r with | [] => [92] | d :: r' => 92 :: d :: spS g q n r') else if c = 34 then 34 :: spS g (!q) n r else if c = 32 ∧ q = false then blS (g n) ++ spS g q (n + 1) r else if c = 10 then bhS (g n) ++ (10 :: spS g q (n + 1) r) else c :: spS g q n r
/-- No backslash in quotes is the last byte. -/
def spK : Bool → Bs → Bool
  | _, [] => true
  | q, c :: r => if q = true ∧ c = 92 then (match r with | [] => false | _ :: r' => spK q r') else if c = 34 then spK (!q) r else spK q r

/-! The words of a line. -/
def Wdz (k : Nat) (l : Bs) (ws : List Bs) : Prop := ∀ f, l.length < f → wdsF f k l = ws
theorem wdsF_hi {k : Nat} (h : 254 < k) : ∀ (f : Nat) (l : Bs), wdsF f k l = []
  | 0, _ => rfl
  | _ + 1, [] => rfl
  | f + 1, c :: r => by rw [wdsF, if_pos h]
theorem Wdz.nil (k : Nat) : Wdz k [] [] := fun f hf => by
  obtain ⟨g, rfl⟩ : ∃ g, f = g + 1 := ⟨f - 1, by simp at hf; omega⟩
  rfl
theorem Wdz.blank {k : Nat} {b : UInt8} {q : Bs} {ws : List Bs} (hb : b = 32 ∨ b = 9) (h : Wdz k q ws) : Wdz k (b :: q) ws := fun f hf => by
  obtain ⟨g, rfl⟩ : ∃ g, f = g + 1 := ⟨f - 1, by omega⟩
  rw [List.length_cons] at hf
  have e := h g (by omega)
  rw [wdsF]
  by_cases hk : 254 < k
  · rw [if_pos hk, ← e, wdsF_hi hk]
  · rw [if_neg hk, if_pos hb, e]
theorem Wdz.hash (k : Nat) (q : Bs) : Wdz k (35 :: q) [] := fun f hf => by
  obtain ⟨g, rfl⟩ : ∃ g, f = g + 1 := ⟨f - 1, by omega⟩
  rw [wdsF]
  by_cases hk : 254 < k
  · rw [if_pos hk]
  · rw [if_neg hk, if_neg (by decide), if_pos rfl]
theorem Wdz.word {k : Nat} {w q : Bs} {ws : List Bs} (hw : Wd w) (hq : q = [] ∨ ∃ r, q = 32 :: r) (hk : k ≤ 254) (h : Wdz (k + 1) q ws) : Wdz k (w ++ q) (w :: ws) := fun f hf => by
  obtain ⟨g, rfl⟩ : ∃ g, f = g + 1 := ⟨f - 1, by omega⟩
  rw [List.length_append] at hf
  have hl := hw.ln q hq
  obtain ⟨c, r, e, h1, h2, h3⟩ := hw.hd
  have hlen : 0 < w.length := by rw [e]; simp
  have et : (w ++ q).take w.length = w := List.take_left
  have ed : (w ++ q).drop w.length = q := List.drop_left
  have ec : w ++ q = c :: (r ++ q) := by rw [e]; rfl
  rw [ec] at hl et ed ⊢
  rw [wdsF, if_neg (by omega), if_neg (by rintro (x | x); exact h1 x; exact h2 x), if_neg h3, hl, et, ed, h g (by omega)]
/-- What may stand behind a line's last word, within the line. -/
structure Bk (b : Bs) : Prop where
  hd : b = [] ∨ ∃ q, b = 32 :: q
  ws : ∀ k, Wdz k b []
  nl : ∀ c ∈ b, c ≠ 10
theorem Bk.nil : Bk [] := ⟨.inl rfl, fun k => Wdz.nil k, by simp⟩
theorem Bk.blank {b : Bs} (h : Bk b) : Bk (32 :: b) := ⟨.inr ⟨_, rfl⟩, fun k => (h.ws k).blank (.inl rfl), by
  intro c hc
  rcases List.mem_cons.1 hc with rfl | hc
  · decide
  · exact h.nl c hc⟩
theorem Bk.rem {b : Bs} (h : ∀ c ∈ b, c ≠ 10) : Bk (32 :: 35 :: b) := ⟨.inr ⟨_, rfl⟩, fun k => (Wdz.hash k _).blank (.inl rfl), by
  intro c hc
  rcases List.mem_cons.1 hc with rfl | hc
  · decide
  · rcases List.mem_cons.1 hc with rfl | hc
    · decide
    · exact h c hc⟩
/-- A line's words, laid so. -/
structure Gl (ws : List Bs) (a : Bs) : Prop where
  nl : ∀ c ∈ a, c ≠ 10
  ws : ∀ b, Bk b → ∀ k, k + ws.length ≤ 255 → Wdz k (a ++ b) ws
theorem bl_wds {k : Nat} {a : Bs} {ws : List Bs} (u : Bs) (h : Wdz k a ws) : Wdz k (blS u ++ a) ws := by
  unfold blS
  rw [List.cons_append]
  refine Wdz.blank (.inl rfl) ?_
  generalize u.take 16 = v
  induction v with
  | nil => exact h
  | cons c v ih =>
    rw [List.map_cons, List.cons_append]
    refine Wdz.blank ?_ ih
    split
    · exact .inr rfl
    · exact .inl rfl
theorem bl_nl (u : Bs) : ∀ c ∈ blS u, c ≠ 10 := by
  intro c hc
  unfold blS at hc
  rcases List.mem_cons.1 hc with rfl | hc
  · decide
  · obtain ⟨d, -, rfl⟩ := List.mem_map.1 hc
    split <;> decide
theorem nl_app {a b : Bs} (ha : ∀ c ∈ a, c ≠ 10) (hb : ∀ c ∈ b, c ≠ 10) : ∀ c ∈ a ++ b, c ≠ 10 := fun c hc => by
  rcases List.mem_append.1 hc with hc | hc
  · exact ha c hc
  · exact hb c hc
theorem Gl.one {w : Bs} (h : Wd w) : Gl [w] w := ⟨h.nl, fun b hb k hk => by
  simp only [List.length_singleton] at hk
  exact Wdz.word h hb.hd (by omega) (hb.ws _)⟩
theorem Gl.cons {w a u : Bs} {ws : List Bs} (h : Wd w) (ha : Gl ws a) : Gl (w :: ws) (w ++ (blS u ++ a)) := ⟨nl_app h.nl (nl_app (bl_nl u) ha.nl), fun b hb k hk => by
  simp only [List.length_cons] at hk
  rw [List.append_assoc, List.append_assoc]
  refine Wdz.word h (.inr ⟨_, rfl⟩) (by omega) ?_
  exact bl_wds u (ha.ws b hb (k + 1) (by omega))⟩
theorem Gl.ind {a u : Bs} {ws : List Bs} (ha : Gl ws a) : Gl ws (blS u ++ a) := ⟨nl_app (bl_nl u) ha.nl, fun b hb k hk => by
  rw [List.append_assoc]
  exact bl_wds u (ha.ws b hb k hk)⟩
theorem Gl.words {ws : List Bs} {a b : Bs} (h : Gl ws a) (hb : Bk b) (hk : ws.length ≤ 255) : wdsS (a ++ b) = ws := h.ws b hb 0 (by omega) _ (by omega)

/-! What is laid behind a line. -/
theorem beh_cut (r : Bs) : ∀ u : Bs, ∃ b r', u.flatMap pcB ++ 10 :: r = b ++ 10 :: r' ∧ Bk b ∧ (r' = r ∨ ∃ u' : Bs, u'.length < u.length ∧ r' = u'.flatMap pcB ++ 10 :: r)
  | [] => ⟨[], r, rfl, Bk.nil, .inl rfl⟩
  | c :: u => by
    obtain ⟨b, r', e, hb, hr⟩ := beh_cut r u
    have hr' : r' = r ∨ ∃ u' : Bs, u'.length < (c :: u).length ∧ r' = u'.flatMap pcB ++ 10 :: r := by
      rcases hr with hr | ⟨u', h1, h2⟩
      · exact .inl hr
      · exact .inr ⟨u', by rw [List.length_cons]; omega, h2⟩
    rw [List.flatMap_cons, List.append_assoc, e]
    unfold pcB
    split
    · exact ⟨32 :: b, r', rfl, hb.blank, hr'⟩
    · split
      · refine ⟨32 :: 35 :: 32 :: 34 :: 120 :: b, r', rfl, Bk.rem ?_, hr'⟩
        intro d hd
        simp only [List.mem_cons] at hd
        rcases hd with rfl | rfl | rfl | hd
        · decide
        · decide
        · decide
        · exact hb.nl d hd
      · split
        · refine ⟨[], b ++ 10 :: r', rfl, Bk.nil, .inr ⟨u, by rw [List.length_cons]; omega, e.symm⟩⟩
        · exact ⟨b, r', rfl, hb, hr'⟩
/-- The assembler goes from one state and text to another. -/
def Goes (s : St) (l : Bs) (s' : St) (r : Bs) : Prop := ∀ f n, l.length < f → ∃ f' n', r.length < f' ∧ asmF f n s l = asmF f' n' s' r
theorem Goes.trans {s s' s'' : St} {l r t : Bs} (h : Goes s l s' r) (k : Goes s' r s'' t) : Goes s l s'' t := fun f n hf => by
  obtain ⟨f', n', h1, h2⟩ := h f n hf
  obtain ⟨f'', n'', k1, k2⟩ := k f' n' h1
  exact ⟨f'', n'', k1, h2.trans k2⟩
theorem goes_line {s s' : St} {a r : Bs} (h : ∀ c ∈ a, c ≠ 10) (e : stepS s a = some s') : Goes s (a ++ 10 :: r) s' r := fun f n hf => by
  obtain ⟨g, rfl⟩ : ∃ g, f = g + 1 := ⟨f - 1, by omega⟩
  refine ⟨g, n + 1, ?_, asm_line h e⟩
  simp only [List.length_append, List.length_cons] at hf
  omega
theorem goes_empty (s : St) (r : Bs) : ∀ (m : Nat) (u : Bs), u.length ≤ m → Goes s (u.flatMap pcB ++ 10 :: r) s r
  | m, u, hm => by
    obtain ⟨b, r', e, hb, hr⟩ := beh_cut r u
    rw [e]
    have h1 : Goes s (b ++ 10 :: r') s r' := goes_line hb.nl (by
      unfold stepS
      rw [show wdsS b = [] from hb.ws 0 _ (by omega), if_pos rfl])
    rcases hr with rfl | ⟨u', hu, rfl⟩
    · exact h1
    · cases m with
      | zero => omega
      | succ m => exact h1.trans (goes_empty s r m u' (by omega))
theorem goes_words {s s' : St} {a r : Bs} {ws : List Bs} (u : Bs) (h : Gl ws a) (hk : ws.length ≤ 255) (hn : ws ≠ []) (e : takeS s ws = some s') : Goes s (a ++ (bhS u ++ 10 :: r)) s' r := by
  unfold bhS
  generalize u.take 16 = v
  obtain ⟨b, r', e2, hb, hr⟩ := beh_cut r v
  rw [e2, ← List.append_assoc]
  have h1 : Goes s ((a ++ b) ++ 10 :: r') s' r' := goes_line (nl_app h.nl hb.nl) (by
    unfold stepS
    rw [h.words hb hk, if_neg hn, e])
  rcases hr with rfl | ⟨u', hu, rfl⟩
  · exact h1
  · exact h1.trans (goes_empty s' r _ u' (Nat.le_refl _))

/-! Words under the spread. -/
def Pw (w : Bs) : Prop := plainB w = true ∨ ∃ t, w = qtS t
theorem Pw.wd {w : Bs} (h : Pw w) : Wd w := by
  rcases h with h | ⟨t, rfl⟩
  · exact plain_wd h
  · exact quote_wd t
theorem sp_cons {g : Nat → Bs} {n : Nat} {c : UInt8} {r : Bs} {q : Bool} (h1 : ¬ (q = true ∧ c = 92)) (h2 : c ≠ 34) (h3 : ¬ (c = 32 ∧ q = false)) (h4 : c ≠ 10) : spS g q n (c :: r) = c :: spS g q n r ∧ spK q (c :: r) = spK q r := by
  constructor
  · rw [spS.eq_def]
    simp only
    rw [if_neg h1, if_neg h2, if_neg h3, if_neg h4]
  · rw [spK.eq_def]
    simp only
    rw [if_neg h1, if_neg h2]
theorem sp_two (g : Nat → Bs) (n : Nat) (d : UInt8) (r : Bs) : spS g true n (92 :: d :: r) = 92 :: d :: spS g true n r ∧ spK true (92 :: d :: r) = spK true r := by
  constructor
  · rw [spS, if_pos ⟨rfl, rfl⟩]
  · rw [spK, if_pos ⟨rfl, rfl⟩]
theorem sp_quote (g : Nat → Bs) (n : Nat) (q : Bool) (r : Bs) : spS g q n (34 :: r) = 34 :: spS g (!q) n r ∧ spK q (34 :: r) = spK (!q) r := by
  constructor
  · rw [spS.eq_def]
    simp only
    rw [if_neg (by simp), if_pos trivial]
  · rw [spK.eq_def]
    simp only
    rw [if_neg (by simp), if_pos trivial]
theorem sp_blank (g : Nat → Bs) (n : Nat) (r : Bs) : spS g false n (32 :: r) = blS (g n) ++ spS g false (n + 1) r ∧ spK false (32 :: r) = spK false r := by
  constructor
  · rw [spS.eq_def]
    simp only
    rw [if_neg (by simp), if_neg (by decide), if_pos (by simp)]
  · rw [spK.eq_def]
    simp only
    rw [if_neg (by simp), if_neg (by decide)]
theorem sp_feed (g : Nat → Bs) (n : Nat) (r : Bs) : spS g false n (10 :: r) = bhS (g n) ++ (10 :: spS g false (n + 1) r) ∧ spK false (10 :: r) = spK false r := by
  constructor
  · rw [spS.eq_def]
    simp only
    rw [if_neg (by simp), if_neg (by decide), if_neg (by simp), if_pos trivial]
  · rw [spK.eq_def]
    simp only
    rw [if_neg (by simp), if_neg (by decide)]
theorem sp_plain (g : Nat → Bs) (n : Nat) (r : Bs) : ∀ w : Bs, (∀ c ∈ w, isSep c = false ∧ c ≠ 34 ∧ c ≠ 10) → spS g false n (w ++ r) = w ++ spS g false n r ∧ spK false (w ++ r) = spK false r
  | [], _ => ⟨rfl, rfl⟩
  | c :: w, h => by
    obtain ⟨h1, h2, h3⟩ := h c (by simp)
    have hs : c ≠ 32 := by
      rintro rfl
      cases h1
    obtain ⟨e1, e2⟩ := sp_plain g n r w (fun d hd => h d (by simp [hd]))
    obtain ⟨a1, a2⟩ := sp_cons (g := g) (n := n) (c := c) (r := w ++ r) (q := false) (by simp) h2 (fun x => hs x.1) h3
    rw [List.cons_append, a1, a2, e1, e2]
    exact ⟨rfl, rfl⟩
theorem sp_pc (g : Nat → Bs) (n : Nat) (b : UInt8) (l : Bs) : spS g true n (pcS b ++ l) = pcS b ++ spS g true n l ∧ spK true (pcS b ++ l) = spK true l := by
  obtain ⟨hh, hl⟩ := hx16 b
  have e1 := hex_ne ⟨_, hh⟩
  have e2 := hex_ne ⟨_, hl⟩
  simp only at e1 e2
  rcases pcS_cases b with ⟨-, e⟩ | ⟨-, e⟩ | ⟨q1, q2, q3, -, e⟩ | ⟨-, -, e⟩
  · rw [e]; exact sp_two _ _ _ _
  · rw [e]; exact sp_two _ _ _ _
  · rw [e]
    exact sp_cons (fun x => q2 x.2) q1 (by simp) (by rintro rfl; simp at q3)
  · rw [e]
    show spS g true n (92 :: 120 :: hexD (b.toNat / 16) :: hexD (b.toNat % 16) :: l) = _ ∧ spK true (92 :: 120 :: hexD (b.toNat / 16) :: hexD (b.toNat % 16) :: l) = _
    obtain ⟨a1, a2⟩ := sp_two g n 120 (hexD (b.toNat / 16) :: hexD (b.toNat % 16) :: l)
    obtain ⟨b1, b2⟩ := sp_cons (g := g) (n := n) (c := hexD (b.toNat / 16)) (r := hexD (b.toNat % 16) :: l) (q := true) (fun x => e1.2.1 x.2) e1.1 (by simp) e1.2.2.1
    obtain ⟨c1, c2⟩ := sp_cons (g := g) (n := n) (c := hexD (b.toNat % 16)) (r := l) (q := true) (fun x => e2.2.1 x.2) e2.1 (by simp) e2.2.2.1
    rw [a1, a2, b1, b2, c1, c2]
    exact ⟨rfl, rfl⟩
theorem sp_pcs (g : Nat → Bs) (n : Nat) (l : Bs) : ∀ t : Bs, spS g true n (t.flatMap pcS ++ l) = t.flatMap pcS ++ spS g true n l ∧ spK true (t.flatMap pcS ++ l) = spK true l
  | [] => ⟨rfl, rfl⟩
  | b :: t => by
    obtain ⟨a1, a2⟩ := sp_pc g n b (t.flatMap pcS ++ l)
    obtain ⟨b1, b2⟩ := sp_pcs g n l t
    rw [List.flatMap_cons, List.append_assoc, a1, a2, b1, b2, List.append_assoc]
    exact ⟨rfl, rfl⟩
theorem sp_word (g : Nat → Bs) (n : Nat) (r : Bs) {w : Bs} (h : Pw w) : spS g false n (w ++ r) = w ++ spS g false n r ∧ spK false (w ++ r) = spK false r := by
  rcases h with h | ⟨t, rfl⟩
  · unfold plainB at h
    simp only [Bool.and_eq_true, List.all_eq_true, bne_iff_ne, ne_eq, Bool.not_eq_true'] at h
    exact sp_plain g n r w h.2
  · unfold qtS
    rw [List.cons_append, List.append_assoc]
    obtain ⟨a1, a2⟩ := sp_quote g n false (t.flatMap pcS ++ ([34] ++ r))
    obtain ⟨b1, b2⟩ := sp_pcs g n ([34] ++ r) t
    obtain ⟨c1, c2⟩ := sp_quote g n true r
    rw [a1, a2, Bool.not_false, b1, b2, List.singleton_append, c1, c2, Bool.not_true]
    refine ⟨?_, rfl⟩
    rw [List.cons_append, List.append_assoc]
    rfl
theorem sp_line (g : Nat → Bs) : ∀ (ws : List Bs), ws ≠ [] → (∀ w ∈ ws, Pw w) → ∀ (n : Nat) (r : Bs), (∃ a u n', spS g false n (joinW ws ++ 10 :: r) = a ++ (bhS u ++ 10 :: spS g false n' r) ∧ Gl ws a) ∧ spK false (joinW ws ++ 10 :: r) = spK false r
  | [], h, _, _, _ => absurd rfl h
  | [w], _, hw, n, r => by
    have h := hw w (by simp)
    obtain ⟨a1, a2⟩ := sp_word g n (10 :: r) h
    obtain ⟨b1, b2⟩ := sp_feed g n r
    show (∃ a u n', spS g false n (w ++ 10 :: r) = _ ∧ _) ∧ spK false (w ++ 10 :: r) = _
    rw [a1, a2, b1, b2]
    exact ⟨⟨w, g n, n + 1, rfl, Gl.one h.wd⟩, rfl⟩
  | w :: v :: ws, _, hw, n, r => by
    have h := hw w (by simp)
    have ej : joinW (w :: v :: ws) ++ 10 :: r = w ++ (32 :: (joinW (v :: ws) ++ 10 :: r)) := by
      show (w ++ 32 :: joinW (v :: ws)) ++ 10 :: r = _
      rw [List.append_assoc]
      rfl
    obtain ⟨⟨a, u, n', e, hg⟩, ek⟩ := sp_line g (v :: ws) (by simp) (fun x hx => hw x (List.mem_cons_of_mem _ hx)) (n + 1) r
    obtain ⟨a1, a2⟩ := sp_word g n (32 :: (joinW (v :: ws) ++ 10 :: r)) h
    obtain ⟨b1, b2⟩ := sp_blank g n (joinW (v :: ws) ++ 10 :: r)
    rw [ej, a1, a2, b1, b2, e, ek]
    refine ⟨⟨w ++ (blS (g n) ++ a), u, n', ?_, Gl.cons h.wd hg⟩, rfl⟩
    simp only [List.append_assoc]
end Go.Proofs.YtchinflkjcebjaaGreatDoor
