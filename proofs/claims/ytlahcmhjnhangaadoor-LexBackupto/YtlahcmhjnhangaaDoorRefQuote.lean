import Derived.Test.YtlahcmhjnhangaaDoorQuote
namespace Go.Proofs.YtlahcmhjnhangaaDoor
open Go.RowKit

/-- One byte is appended; the world before and all that is owned is carried along. -/
theorem wpList_app1 {w0 w : World} {ops : Array Oper} {rest : List Oper} {o : Oper} {a : Act} {Q : Exit → Act → World → Prop} (hgd : o.guard = none) (s x : Operand)
    (ho : o.op = .call { callee := .builtin .append, args := #[s, x], argTypes := #[49, 49] })
    (v : Value) (n : Nat) (l : List UInt8) (hs : a.eval s = v) (hown : Hid (w.ownsRow w0.heap.size 5 1 v n (bv l))) (hB : Hid (Below w0.heap.size w0 w)) (c : UInt8) (hx : a.eval x = .slice (some ⟨w.heap.size, 0, none⟩) 1 1)
    (h40 : n + 1 ≤ 1099511627776)
    (h : ∀ v' w', Hid (w'.ownsRow w0.heap.size 5 1 v' (n + 1) (bv (l ++ [c]))) → Hid (Below w0.heap.size w0 w') → wpList Tryd.prog ops Q rest (a.put o.dst v') w') : wpList Tryd.prog ops Q (o :: rest) a (w.alloc (.cells #[.int .u8 (c.toNat : Int)] 5)) :=
  wpList_appB hgd s x ho w0.heap.size v n l hs (hown.out.alloc _) w.heap.size 1 1 [c] hx rfl (World.news_of_block (heap_alloc_new w _)) h40 (by have := hB.out.size; simp; omega)
    (fun v' w' h1 h2 => h v' w' h1 (hB.out.trans (Below.after_alloc h2 hB.out.size)))

theorem build1 (c : UInt8) (w : World) : ∃ w0, w0 = w.alloc (.cells #[.int .u8 (c.toNat : Int)] 5) ∧ w0.ownsRow w.heap.size 5 1 (.slice (some ⟨w.heap.size, 0, none⟩) 1 1) 1 (bv [c]) ∧ Below w.heap.size w w0 := by
  refine ⟨_, rfl, ⟨rfl, Or.inr ⟨w.heap.size, 1, _, rfl, Nat.le_refl _, heap_alloc_new w _, Nat.le_refl _, by unfold maxLen; omega, rfl, rfl⟩⟩, (Below.refl _ w).alloc (Nat.le_refl _) _⟩

set_option maxRecDepth 100000 in
set_option maxHeartbeats 2000000 in
theorem refQuote_any (s b : ByteArray) (w : World) (hs : s.size ≤ 68719476736) (hb : Hid (b = ⟨(qt s.data.toList).toArray⟩)) :
    Calls Tryd.prog 12 #[.string s] w fun e w' => e = .returned (.string b) ∧ Below w.heap.size w w' := by
  obtain ⟨w0, hw0, ho0, hB0⟩ := build1 34 w
  have HW : Hid (w0 = w.alloc (.cells #[.int .u8 ((34 : UInt8).toNat : Int)] 5)) := hw0
  have HO0 : Hid (w0.ownsRow w.heap.size 5 1 (.slice (some ⟨w.heap.size, 0, none⟩) 1 1) 1 (bv [34])) := ho0
  have HB0 : Hid (Below w.heap.size w w0) := hB0
  clear hw0 ho0 hB0
  go_enter Tryd.func12, Tryd.ntmps12
  go_wp2
  go_loopw [3, 4] (fun v i wr => ∃ k : Nat, k ≤ s.size ∧ i = .int .i64 (k : Int) ∧ Hid (wr.ownsRow w.heap.size 5 1 v (34 :: pcs (s.data.toList.take k)).length (bv (34 :: pcs (s.data.toList.take k)))) ∧ Hid (Below w.heap.size w wr)) (fun _ i _ => s.size - (intOf i).toNat)
  case atStart => exact ⟨0, Nat.zero_le _, rfl, by have := HW.out; subst this; exact HO0.out, by have := HW.out; subst this; exact HB0.out⟩
  case round =>
    clear HO0 HB0 HW
    obtain ⟨k, hk, rfl, ho, hB⟩ := hrel
    have HS : Hid (s.size = s.data.toList.length) := Lib.size_eq s
    have hlen : (34 :: pcs (s.data.toList.take k)).length ≤ 1 + 4 * k := by
      have := pcs_len (s.data.toList.take k)
      rw [List.length_take] at this
      rw [List.length_cons]
      omega
    by_cases hlt : k < s.size
    · have hst := pcs_step s.data.toList k (by rw [← HS.out]; exact hlt)
      have HST : Hid (∀ (v' : Value) (w' : World), w'.ownsRow w.heap.size 5 1 v' ((34 :: pcs (s.data.toList.take k)).length + (pc (s[k]'hlt)).length) (bv (34 :: pcs (s.data.toList.take k) ++ pc (s[k]'hlt))) → w'.ownsRow w.heap.size 5 1 v' (34 :: pcs (s.data.toList.take (k + 1))).length (bv (34 :: pcs (s.data.toList.take (k + 1))))) := by
        intro v' w' h
        rw [hst, ← List.cons_append, List.length_append]
        exact h
      clear hst
      generalize 34 :: pcs (s.data.toList.take k) = L at ho hlen HST
      obtain ⟨c, hc⟩ : ∃ c, s[k]'hlt = c := ⟨_, rfl⟩
      rw [hc] at HST
      have hc9 := UInt8.toNat_lt c
      by_cases h1 : c = 10
      · subst h1
        have e : pc 10 = [92, 110] := rfl
        rw [e] at HST
        clear e
        go_wp2_with (first
          | (at_builtin; refine wpList_app1 (by rfl) (.tmp 23) (.tmp 24) (by rfl) _ _ _ (by rfl) ho hB 92 (by rfl) (by omega) ?_; intro v1 w1 ho1 hb1)
          | (at_builtin; refine wpList_app1 (by rfl) (.tmp 26) (.tmp 27) (by rfl) _ _ _ (by rfl) ho1 hb1 110 (by rfl) (by omega) ?_; intro v2 w2 ho2 hb2)
          | go_in)
        exact ⟨⟨k + 1, by omega, by go_num, HST.out _ _ (by have h := ho2.out; simp only [List.append_assoc, List.cons_append, List.nil_append] at h; exact h), hb2⟩, by simp [intOf]; omega⟩
      · have b1 : ((c.toNat : Int) == 10) = false := by
          rw [beq_eq_false_iff_ne]
          intro e
          exact h1 (UInt8.toNat_inj.1 (by show c.toNat = 10; omega))
        by_cases h2 : c = 34 ∨ c = 92
        · have e : pc c = [92, c] := by unfold pc; rw [if_neg h1, if_pos h2]
          rw [e] at HST
          clear e b1
          rcases h2 with rfl | rfl
          · clear h1
            go_wp2_with (first
              | (at_builtin; refine wpList_app1 (by rfl) (.tmp 36) (.tmp 37) (by rfl) _ _ _ (by rfl) ho hB 92 (by rfl) (by omega) ?_; intro v1 w1 ho1 hb1)
              | (at_builtin; refine wpList_app1 (by rfl) (.tmp 39) (.tmp 41) (by rfl) _ _ _ (by rfl) ho1 hb1 34 (by rfl) (by omega) ?_; intro v2 w2 ho2 hb2)
              | go_in)
            exact ⟨⟨k + 1, by omega, by go_num, HST.out _ _ (by have h := ho2.out; simp only [List.append_assoc, List.cons_append, List.nil_append] at h; exact h), hb2⟩, by simp [intOf]; omega⟩
          · clear h1
            go_wp2_with (first
              | (at_builtin; refine wpList_app1 (by rfl) (.tmp 36) (.tmp 37) (by rfl) _ _ _ (by rfl) ho hB 92 (by rfl) (by omega) ?_; intro v1 w1 ho1 hb1)
              | (at_builtin; refine wpList_app1 (by rfl) (.tmp 39) (.tmp 41) (by rfl) _ _ _ (by rfl) ho1 hb1 92 (by rfl) (by omega) ?_; intro v2 w2 ho2 hb2)
              | go_in)
            exact ⟨⟨k + 1, by omega, by go_num, HST.out _ _ (by have h := ho2.out; simp only [List.append_assoc, List.cons_append, List.nil_append] at h; exact h), hb2⟩, by simp [intOf]; omega⟩
        · have b2 : ((c.toNat : Int) == 34) = false := by
            rw [beq_eq_false_iff_ne]
            intro e
            exact h2 (Or.inl (UInt8.toNat_inj.1 (by show c.toNat = 34; omega)))
          have b3 : ((c.toNat : Int) == 92) = false := by
            rw [beq_eq_false_iff_ne]
            intro e
            exact h2 (Or.inr (UInt8.toNat_inj.1 (by show c.toNat = 92; omega)))
          by_cases h3 : 32 ≤ c.toNat ∧ c.toNat ≤ 126
          · have e : pc c = [c] := by unfold pc; rw [if_neg h1, if_neg h2, if_pos h3]
            rw [e] at HST
            have g1 : ¬ (c.toNat : Int) < 32 := by omega
            have g2 : ¬ 126 < (c.toNat : Int) := by omega
            clear e h1 h2 h3
            go_wp2_with (first
              | (at_builtin; refine wpList_app1 (by rfl) (.tmp 16) (.tmp 18) (by rfl) _ _ _ (by rfl) ho hB c (by rfl) (by omega) ?_; intro v1 w1 ho1 hb1)
              | go_in)
            exact ⟨⟨k + 1, by omega, by go_num, HST.out _ _ ho1.out, hb1⟩, by simp [intOf]; omega⟩
          · have e : pc c = [92, 120, hx (c.toNat / 16), hx (c.toNat % 16)] := by unfold pc; rw [if_neg h1, if_neg h2, if_neg h3]
            rw [e] at HST
            have hq0 : (0 : Int) ≤ (c.toNat : Int) / 16 := by omega
            have hq1 : (c.toNat : Int) / 16 < 16 := by omega
            have hm0 : (0 : Int) ≤ (c.toNat : Int) % 16 := by omega
            have hm1 : (c.toNat : Int) % 16 < 16 := by omega
            have ho2 : (c.toNat : Int) < 32 ∨ (¬ (c.toNat : Int) < 32 ∧ 126 < (c.toNat : Int)) := by omega
            clear e h1 h2 h3
            rcases ho2 with g1 | ⟨g1, g2⟩
            all_goals
              go_wp2_with (first
                | (at_builtin; refine wpList_app1 (by rfl) (.tmp 50) (.tmp 51) (by rfl) _ _ _ (by rfl) ho hB 92 (by rfl) (by omega) ?_; intro v1 w1 ho1 hb1)
                | (at_builtin; refine wpList_app1 (by rfl) (.tmp 53) (.tmp 54) (by rfl) _ _ _ (by rfl) ho1 hb1 120 (by rfl) (by omega) ?_; intro v2 w2 ho2 hb2)
                | (at_builtin; refine wpList_app1 (by rfl) (.tmp 56) (.tmp 60) (by rfl) _ _ _ (by rfl) ho2 hb2 _ (by rfl) (by omega) ?_; intro v3 w3 ho3 hb3)
                | (at_builtin; refine wpList_app1 (by rfl) (.tmp 62) (.tmp 66) (by rfl) _ _ _ (by rfl) ho3 hb3 _ (by rfl) (by omega) ?_; intro v4 w4 ho4 hb4)
                | go_in)
              rw [hx_get, hx_get] at ho4
              exact ⟨⟨k + 1, by omega, by go_num, HST.out _ _ (by have h := ho4.out; simp only [List.append_assoc, List.cons_append, List.nil_append] at h; exact h), hb4⟩, by simp [intOf]; omega⟩
    · obtain rfl : k = s.size := by omega
      have HOk := ho
      have etk : List.take s.size s.data.toList = s.data.toList := by rw [HS.out, List.take_length]
      rw [etk] at HOk hlen
      clear etk ho
      have hfin : (⟨(34 :: pcs s.data.toList ++ [34]).toArray⟩ : ByteArray) = b := hb.out.symm
      have HF : Hid ((⟨(34 :: pcs s.data.toList ++ [34]).toArray⟩ : ByteArray) = b) := hfin
      clear hfin
      generalize hL : 34 :: pcs s.data.toList = L at HOk HF hlen
      have HL : Hid (34 :: pcs s.data.toList = L) := hL
      clear hL
      go_wp2_with (first
        | (at_builtin; refine wpList_app1 (by rfl) _ _ (by rfl) _ L.length L (by rfl) HOk hB 34 (by rfl) (by omega) ?_; intro v2 w2 ho2 hb2; have hcv := conv_own ho2.out; rw [HF.out] at hcv)
        | go_in)
      go_ret
      exact ⟨rfl, hb2⟩
end Go.Proofs.YtlahcmhjnhangaaDoor
