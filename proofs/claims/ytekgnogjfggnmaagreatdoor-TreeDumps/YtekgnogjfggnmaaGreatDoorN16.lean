import Derived.Lib.SmallJoins
import Derived.Test.YtekgnogjfggnmaaGreatDoorN07
namespace Go.Proofs.YtekgnogjfggnmaaGreatDoor.Lx
open Go.RowKit
set_option maxRecDepth 100000
set_option maxHeartbeats 1000000
theorem conv_own {w : World} {base : Nat} {v : Value} {n : Nat} {l : List UInt8} (h : w.ownsRow base 5 1 v n (bv l)) : (convert 47 9 v).run Tryz.prog w = .ok (.string ⟨l.toArray⟩) w := by
 have hn : n = l.length := by have := h.1; rw [bv_len] at this; omega
 rcases h.2 with ⟨rfl, h0⟩ | ⟨g, cap, cur, rfl, hb, hg, hnc, hcm, hcs, htake⟩
 ·have hl : l = [] := List.eq_nil_of_length_eq_zero (by omega)
  subst hl
  exact run_convert_bytes_nil w 47 5 Tryz.underlying47 Tryz.underlying5 0 0 9 Tryz.underlying9
 ·subst hn
  refine run_convert_bytes_back (P := Tryz.prog) w 47 9 5 ⟨g, 0, none⟩ cap l Tryz.underlying47 Tryz.underlying5 Tryz.underlying9 (fun j hj => ?_)
  exact h.cells (g := g) rfl j _ (by unfold bv; rw [List.getElem?_map, List.getElem?_eq_getElem hj]; rfl)
theorem make_own (c : Nat) (w : World) (hc : c ≤ 281474976710656) : ∃ w', (Instr.makeSlice 47 (.int .i64 0) (.int .i64 (c : Int))).run Tryz.prog w = .ok (.slice (some ⟨w.heap.size, 0, none⟩) 0 c) w' ∧
 w'.ownsRow w.heap.size 5 1 (.slice (some ⟨w.heap.size, 0, none⟩) 0 c) 0 (bv []) ∧ Below w.heap.size w w' := by
 obtain ⟨i0, hi, hz0, hz1, hz2⟩ := info_parts info5
 obtain ⟨w', h1, h2, h3⟩ := run_make_own (P := Tryz.prog) w w.heap.size 47 5 i0 _ 1 Tryz.underlying47 hi hz0 hz1 .i64 .i64 c (by rw [hz2]; omega) (by unfold maxLen; omega) (Nat.le_refl _)
 exact ⟨w', h1, h2, (Below.refl _ w).grown h3 (Nat.le_refl _) (fun k hk => by cases hk)⟩
theorem quote_any (s b : ByteArray) (w : World) (hs : s.size ≤ 68719476736) (hb : Hid (b = ⟨(qt s.data.toList).toArray⟩)) :
 Calls Tryz.prog 33 #[.string s] w fun e w' => e = .returned (.string b) ∧ Below w.heap.size w w' := by
 obtain ⟨w0, hmk, hown0, hB0⟩ := make_own (s.size + 2) w (by omega)
 rw [show ((s.size + 2 : Nat) : Int) = (s.size : Int) + 2 from by omega] at hmk
 have HO0 : Hid (w0.ownsRow w.heap.size 5 1 (.slice (some ⟨w.heap.size, 0, none⟩) 0 (s.size + 2)) 0 (bv [])) := hown0
 have HB0 : Hid (Below w.heap.size w w0) := hB0
 clear hown0 hB0
 go_enter Tryz.func33, Tryz.ntmps33
 go_wp2_with (first
  | (at_builtin; refine wpList_appB (by rfl) _ _ (by rfl) w.heap.size _ 0 [] (by rfl) (HO0.out.alloc _) w0.heap.size 1 1 [34] (by rfl) (by rfl) (World.news_of_block (heap_alloc_new w0 _)) (by omega) (by have := HB0.out.size; simp; omega) ?_; intro v1 w1 ho1 hb1)
  | go_in)
 clear hmk
 have HO1 : Hid (w1.ownsRow w.heap.size 5 1 v1 1 (bv [34])) := ho1
 have HB1 : Hid (Below w.heap.size w w1) := HB0.out.trans (Below.after_alloc hb1 HB0.out.size)
 clear ho1 hb1 HO0 HB0
 go_loopw [3, 14] (fun v i wr => ∃ k : Nat, k ≤ s.size ∧ i = .int .i64 (k : Int) ∧ Hid (wr.ownsRow w.heap.size 5 1 v (34 :: pcs (s.data.toList.take k)).length (bv (34 :: pcs (s.data.toList.take k)))) ∧ Hid (Below w.heap.size w wr)) (fun _ i _ => s.size - (intOf i).toNat)
 case atStart => exact ⟨0, Nat.zero_le _, rfl, HO1.out, HB1.out⟩
 case round =>
  clear HO1 HB1
  obtain ⟨k, hk, rfl, ho, hB⟩ := hrel
  have HS : Hid (s.size = s.data.toList.length) := Lib.size_eq s
  have hlen : (34 :: pcs (s.data.toList.take k)).length ≤ 1 + 4 * k := by
   have := pcs_len (s.data.toList.take k)
   rw [List.length_take] at this
   rw [List.length_cons]
   omega
  by_cases hlt : k < s.size
  ·go_wp2_with (first
    | (go_at_call 59; refine (appendPiece_any _ w.heap.size _ _ _ wr ho.out (by omega) hB.out.size).mono ?_; rintro e w2 ⟨v2, rfl, ho2, hb2⟩)
    | go_in)
   refine ⟨⟨k + 1, by omega, by go_num, ?_, hB.out.trans hb2⟩, by simp [intOf]; omega⟩
   have hst := pcs_step s.data.toList k (by rw [← HS.out]; exact hlt)
   rw [hst, ← List.cons_append, List.length_append]
   exact ho2
  ·obtain rfl : k = s.size := by omega
   have HOk := ho
   have etk : List.take s.size s.data.toList = s.data.toList := by rw [HS.out, List.take_length]
   rw [etk] at HOk hlen
   clear etk
   clear ho
   have hfin : (⟨(34 :: pcs s.data.toList ++ [34]).toArray⟩ : ByteArray) = b := hb.out.symm
   have HF : Hid ((⟨(34 :: pcs s.data.toList ++ [34]).toArray⟩ : ByteArray) = b) := hfin
   clear hfin
   generalize hL : 34 :: pcs s.data.toList = L at HOk HF hlen
   have HL : Hid (34 :: pcs s.data.toList = L) := hL
   clear hL
   go_wp2_with (first
    | (at_builtin; refine wpList_appB (by rfl) _ _ (by rfl) w.heap.size _ L.length L (by rfl) (HOk.out.alloc _) wr.heap.size 1 1 [34] (by rfl) (by rfl) (World.news_of_block (heap_alloc_new wr _)) (by omega) (by have := hB.out.size; simp; omega) ?_; intro v2 w2 ho2 hb2; have hcv := conv_own ho2; rw [HF.out] at hcv)
    | go_in)
   go_ret
   exact ⟨rfl, hB.out.trans (Below.after_alloc hb2 hB.out.size)⟩
end Go.Proofs.YtekgnogjfggnmaaGreatDoor.Lx

namespace Go.Proofs.YtekgnogjfggnmaaGreatDoor.Lx
open Go.RowKit
set_option maxRecDepth 100000
set_option maxHeartbeats 2000000
theorem wpList_app1 {w0 w : World} {ops : Array Oper} {rest : List Oper} {o : Oper} {a : Act} {Q : Exit → Act → World → Prop} (hgd : o.guard = none) (s x : Operand)
 (ho : o.op = .call { callee := .builtin .append, args := #[s, x], argTypes := #[47, 47] })
 (v : Value) (n : Nat) (l : List UInt8) (hs : a.eval s = v) (hown : Hid (w.ownsRow w0.heap.size 5 1 v n (bv l))) (hB : Hid (Below w0.heap.size w0 w)) (c : UInt8) (hx : a.eval x = .slice (some ⟨w.heap.size, 0, none⟩) 1 1)
 (h40 : n + 1 ≤ 1099511627776)
 (h : ∀ v' w', Hid (w'.ownsRow w0.heap.size 5 1 v' (n + 1) (bv (l ++ [c]))) → Hid (Below w0.heap.size w0 w') → wpList Tryz.prog ops Q rest (a.put o.dst v') w') : wpList Tryz.prog ops Q (o :: rest) a (w.alloc (.cells #[.int .u8 (c.toNat : Int)] 5)) :=
 wpList_appB hgd s x ho w0.heap.size v n l hs (hown.out.alloc _) w.heap.size 1 1 [c] hx rfl (World.news_of_block (heap_alloc_new w _)) h40 (by have := hB.out.size; simp; omega)
  (fun v' w' h1 h2 => h v' w' h1 (hB.out.trans (Below.after_alloc h2 hB.out.size)))
theorem build1 (c : UInt8) (w : World) : ∃ w0, w0 = w.alloc (.cells #[.int .u8 (c.toNat : Int)] 5) ∧ w0.ownsRow w.heap.size 5 1 (.slice (some ⟨w.heap.size, 0, none⟩) 1 1) 1 (bv [c]) ∧ Below w.heap.size w w0 := by
 refine ⟨_, rfl, ⟨rfl, Or.inr ⟨w.heap.size, 1, _, rfl, Nat.le_refl _, heap_alloc_new w _, Nat.le_refl _, by unfold maxLen; omega, rfl, rfl⟩⟩, (Below.refl _ w).alloc (Nat.le_refl _) _⟩
theorem refQuote_any (s b : ByteArray) (w : World) (hs : s.size ≤ 68719476736) (hb : Hid (b = ⟨(qt s.data.toList).toArray⟩)) :
 Calls Tryz.prog 43 #[.string s] w fun e w' => e = .returned (.string b) ∧ Below w.heap.size w w' := by
 obtain ⟨w0, hw0, ho0, hB0⟩ := build1 34 w
 have HW : Hid (w0 = w.alloc (.cells #[.int .u8 ((34 : UInt8).toNat : Int)] 5)) := hw0
 have HO0 : Hid (w0.ownsRow w.heap.size 5 1 (.slice (some ⟨w.heap.size, 0, none⟩) 1 1) 1 (bv [34])) := ho0
 have HB0 : Hid (Below w.heap.size w w0) := hB0
 clear hw0 ho0 hB0
 go_enter Tryz.func43, Tryz.ntmps43
 go_wp2
 go_loopw [3, 4] (fun v i wr => ∃ k : Nat, k ≤ s.size ∧ i = .int .i64 (k : Int) ∧ Hid (wr.ownsRow w.heap.size 5 1 v (34 :: pcs (s.data.toList.take k)).length (bv (34 :: pcs (s.data.toList.take k)))) ∧ Hid (Below w.heap.size w wr)) (fun _ i _ => s.size - (intOf i).toNat)
 case atStart => exact ⟨0, Nat.zero_le _, rfl, by have := HW.out; subst this; exact HO0.out, by have := HW.out; subst this; exact HB0.out⟩
 case round =>
  clear HO0 HB0 HW
  obtain ⟨k, hk, rfl, ho, hB⟩ := hrel
  have HS : Hid (s.size = s.data.toList.length) := Lib.size_eq s
  have hlen : (34 :: pcs (s.data.toList.take k)).length ≤ 1 + 4 * k := by
   have := pcs_len (s.data.toList.take k)
   rw [List.length_take] at this
   rw [List.length_cons]
   omega
  by_cases hlt : k < s.size
  ·have hst := pcs_step s.data.toList k (by rw [← HS.out]; exact hlt)
   have HST : Hid (∀ (v' : Value) (w' : World), w'.ownsRow w.heap.size 5 1 v' ((34 :: pcs (s.data.toList.take k)).length + (pc (s[k]'hlt)).length) (bv (34 :: pcs (s.data.toList.take k) ++ pc (s[k]'hlt))) → w'.ownsRow w.heap.size 5 1 v' (34 :: pcs (s.data.toList.take (k + 1))).length (bv (34 :: pcs (s.data.toList.take (k + 1))))) := by
    intro v' w' h
    rw [hst, ← List.cons_append, List.length_append]
    exact h
   clear hst
   generalize 34 :: pcs (s.data.toList.take k) = L at ho hlen HST
   obtain ⟨c, hc⟩ : ∃ c, s[k]'hlt = c := ⟨_, rfl⟩
   rw [hc] at HST
   have hc9 := UInt8.toNat_lt c
   by_cases h1 : c = 10
   ·subst h1
    have e : pc 10 = [92, 110] := rfl
    rw [e] at HST
    clear e
    go_wp2_with (first
     | (at_builtin; refine wpList_app1 (by rfl) (.tmp 23) (.tmp 24) (by rfl) _ _ _ (by rfl) ho hB 92 (by rfl) (by omega) ?_; intro v1 w1 ho1 hb1)
     | (at_builtin; refine wpList_app1 (by rfl) (.tmp 26) (.tmp 27) (by rfl) _ _ _ (by rfl) ho1 hb1 110 (by rfl) (by omega) ?_; intro v2 w2 ho2 hb2)
     | go_in)
    exact ⟨⟨k + 1, by omega, by go_num, HST.out _ _ (by have h := ho2.out; simp only [List.append_assoc, List.cons_append, List.nil_append] at h; exact h), hb2⟩, by simp [intOf]; omega⟩
   ·have b1 : ((c.toNat : Int) == 10) = false := by
     rw [beq_eq_false_iff_ne]
     intro e
     exact h1 (UInt8.toNat_inj.1 (by show c.toNat = 10; omega))
    by_cases h2 : c = 34 ∨ c = 92
    ·have e : pc c = [92, c] := by unfold pc; rw [if_neg h1, if_pos h2]
     rw [e] at HST
     clear e b1
     rcases h2 with rfl | rfl
     ·clear h1
      go_wp2_with (first
       | (at_builtin; refine wpList_app1 (by rfl) (.tmp 36) (.tmp 37) (by rfl) _ _ _ (by rfl) ho hB 92 (by rfl) (by omega) ?_; intro v1 w1 ho1 hb1)
       | (at_builtin; refine wpList_app1 (by rfl) (.tmp 39) (.tmp 41) (by rfl) _ _ _ (by rfl) ho1 hb1 34 (by rfl) (by omega) ?_; intro v2 w2 ho2 hb2)
       | go_in)
      exact ⟨⟨k + 1, by omega, by go_num, HST.out _ _ (by have h := ho2.out; simp only [List.append_assoc, List.cons_append, List.nil_append] at h; exact h), hb2⟩, by simp [intOf]; omega⟩
     ·clear h1
      go_wp2_with (first
       | (at_builtin; refine wpList_app1 (by rfl) (.tmp 36) (.tmp 37) (by rfl) _ _ _ (by rfl) ho hB 92 (by rfl) (by omega) ?_; intro v1 w1 ho1 hb1)
       | (at_builtin; refine wpList_app1 (by rfl) (.tmp 39) (.tmp 41) (by rfl) _ _ _ (by rfl) ho1 hb1 92 (by rfl) (by omega) ?_; intro v2 w2 ho2 hb2)
       | go_in)
      exact ⟨⟨k + 1, by omega, by go_num, HST.out _ _ (by have h := ho2.out; simp only [List.append_assoc, List.cons_append, List.nil_append] at h; exact h), hb2⟩, by simp [intOf]; omega⟩
    ·have b2 : ((c.toNat : Int) == 34) = false := by
      rw [beq_eq_false_iff_ne]
      intro e
      exact h2 (Or.inl (UInt8.toNat_inj.1 (by show c.toNat = 34; omega)))
     have b3 : ((c.toNat : Int) == 92) = false := by
      rw [beq_eq_false_iff_ne]
      intro e
      exact h2 (Or.inr (UInt8.toNat_inj.1 (by show c.toNat = 92; omega)))
     by_cases h3 : 32 ≤ c.toNat ∧ c.toNat ≤ 126
     ·have e : pc c = [c] := by unfold pc; rw [if_neg h1, if_neg h2, if_pos h3]
      rw [e] at HST
      have g1 : ¬ (c.toNat : Int) < 32 := by omega
      have g2 : ¬ 126 < (c.toNat : Int) := by omega
      clear e h1 h2 h3
      go_wp2_with (first
       | (at_builtin; refine wpList_app1 (by rfl) (.tmp 16) (.tmp 18) (by rfl) _ _ _ (by rfl) ho hB c (by rfl) (by omega) ?_; intro v1 w1 ho1 hb1)
       | go_in)
      exact ⟨⟨k + 1, by omega, by go_num, HST.out _ _ ho1.out, hb1⟩, by simp [intOf]; omega⟩
     ·have e : pc c = [92, 120, hx (c.toNat / 16), hx (c.toNat % 16)] := by unfold pc; rw [if_neg h1, if_neg h2, if_neg h3]
      rw [e] at HST
      have hq0 : (0 : Int) ≤ (c.toNat : Int) / 16 := by omega
      have hq1 : (c.toNat : Int) / 16 < 16 := by omega
      have hm0 : (0 : Int) ≤ (c.toNat : Int) % 16 := by omega
      have hm1 : (c.toNat : Int) % 16 < 16 := by omega
      have ho2 : (c.toNat : Int) < 32 ∨ (¬ (c.toNat : Int) < 32 ∧ 126 < (c.toNat : Int)) := by omega
      clear e h1 h2 h3
      rcases ho2 with g1 | ⟨g1, g2⟩
      all_goals
       go_wp2_with (first
        | (at_builtin; refine wpList_app1 (by rfl) (.tmp 50) (.tmp 51) (by rfl) _ _ _ (by rfl) ho hB 92 (by rfl) (by omega) ?_; intro v1 w1 ho1 hb1)
        | (at_builtin; refine wpList_app1 (by rfl) (.tmp 53) (.tmp 54) (by rfl) _ _ _ (by rfl) ho1 hb1 120 (by rfl) (by omega) ?_; intro v2 w2 ho2 hb2)
        | (at_builtin; refine wpList_app1 (by rfl) (.tmp 56) (.tmp 60) (by rfl) _ _ _ (by rfl) ho2 hb2 _ (by rfl) (by omega) ?_; intro v3 w3 ho3 hb3)
        | (at_builtin; refine wpList_app1 (by rfl) (.tmp 62) (.tmp 66) (by rfl) _ _ _ (by rfl) ho3 hb3 _ (by rfl) (by omega) ?_; intro v4 w4 ho4 hb4)
        | go_in)
       rw [hx_get, hx_get] at ho4
       exact ⟨⟨k + 1, by omega, by go_num, HST.out _ _ (by have h := ho4.out; simp only [List.append_assoc, List.cons_append, List.nil_append] at h; exact h), hb4⟩, by simp [intOf]; omega⟩
  ·obtain rfl : k = s.size := by omega
   have HOk := ho
   have etk : List.take s.size s.data.toList = s.data.toList := by rw [HS.out, List.take_length]
   rw [etk] at HOk hlen
   clear etk ho
   have hfin : (⟨(34 :: pcs s.data.toList ++ [34]).toArray⟩ : ByteArray) = b := hb.out.symm
   have HF : Hid ((⟨(34 :: pcs s.data.toList ++ [34]).toArray⟩ : ByteArray) = b) := hfin
   clear hfin
   generalize hL : 34 :: pcs s.data.toList = L at HOk HF hlen
   have HL : Hid (34 :: pcs s.data.toList = L) := hL
   clear hL
   go_wp2_with (first
    | (at_builtin; refine wpList_app1 (by rfl) _ _ (by rfl) _ L.length L (by rfl) HOk hB 34 (by rfl) (by omega) ?_; intro v2 w2 ho2 hb2; have hcv := conv_own ho2.out; rw [HF.out] at hcv)
    | go_in)
   go_ret
   exact ⟨rfl, hb2⟩
end Go.Proofs.YtekgnogjfggnmaaGreatDoor.Lx
