import Derived.Test.YtichbejmelkjeaaDoorcCm
namespace Go.Proofs.YtichbejmelkjeaaDoor
open Go.RowKit

theorem wrd_le (l : List UInt8) : (wrd l).length ≤ l.length := by rw [wrd_len]; exact wln_le l
theorem nxt_le (l : List UInt8) : (nxt l).length ≤ l.length := by
  unfold nxt; exact Nat.le_trans (trm_len _) (by rw [List.length_drop]; omega)
theorem tkn_sm : ∀ (f n : Nat) (ws : List (List UInt8)) (r : List UInt8), r.length ≤ n → (∀ x ∈ ws, x.length ≤ n) → (∀ x ∈ (tkn f ws r).1, x.length ≤ n) ∧ (tkn f ws r).2.length ≤ n := by
  intro f
  induction f with
  | zero => intro n ws r hr hw; exact ⟨hw, hr⟩
  | succ f ih =>
    intro n ws r hr hw
    have hw2 : ∀ x ∈ ws ++ [wrd r], x.length ≤ n := fun x hx => by
      rcases List.mem_append.1 hx with h | h
      · exact hw x h
      · rw [List.mem_singleton.1 h]; exact Nat.le_trans (wrd_le r) hr
    have hn : (nxt r).length ≤ n := Nat.le_trans (nxt_le r) hr
    unfold tkn
    split
    · exact ⟨hw, by simp⟩
    · split
      · exact ⟨hw2, hn⟩
      · exact ih n _ _ hn hw2

/-- What Parse answers. -/
def PaP (w : World) (l : List UInt8) (e : Ending) (w' : World) : Prop :=
  ∃ (k a1 a2 : Int) (a3 a4 : ByteArray) (a6 : Int) (a7 : ByteArray) (er : Int), e = .returned (.tuple #[.agg #[.int .i64 k, .int .i64 a1, .int .i64 a2, .string a3, .string a4, .bool false, .int .i64 a6, .string a7], .int .i64 er]) ∧ Hid (((er = 0 ∧ parP l = some ⟨k, a1, a2, a3.data.toList, a4.data.toList, false, a6, a7.data.toList⟩) ∨ (er = 230 ∧ parP l = none ∧ k = 0 ∧ a1 = 0 ∧ a2 = 0 ∧ a3 = ⟨#[]⟩ ∧ a4 = ⟨#[]⟩ ∧ a6 = 0 ∧ a7 = ⟨#[]⟩)) ∧ Below w.heap.size w w')
theorem ret_parse {w : World} {B : Nat} {x0 x1 x2 x3 x4 x5 x6 x7 x : Value} {tm : Array Value} (hf : Full w B 39 [x0, x1, x2, x3, x4, x5, x6, x7]) (h2 : tm[2]?.getD undef = .pointer (some ⟨B, 0, none⟩)) (h3 : tm[3]?.getD undef = x) :
    (results Tryd.f8 tm).run Tryd.prog w = .ok (.tuple #[.agg #[x0, x1, x2, x3, x4, x5, x6, x7], x]) w := by
  obtain ⟨⟨c0, -⟩, ⟨c1, -⟩, ⟨c2, -⟩, ⟨c3, -⟩, ⟨c4, -⟩, ⟨c5, -⟩, ⟨c6, -⟩, ⟨c7, -⟩⟩ := hf.cell8
  simp [results, Tryd.results8, go_sem, h2, h3, c0, c1, c2, c3, c4, c5, c6, c7]

set_option maxRecDepth 100000 in
set_option maxHeartbeats 4000000 in
theorem parse_any (s : ByteArray) (w : World) (hT : Tb w) : Calls Tryd.prog 8 #[.string s] w (PaP w s.data.toList) := by
  have hsz := Lib.size_eq s
  obtain ⟨X1, hX1⟩ : ∃ X1, w.alloc (.cells #[.int .i64 0, .int .i64 0, .int .i64 0, .string ⟨#[]⟩, .string ⟨#[]⟩, .bool false, .int .i64 0, .string ⟨#[]⟩] 39) = X1 := ⟨_, rfl⟩
  have b1 : Below w.heap.size w X1 := by rw [← hX1]; exact (Below.refl _ w).alloc (Nat.le_refl _) _
  have f1 : Full X1 w.heap.size 39 [.int .i64 0, .int .i64 0, .int .i64 0, .string ⟨#[]⟩, .string ⟨#[]⟩, .bool false, .int .i64 0, .string ⟨#[]⟩] := by rw [← hX1]; exact Full.new w _ _
  have HF : Hid (∀ W, Below X1.heap.size X1 W → Full W w.heap.size 39 [.int .i64 0, .int .i64 0, .int .i64 0, .string ⟨#[]⟩, .string ⟨#[]⟩, .bool false, .int .i64 0, .string ⟨#[]⟩] ∧ Below w.heap.size w W ∧ Tb W) := fun W h => ⟨f1.next h, b1.trans (h.mono b1.size), hT.next (b1.trans (h.mono b1.size))⟩
  have hTX := hT.next b1
  by_cases hlong : 300 < s.size
  · have HP : Hid (parP s.data.toList = none) := by
      show parP s.data.toList = none
      unfold parP; rw [if_pos (.inl (by omega))]
    have hl1 : (300 : Int) < (s.size : Int) := by omega
    obtain ⟨⟨g0, k0⟩, ⟨g1, k1⟩, ⟨g2, k2⟩, ⟨g3, k3⟩, ⟨g4, k4⟩, ⟨g5, k5⟩, ⟨g6, k6⟩, ⟨g7, k7⟩⟩ := f1.cell8
    have HG : Hid _ := HF.out X1 (Below.refl _ _)
    clear hT hTX f1 b1 hsz HF
    go_enter Tryd.func8, Tryd.ntmps8
    go_wp2
    refine bodyPost_ret (by exact ret_parse (HG.out.1.eight _ _ _ _ _ _ _ _) rfl rfl) (by rfl) ?_
    unfold PaP
    exact ⟨0, 0, 0, ⟨#[]⟩, ⟨#[]⟩, 0, ⟨#[]⟩, 230, rfl, .inr ⟨rfl, HP.out, rfl, rfl, rfl, rfl, rfl, rfl, rfl⟩, below_eight HG.out.2.1 (Nat.le_refl _) _ _ _ _ _ _ _ _⟩
  · have hl1 : ¬ (300 : Int) < (s.size : Int) := by omega
    have HL := lineFeed_any s X1
    by_cases h10 : (10 : UInt8) ∈ s.data.toList
    · have HP : Hid (parP s.data.toList = none) := by
        show parP s.data.toList = none
        unfold parP; rw [if_pos (.inr h10)]
      rw [decide_eq_true h10] at HL
      clear hT hTX f1 b1 hsz h10
      go_enter Tryd.func8, Tryd.ntmps8
      go_wp2_with fail
      refine HL.mono ?_
      rintro e w2 ⟨rfl, hb2⟩
      have HG : Hid _ := HF.out w2 hb2
      obtain ⟨⟨g0, k0⟩, ⟨g1, k1⟩, ⟨g2, k2⟩, ⟨g3, k3⟩, ⟨g4, k4⟩, ⟨g5, k5⟩, ⟨g6, k6⟩, ⟨g7, k7⟩⟩ := HG.out.1.cell8
      clear HL HF hb2
      go_wp2
      refine bodyPost_ret (by exact ret_parse (HG.out.1.eight _ _ _ _ _ _ _ _) rfl rfl) (by rfl) ?_
      unfold PaP
      exact ⟨0, 0, 0, ⟨#[]⟩, ⟨#[]⟩, 0, ⟨#[]⟩, 230, rfl, .inr ⟨rfl, HP.out, rfl, rfl, rfl, rfl, rfl, rfl, rfl⟩, below_eight HG.out.2.1 (Nat.le_refl _) _ _ _ _ _ _ _ _⟩
    · have hP : parP s.data.toList = (fun x => cmdP x.1 x.2) (tkn (s.data.toList.length + 1) [] (trm s.data.toList)) := by
        unfold parP; rw [if_neg (by rintro (h | h); omega; exact h10 h)]
      have hsm := tkn_sm (s.data.toList.length + 1) 300 [] (trm s.data.toList) (Nat.le_trans (trm_len _) (by omega)) (by simp)
      have HK : Hid (∀ W, Tb W → Calls Tryd.prog 17 #[.string s] W _) := fun W hW => taken_any s W (by omega) hW
      rw [decide_eq_false h10] at HL
      generalize tkn (s.data.toList.length + 1) [] (trm s.data.toList) = R at hP hsm HK
      have HP : Hid _ := hP
      have HSm : Hid _ := hsm
      clear hT hTX f1 b1 hsz h10 hP hsm
      go_enter Tryd.func8, Tryd.ntmps8
      go_wp2_with fail
      refine HL.mono ?_
      rintro e w2 ⟨rfl, hb2⟩
      clear HL
      have HK2 := HK.out w2 (HF.out w2 hb2).2.2
      go_wp2_with fail
      refine HK2.mono ?_
      rintro e w3 ⟨v, x, rfl, hq⟩
      clear HK HK2
      obtain ⟨hx, ho, hb3⟩ := hq.out
      obtain ⟨q, cap, rfl, hcap, hr⟩ := own_slice ho
      have hb13 : Below X1.heap.size X1 w3 := hb2.trans (hb3.mono hb2.size)
      have hA : WsA w3 q cap R.1 := ⟨hcap, hr, HSm.out.1⟩
      have HC := command_any hA x (by rw [Lib.size_eq, hx]; exact HSm.out.2) (HF.out w3 hb13).2.2
      clear hA hr ho hcap hq HSm hb3
      go_wp2_with fail
      refine HC.mono ?_
      rintro e w4 ⟨k, a1, a2, a3, a4, a6, a7, b, rfl, hq4⟩
      clear HC
      obtain ⟨W5, hW5⟩ : ∃ W5, w4.alloc (.cells #[.int .i64 k, .int .i64 a1, .int .i64 a2, .string a3, .string a4, .bool false, .int .i64 a6, .string a7] 39) = W5 := ⟨_, rfl⟩
      have f5 : Full W5 w4.heap.size 39 [.int .i64 k, .int .i64 a1, .int .i64 a2, .string a3, .string a4, .bool false, .int .i64 a6, .string a7] := by rw [← hW5]; exact Full.new w4 _ _
      have hb14 : Below X1.heap.size X1 w4 := hb13.trans (hq4.out.2.mono hb13.size)
      have HG : Hid _ := HF.out W5 (by rw [← hW5]; exact hb14.alloc hb14.size _)
      rw [hx] at hq4
      have HQ : Hid _ := hq4.out.1
      clear hb2 hb13 hb14 hq4 HF hx
      subst hW5
      rcases HQ.out with ⟨rfl, hc⟩ | ⟨rfl, hc⟩
      · have HC2 : Hid _ := hc
        clear hc HQ
        obtain ⟨⟨g0, k0⟩, ⟨g1, k1⟩, ⟨g2, k2⟩, ⟨g3, k3⟩, ⟨g4, k4⟩, ⟨g5, k5⟩, ⟨g6, k6⟩, ⟨g7, k7⟩⟩ := HG.out.1.cell8
        obtain ⟨⟨r0, -⟩, ⟨r1, -⟩, ⟨r2, -⟩, ⟨r3, -⟩, ⟨r4, -⟩, ⟨r5, -⟩, ⟨r6, -⟩, ⟨r7, -⟩⟩ := f5.cell8
        go_wp2
        refine bodyPost_ret (by exact ret_parse (HG.out.1.eight _ _ _ _ _ _ _ _) rfl rfl) (by rfl) ?_
        unfold PaP
        exact ⟨k, a1, a2, a3, a4, a6, a7, 0, rfl, .inl ⟨rfl, by rw [HP.out]; exact HC2.out⟩, below_eight HG.out.2.1 (Nat.le_refl _) _ _ _ _ _ _ _ _⟩
      · have HC2 : Hid _ := hc
        clear hc HQ
        obtain ⟨⟨g0, k0⟩, ⟨g1, k1⟩, ⟨g2, k2⟩, ⟨g3, k3⟩, ⟨g4, k4⟩, ⟨g5, k5⟩, ⟨g6, k6⟩, ⟨g7, k7⟩⟩ := HG.out.1.cell8
        obtain ⟨⟨r0, -⟩, ⟨r1, -⟩, ⟨r2, -⟩, ⟨r3, -⟩, ⟨r4, -⟩, ⟨r5, -⟩, ⟨r6, -⟩, ⟨r7, -⟩⟩ := f5.cell8
        go_wp2
        refine bodyPost_ret (by exact ret_parse (HG.out.1.eight _ _ _ _ _ _ _ _) rfl rfl) (by rfl) ?_
        unfold PaP
        exact ⟨0, 0, 0, ⟨#[]⟩, ⟨#[]⟩, 0, ⟨#[]⟩, 230, rfl, .inr ⟨rfl, by rw [HP.out]; exact HC2.out, rfl, rfl, rfl, rfl, rfl, rfl, rfl⟩, below_eight HG.out.2.1 (Nat.le_refl _) _ _ _ _ _ _ _ _⟩
end Go.Proofs.YtichbejmelkjeaaDoor
