import Derived.Deep.QuietTactic
import Derived.BigQuiet
import Derived.Laws.IdiomStrings
import Derived.Lib.BufferRead
import Derived.Test.YtgncoeihlfcaiaaJoinMath
namespace Go.Proofs.Ytgncoeihlfcaiaa
open Go.RowKit Go.Shelf

theorem info5 : (Try.prog.info? 5).map (fun i => (i.zero, i.size, i.bytes)) = some (some (.int .u8 0), 1, 1) := by kernel_rfl

/-- What has been joined when k lines are over. -/
def Jk (s : ByteArray) (k : Nat) : List UInt8 := jn ((Src.lns s.data.toList).take k)

theorem Jk_le (s : ByteArray) (k : Nat) : (Jk s k).length ≤ s.size := by
  have h := (jn_prefix (Src.lns s.data.toList) k).length_le
  rw [jn_lns, ← Lib.size_eq] at h
  exact h

theorem own_below {w w1 : World} {base : Nat} {v : Value} {n : Nat} {xs : List Value} (h : w.ownsRow base 5 1 v n xs) (hb : Below w.heap.size w w1) : w1.ownsRow base 5 1 v n xs :=
  h.kept (grown_of_below hb none) (by cases hv : v.ownBlock with | none => exact Or.inl rfl | some k => exact Or.inr (by simp))

theorem Jk_take (s : ByteArray) (k : Nat) : (⟨(Jk s k).toArray⟩ : ByteArray) = s.extract 0 (Jk s k).length := by
  have h := List.prefix_iff_eq_take.1 (jn_prefix (Src.lns s.data.toList) k)
  rw [jn_lns] at h
  rw [Lib.extract_eq, List.drop_zero, Nat.sub_zero]
  exact congrArg (fun l : List UInt8 => (⟨l.toArray⟩ : ByteArray)) h

theorem Jk_all (s : ByteArray) (k : Nat) (h : (Src.lns s.data.toList).length ≤ k) : (Jk s k).length = s.size := by
  unfold Jk
  rw [List.take_of_length_le h, jn_lns, ← Lib.size_eq]

/-- 'string(s)', s what has been joined. -/
theorem conv_own {w : World} {base : Nat} {v : Value} {l : List UInt8} (h : w.ownsRow base 5 1 v l.length (bc l)) (nq : Nat) : (convert 34 9 v).run Try.prog (w.drewN nq) = .ok (.string ⟨l.toArray⟩) (w.drewN nq) := by
  rcases h.2 with ⟨rfl, h0⟩ | ⟨g, cap, cur, rfl, _, _⟩
  · have e : l = [] := List.length_eq_zero_iff.1 h0
    subst e
    exact Lib.run_convert_nil_bytes _ 34 9 5 0 Try.underlying34 Try.underlying5 Try.underlying9
  · refine run_convert_bytes_back (P := Try.prog) (w.drewN nq) 34 9 5 ⟨g, 0, none⟩ cap l Try.underlying34 Try.underlying5 Try.underlying9 (fun j hj => ?_)
    have hc := h.cells (g := g) rfl j (.int .u8 (l[j].toNat : Int)) (by simp [bc, hj])
    exact hc

theorem own_cast {w : World} {base : Nat} {v : Value} {n n' : Nat} {xs xs' : List Value} (h : w.ownsRow base 5 1 v n xs) (hn : n = n') (hx : xs = xs') : w.ownsRow base 5 1 v n' xs' := by subst hn hx; exact h

theorem one_new (W : World) (v : Value) (t : TypeId) : ∀ j u, ([v] : List Value)[j]? = some u → (W.alloc (.cells #[v] t)).cell? ((⟨W.heap.size, 0, none⟩ : Addr).add j) = some u := by
  intro j u hj
  match j, hj with
  | 0, hj =>
    simp only [List.getElem?_cons_zero, Option.some.injEq] at hj
    subst hj
    exact (new_cell W v t).1

theorem own_grown {w w' : World} {a : World} {base : Nat} {v : Value} {n : Nat} {xs : List Value} (h : w.ownsRow base 5 1 v n xs) (hB : Below base a w) (hb : base ≤ w.heap.size) (hg : w.grownBy w' v.ownBlock) : Below base a w' :=
  hB.grown hg hb (fun k e => (h.lt k e).1)

set_option maxRecDepth 100000 in
set_option maxHeartbeats 4000000 in
theorem joins_walk (s : ByteArray) (hs : s.size ≤ 140737488355328) (w : World) :
    Calls Try.prog 5 #[.string s] w fun e w' => e = .returned (.bool true) ∧ Below w.heap.size w w' := by
  obtain ⟨i0, hi, hz0, hz1, hz2⟩ := info_parts info5
  obtain ⟨L, HL⟩ : ∃ L : Nat, Hid ((Src.lns s.data.toList).length = L) := ⟨_, rfl⟩
  have HLI : Hid (((Src.pl s.data.toList).1 : Int) = (L : Int)) := by
    have := Src.lns_len s.data.toList
    have h2 := HL.out
    show ((Src.pl s.data.toList).1 : Int) = (L : Int)
    omega
  have hL1 : 1 ≤ L := by
    have h := Src.pl_le s.data.toList
    have := HLI.out
    omega
  have hL2 : L ≤ s.size + 1 := by
    have h := Src.pl_le s.data.toList
    rw [← Lib.size_eq] at h
    have := HLI.out
    omega
  go_enter Try.func5, Try.ntmps5
  go_wp2_with (go_at_call 11; refine (lines_at s L _ hs HLI).mono ?_; rintro e w1 ⟨rfl, hb⟩)
  go_loopw [3, 5] (fun v i wr => ∃ k : Nat, k ≤ L ∧ k ≤ 2000 ∧ i = .int .i64 ((k + 1 : Nat) : Int) ∧ wr.ownsRow w.heap.size 5 1 v (Jk s k).length (bc (Jk s k)) ∧ Below w.heap.size w wr) (fun _ i _ => 2001 - (intOf i).toNat)
  case atStart => exact ⟨0, by omega, by omega, rfl, World.ownsRow_nil _ _ _ _, hb⟩
  case round =>
    clear hb
    obtain ⟨k, hk1, hk2, rfl, hown, hB⟩ := hrel
    have hJ := Jk_le s k
    by_cases hlt : k < L ∧ k < 2000
    · obtain ⟨hlt1, hlt2⟩ := hlt
      have hkl : k < (Src.lns s.data.toList).length := by rw [HL.out]; exact hlt1
      obtain ⟨b, hb0⟩ : ∃ b : ByteArray, b = ⟨((Src.lns s.data.toList)[k]).toArray⟩ := ⟨_, rfl⟩
      have HB : Hid (b = ⟨((Src.lns s.data.toList)[k]).toArray⟩) := hb0
      have HBL : Hid (b.data.toList = (Src.lns s.data.toList)[k]) := by rw [hb0]; exact (rfl : _ = _)
      clear hb0
      have hclean : ∀ m (h : m < b.size), ((b[m].toNat : Int) == 10) = false := by
        intro m h
        refine byte_ten (fun e => ?_)
        have hm : b[m] ∈ (Src.lns s.data.toList)[k] := by
          rw [← HBL.out]
          exact List.getElem_mem (by rw [← Lib.size_eq]; exact h)
        exact lns_clean s.data.toList _ (List.getElem_mem hkl) _ hm e
      have HC : Hid (∀ m (h : m < b.size), ((b[m].toNat : Int) == 10) = false) := hclean
      clear hclean
      have hJ1 := Jk_le s (k + 1)
      have HJ : Hid (Jk s (k + 1) = if k = 0 then b.data.toList else (Jk s k ++ [10]) ++ b.data.toList) := by
        show Jk s (k + 1) = _
        rw [HBL.out]
        by_cases h0 : k = 0
        · subst h0
          exact jn_one hkl
        · rw [if_neg h0]
          exact jn_succ (Nat.pos_of_ne_zero h0) hkl
      have hbs : (if k = 0 then 0 else (Jk s k).length + 1) + b.size ≤ s.size := by
        rw [HJ.out] at hJ1
        by_cases h0 : k = 0
        · rw [if_pos h0] at hJ1 ⊢
          rw [← Lib.size_eq] at hJ1
          omega
        · rw [if_neg h0] at hJ1 ⊢
          rw [List.length_append, List.length_append, ← Lib.size_eq] at hJ1
          exact hJ1
      have HBS : Hid ((if k = 0 then 0 else (Jk s k).length + 1) + b.size ≤ s.size) := hbs
      have hbs1 : b.size ≤ s.size := by omega
      clear hbs hJ1
      have HN : Hid ((k : Int) + 1 = (k : Int) + 1) := rfl
      go_wp2_with (go_at_call 8; refine (line_in s k b _ _ hs hkl HB HN).mono ?_; rintro e w2 ⟨rfl, hb2⟩)
      go_loop [8] (fun j => ∃ m : Nat, m ≤ b.size ∧ j = .int .i64 (m : Int)) (fun j => b.size - (intOf j).toNat)
      case atStart => exact ⟨0, Nat.zero_le _, rfl⟩
      case round =>
        obtain ⟨m, hm, rfl⟩ := hrel
        by_cases hmb : m < b.size
        · have b1 := HC.out m hmb
          go_wp2
          go_round
          case rel => exact ⟨m + 1, by omega, by go_num⟩
          case measure => simp [intOf]; omega
        · have hown2 := own_below hown hb2
          have B2 : Below w.heap.size w w2 := hB.trans (hb2.mono hB.size)
          have hz := B2.size
          clear hown hb2 HC HB
          by_cases hk0 : k = 0
          · subst hk0
            have hJ0 : (Jk s 0).length = 0 := rfl
            go_wp2_with (at_builtin; refine Lib.wpList_append_own_string _ rfl (.tmp 56) (.tmp 57) 34 9 rfl w.heap.size 5 i0 Try.underlying34 Try.underlying9 hi hz0 hz1 hz2 _ _ _ rfl hown2 b rfl (by unfold maxLen; omega) (by omega) hz ?_; intro v' w3 hown3 hgrow3 _)
            have B3 : Below w.heap.size w w3 := own_grown hown2 B2 hz hgrow3
            have e : Jk s (0 + 1) = b.data.toList := HJ.out
            have hown4 : w3.ownsRow w.heap.size 5 1 v' (Jk s 1).length (bc (Jk s 1)) := own_cast hown3 (by rw [show Jk s 1 = b.data.toList from e, ← Lib.size_eq, hJ0, Nat.zero_add]) (by rw [show Jk s 1 = b.data.toList from e]; rfl)
            exact ⟨⟨1, by omega, by omega, rfl, hown4, B3⟩, by simp [intOf]⟩
          · have hpos : 0 < k := Nat.pos_of_ne_zero hk0
            have hbs2 : (Jk s k).length + 1 + b.size ≤ s.size := by have h := HBS.out; rw [if_neg hk0] at h; exact h
            have HJ2 : Hid (Jk s (k + 1) = (Jk s k ++ [10]) ++ b.data.toList) := by have h := HJ.out; rw [if_neg hk0] at h; exact h
            clear hk0
            have hz' : w.heap.size ≤ (w2.alloc (.cells #[.int .u8 10] 5)).heap.size := by simp; omega
            have n1 := one_new w2 (.int .u8 10) 5
            have N1 : Hid (∀ j u, ([.int .u8 10] : List Value)[j]? = some u → (w2.alloc (.cells #[.int .u8 10] 5)).cell? ((⟨w2.heap.size, 0, none⟩ : Addr).add j) = some u) := n1
            clear n1
            go_wp2_with (first
              | (at_builtin; refine wpList_append_own _ rfl (.tmp 53) (.tmp 54) 34 rfl w.heap.size 5 i0 (.int .u8 0) 1 1 Try.underlying34 hi hz0 hz1 hz2 rfl (by decide) _ _ _ rfl (hown2.alloc _) ⟨w2.heap.size, 0, none⟩ 1 1 [.int .u8 10] rfl rfl N1.out (by intro u hu; simp at hu; subst hu; rfl) (by unfold maxLen; omega) (by omega) hz' ?_; intro v3 w3 hown3 hgrow3 _; have B3 : Below w.heap.size w w3 := own_grown (hown2.alloc _) (B2.alloc B2.size _) hz' hgrow3)
              | (at_builtin; refine Lib.wpList_append_own_string _ rfl (.tmp 56) (.tmp 57) 34 9 rfl w.heap.size 5 i0 Try.underlying34 Try.underlying9 hi hz0 hz1 hz2 _ _ _ rfl hown3 b rfl (by unfold maxLen; omega) (by omega) B3.size ?_; intro v4 w4 hown4 hgrow4 _; have B4 : Below w.heap.size w w4 := own_grown hown3 B3 B3.size hgrow4))
            have hown5 : w4.ownsRow w.heap.size 5 1 v4 (Jk s (k + 1)).length (bc (Jk s (k + 1))) := own_cast hown4 (by rw [HJ2.out, List.length_append, List.length_append, ← Lib.size_eq]; rfl) (by rw [HJ2.out, bc_append, bc_append]; rfl)
            exact ⟨⟨k + 1, by omega, by omega, by go_num, hown5, B4⟩, by simp [intOf]; omega⟩
    · have hfin : (k = L ∧ (Jk s k).length = s.size) ∨ (k = 2000 ∧ 2000 < L) := by
        by_cases h : k = L
        · exact Or.inl ⟨h, Jk_all s k (by rw [HL.out]; omega)⟩
        · exact Or.inr ⟨by omega, by omega⟩
      have hout : (1 : Int) + (Src.lns s.data.toList).length ≤ (L : Int) + 1 := by rw [HL.out]; omega
      have HO : Hid ((L : Int) + 1 < 1 ∨ (1 : Int) + (Src.lns s.data.toList).length ≤ (L : Int) + 1) := Or.inr hout
      clear hlt hout
      have HT := Jk_take s k
      have HT' : Hid ((⟨(Jk s k).toArray⟩ : ByteArray) = s.extract 0 (Jk s k).length) := HT
      clear HT
      rcases hfin with ⟨rfl, hq⟩ | ⟨rfl, hq⟩
      · go_wp2_with fail
        refine (line_out s _ _ hs HO.out).mono ?_
        rintro e w2 ⟨rfl, hb2⟩
        have hown2 := own_below hown hb2
        have B2 : Below w.heap.size w w2 := hB.trans (hb2.mono hB.size)
        clear hown hb2 hB
        go_wp2_with fail
        refine (line_out s _ _ hs (Or.inl (by omega))).mono ?_
        rintro e w3 ⟨rfl, hb3⟩
        have hown3 := own_below hown2 hb3
        have B3 : Below w.heap.size w w3 := B2.trans (hb3.mono B2.size)
        clear hown2 hb3 B2
        have hcv := conv_own hown3
        rw [HT'.out] at hcv
        generalize (Jk s k).length = q at *
        subst hq
        rcases hown3.2 with ⟨rfl, h0⟩ | ⟨g, cap, cur, rfl, _, _⟩
        all_goals
          clear hown3
          go_wp2
          go_quiet (fail)
          go_wp2
          go_ret
          exact ⟨rfl, B3.trans ⟨rfl, rfl, rfl, Nat.le_refl _, fun _ _ => rfl⟩⟩
      · go_wp2_with fail
        refine (line_out s _ _ hs HO.out).mono ?_
        rintro e w2 ⟨rfl, hb2⟩
        have hown2 := own_below hown hb2
        have B2 : Below w.heap.size w w2 := hB.trans (hb2.mono hB.size)
        clear hown hb2 hB
        go_wp2_with fail
        refine (line_out s _ _ hs (Or.inl (by omega))).mono ?_
        rintro e w3 ⟨rfl, hb3⟩
        have hown3 := own_below hown2 hb3
        have B3 : Below w.heap.size w w3 := B2.trans (hb3.mono B2.size)
        clear hown2 hb3 B2
        have hcv := conv_own hown3
        rw [HT'.out] at hcv
        generalize (Jk s 2000).length = q at *
        rcases hown3.2 with ⟨rfl, h0⟩ | ⟨g, cap, cur, rfl, _, _⟩
        all_goals
          clear hown3
          go_wp2
          go_quiet (fail)
          go_wp2
          go_ret
          exact ⟨rfl, B3.trans ⟨rfl, rfl, rfl, Nat.le_refl _, fun _ _ => rfl⟩⟩

end Go.Proofs.Ytgncoeihlfcaiaa
