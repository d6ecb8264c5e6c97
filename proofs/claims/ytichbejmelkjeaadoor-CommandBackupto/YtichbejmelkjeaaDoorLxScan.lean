import Derived.Test.YtichbejmelkjeaaDoorLxScanMath
import Derived.Deep.LoopGhost
import Derived.WalkMore
namespace Go.Proofs.YtichbejmelkjeaaDoor.Lx
open Go.RowKit

theorem info35 : (Tryd.prog.info? 89).map (fun i => (i.zero, i.size, i.bytes)) = some (some (.agg #[.int .i64 0, .int .i64 0, .int .i64 0, .string ⟨#[]⟩, .int .i64 0]), 5, 48) := by kernel_rfl

theorem tk_one (k : Nat) (x : Tk) : ∀ u ∈ tkCells k x, u.oneCell' = true := by
  intro u hu
  simp only [tkCells, List.mem_cons, List.not_mem_nil, or_false] at hu
  rcases hu with rfl | rfl | rfl | rfl | rfl <;> rfl

/-- A token is appended to the list. -/
theorem wpList_appT {w0 w : World} {ops : Array Oper} {rest : List Oper} {o : Oper} {a : Act} {Q : Exit → Act → World → Prop} (hgd : o.guard = none) (s x : Operand)
    (ho : o.op = .call { callee := .builtin .append, args := #[s, x], argTypes := #[102, 102] })
    (v : Value) (n : Nat) (l : List (Nat × Tk)) (hn : l.length = n) (hs : a.eval s = v) (hown : Hid (w.ownsRow w0.heap.size 89 5 v n (toksV l))) (hB : Hid (Below w0.heap.size w0 w)) (k : Nat) (tk : Tk) (C : Array Value) (hC : C = (tkCells k tk).toArray) (H : Nat) (hH : w.heap.size = H) (hx : a.eval x = .slice (some ⟨H, 0, none⟩) 1 1)
    (h40 : n + 1 ≤ 1073741824)
    (h : ∀ v' w', Hid (w'.ownsRow w0.heap.size 89 5 v' (n + 1) (toksV (l ++ [(k, tk)]))) → Hid (Below w0.heap.size w0 w') → Hid (∀ p : Addr, p.block < w.heap.size → some p.block ≠ v.ownBlock → w'.cell? p = w.cell? p) → wpList Tryd.prog ops Q rest (a.put o.dst v') w') : wpList Tryd.prog ops Q (o :: rest) a (w.alloc (.cells C 89)) := by
  subst hC hH
  obtain ⟨i0, hi, hz0, hz1, hz2⟩ := info_parts info35
  have hsz := hB.out.size
  obtain ⟨v', w', hr, h2, h3, _⟩ := run_append_own (P := Tryd.prog) (w.alloc (.cells (tkCells k tk).toArray 89)) w0.heap.size 102 o.type 89 i0 _ 5 48 Tryd.underlying102 hi hz0 hz1 hz2 rfl (by decide) v n (toksV l) (hown.out.alloc _) ⟨w.heap.size, 0, none⟩ 1 1 (tkCells k tk) rfl
    (World.news_of_block (heap_alloc_new w _)) (tk_one k tk) (by unfold maxLen; omega) (by omega) (by simp; omega)
  refine wpList_plain hgd fun K hK => ?_
  unfold Oper.wp execOp
  simp only [ho, resolve, invoke, builtin, Sem.run_bind, Sem.run_pure, Result.andThen_ok, List.map_toArray, List.map_cons, List.map_nil, hs, hx, hr]
  refine hK _ _ (h v' w' ?_ ?_ ?_)
  · show w'.ownsRow w0.heap.size 89 5 v' (n + 1) (toksV (l ++ [(k, tk)]))
    rw [toksV_app]
    have e : toksV [(k, tk)] = tkCells k tk := by simp [toksV]
    rw [e]
    exact h2
  · exact hB.out.trans (Below.after_alloc ((Below.refl _ _).grown h3 (by simp; omega) (own_ge hown.out)) hB.out.size)
  · intro p hp hne
    rw [h3.cell_far p (by simp; omega) hne, World.cell?_alloc_lt _ _ _ hp]

theorem own_lt {w : World} {base : Nat} {e : TypeId} {size : Nat} {v : Value} {n : Nat} {xs : List Value} (h : w.ownsRow base e size v n xs) : ∀ k, v.ownBlock = some k → k < w.heap.size := by
  intro k hk
  rcases h.2 with ⟨rfl, _⟩ | ⟨g, cap, cur, rfl, hb, hg, _⟩
  · cases hk
  · simp only [Value.ownBlock, Option.some.injEq] at hk
    subst hk
    rcases Nat.lt_or_ge g w.heap.size with hlt | hge
    · exact hlt
    · rw [Array.getElem?_eq_none hge] at hg; cases hg
theorem own_ne_new {w : World} {base : Nat} {e : TypeId} {size : Nat} {v : Value} {n : Nat} {xs : List Value} (h : w.ownsRow base e size v n xs) (B : Nat) (hB : w.heap.size ≤ B) : some B ≠ v.ownBlock := fun hh => by
  have := own_lt h B hh.symm
  omega

theorem own_base {w : World} {b b' : Nat} {e : TypeId} {size : Nat} {v : Value} {n : Nat} {xs : List Value} (h : w.ownsRow b e size v n xs) (hb : b' ≤ b) : w.ownsRow b' e size v n xs := by
  refine ⟨h.1, ?_⟩
  rcases h.2 with h | ⟨g, cap, cur, hv, hbg, rest⟩
  · exact Or.inl h
  · exact Or.inr ⟨g, cap, cur, hv, Nat.le_trans hb hbg, rest⟩

/-- What Scan answers. -/
def scanPost (w : World) (R : Scanned) (e : Ending) (w' : World) : Prop :=
  match R with
  | .inl (code, k) => e = .returned (.tuple #[.slice none 0 0, .agg #[.int .i64 (code : Int), .int .i64 (k : Int)]]) ∧ Below w.heap.size w w'
  | .inr l => ∃ v, e = .returned (.tuple #[v, .agg #[.int .i64 0, .int .i64 0]]) ∧ w'.ownsRow w.heap.size 89 5 v l.length (toksV l) ∧ Below w.heap.size w w'

/-- The two cells of a problem that is being made. -/
structure Two (w : World) (B : Nat) (a b : Value) : Prop where
  c0 : w.cell? ⟨B, 0, none⟩ = some a
  c1 : w.cell? ⟨B, 1, none⟩ = some b
  f : ∀ j, j < 2 → w.frozen? ⟨B, j, none⟩ = false
theorem two_new (w : World) (a b : Value) (t : TypeId) : Two (w.alloc (.cells #[a, b] t)) w.heap.size a b := by
  have h := heap_alloc_new w (.cells #[a, b] t)
  refine ⟨?_, ?_, ?_⟩
  all_goals first | (simp only [World.cell?, h]; rfl) | skip
  intro j hj
  simp only [World.frozen?, h]
  simp
theorem Two.below {w w' : World} {B C : Nat} {a b : Value} (h : Two w B a b) (hb : Below C w w') (hB : B < C) : Two w' B a b :=
  ⟨(hb.cell hB).trans h.c0, (hb.cell hB).trans h.c1, fun j hj => (hb.frozen hB).trans (h.f j hj)⟩
theorem two_set {w : World} {B : Nat} {a b : Value} (h : Two w B a b) (y0 y1 : Value) : Two ((w.setCell ⟨B, 0, none⟩ y0).setCell ⟨B, 1, none⟩ y1) B y0 y1 := by
  have ot : ∀ (W : World) (i j : Nat) (y : Value), i ≠ j → (W.setCell ⟨B, j, none⟩ y).cell? ⟨B, i, none⟩ = W.cell? ⟨B, i, none⟩ := fun W i j y hij => World.cell?_setCell_other _ _ _ _ (fun e => hij (by cases e; rfl))
  refine ⟨?_, ?_, ?_⟩
  · rw [ot _ 0 1 _ (by omega)]
    exact World.cell?_setCell_same' _ _ _ (by rw [h.c0]; rfl)
  · exact World.cell?_setCell_same' _ _ _ (by rw [ot _ 1 0 _ (by omega), h.c1]; rfl)
  · intro j hj
    simp only [World.frozen?_setCell]
    exact h.f j hj
theorem below_set2 {w0 w : World} {B : Nat} (h : Below w0.heap.size w0 w) (hB : w0.heap.size ≤ B) (y0 y1 : Value) : Below w0.heap.size w0 ((w.setCell ⟨B, 0, none⟩ y0).setCell ⟨B, 1, none⟩ y1) :=
  (h.setCell (p := ⟨B, 0, none⟩) hB _).setCell (p := ⟨B, 1, none⟩) hB _
theorem ret2 {w : World} {B : Nat} {a b x : Value} {tm : Array Value} (hf : Two w B a b) (h3 : tm[3]?.getD undef = .pointer (some ⟨B, 0, none⟩)) (h2 : tm[2]?.getD undef = x) :
    (results Tryd.f44 tm).run Tryd.prog w = .ok (.tuple #[x, .agg #[a, b]]) w := by
  obtain ⟨c0, c1, _⟩ := hf
  simp [results, Tryd.results44, go_sem, h3, h2, c0, c1]

theorem blank_not35 : blankB 35 = false := by decide
set_option maxRecDepth 100000 in
set_option maxHeartbeats 4000000 in
theorem scan_big (t : ByteArray) (w : World) (hk : 4194304 < t.size) :
    Calls Tryd.prog 44 #[.string t] w (scanPost w (.inl (2, 4194304))) := by
  have H2 : Hid (Two (w.alloc (.cells #[.int .i64 0, .int .i64 0] 104)) w.heap.size (.int .i64 0) (.int .i64 0)) := two_new w _ _ 104
  have HB0 : Hid (Below w.heap.size w (w.alloc (.cells #[.int .i64 0, .int .i64 0] 104))) := (Below.refl _ w).alloc (Nat.le_refl _) _
  have h1 : (4194304 : Int) < (t.size : Int) := by omega
  unfold scanPost
  simp only
  go_enter Tryd.func44, Tryd.ntmps44
  go_wp2
  go_step3
  go_wp2
  try rw [Exit.noGoto_ret]
  exact bodyPost_ret (ret2 (two_new w _ _ 104) rfl rfl) rfl ⟨rfl, (Below.refl _ w).alloc (Nat.le_refl _) _⟩

theorem own_stays {w w' : World} {base : Nat} {e : TypeId} {size : Nat} {v : Value} {n : Nat} {xs : List Value} (h : w.ownsRow base e size v n xs) (hb : Below w.heap.size w w') : w'.ownsRow base e size v n xs :=
  h.kept ⟨hb.os, hb.tape, hb.output, hb.size, fun k hk _ => hb.block k hk⟩ (row := none) (by cases hv : v.ownBlock with | none => exact Or.inl rfl | some k => exact Or.inr (by simp))

set_option maxRecDepth 100000 in
set_option maxHeartbeats 8000000 in
theorem scan_any (t : ByteArray) (w : World) (ht : t.size ≤ 4194304) (hT : Tabs w) :
    Calls Tryd.prog 44 #[.string t] w (scanPost w (scanS (t.size + 1) 0 t.data.toList)) := by
  have H2 : Hid (Two (w.alloc (.cells #[.int .i64 0, .int .i64 0] 104)) w.heap.size (.int .i64 0) (.int .i64 0)) := two_new w _ _ 104
  have HB0 : Hid (Below w.heap.size w (w.alloc (.cells #[.int .i64 0, .int .i64 0] 104))) := (Below.refl _ w).alloc (Nat.le_refl _) _
  have HT : Hid (Tabs (w.alloc (.cells #[.int .i64 0, .int .i64 0] 104))) := hT.next HB0.out
  clear hT
  have h1 : ¬ (4194304 : Int) < (t.size : Int) := by omega
  obtain ⟨R, hR⟩ : ∃ R, scanS (t.size + 1) 0 t.data.toList = R := ⟨_, rfl⟩
  rw [hR]
  have HR0 : Hid (scanS (t.size + 1) 0 t.data.toList = R) := hR
  clear hR
  go_enter Tryd.func44, Tryd.ntmps44
  go_wp2
  go_step3
  go_wp2
  go_step3
  go_wp2
  generalize hw1 : w.alloc (.cells #[.int .i64 0, .int .i64 0] 104) = w1 at *
  clear hw1
  have hb1 : w.heap.size < w1.heap.size := World.block_lt_of_cell? w1 _ H2.out.c0
  go_loopg [4, 5] (t.size + 1) (fun g v i wr => ∃ (j : Nat) (acc : List (Nat × Tk)), j ≤ t.size ∧ i = .int .i64 (j : Int) ∧ t.size - j < g ∧ acc.length ≤ j ∧ Hid (comb acc (scanS g j (t.data.toList.drop j)) = R) ∧ Hid (wr.ownsRow w1.heap.size 89 5 v acc.length (toksV acc)) ∧ Hid (Below w1.heap.size w1 wr))
  case atStart =>
    refine ⟨0, [], by omega, rfl, by omega, by simp, ?_, World.ownsRow_nil _ _ _ _, Below.refl _ _⟩
    show comb [] (scanS (t.size + 1) 0 (t.data.toList.drop 0)) = R
    rw [List.drop_zero, HR0.out]
    cases R <;> simp [comb]
  case round =>
    clear HR0
    obtain ⟨j0, acc0, hj0, rfl, hf0, ha0, hx0, ho0, hB0⟩ := hrel
    cases gk with
    | zero => omega
    | succ G =>
    go_wp2
    go_loopg [4, 5] (G + 1) (fun g v i wr => g ≤ G + 1 ∧ ∃ (j : Nat) (acc : List (Nat × Tk)), j ≤ t.size ∧ i = .int .i64 (j : Int) ∧ t.size - j < g ∧ acc.length ≤ j ∧ Hid (comb acc (scanS g j (t.data.toList.drop j)) = R) ∧ Hid (wr.ownsRow w1.heap.size 89 5 v acc.length (toksV acc)) ∧ Hid (Below w1.heap.size w1 wr))
    case atStart => exact ⟨Nat.le_refl _, j0, acc0, hj0, rfl, hf0, ha0, hx0, ho0, hB0⟩
    case round =>
      clear hx0 ho0 hB0 hj0 hf0 ha0
      obtain ⟨hgG, j, acc, hj, rfl, hf, ha, hx, ho, hB⟩ := hrel
      cases gk with
      | zero => omega
      | succ g =>
      have HF : Hid (Two wr w.heap.size (.int .i64 0) (.int .i64 0)) := H2.out.below hB.out hb1
      have HBw : Hid (Below w.heap.size w wr) := HB0.out.trans (hB.out.mono (by omega))
      have hj0 : (0 : Int) ≤ (j : Int) := by omega
      by_cases hend : j = t.size
      · subst hend
        have hR : R = .inr (acc ++ [(t.size, ⟨0, 0, [], 0⟩)]) := by
          rw [← hx.out, List.drop_eq_nil_of_le (by rw [← Lib.size_eq]; omega), scan_end]
          rfl
        subst hR
        clear hx
        go_wp2_with (first
          | (at_builtin; refine wpList_appT (w0 := w1) (by rfl) _ _ (by rfl) _ acc.length acc rfl (by rfl) ho hB t.size ⟨0, 0, [], 0⟩ _ (by simp [tkCells]) _ rfl (by rfl) (by omega) ?_; intro v2 w2 ho2 hb2 _; obtain ⟨c0, c1, f⟩ := H2.out.below hb2.out hb1; have f0 := f 0 (by omega); have f1 := f 1 (by omega); clear f)
          | go_in)
        try rw [Exit.noGoto_ret]
        have F2 : Two w2 w.heap.size (.int .i64 0) (.int .i64 0) := H2.out.below hb2.out hb1
        refine bodyPost_ret (ret2 (two_set F2 _ _) rfl rfl) rfl ?_
        refine ⟨v2, rfl, ?_, below_set2 (HB0.out.trans (hb2.out.mono (by omega))) (Nat.le_refl _) _ _⟩
        have ho3 : w2.ownsRow w1.heap.size 89 5 v2 (acc ++ [(t.size, (⟨0, 0, [], 0⟩ : Tk))]).length (toksV (acc ++ [(t.size, ⟨0, 0, [], 0⟩)])) := by rw [List.length_append]; exact ho2.out
        exact own_base (ownsRow_setCell_below (ownsRow_setCell_below ho3 (by exact hb1) _) (by exact hb1) _) (by omega)
      · have hlt : j < t.size := by omega
        have hjt : (j : Int) < (t.size : Int) := by omega
        have hjn : ((j : Int) == (t.size : Int)) = false := by rw [beq_eq_false_iff_ne]; omega
        obtain ⟨c, hc⟩ : ∃ c, t[j]'hlt = c := ⟨_, rfl⟩
        have hdr := drop_at t j hlt
        rw [hc] at hdr
        have HI : Hid (∀ (w : World), Calls Tryd.prog 51 #[.int .u8 (c.toNat : Int)] w fun e w' => e = .returned (.bool (blankB c)) ∧ w = w') := fun w => isBlank_any c w
        by_cases hb : blankB c = true
        · rw [hb] at HI
          have HX : Hid (comb acc (scanS g (j + 1) (t.data.toList.drop (j + 1))) = R) := by
            show comb acc (scanS g (j + 1) (t.data.toList.drop (j + 1))) = R
            rw [← hx.out, hdr, scan_blank g j c _ hb]
          clear hx hdr hb
          go_wp2_with (first
            | (go_at_call 51; refine (HI.out _).mono ?_; rintro e w2 ⟨rfl, hw2⟩; subst hw2)
            | go_in)
          go_roundg g
          case measure => omega
          case rel => exact ⟨by omega, j + 1, acc, by omega, by go_num, by omega, by omega, HX, ho, hB⟩
        · have hbf : blankB c = false := by simpa using hb
          rw [hbf] at HI
          by_cases h35 : c = 35
          · subst h35
            have hcp := cmt_pos (t.data.toList.drop (j + 1))
            have hcl := cmt_le (t.data.toList.drop j)
            rw [← hdr] at hcp
            rw [List.length_drop, ← Lib.size_eq] at hcl
            have HX : Hid (comb acc (scanS g (j + cmtS (t.data.toList.drop j)) (t.data.toList.drop (j + cmtS (t.data.toList.drop j)))) = R) := by
              show comb acc (scanS g (j + cmtS (t.data.toList.drop j)) (t.data.toList.drop (j + cmtS (t.data.toList.drop j)))) = R
              rw [← hx.out, ← List.drop_drop]
              conv => rhs; rw [hdr, scan_cmt]
              rw [← hdr]
            have HC : Hid (Calls Tryd.prog 52 #[.string t, .int .i64 (j : Int)] wr fun e w' => e = .returned (.int .i64 ((j + cmtS (t.data.toList.drop j) : Nat) : Int)) ∧ wr = w') := comment_any t j wr (by omega) (by omega)
            clear hx hdr hb hbf
            generalize cmtS (t.data.toList.drop j) = m at hcp hcl HX HC
            go_wp2_with (first
              | (go_at_call 51; refine (HI.out _).mono ?_; rintro e w2 ⟨rfl, hw2⟩; subst hw2)
              | (go_at_call 52; refine HC.out.mono ?_; rintro e w2 ⟨rfl, hw2⟩; subst hw2)
              | go_in)
            go_roundg g
            case measure => omega
            case rel => exact ⟨by omega, j + m, acc, by omega, by go_num, by omega, by omega, HX, ho, hB⟩
          · have b35 := u8ne (n := 35) (by omega) h35
            have HC0 := tokAt_any t j wr (by omega) hlt (HT.out.below hB.out HT.out.size)
            cases hk : tokS (t.data.toList.drop j) with
            | inl e =>
              have hke := hk
              rw [hk] at HC0
              have HC : Hid (Calls Tryd.prog 53 #[.string t, .int .i64 (j : Int)] wr fun x w' => x = .returned (.tuple #[.agg #[.int .i64 0, .int .i64 0, .int .i64 0, .string ⟨#[]⟩, .int .i64 0], .int .i64 (e : Int)]) ∧ Below wr.heap.size wr w') := HC0
              have hR : R = .inl (e, j) := by
                rw [← hx.out, hdr, scan_bad g j c _ e hbf h35 (by rw [← hdr]; exact hk)]
                rfl
              subst hR
              clear hx hdr hb hbf hk HC0 h35
              have he0 : ((e : Int) == 0) = false := by rw [beq_eq_false_iff_ne]; have := tok_err hke; omega
              go_wp2_with (first
                | (go_at_call 51; refine (HI.out _).mono ?_; rintro e w2 ⟨rfl, hw2⟩; subst hw2)
                | (go_at_call 53; refine HC.out.mono ?_; rintro x w2 ⟨rfl, hb2⟩; have F3 : Hid (Two (w2.alloc (.cells #[.int .i64 0, .int .i64 0, .int .i64 0, .string ⟨#[]⟩, .int .i64 0] 89)) w.heap.size _ _) := (HF.out.below hb2 (World.block_lt_of_cell? wr _ HF.out.c0)).below ((Below.refl w2.heap.size w2).alloc (Nat.le_refl _) _) (Nat.lt_of_lt_of_le (World.block_lt_of_cell? wr _ HF.out.c0) hb2.size); obtain ⟨c0, c1, f⟩ := F3.out; have f0 := f 0 (by omega); have f1 := f 1 (by omega); clear f)
                | go_in)
              try rw [Exit.noGoto_ret]
              exact bodyPost_ret (ret2 (two_set F3.out _ _) rfl rfl) rfl ⟨rfl, below_set2 ((HBw.out.trans (hb2.mono HBw.out.size)).alloc (Nat.le_trans HBw.out.size hb2.size) _) (Nat.le_refl _) _ _⟩
            | inr x =>
              rw [hk] at HC0
              have HC : Hid (Calls Tryd.prog 53 #[.string t, .int .i64 (j : Int)] wr fun y w' => y = .returned (.tuple #[.agg #[.int .i64 (x.kind : Int), .int .i64 (j : Int), .int .i64 ((j : Int) + (x.len : Int)), .string ⟨x.text.toArray⟩, .int .i64 x.int], .int .i64 0]) ∧ Below wr.heap.size wr w') := HC0
              obtain ⟨hl1, hl2⟩ := tok_len hk
              rw [List.length_drop, ← Lib.size_eq] at hl2
              have HX : Hid (comb (acc ++ [(j, x)]) (scanS g (j + x.len) (t.data.toList.drop (j + x.len))) = R) := by
                show comb (acc ++ [(j, x)]) (scanS g (j + x.len) (t.data.toList.drop (j + x.len))) = R
                rw [← hx.out, ← List.drop_drop]
                conv => rhs; rw [hdr, scan_tok g j c _ x acc hbf h35 (by rw [← hdr]; exact hk)]
                rw [← hdr]
              clear hx hdr hb hbf hk HC0 h35
              go_wp2_with (first
                | (go_at_call 51; refine (HI.out _).mono ?_; rintro e w2 ⟨rfl, hw2⟩; subst hw2)
                | (go_at_call 53; refine HC.out.mono ?_; rintro e w2 ⟨rfl, hb2⟩)
                | (at_builtin; refine wpList_appT (w0 := w1) (w := w2.alloc (.cells #[.int .i64 (x.kind : Int), .int .i64 (j : Int), .int .i64 ((j : Int) + (x.len : Int)), .string ⟨x.text.toArray⟩, .int .i64 x.int] 89)) (by rfl) _ _ (by rfl) _ acc.length acc rfl (by rfl) ((own_stays ho.out hb2).alloc _) ((hB.out.trans (hb2.mono hB.out.size)).alloc (Nat.le_trans hB.out.size hb2.size) _) j x _ (by rfl) (w2.heap.size + 1) (by simp) (by rfl) (by omega) ?_; intro v3 w3 ho3 hb3 hfar; have hce := (hfar.out ⟨w2.heap.size, 2, none⟩ (by simp) (own_ne_new ho.out _ hb2.size)).trans (five_new w2 _ _ _ _ _ 89).c2)
                | go_in)
              go_roundg g
              case measure => omega
              case rel => exact ⟨j + x.len, acc ++ [(j, x)], by omega, by go_num, by omega, by simp; omega, HX, by rw [List.length_append]; exact ho3, hb3⟩
end Go.Proofs.YtichbejmelkjeaaDoor.Lx
