import Derived.Deep.LoopGhost
import Derived.WalkMore
import Derived.Lib.LaidTab
import Derived.Laws.Strings3
import Derived.Lib.Walk
import Derived.Test.YtichbejmelkjeaaGreatDoorU17
import Derived.Test.YtichbejmelkjeaaGreatDoorU02
import Derived.Test.YtichbejmelkjeaaGreatDoorU13
namespace Go.Proofs.YtichbejmelkjeaaGreatDoor.Lx
open Go.RowKit

theorem info35 : (Tryz.prog.info? 113).map (fun i => (i.zero, i.size, i.bytes)) = some (some (.agg #[.int .i64 0, .int .i64 0, .int .i64 0, .string ⟨#[]⟩, .int .i64 0]), 5, 48) := by kernel_rfl

theorem tk_one (k : Nat) (x : Tk) : ∀ u ∈ tkCells k x, u.oneCell' = true := by
  intro u hu
  simp only [tkCells, List.mem_cons, List.not_mem_nil, or_false] at hu
  rcases hu with rfl | rfl | rfl | rfl | rfl <;> rfl

/-- A token is appended to the list. -/
theorem wpList_appT {w0 w : World} {ops : Array Oper} {rest : List Oper} {o : Oper} {a : Act} {Q : Exit → Act → World → Prop} (hgd : o.guard = none) (s x : Operand)
    (ho : o.op = .call { callee := .builtin .append, args := #[s, x], argTypes := #[124, 124] })
    (v : Value) (n : Nat) (l : List (Nat × Tk)) (hn : l.length = n) (hs : a.eval s = v) (hown : Hid (w.ownsRow w0.heap.size 113 5 v n (toksV l))) (hB : Hid (Below w0.heap.size w0 w)) (k : Nat) (tk : Tk) (C : Array Value) (hC : C = (tkCells k tk).toArray) (H : Nat) (hH : w.heap.size = H) (hx : a.eval x = .slice (some ⟨H, 0, none⟩) 1 1)
    (h40 : n + 1 ≤ 1073741824)
    (h : ∀ v' w', Hid (w'.ownsRow w0.heap.size 113 5 v' (n + 1) (toksV (l ++ [(k, tk)]))) → Hid (Below w0.heap.size w0 w') → Hid (∀ p : Addr, p.block < w.heap.size → some p.block ≠ v.ownBlock → w'.cell? p = w.cell? p) → wpList Tryz.prog ops Q rest (a.put o.dst v') w') : wpList Tryz.prog ops Q (o :: rest) a (w.alloc (.cells C 113)) := by
  subst hC hH
  obtain ⟨i0, hi, hz0, hz1, hz2⟩ := info_parts info35
  have hsz := hB.out.size
  obtain ⟨v', w', hr, h2, h3, _⟩ := run_append_own (P := Tryz.prog) (w.alloc (.cells (tkCells k tk).toArray 113)) w0.heap.size 124 o.type 113 i0 _ 5 48 Tryz.underlying124 hi hz0 hz1 hz2 rfl (by decide) v n (toksV l) (hown.out.alloc _) ⟨w.heap.size, 0, none⟩ 1 1 (tkCells k tk) rfl
    (World.news_of_block (heap_alloc_new w _)) (tk_one k tk) (by unfold maxLen; omega) (by omega) (by simp; omega)
  refine wpList_plain hgd fun K hK => ?_
  unfold Oper.wp execOp
  simp only [ho, resolve, invoke, builtin, Sem.run_bind, Sem.run_pure, Result.andThen_ok, List.map_toArray, List.map_cons, List.map_nil, hs, hx, hr]
  refine hK _ _ (h v' w' ?_ ?_ ?_)
  · show w'.ownsRow w0.heap.size 113 5 v' (n + 1) (toksV (l ++ [(k, tk)]))
    rw [toksV_app]
    have e : toksV [(k, tk)] = tkCells k tk := by simp [toksV]
    rw [e]
    exact h2
  · exact hB.out.trans (Below.after_alloc ((Below.refl _ _).grown h3 (by simp; omega) (own_ge hown.out)) hB.out.size)
  · intro p hp hne
    rw [h3.cell_far p (by simp; omega) hne, World.cell?_alloc_lt _ _ _ hp]

theorem own_lt {w : World} {base : Nat} {e : TypeId} {size : Nat} {v : Value} {n : Nat} {xs : List Value} (h : w.ownsRow base e size v n xs) : ∀ k, v.ownBlock = some k → k < w.heap.size := by
  intro k hk
  rcases h.2 with ⟨rfl, _⟩ | ⟨g, cap, cur, rfl, hb, hg, _⟩
  · cases hk
  · simp only [Value.ownBlock, Option.some.injEq] at hk
    subst hk
    rcases Nat.lt_or_ge g w.heap.size with hlt | hge
    · exact hlt
    · rw [Array.getElem?_eq_none hge] at hg; cases hg
theorem own_ne_new {w : World} {base : Nat} {e : TypeId} {size : Nat} {v : Value} {n : Nat} {xs : List Value} (h : w.ownsRow base e size v n xs) (B : Nat) (hB : w.heap.size ≤ B) : some B ≠ v.ownBlock := fun hh => by
  have := own_lt h B hh.symm
  omega

theorem own_base {w : World} {b b' : Nat} {e : TypeId} {size : Nat} {v : Value} {n : Nat} {xs : List Value} (h : w.ownsRow b e size v n xs) (hb : b' ≤ b) : w.ownsRow b' e size v n xs := by
  refine ⟨h.1, ?_⟩
  rcases h.2 with h | ⟨g, cap, cur, hv, hbg, rest⟩
  · exact Or.inl h
  · exact Or.inr ⟨g, cap, cur, hv, Nat.le_trans hb hbg, rest⟩

/-- What Scan answers. -/
def scanPost (w : World) (R : Scanned) (e : Ending) (w' : World) : Prop :=
  match R with
  | .inl (code, k) => e = .returned (.tuple #[.slice none 0 0, .agg #[.int .i64 (code : Int), .int .i64 (k : Int)]]) ∧ Below w.heap.size w w'
  | .inr l => ∃ v, e = .returned (.tuple #[v, .agg #[.int .i64 0, .int .i64 0]]) ∧ w'.ownsRow w.heap.size 113 5 v l.length (toksV l) ∧ Below w.heap.size w w'

/-- The two cells of a problem that is being made. -/
structure Two (w : World) (B : Nat) (a b : Value) : Prop where
  c0 : w.cell? ⟨B, 0, none⟩ = some a
  c1 : w.cell? ⟨B, 1, none⟩ = some b
  f : ∀ j, j < 2 → w.frozen? ⟨B, j, none⟩ = false
theorem two_new (w : World) (a b : Value) (t : TypeId) : Two (w.alloc (.cells #[a, b] t)) w.heap.size a b := by
  have h := heap_alloc_new w (.cells #[a, b] t)
  refine ⟨?_, ?_, ?_⟩
  all_goals first | (simp only [World.cell?, h]; rfl) | skip
  intro j hj
  simp only [World.frozen?, h]
  simp
theorem Two.below {w w' : World} {B C : Nat} {a b : Value} (h : Two w B a b) (hb : Below C w w') (hB : B < C) : Two w' B a b :=
  ⟨(hb.cell hB).trans h.c0, (hb.cell hB).trans h.c1, fun j hj => (hb.frozen hB).trans (h.f j hj)⟩
theorem two_set {w : World} {B : Nat} {a b : Value} (h : Two w B a b) (y0 y1 : Value) : Two ((w.setCell ⟨B, 0, none⟩ y0).setCell ⟨B, 1, none⟩ y1) B y0 y1 := by
  have ot : ∀ (W : World) (i j : Nat) (y : Value), i ≠ j → (W.setCell ⟨B, j, none⟩ y).cell? ⟨B, i, none⟩ = W.cell? ⟨B, i, none⟩ := fun W i j y hij => World.cell?_setCell_other _ _ _ _ (fun e => hij (by cases e; rfl))
  refine ⟨?_, ?_, ?_⟩
  · rw [ot _ 0 1 _ (by omega)]
    exact World.cell?_setCell_same' _ _ _ (by rw [h.c0]; rfl)
  · exact World.cell?_setCell_same' _ _ _ (by rw [ot _ 1 0 _ (by omega), h.c1]; rfl)
  · intro j hj
    simp only [World.frozen?_setCell]
    exact h.f j hj
theorem below_set2 {w0 w : World} {B : Nat} (h : Below w0.heap.size w0 w) (hB : w0.heap.size ≤ B) (y0 y1 : Value) : Below w0.heap.size w0 ((w.setCell ⟨B, 0, none⟩ y0).setCell ⟨B, 1, none⟩ y1) :=
  (h.setCell (p := ⟨B, 0, none⟩) hB _).setCell (p := ⟨B, 1, none⟩) hB _
theorem ret2 {w : World} {B : Nat} {a b x : Value} {tm : Array Value} (hf : Two w B a b) (h3 : tm[3]?.getD undef = .pointer (some ⟨B, 0, none⟩)) (h2 : tm[2]?.getD undef = x) :
    (results Tryz.f76 tm).run Tryz.prog w = .ok (.tuple #[x, .agg #[a, b]]) w := by
  obtain ⟨c0, c1, _⟩ := hf
  simp [results, Tryz.results76, go_sem, h3, h2, c0, c1]

theorem blank_not35 : blankB 35 = false := by decide
set_option maxRecDepth 100000 in
set_option maxHeartbeats 4000000 in
theorem scan_big (t : ByteArray) (w : World) (hk : 4194304 < t.size) :
    Calls Tryz.prog 76 #[.string t] w (scanPost w (.inl (2, 4194304))) := by
  have H2 : Hid (Two (w.alloc (.cells #[.int .i64 0, .int .i64 0] 126)) w.heap.size (.int .i64 0) (.int .i64 0)) := two_new w _ _ 126
  have HB0 : Hid (Below w.heap.size w (w.alloc (.cells #[.int .i64 0, .int .i64 0] 126))) := (Below.refl _ w).alloc (Nat.le_refl _) _
  have h1 : (4194304 : Int) < (t.size : Int) := by omega
  unfold scanPost
  simp only
  go_enter Tryz.func76, Tryz.ntmps76
  go_wp2
  go_step3
  go_wp2
  try rw [Exit.noGoto_ret]
  exact bodyPost_ret (ret2 (two_new w _ _ 126) rfl rfl) rfl ⟨rfl, (Below.refl _ w).alloc (Nat.le_refl _) _⟩

theorem own_stays {w w' : World} {base : Nat} {e : TypeId} {size : Nat} {v : Value} {n : Nat} {xs : List Value} (h : w.ownsRow base e size v n xs) (hb : Below w.heap.size w w') : w'.ownsRow base e size v n xs :=
  h.kept ⟨hb.os, hb.tape, hb.output, hb.size, fun k hk _ => hb.block k hk⟩ (row := none) (by cases hv : v.ownBlock with | none => exact Or.inl rfl | some k => exact Or.inr (by simp))

set_option maxRecDepth 100000 in
set_option maxHeartbeats 8000000 in
theorem scan_any (t : ByteArray) (w : World) (ht : t.size ≤ 4194304) (hT : Tabs w) :
    Calls Tryz.prog 76 #[.string t] w (scanPost w (scanS (t.size + 1) 0 t.data.toList)) := by
  have H2 : Hid (Two (w.alloc (.cells #[.int .i64 0, .int .i64 0] 126)) w.heap.size (.int .i64 0) (.int .i64 0)) := two_new w _ _ 126
  have HB0 : Hid (Below w.heap.size w (w.alloc (.cells #[.int .i64 0, .int .i64 0] 126))) := (Below.refl _ w).alloc (Nat.le_refl _) _
  have HT : Hid (Tabs (w.alloc (.cells #[.int .i64 0, .int .i64 0] 126))) := hT.next HB0.out
  clear hT
  have h1 : ¬ (4194304 : Int) < (t.size : Int) := by omega
  obtain ⟨R, hR⟩ : ∃ R, scanS (t.size + 1) 0 t.data.toList = R := ⟨_, rfl⟩
  rw [hR]
  have HR0 : Hid (scanS (t.size + 1) 0 t.data.toList = R) := hR
  clear hR
  go_enter Tryz.func76, Tryz.ntmps76
  go_wp2
  go_step3
  go_wp2
  go_step3
  go_wp2
  generalize hw1 : w.alloc (.cells #[.int .i64 0, .int .i64 0] 126) = w1 at *
  clear hw1
  have hb1 : w.heap.size < w1.heap.size := World.block_lt_of_cell? w1 _ H2.out.c0
  go_loopg [4, 5] (t.size + 1) (fun g v i wr => ∃ (j : Nat) (acc : List (Nat × Tk)), j ≤ t.size ∧ i = .int .i64 (j : Int) ∧ t.size - j < g ∧ acc.length ≤ j ∧ Hid (comb acc (scanS g j (t.data.toList.drop j)) = R) ∧ Hid (wr.ownsRow w1.heap.size 113 5 v acc.length (toksV acc)) ∧ Hid (Below w1.heap.size w1 wr))
  case atStart =>
    refine ⟨0, [], by omega, rfl, by omega, by simp, ?_, World.ownsRow_nil _ _ _ _, Below.refl _ _⟩
    show comb [] (scanS (t.size + 1) 0 (t.data.toList.drop 0)) = R
    rw [List.drop_zero, HR0.out]
    cases R <;> simp [comb]
  case round =>
    clear HR0
    obtain ⟨j0, acc0, hj0, rfl, hf0, ha0, hx0, ho0, hB0⟩ := hrel
    cases gk with
    | zero => omega
    | succ G =>
    go_wp2
    go_loopg [4, 5] (G + 1) (fun g v i wr => g ≤ G + 1 ∧ ∃ (j : Nat) (acc : List (Nat × Tk)), j ≤ t.size ∧ i = .int .i64 (j : Int) ∧ t.size - j < g ∧ acc.length ≤ j ∧ Hid (comb acc (scanS g j (t.data.toList.drop j)) = R) ∧ Hid (wr.ownsRow w1.heap.size 113 5 v acc.length (toksV acc)) ∧ Hid (Below w1.heap.size w1 wr))
    case atStart => exact ⟨Nat.le_refl _, j0, acc0, hj0, rfl, hf0, ha0, hx0, ho0, hB0⟩
    case round =>
      clear hx0 ho0 hB0 hj0 hf0 ha0
      obtain ⟨hgG, j, acc, hj, rfl, hf, ha, hx, ho, hB⟩ := hrel
      cases gk with
      | zero => omega
      | succ g =>
      have HF : Hid (Two wr w.heap.size (.int .i64 0) (.int .i64 0)) := H2.out.below hB.out hb1
      have HBw : Hid (Below w.heap.size w wr) := HB0.out.trans (hB.out.mono (by omega))
      have hj0 : (0 : Int) ≤ (j : Int) := by omega
      by_cases hend : j = t.size
      · subst hend
        have hR : R = .inr (acc ++ [(t.size, ⟨0, 0, [], 0⟩)]) := by
          rw [← hx.out, List.drop_eq_nil_of_le (by rw [← Lib.size_eq]; omega), scan_end]
          rfl
        subst hR
        clear hx
        go_wp2_with (first
          | (at_builtin; refine wpList_appT (w0 := w1) (by rfl) _ _ (by rfl) _ acc.length acc rfl (by rfl) ho hB t.size ⟨0, 0, [], 0⟩ _ (by simp [tkCells]) _ rfl (by rfl) (by omega) ?_; intro v2 w2 ho2 hb2 _; obtain ⟨c0, c1, f⟩ := H2.out.below hb2.out hb1; have f0 := f 0 (by omega); have f1 := f 1 (by omega); clear f)
          | go_in)
        try rw [Exit.noGoto_ret]
        have F2 : Two w2 w.heap.size (.int .i64 0) (.int .i64 0) := H2.out.below hb2.out hb1
        refine bodyPost_ret (ret2 (two_set F2 _ _) rfl rfl) rfl ?_
        refine ⟨v2, rfl, ?_, below_set2 (HB0.out.trans (hb2.out.mono (by omega))) (Nat.le_refl _) _ _⟩
        have ho3 : w2.ownsRow w1.heap.size 113 5 v2 (acc ++ [(t.size, (⟨0, 0, [], 0⟩ : Tk))]).length (toksV (acc ++ [(t.size, ⟨0, 0, [], 0⟩)])) := by rw [List.length_append]; exact ho2.out
        exact own_base (ownsRow_setCell_below (ownsRow_setCell_below ho3 (by exact hb1) _) (by exact hb1) _) (by omega)
      · have hlt : j < t.size := by omega
        have hjt : (j : Int) < (t.size : Int) := by omega
        have hjn : ((j : Int) == (t.size : Int)) = false := by rw [beq_eq_false_iff_ne]; omega
        obtain ⟨c, hc⟩ : ∃ c, t[j]'hlt = c := ⟨_, rfl⟩
        have hdr := drop_at t j hlt
        rw [hc] at hdr
        have HI : Hid (∀ (w : World), Calls Tryz.prog 86 #[.int .u8 (c.toNat : Int)] w fun e w' => e = .returned (.bool (blankB c)) ∧ w = w') := fun w => isBlank_any c w
        by_cases hb : blankB c = true
        · rw [hb] at HI
          have HX : Hid (comb acc (scanS g (j + 1) (t.data.toList.drop (j + 1))) = R) := by
            show comb acc (scanS g (j + 1) (t.data.toList.drop (j + 1))) = R
            rw [← hx.out, hdr, scan_blank g j c _ hb]
          clear hx hdr hb
          go_wp2_with (first
            | (go_at_call 86; refine (HI.out _).mono ?_; rintro e w2 ⟨rfl, hw2⟩; subst hw2)
            | go_in)
          go_roundg g
          case measure => omega
          case rel => exact ⟨by omega, j + 1, acc, by omega, by go_num, by omega, by omega, HX, ho, hB⟩
        · have hbf : blankB c = false := by simpa using hb
          rw [hbf] at HI
          by_cases h35 : c = 35
          · subst h35
            have hcp := cmt_pos (t.data.toList.drop (j + 1))
            have hcl := cmt_le (t.data.toList.drop j)
            rw [← hdr] at hcp
            rw [List.length_drop, ← Lib.size_eq] at hcl
            have HX : Hid (comb acc (scanS g (j + cmtS (t.data.toList.drop j)) (t.data.toList.drop (j + cmtS (t.data.toList.drop j)))) = R) := by
              show comb acc (scanS g (j + cmtS (t.data.toList.drop j)) (t.data.toList.drop (j + cmtS (t.data.toList.drop j)))) = R
              rw [← hx.out, ← List.drop_drop]
              conv => rhs; rw [hdr, scan_cmt]
              rw [← hdr]
            have HC : Hid (Calls Tryz.prog 87 #[.string t, .int .i64 (j : Int)] wr fun e w' => e = .returned (.int .i64 ((j + cmtS (t.data.toList.drop j) : Nat) : Int)) ∧ wr = w') := comment_any t j wr (by omega) (by omega)
            clear hx hdr hb hbf
            generalize cmtS (t.data.toList.drop j) = m at hcp hcl HX HC
            go_wp2_with (first
              | (go_at_call 86; refine (HI.out _).mono ?_; rintro e w2 ⟨rfl, hw2⟩; subst hw2)
              | (go_at_call 87; refine HC.out.mono ?_; rintro e w2 ⟨rfl, hw2⟩; subst hw2)
              | go_in)
            go_roundg g
            case measure => omega
            case rel => exact ⟨by omega, j + m, acc, by omega, by go_num, by omega, by omega, HX, ho, hB⟩
          · have b35 := u8ne (n := 35) (by omega) h35
            have HC0 := tokAt_any t j wr (by omega) hlt (HT.out.below hB.out HT.out.size)
            cases hk : tokS (t.data.toList.drop j) with
            | inl e =>
              have hke := hk
              rw [hk] at HC0
              have HC : Hid (Calls Tryz.prog 88 #[.string t, .int .i64 (j : Int)] wr fun x w' => x = .returned (.tuple #[.agg #[.int .i64 0, .int .i64 0, .int .i64 0, .string ⟨#[]⟩, .int .i64 0], .int .i64 (e : Int)]) ∧ Below wr.heap.size wr w') := HC0
              have hR : R = .inl (e, j) := by
                rw [← hx.out, hdr, scan_bad g j c _ e hbf h35 (by rw [← hdr]; exact hk)]
                rfl
              subst hR
              clear hx hdr hb hbf hk HC0 h35
              have he0 : ((e : Int) == 0) = false := by rw [beq_eq_false_iff_ne]; have := tok_err hke; omega
              go_wp2_with (first
                | (go_at_call 86; refine (HI.out _).mono ?_; rintro e w2 ⟨rfl, hw2⟩; subst hw2)
                | (go_at_call 88; refine HC.out.mono ?_; rintro x w2 ⟨rfl, hb2⟩; have F3 : Hid (Two (w2.alloc (.cells #[.int .i64 0, .int .i64 0, .int .i64 0, .string ⟨#[]⟩, .int .i64 0] 113)) w.heap.size _ _) := (HF.out.below hb2 (World.block_lt_of_cell? wr _ HF.out.c0)).below ((Below.refl w2.heap.size w2).alloc (Nat.le_refl _) _) (Nat.lt_of_lt_of_le (World.block_lt_of_cell? wr _ HF.out.c0) hb2.size); obtain ⟨c0, c1, f⟩ := F3.out; have f0 := f 0 (by omega); have f1 := f 1 (by omega); clear f)
                | go_in)
              try rw [Exit.noGoto_ret]
              exact bodyPost_ret (ret2 (two_set F3.out _ _) rfl rfl) rfl ⟨rfl, below_set2 ((HBw.out.trans (hb2.mono HBw.out.size)).alloc (Nat.le_trans HBw.out.size hb2.size) _) (Nat.le_refl _) _ _⟩
            | inr x =>
              rw [hk] at HC0
              have HC : Hid (Calls Tryz.prog 88 #[.string t, .int .i64 (j : Int)] wr fun y w' => y = .returned (.tuple #[.agg #[.int .i64 (x.kind : Int), .int .i64 (j : Int), .int .i64 ((j : Int) + (x.len : Int)), .string ⟨x.text.toArray⟩, .int .i64 x.int], .int .i64 0]) ∧ Below wr.heap.size wr w') := HC0
              obtain ⟨hl1, hl2⟩ := tok_len hk
              rw [List.length_drop, ← Lib.size_eq] at hl2
              have HX : Hid (comb (acc ++ [(j, x)]) (scanS g (j + x.len) (t.data.toList.drop (j + x.len))) = R) := by
                show comb (acc ++ [(j, x)]) (scanS g (j + x.len) (t.data.toList.drop (j + x.len))) = R
                rw [← hx.out, ← List.drop_drop]
                conv => rhs; rw [hdr, scan_tok g j c _ x acc hbf h35 (by rw [← hdr]; exact hk)]
                rw [← hdr]
              clear hx hdr hb hbf hk HC0 h35
              go_wp2_with (first
                | (go_at_call 86; refine (HI.out _).mono ?_; rintro e w2 ⟨rfl, hw2⟩; subst hw2)
                | (go_at_call 88; refine HC.out.mono ?_; rintro e w2 ⟨rfl, hb2⟩)
                | (at_builtin; refine wpList_appT (w0 := w1) (w := w2.alloc (.cells #[.int .i64 (x.kind : Int), .int .i64 (j : Int), .int .i64 ((j : Int) + (x.len : Int)), .string ⟨x.text.toArray⟩, .int .i64 x.int] 113)) (by rfl) _ _ (by rfl) _ acc.length acc rfl (by rfl) ((own_stays ho.out hb2).alloc _) ((hB.out.trans (hb2.mono hB.out.size)).alloc (Nat.le_trans hB.out.size hb2.size) _) j x _ (by rfl) (w2.heap.size + 1) (by simp) (by rfl) (by omega) ?_; intro v3 w3 ho3 hb3 hfar; have hce := (hfar.out ⟨w2.heap.size, 2, none⟩ (by simp) (own_ne_new ho.out _ hb2.size)).trans (five_new w2 _ _ _ _ _ 113).c2)
                | go_in)
              go_roundg g
              case measure => omega
              case rel => exact ⟨j + x.len, acc ++ [(j, x)], by omega, by go_num, by omega, by simp; omega, HX, by rw [List.length_append]; exact ho3, hb3⟩
end Go.Proofs.YtichbejmelkjeaaGreatDoor.Lx

namespace Go.Proofs.YtichbejmelkjeaaGreatDoor
open Go.RowKit

/-- The commands' rows: the word, what stands behind it. -/
def rws : List (List UInt8 × Nat) := [([], 0), ([98, 114, 101, 97, 107], 2), ([119, 97, 116, 99, 104], 3), ([100, 101, 108, 101, 116, 101], 4), ([101, 110, 97, 98, 108, 101], 4), ([100, 105, 115, 97, 98, 108, 101], 4), ([112, 111, 105, 110, 116, 115], 1), ([115, 116, 101, 112], 1), ([110, 101, 120, 116], 1), ([102, 105, 110, 105, 115, 104], 1), ([99, 111, 110, 116, 105, 110, 117, 101], 1), ([98, 97, 99, 107], 1), ([114, 110, 101, 120, 116], 1), ([114, 102, 105, 110, 105, 115, 104], 1), ([114, 99, 111, 110, 116, 105, 110, 117, 101], 1), ([103, 111, 116, 111], 5), ([112, 114, 105, 110, 116], 6), ([108, 111, 99, 97, 108, 115], 1), ([115, 116, 97, 99, 107], 1), ([119, 104, 101, 114, 101], 1), ([108, 105, 115, 116], 1), ([111, 117, 116, 112, 117, 116], 1), ([101, 118, 101, 110, 116], 1)]
def knd (w : List UInt8) : Nat := (rws.findIdx? (fun r => r.1 == w)).getD 0
def tks (k : Nat) : Nat := (rws.getD k ([], 0)).2
def ifw : List UInt8 := [105, 102]

/-- A command. -/
structure Cm where
  kind : Int
  pk : Int
  line : Int
  name : List UInt8
  cond : List UInt8
  off : Bool
  n : Int
  text : List UInt8
  deriving DecidableEq
def cm0 : Cm := ⟨0, 0, 0, [], [], false, 0, []⟩
def cmL (c : Cm) : List Value := [.int .i64 c.kind, .int .i64 c.pk, .int .i64 c.line, .string ⟨c.name.toArray⟩, .string ⟨c.cond.toArray⟩, .bool c.off, .int .i64 c.n, .string ⟨c.text.toArray⟩]
def ptL (c : Cm) : List Value := [.int .i64 c.pk, .int .i64 c.line, .string ⟨c.name.toArray⟩, .string ⟨c.cond.toArray⟩, .bool c.off]

/-- The token that is all of a word. -/
def tk0 : Lx.Tk := ⟨0, 0, [], 0⟩
def whl (w : List UInt8) : Lx.Tk := match Lx.scanS (w.length + 1) 0 w with
  | .inr ((k, x) :: _) => if k = 0 ∧ x.len = w.length then x else tk0
  | _ => tk0
def numO (w : List UInt8) : Int × Bool := ((whl w).int, (whl w).kind == 2)
def posO (w : List UInt8) : Int × Bool := match w with
  | 45 :: r => (IntKind.i64.wrap (-(numO r).1), (numO r).2 && decide (1 ≤ (numO r).1))
  | _ => numO w
/-- What is broken at (t = 2) or watched (t = 3). -/
def pntO (t : Nat) (w e : List UInt8) : Option Cm :=
  if (whl w).kind = 1 ∧ t = 3 then some { cm0 with pk := 3, name := (whl w).text, cond := e }
  else if (whl w).kind = 1 then some { cm0 with pk := 2, name := (whl w).text, cond := e }
  else if (whl w).kind = 2 ∧ 1 ≤ (whl w).int ∧ t = 2 then some { cm0 with pk := 1, line := (whl w).int, cond := e }
  else none

/-- The words that are taken, and the rest. -/
def tkn : Nat → List (List UInt8) → List UInt8 → List (List UInt8) × List UInt8
  | 0, ws, r => (ws, r)
  | f + 1, ws, r => if r = [] then (ws, []) else
    if ((ws ++ [wrd r]).length = 1 ∧ tks (knd (wrd r)) = 6) ∨ ((ws ++ [wrd r]).length = 3 ∧ wrd r = ifw) then (ws ++ [wrd r], nxt r) else tkn f (ws ++ [wrd r]) (nxt r)

/-- The command of words and the rest. -/
def cmdP (ws : List (List UInt8)) (e : List UInt8) : Option Cm :=
  match ws with
  | [] => none
  | w0 :: t =>
    let k := knd w0
    if tks k = 1 then (if t = [] then some { cm0 with kind := k } else none)
    else if tks k = 2 ∨ tks k = 3 then
      (match t with
       | [w1] => (pntO (tks k) w1 e).map fun c => { c with kind := k }
       | [w1, _] => if e = [] then none else (pntO (tks k) w1 e).map fun c => { c with kind := k }
       | _ => none)
    else if tks k = 4 then (match t with | [w1] => if (numO w1).2 then some { cm0 with kind := k, n := (numO w1).1 } else none | _ => none)
    else if tks k = 5 then (match t with | [w1] => if (posO w1).2 then some { cm0 with kind := k, n := (posO w1).1 } else none | _ => none)
    else if tks k = 6 then (if e = [] then none else some { cm0 with kind := k, text := e })
    else none
def parP (l : List UInt8) : Option Cm := if 300 < l.length ∨ 10 ∈ l then none else (fun x => cmdP x.1 x.2) (tkn (l.length + 1) [] (trm l))

/-- By the rests of a line. -/
def cmdS (R : List (List UInt8)) : Option Cm :=
  match R with
  | [] => none
  | r0 :: t =>
    let k := knd (wrd r0)
    if tks k = 1 then (if t = [] then some { cm0 with kind := k } else none)
    else if tks k = 2 ∨ tks k = 3 then
      (match t with
       | [r1] => (pntO (tks k) (wrd r1) []).map fun c => { c with kind := k }
       | r1 :: r2 :: r3 :: _ => if wrd r2 = ifw then (pntO (tks k) (wrd r1) r3).map fun c => { c with kind := k } else none
       | _ => none)
    else if tks k = 4 then (match t with | [r1] => if (numO (wrd r1)).2 then some { cm0 with kind := k, n := (numO (wrd r1)).1 } else none | _ => none)
    else if tks k = 5 then (match t with | [r1] => if (posO (wrd r1)).2 then some { cm0 with kind := k, n := (posO (wrd r1)).1 } else none | _ => none)
    else if tks k = 6 then (match t with | [] => none | r1 :: _ => some { cm0 with kind := k, text := r1 })
    else none
end Go.Proofs.YtichbejmelkjeaaGreatDoor

namespace Go.Proofs.YtichbejmelkjeaaGreatDoor
open Go.RowKit

def rwV (r : List UInt8 × Nat) : List Value := [.string ⟨r.1.toArray⟩, .int .i64 (r.2 : Int)]
def rwCells : List Value := rws.flatMap rwV
def rwAgg : Value := .agg rwCells.toArray
set_option maxRecDepth 100000 in
theorem rwInfo : (Tryz.prog.info? 85).map (·.size) = some rwCells.length := by kernel_rfl
set_option maxRecDepth 100000 in
theorem rw_idx (k : Nat) (hk : k < 23) : ∀ w : World, (Instr.index 85 rwAgg (.int .i64 (k : Int))).run Tryz.prog w = .ok (.agg #[.string ⟨(rws.getD k ([], 0)).1.toArray⟩, .int .i64 ((rws.getD k ([], 0)).2 : Int)]) w := by
  have h : k = 0 ∨ k = 1 ∨ k = 2 ∨ k = 3 ∨ k = 4 ∨ k = 5 ∨ k = 6 ∨ k = 7 ∨ k = 8 ∨ k = 9 ∨ k = 10 ∨ k = 11 ∨ k = 12 ∨ k = 13 ∨ k = 14 ∨ k = 15 ∨ k = 16 ∨ k = 17 ∨ k = 18 ∨ k = 19 ∨ k = 20 ∨ k = 21 ∨ k = 22 := by omega
  rcases h with rfl | rfl | rfl | rfl | rfl | rfl | rfl | rfl | rfl | rfl | rfl | rfl | rfl | rfl | rfl | rfl | rfl | rfl | rfl | rfl | rfl | rfl | rfl
  all_goals exact fun w => by kernel_rfl
theorem rw_at (k : Nat) (hk : k < 23) : rwCells[2 * k]? = some (.string ⟨(rws.getD k ([], 0)).1.toArray⟩) ∧ rwCells[2 * k + 1]? = some (.int .i64 (tks k : Int)) := by
  have h : k = 0 ∨ k = 1 ∨ k = 2 ∨ k = 3 ∨ k = 4 ∨ k = 5 ∨ k = 6 ∨ k = 7 ∨ k = 8 ∨ k = 9 ∨ k = 10 ∨ k = 11 ∨ k = 12 ∨ k = 13 ∨ k = 14 ∨ k = 15 ∨ k = 16 ∨ k = 17 ∨ k = 18 ∨ k = 19 ∨ k = 20 ∨ k = 21 ∨ k = 22 := by omega
  rcases h with rfl | rfl | rfl | rfl | rfl | rfl | rfl | rfl | rfl | rfl | rfl | rfl | rfl | rfl | rfl | rfl | rfl | rfl | rfl | rfl | rfl | rfl | rfl
  all_goals exact ⟨rfl, rfl⟩

def Tab10 (W : World) : Prop := Lib.TabIs Tryz.prog W "internal/strconv.uint64pow10" .u64 Lib.pow10Tab
theorem var_below {P : Program} {W W' : World} {n : String} {cs : Array Value} (h : W.var? P n = some cs) (hb : Below W.heap.size W W') : W'.var? P n = some cs := by
  unfold World.var? at h ⊢
  cases hg : P.globalNamed n with
  | none => simp [hg] at h
  | some g =>
    simp only [hg, Option.bind_some] at h ⊢
    have hlt : g < W.heap.size := by
      rcases Nat.lt_or_ge g W.heap.size with h' | h'
      · exact h'
      · simp [Array.getElem?_eq_none h'] at h
    rw [hb.block g hlt]
    exact h
theorem Tab10.next {W W' : World} (h : Tab10 W) (hb : Below W.heap.size W W') : Tab10 W' := var_below h hb

/-- What the package's calls find in the tables. -/
structure Tb (w : World) : Prop where
  lx : Lx.Tabs w
  rw : w.rangeAt 3 0 rwCells
  p10 : Tab10 w
theorem Tb.next {w w' : World} (h : Tb w) (hb : Below w.heap.size w w') : Tb w' :=
  ⟨h.lx.next hb, fun j v hv => (hb.cell (p := ⟨3, 0 + j, none⟩) (Nat.lt_of_le_of_lt (by show 3 ≤ 15; omega) h.lx.sz)).trans (h.rw j v hv), h.p10.next hb⟩
theorem Tb.word {w : World} (h : Tb w) (k : Nat) (hk : k < 23) : w.cell? ⟨3, k * 2, none⟩ = some (.string ⟨(rws.getD k ([], 0)).1.toArray⟩) := by
  have := h.rw (2 * k) _ (rw_at k hk).1
  rwa [Nat.zero_add, Nat.mul_comm] at this
theorem Tb.takes {w : World} (h : Tb w) (k : Nat) (hk : k < 23) : w.cell? ⟨3, k * 2 + 1, none⟩ = some (.int .i64 (tks k : Int)) := by
  have := h.rw (2 * k + 1) _ (rw_at k hk).2
  rwa [Nat.zero_add, Nat.mul_comm] at this

theorem knd_lt (l : List UInt8) : knd l < 23 := by
  unfold knd
  cases h : rws.findIdx? (fun r => r.1 == l) with
  | none => simp
  | some i => have := (List.findIdx?_eq_some_iff_findIdx_eq.1 h).1; exact this
theorem knd_hit (l : List UInt8) (k : Nat) (hk : k < 23) (hn : ∀ j, j < k → ((rws.getD j ([], 0)).1 == l) = false) (h : ((rws.getD k ([], 0)).1 == l) = true) : knd l = k := by
  unfold knd
  have hk' : k < rws.length := hk
  have e : rws.findIdx? (fun r => r.1 == l) = some k := by
    rw [List.findIdx?_eq_some_iff_getElem]
    refine ⟨hk', ?_, fun j hj => ?_⟩
    · rw [List.getD_eq_getElem?_getD, List.getElem?_eq_getElem hk'] at h; exact h
    · have := hn j hj
      rw [List.getD_eq_getElem?_getD, List.getElem?_eq_getElem (by omega)] at this
      simpa using this
  rw [e]; rfl
theorem knd_miss (l : List UInt8) (hn : ∀ j, j < 23 → ((rws.getD j ([], 0)).1 == l) = false) : knd l = 0 := by
  unfold knd
  have e : rws.findIdx? (fun r => r.1 == l) = none := by
    rw [List.findIdx?_eq_none_iff]
    intro x hx
    obtain ⟨j, hj, rfl⟩ := List.getElem_of_mem hx
    have := hn j hj
    rw [List.getD_eq_getElem?_getD, List.getElem?_eq_getElem hj] at this
    exact this
  rw [e]; rfl

set_option maxRecDepth 100000 in
set_option maxHeartbeats 1000000 in
theorem kindOf_any (s : ByteArray) (w : World) (hT : Tb w) :
    Calls Tryz.prog 44 #[.string s] w fun e w' => e = .returned (.int .i64 (knd s.data.toList : Int)) ∧ Below w.heap.size w w' := by
  have HR0 : Hid (w.rangeAt 3 0 rwCells) := hT.rw
  clear hT
  go_enter Tryz.func44, Tryz.ntmps44
  go_wp2_with (first | (refine wpList_load_mid (by rfl) 85 (.global 3) (by rfl) 3 0 (by rfl) rwCells _ HR0.out Tryz.underlying85 (by rfl) rwInfo ?_) | go_in)
  clear HR0
  go_loopw [6] (fun i wr => ∃ m : Nat, m ≤ 23 ∧ i = .int .i64 (m : Int) ∧ Hid (∀ j, j < m → ((rws.getD j ([], 0)).1 == s.data.toList) = false) ∧ Hid (Below w.heap.size w wr)) (fun i _ => 23 - (intOf i).toNat)
  case atStart => exact ⟨0, by omega, rfl, fun j hj => by omega, Below.refl _ _⟩
  case round =>
    obtain ⟨m, hm, rfl, hn, hB⟩ := hrel
    by_cases hlt : m < 23
    · have hi := rw_idx m hlt
      unfold rwAgg at hi
      obtain ⟨x, hx⟩ : ∃ x : ByteArray, x = ⟨(rws.getD m ([], 0)).1.toArray⟩ := ⟨_, rfl⟩
      have hxl : x.data.toList = (rws.getD m ([], 0)).1 := by rw [hx]
      rw [← hx] at hi
      obtain ⟨tt, htt⟩ : ∃ tt : Int, tt = ((rws.getD m ([], 0)).2 : Int) := ⟨_, rfl⟩
      rw [← htt] at hi
      have HX : Hid (x.data.toList = (rws.getD m ([], 0)).1) := hxl
      clear hx hxl htt
      by_cases hq : (x.toList == s.toList) = true
      · have HK : Hid (knd s.data.toList = m) := knd_hit _ m hlt hn.out (by rw [← HX.out]; exact Lx.toL_eq' hq)
        clear hn HX
        go_wp2
        go_ret
        exact ⟨by rw [HK.out]; rfl, hB.out.trans (((Below.refl _ wr).alloc (Nat.le_refl _) _).mono hB.out.size)⟩
      · have hqf : (x.toList == s.toList) = false := by simpa using hq
        have HN : Hid (∀ j, j < m + 1 → ((rws.getD j ([], 0)).1 == s.data.toList) = false) := by
          intro j hj
          by_cases hjm : j < m
          · exact hn.out j hjm
          · obtain rfl : j = m := by omega
            rw [← HX.out]
            exact Lx.toL_ne' hqf
        clear hn hq HX
        go_wp2
        exact ⟨⟨m + 1, by omega, by go_num, HN, hB.out.trans (((Below.refl _ wr).alloc (Nat.le_refl _) _).mono hB.out.size)⟩, by simp [intOf]; omega⟩
    · obtain rfl : m = 23 := by omega
      have HK : Hid (knd s.data.toList = 0) := knd_miss _ hn.out
      clear hn
      go_wp2
      go_ret
      exact ⟨by rw [HK.out]; rfl, hB.out⟩
end Go.Proofs.YtichbejmelkjeaaGreatDoor

namespace Go.Proofs.YtichbejmelkjeaaGreatDoor
open Go.RowKit

theorem isBlank_any (c : UInt8) (w : World) : Calls Tryz.prog 65 #[.int .u8 (c.toNat : Int)] w fun e w' => e = .returned (.bool (bl c)) ∧ w = w' := by
  have hc := UInt8.toNat_lt c
  unfold bl
  go_enter Tryz.func65, Tryz.ntmps65
  go_wp2
  all_goals (go_ret; first | exact ⟨rfl, rfl⟩ | (refine ⟨?_, rfl⟩; simp_all))

theorem nil_list {t : ByteArray} (h : t.size = 0) : t.data.toList = [] := by
  have := Lib.size_eq t
  exact List.eq_nil_of_length_eq_zero (by omega)

theorem tw_at (L : List UInt8) (j : Nat) (hj : j ≤ L.length) (hp : ∀ i, (h : i < L.length) → i < j → nb L[i] = true) (hs : (h : j < L.length) → nb L[j] = false) : wln L = j := by
  induction L generalizing j with
  | nil => simp at hj; subst hj; rfl
  | cons c L ih =>
    cases j with
    | zero =>
      have := hs (by simp)
      simp at this
      simp [wln, this]
    | succ j =>
      have h0 := hp 0 (by simp) (by omega)
      simp at h0
      have h1 := ih j (by simpa using hj) (fun i h hi => by have := hp (i + 1) (by simpa using h) (by omega); simpa using this) (fun h => by have := hs (by simpa using h); simpa using this)
      unfold wln at h1 ⊢
      rw [List.takeWhile_cons, if_pos h0, List.length_cons, h1]

set_option maxRecDepth 100000 in
set_option maxHeartbeats 1000000 in
theorem wordEnd_any (t : ByteArray) (w : World) (ht : t.size ≤ 140737488355328) :
    Calls Tryz.prog 43 #[.string t] w fun e w' => e = .returned (.int .i64 (wln t.data.toList : Int)) ∧ w' = w := by
  go_enter Tryz.func43, Tryz.ntmps43
  go_wp2
  go_loop [3] (fun i => ∃ j : Nat, j ≤ t.size ∧ i = .int .i64 (j : Int) ∧ Hid (∀ i, (h : i < t.data.toList.length) → i < j → nb t.data.toList[i] = true)) (fun i => t.size - (intOf i).toNat)
  case atStart => exact ⟨0, by omega, rfl, fun i h hi => by omega⟩
  case round =>
    obtain ⟨j, hj, rfl, hn⟩ := hrel
    have hj0 : (0 : Int) ≤ (j : Int) := by omega
    have hsz := Lib.size_eq t
    by_cases hlt : j < t.size
    · have hjt : (j : Int) < (t.size : Int) := by omega
      obtain ⟨c, hc⟩ : ∃ c, t[j]'hlt = c := ⟨_, rfl⟩
      have hcl : t.data.toList[j]'(by omega) = c := by rw [← hc]; rfl
      have HI : Hid (∀ w : World, Calls Tryz.prog 65 #[.int .u8 (c.toNat : Int)] w fun e w' => e = .returned (.bool (bl c)) ∧ w = w') := fun w => isBlank_any c w
      by_cases hb : bl c = true
      · have hk : wln t.data.toList = j := tw_at _ j (by omega) hn.out (fun h => by rw [hcl]; simp [nb, hb])
        rw [hb] at HI
        have HK : Hid (wln t.data.toList = j) := hk
        clear hsz hcl hn hk
        go_wp2_with (first
          | (go_at_call 65; refine (HI.out _).mono ?_; rintro e w2 ⟨rfl, hw2⟩; subst hw2)
          | go_in)
        go_ret
        exact ⟨by rw [HK.out]; rfl, rfl⟩
      · have hbf : bl c = false := by simpa using hb
        rw [hbf] at HI
        have HN : Hid (∀ i, (h : i < t.data.toList.length) → i < j + 1 → nb t.data.toList[i] = true) := fun i h hi => by
          by_cases he : i = j
          · subst he; rw [hcl]; simp [nb, hbf]
          · exact hn.out i h (by omega)
        clear hsz hcl hn
        go_wp2_with (first
          | (go_at_call 65; refine (HI.out _).mono ?_; rintro e w2 ⟨rfl, hw2⟩; subst hw2)
          | go_in)
        exact ⟨⟨j + 1, by omega, by go_num, HN⟩, by simp [intOf]; omega⟩
    · obtain rfl : j = t.size := by omega
      have hk : wln t.data.toList = t.size := tw_at _ _ (by omega) hn.out (fun h => by omega)
      have HK : Hid (wln t.data.toList = t.size) := hk
      clear hsz hn hk
      go_wp2
      go_ret
      exact ⟨by rw [HK.out]; rfl, rfl⟩

set_option maxRecDepth 100000 in
set_option maxHeartbeats 1000000 in
theorem without_any (s : ByteArray) (w : World) (hs : s.size ≤ 140737488355328) :
    Calls Tryz.prog 42 #[.string s] w fun e w' => ∃ t : ByteArray, e = .returned (.string t) ∧ t.data.toList = trm s.data.toList ∧ w' = w := by
  go_enter Tryz.func42, Tryz.ntmps42
  go_wp2
  go_loop [0] (fun i => ∃ t : ByteArray, t.size ≤ s.size ∧ i = .string t ∧ Hid (ltr t.data.toList = ltr s.data.toList)) (fun i => match i with | .string t => t.size | _ => 0)
  case atStart => exact ⟨s, Nat.le_refl _, rfl, rfl⟩
  case round =>
    obtain ⟨t0, ht0, rfl, hl0⟩ := hrel
    have hsz0 := Lib.size_eq t0
    by_cases h0 : t0.size = 0
    · have hn : t0.data.toList = [] := nil_list h0
      have e0 : (t0.toList == []) = true := by rw [Lx.toL, hn]; rfl
      have HT0 : Hid (t0.data.toList = ltr s.data.toList) := by
        show t0.data.toList = ltr s.data.toList
        rw [← hl0.out, hn]; rfl
      clear hsz0 hn hl0
      go_wp2
      clear e0 h0
      go_loop [0] (fun i => ∃ t : ByteArray, t.size ≤ t0.size ∧ i = .string t ∧ Hid (rtr t.data.toList = rtr t0.data.toList)) (fun i => match i with | .string t => t.size | _ => 0)
      case atStart => exact ⟨t0, Nat.le_refl _, rfl, rfl⟩
      case round =>
        obtain ⟨t, ht, rfl, hl⟩ := hrel
        have hsz := Lib.size_eq t
        by_cases h0 : t.size = 0
        · have hn : t.data.toList = [] := nil_list h0
          have e0 : (t.toList == []) = true := by rw [Lx.toL, hn]; rfl
          have HT : Hid (t.data.toList = trm s.data.toList) := by
            show t.data.toList = trm s.data.toList
            unfold trm
            rw [← HT0.out, ← hl.out, hn]; rfl
          clear hsz hn hl
          go_wp2
          go_ret
          exact ⟨t, rfl, HT.out, rfl⟩
        · have e0 : (t.toList == []) = false := by
            rw [Lx.toL, beq_eq_false_iff_ne]
            intro h; have h2 := congrArg List.length h; simp only [List.length_nil] at h2; omega
          have hlt : t.size - 1 < t.size := by omega
          obtain ⟨m, hm⟩ : ∃ m, t.size = m + 1 := ⟨t.size - 1, by omega⟩
          have hlm : m < t.size := by rw [hm]; exact Nat.lt_succ_self m
          obtain ⟨c, hc⟩ : ∃ c, t[m]'hlm = c := ⟨_, rfl⟩
          have hcl : t.data.toList = t.data.toList.take m ++ [c] := by
            have h1 : m < t.data.toList.length := by omega
            have h2 : t.data.toList[m]'h1 = c := by rw [← hc]; rfl
            rw [← h2, ← List.take_succ_eq_append_getElem h1, List.take_of_length_le (by omega)]
          have HI : Hid (∀ w : World, Calls Tryz.prog 65 #[.int .u8 (c.toNat : Int)] w fun e w' => e = .returned (.bool (bl c)) ∧ w = w') := fun w => isBlank_any c w
          have hm0 : (0 : Int) ≤ (m : Int) := by omega
          have hm1 : (m : Int) < (t.size : Int) := by omega
          have hm2 : (m : Int) ≤ (t.size : Int) := by omega
          have hmw : IntKind.i64.wrap ((t.size : Int) - 1) = (m : Int) := by rw [IntKind.wrap_i64]; omega
          by_cases hb : bl c = true
          · rw [hb] at HI
            have HX : Hid (rtr (t.extract 0 m).data.toList = rtr t0.data.toList ∧ (t.extract 0 m).size = m) := by
              refine ⟨?_, ?_⟩
              · rw [Lib.extract_data, ← hl.out]
                conv => rhs; rw [hcl]
                rw [rtr_blank _ _ hb]
                simp
              · rw [ByteArray.size_extract]; omega
            clear hsz hcl hl
            go_wp2_with (first
              | (go_at_call 65; refine (HI.out _).mono ?_; rintro e w2 ⟨rfl, hw2⟩; subst hw2)
              | go_in)
            refine ⟨⟨t.extract 0 m, by rw [HX.out.2]; omega, rfl, HX.out.1⟩, ?_⟩
            show (t.extract 0 m).size < t.size
            rw [HX.out.2]; omega
          · have hbf : bl c = false := by simpa using hb
            rw [hbf] at HI
            have HT : Hid (t.data.toList = trm s.data.toList) := by
              show t.data.toList = trm s.data.toList
              unfold trm
              rw [← HT0.out, ← hl.out]
              conv => rhs; rw [hcl]
              rw [rtr_nblank _ _ hbf, ← hcl]
            clear hsz hcl hl
            go_wp2_with (first
              | (go_at_call 65; refine (HI.out _).mono ?_; rintro e w2 ⟨rfl, hw2⟩; subst hw2)
              | go_in)
            go_ret
            exact ⟨t, rfl, HT.out, rfl⟩
    · have e0 : (t0.toList == []) = false := by
        rw [Lx.toL, beq_eq_false_iff_ne]
        intro h; have h2 := congrArg List.length h; simp only [List.length_nil] at h2; omega
      have hpos : 0 < t0.size := Nat.pos_of_ne_zero h0
      have hpi : (0 : Int) < (t0.size : Int) := by omega
      have hpj : (1 : Int) ≤ (t0.size : Int) := by omega
      obtain ⟨c, hc⟩ : ∃ c, t0[0]'hpos = c := ⟨_, rfl⟩
      have hcl : t0.data.toList = c :: t0.data.toList.drop 1 := by
        have := Lx.drop_at t0 0 hpos
        rw [List.drop_zero, hc] at this
        exact this
      have HI : Hid (∀ w : World, Calls Tryz.prog 65 #[.int .u8 (c.toNat : Int)] w fun e w' => e = .returned (.bool (bl c)) ∧ w = w') := fun w => isBlank_any c w
      by_cases hb : bl c = true
      · rw [hb] at HI
        have HX : Hid (ltr (t0.extract 1 t0.size).data.toList = ltr s.data.toList ∧ (t0.extract 1 t0.size).size = t0.size - 1) := by
          refine ⟨?_, ?_⟩
          · rw [Lib.extract_data, ← hl0.out]
            conv => rhs; rw [hcl]
            have := ltr_app [c] (t0.data.toList.drop 1) (by simpa using hb)
            rw [List.take_of_length_le (by rw [List.length_drop]; omega)]
            exact this.symm
          · rw [ByteArray.size_extract]; omega
        clear hsz0 hcl hl0
        go_wp2_with (first
          | (go_at_call 65; refine (HI.out _).mono ?_; rintro e w2 ⟨rfl, hw2⟩; subst hw2)
          | go_in)
        refine ⟨⟨t0.extract 1 t0.size, by rw [HX.out.2]; omega, rfl, HX.out.1⟩, ?_⟩
        show (t0.extract 1 t0.size).size < t0.size
        rw [HX.out.2]; omega
      · have hbf : bl c = false := by simpa using hb
        rw [hbf] at HI
        have HT0 : Hid (t0.data.toList = ltr s.data.toList) := by
          show t0.data.toList = ltr s.data.toList
          rw [← hl0.out]
          conv => rhs; rw [hcl]
          rw [ltr_of_head hbf, ← hcl]
        clear hsz0 hcl hl0
        go_wp2_with (first
          | (go_at_call 65; refine (HI.out _).mono ?_; rintro e w2 ⟨rfl, hw2⟩; subst hw2)
          | go_in)
        clear e0 h0 hpos hpi hpj hc HI hb hbf
        go_loop [0] (fun i => ∃ t : ByteArray, t.size ≤ t0.size ∧ i = .string t ∧ Hid (rtr t.data.toList = rtr t0.data.toList)) (fun i => match i with | .string t => t.size | _ => 0)
        case atStart => exact ⟨t0, Nat.le_refl _, rfl, rfl⟩
        case round =>
          obtain ⟨t, ht, rfl, hl⟩ := hrel
          have hsz := Lib.size_eq t
          by_cases h0 : t.size = 0
          · have hn : t.data.toList = [] := nil_list h0
            have e0 : (t.toList == []) = true := by rw [Lx.toL, hn]; rfl
            have HT : Hid (t.data.toList = trm s.data.toList) := by
              show t.data.toList = trm s.data.toList
              unfold trm
              rw [← HT0.out, ← hl.out, hn]; rfl
            clear hsz hn hl
            go_wp2
            go_ret
            exact ⟨t, rfl, HT.out, rfl⟩
          · have e0 : (t.toList == []) = false := by
              rw [Lx.toL, beq_eq_false_iff_ne]
              intro h; have h2 := congrArg List.length h; simp only [List.length_nil] at h2; omega
            have hlt : t.size - 1 < t.size := by omega
            obtain ⟨m, hm⟩ : ∃ m, t.size = m + 1 := ⟨t.size - 1, by omega⟩
            have hlm : m < t.size := by rw [hm]; exact Nat.lt_succ_self m
            obtain ⟨c, hc⟩ : ∃ c, t[m]'hlm = c := ⟨_, rfl⟩
            have hcl : t.data.toList = t.data.toList.take m ++ [c] := by
              have h1 : m < t.data.toList.length := by omega
              have h2 : t.data.toList[m]'h1 = c := by rw [← hc]; rfl
              rw [← h2, ← List.take_succ_eq_append_getElem h1, List.take_of_length_le (by omega)]
            have HI : Hid (∀ w : World, Calls Tryz.prog 65 #[.int .u8 (c.toNat : Int)] w fun e w' => e = .returned (.bool (bl c)) ∧ w = w') := fun w => isBlank_any c w
            have hm0 : (0 : Int) ≤ (m : Int) := by omega
            have hm1 : (m : Int) < (t.size : Int) := by omega
            have hm2 : (m : Int) ≤ (t.size : Int) := by omega
            have hmw : IntKind.i64.wrap ((t.size : Int) - 1) = (m : Int) := by rw [IntKind.wrap_i64]; omega
            by_cases hb : bl c = true
            · rw [hb] at HI
              have HX : Hid (rtr (t.extract 0 m).data.toList = rtr t0.data.toList ∧ (t.extract 0 m).size = m) := by
                refine ⟨?_, ?_⟩
                · rw [Lib.extract_data, ← hl.out]
                  conv => rhs; rw [hcl]
                  rw [rtr_blank _ _ hb]
                  simp
                · rw [ByteArray.size_extract]; omega
              clear hsz hcl hl
              go_wp2_with (first
                | (go_at_call 65; refine (HI.out _).mono ?_; rintro e w2 ⟨rfl, hw2⟩; subst hw2)
                | go_in)
              refine ⟨⟨t.extract 0 m, by rw [HX.out.2]; omega, rfl, HX.out.1⟩, ?_⟩
              show (t.extract 0 m).size < t.size
              rw [HX.out.2]; omega
            · have hbf : bl c = false := by simpa using hb
              rw [hbf] at HI
              have HT : Hid (t.data.toList = trm s.data.toList) := by
                show t.data.toList = trm s.data.toList
                unfold trm
                rw [← HT0.out, ← hl.out]
                conv => rhs; rw [hcl]
                rw [rtr_nblank _ _ hbf, ← hcl]
              clear hsz hcl hl
              go_wp2_with (first
                | (go_at_call 65; refine (HI.out _).mono ?_; rintro e w2 ⟨rfl, hw2⟩; subst hw2)
                | go_in)
              go_ret
              exact ⟨t, rfl, HT.out, rfl⟩
end Go.Proofs.YtichbejmelkjeaaGreatDoor

namespace Go.Proofs.YtichbejmelkjeaaGreatDoor
open Go.RowKit

theorem hd_nxt (r : List UInt8) : nxt r = [] ∨ ∃ c q, nxt r = c :: q ∧ bl c = false := trm_head _
/-- Three words are taken, and none was the one that stops: all the others are. -/
theorem tkn_all : ∀ (f : Nat) (ws : List (List UInt8)) (r : List UInt8), 3 ≤ ws.length → (r = [] ∨ ∃ c q, r = c :: q ∧ bl c = false) → r.length < f → tkn f ws r = (ws ++ (chs f r).map wrd, []) := by
  intro f
  induction f with
  | zero => intro ws r _ _ h; omega
  | succ f ih =>
    intro ws r h3 hh hf
    by_cases h0 : r = []
    · subst h0; rw [chs_nil]; simp [tkn]
    · have hl := nxt_len (hh.resolve_left h0)
      unfold tkn
      rw [if_neg h0, if_neg (by
        rintro (⟨h, -⟩ | ⟨h, -⟩) <;> simp only [List.length_append, List.length_cons, List.length_nil] at h <;> omega), ih _ _ (by rw [List.length_append]; omega) (hd_nxt r) (by omega), chs_cons _ h0]
      simp
theorem chs_one {f : Nat} {r : List UInt8} (hf : 0 < f) (h : nxt r = []) (h0 : r ≠ []) : chs f r = [r] := by
  obtain ⟨g, rfl⟩ : ∃ g, f = g + 1 := ⟨f - 1, by omega⟩
  rw [chs_cons _ h0, h, chs_nil]

/-- What the program reads is what the rests say. -/
theorem cmd_eq (f : Nat) (r : List UInt8) (hh : r = [] ∨ ∃ c q, r = c :: q ∧ bl c = false) (hf : r.length + 4 < f) : (fun x : List (List UInt8) × List UInt8 => cmdP x.1 x.2) (tkn f [] r) = cmdS (chs f r) := by
  obtain ⟨f3, rfl⟩ : ∃ g, f = g + 4 := ⟨f - 4, by omega⟩
  by_cases h0 : r = []
  · subst h0; rw [chs_nil]; rfl
  have l1 := nxt_len (hh.resolve_left h0)
  have hb1 := hd_nxt r
  obtain ⟨r1, hr1⟩ : ∃ r1, nxt r = r1 := ⟨_, rfl⟩
  rw [hr1] at l1 hb1
  rw [show f3 + 4 = (f3 + 3) + 1 from rfl, chs_cons _ h0, hr1]
  obtain ⟨w0, hw0⟩ : ∃ w0, wrd r = w0 := ⟨_, rfl⟩
  have key : ∀ ws e, tkn (f3 + 3 + 1) [] r = (ws, e) → cmdP ws e = cmdS (r :: chs (f3 + 3) r1) → (fun x : List (List UInt8) × List UInt8 => cmdP x.1 x.2) (tkn (f3 + 3 + 1) [] r) = cmdS (r :: chs (f3 + 3) r1) := fun ws e h1 h2 => by rw [h1]; exact h2
  by_cases h6 : tks (knd w0) = 6
  · refine key [w0] r1 ?_ ?_
    · unfold tkn
      rw [if_neg h0, hw0, hr1, if_pos (.inl ⟨rfl, h6⟩)]; rfl
    · unfold cmdP cmdS
      simp only [hw0, h6]
      by_cases h1 : r1 = []
      · subst h1; rw [chs_nil]; simp
      · rw [show f3 + 3 = (f3 + 2) + 1 from rfl, chs_cons _ h1]; simp [h1]
  have hgo1 : tkn (f3 + 3 + 1) [] r = tkn (f3 + 3) [w0] r1 := by
    conv => lhs; unfold tkn
    rw [if_neg h0, hw0, hr1, if_neg (by
      rintro (⟨-, h⟩ | ⟨h, -⟩)
      · exact h6 h
      · simp at h)]
    rfl
  rw [hgo1] at key
  by_cases h1 : r1 = []
  · subst h1
    rw [hgo1]
    refine key [w0] [] (by simp [tkn]) ?_
    rw [chs_nil]
    unfold cmdP cmdS
    simp only [hw0, h6]
    simp
  have l2 := nxt_len (hb1.resolve_left h1)
  have hb2 := hd_nxt r1
  obtain ⟨r2, hr2⟩ : ∃ r2, nxt r1 = r2 := ⟨_, rfl⟩
  rw [hr2] at l2 hb2
  obtain ⟨w1, hw1⟩ : ∃ w1, wrd r1 = w1 := ⟨_, rfl⟩
  have hgo2 : tkn (f3 + 3) [w0] r1 = tkn (f3 + 2) [w0, w1] r2 := by
    conv => lhs; unfold tkn
    rw [if_neg h1, hw1, hr2, if_neg (by
      rintro (⟨h, -⟩ | ⟨h, -⟩) <;> simp at h)]
    rfl
  rw [hgo1]
  rw [hgo2] at key ⊢
  rw [show f3 + 3 = (f3 + 2) + 1 from rfl, chs_cons _ h1, hr2] at key ⊢
  by_cases h2 : r2 = []
  · subst h2
    refine key [w0, w1] [] (by simp [tkn]) ?_
    rw [chs_nil]
    unfold cmdP cmdS
    simp only [hw0, hw1, h6]
    simp
  have l3 := nxt_len (hb2.resolve_left h2)
  have hb3 := hd_nxt r2
  obtain ⟨r3, hr3⟩ : ∃ r3, nxt r2 = r3 := ⟨_, rfl⟩
  rw [hr3] at l3 hb3
  obtain ⟨w2, hw2⟩ : ∃ w2, wrd r2 = w2 := ⟨_, rfl⟩
  rw [show f3 + 2 = (f3 + 1) + 1 from rfl, chs_cons _ h2, hr3] at key ⊢
  by_cases hif : w2 = ifw
  · refine key [w0, w1, w2] r3 ?_ ?_
    · unfold tkn
      rw [if_neg h2, hw2, hr3, if_pos (.inr ⟨rfl, hif⟩)]; rfl
    · unfold cmdP cmdS
      simp only [hw0, h6, hif]
      by_cases h3 : r3 = []
      · subst h3; rw [chs_nil]; simp
      · rw [chs_cons _ h3]; simp [h3, hw1, hw2, hif]
  · have hgo3 : tkn (f3 + 1 + 1) [w0, w1] r2 = tkn (f3 + 1) [w0, w1, w2] r3 := by
      conv => lhs; unfold tkn
      rw [if_neg h2, hw2, hr3, if_neg (by
        rintro (⟨h, -⟩ | ⟨-, h⟩)
        · simp at h
        · exact hif h)]
      rfl
    rw [hgo3] at key ⊢
    refine key _ _ (tkn_all (f3 + 1) [w0, w1, w2] r3 (by simp) hb3 (by omega)) ?_
    unfold cmdP cmdS
    simp only [hw0, h6]
    cases hc : chs (f3 + 1) r3 with
    | nil => simp
    | cons a b => simp [hw2, hif]
theorem par_rsts (l : List UInt8) : parP l = if 300 < l.length ∨ 10 ∈ l then none else cmdS (chs (l.length + 6) (trm l)) := by
  unfold parP
  split
  · rfl
  · have hfu : ∀ (f g : Nat) (ws : List (List UInt8)) (r : List UInt8), (r = [] ∨ ∃ c q, r = c :: q ∧ bl c = false) → r.length < f → r.length < g → tkn f ws r = tkn g ws r := by
      intro f
      induction f with
      | zero => intro g ws r _ h; omega
      | succ f ih =>
        intro g ws r hr hf hg
        cases g with
        | zero => omega
        | succ g =>
          unfold tkn
          by_cases h : r = []
          · rw [if_pos h, if_pos h]
          · rw [if_neg h, if_neg h]
            have hl := nxt_len (hr.resolve_left h)
            rw [ih g _ (nxt r) (hd_nxt r) (by omega) (by omega)]
    have hl := trm_len l
    rw [hfu (l.length + 1) (l.length + 6) [] (trm l) (trm_head l) (by omega) (by omega)]
    exact cmd_eq _ _ (trm_head l) (by omega)
end Go.Proofs.YtichbejmelkjeaaGreatDoor
