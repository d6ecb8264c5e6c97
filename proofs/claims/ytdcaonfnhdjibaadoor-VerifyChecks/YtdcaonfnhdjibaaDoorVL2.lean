import Derived.Test.YtdcaonfnhdjibaaDoorVL1
import Derived.Test.YtdcaonfnhdjibaaDoorVM1
namespace Go.Proofs.YtdcaonfnhdjibaaDoor
open Go.RowKit

theorem lit_row {w : World} {h G : Nat} {a : Int} {x : In} {q : Option Addr} {n cap : Nat} {s : List Int} (k : LS w h G a x q n cap s) (v : Int) : RowN (w.alloc (.cells #[.int .i64 v] 45)) h (some ⟨w.heap.size, 0, none⟩) 1 (sv [v]) := fun _ =>
  ⟨w.heap.size, 0, rfl, ⟨by simp, fun e => by have := k.lk.blk.lt; omega⟩, range_new w [.int .i64 v] 45⟩
theorem LS.len {w : World} {h G : Nat} {a : Int} {x : In} {q : Option Addr} {n cap : Nat} {s : List Int} (k : LS w h G a x q n cap s) : s.length = n := by obtain ⟨g, o, rfl, hl, -⟩ := k.st; exact hl
theorem Eff.pre {w0 w w' : World} {h G : Nat} {a : Int} {x : In} {R : Ex} {e : Ending} (p : Kp (fun i => i = h) w0 w) (k : Eff w h G a x R e w') : Eff w0 h G a x R e w' := by
  unfold Eff at k ⊢
  cases R with
  | error c => exact ⟨k.1, p.trans k.2 fun _ _ e => e⟩
  | ok s => exact ⟨k.1, k.2.1, p.trans k.2.2 fun _ _ e => e⟩
theorem tj_len {M s r : List Int} (h : tjS M s .ok = .ok r) : r.length ≤ s.length := by
  rw [tj_cases] at h
  split at h
  · cases h
  · split at h
    · cases h
      rw [List.length_take]
      omega
    · cases h
/-- One step, then another. -/
def thn (R : Ex) (k : List Int → Ex) : Ex := match R with | .error e => .error e | .ok r => k r
theorem tj_thn (M s : List Int) (k : List Int → Ex) : tjS M s k = thn (tjS M s .ok) k := tj_ok M s k
/-- takeJust of one sort that is laid there. -/
theorem just_one {w : World} {h G : Nat} {a : Int} {x : In} {q : Option Addr} {n cap : Nat} {s : List Int} (k : LS w h G a x q n cap s) (hn : n ≤ 1000) (v : Int) : Calls Tryd.prog 64 #[.pointer (some ⟨h, 0, none⟩), .slice (some ⟨w.heap.size, 0, none⟩) 1 1] (w.alloc (.cells #[.int .i64 v] 45)) fun e w' => Hid (Eff w h G a x (tjS [v] s .ok) e w') := by
  have b : Below w.heap.size w (w.alloc (.cells #[.int .i64 v] 45)) := (Below.refl _ w).alloc (Nat.le_refl _) _
  have c := takeJust_any (k.next b) hn 1 (rfl : [v].length = 1) (lit_row k v)
  refine c.mono ?_
  intro e w' he
  exact Eff.pre (Kp.of b) he.out
set_option maxRecDepth 100000 in
set_option maxHeartbeats 1000000 in
theorem unary_main {w : World} {h G : Nat} {a : Int} {x : In} {q : Option Addr} {n cap : Nat} {s : List Int} (k : LS w h G a x q n cap s) (hn : n ≤ 1000) (op v : Int) (hv : op = 2 ∧ v = 2 ∨ op ≠ 2 ∧ v = 1) : Calls Tryd.prog 66 #[.pointer (some ⟨h, 0, none⟩), .int .i64 op] w fun e w' => Hid (Eff w h G a x (tjS [v] s (gvS v)) e w') := by
  have hl := k.len
  have c1 := just_one k hn v
  obtain ⟨R1, HR1⟩ : ∃ R1, Hid (R1 = tjS [v] s .ok) := ⟨_, (rfl : tjS [v] s .ok = _)⟩
  rw [tj_thn, ← HR1.out]
  rw [← HR1.out] at c1
  obtain ⟨R, HR⟩ : ∃ R, Hid (R = thn R1 (gvS v)) := ⟨_, (rfl : thn R1 (gvS v) = _)⟩
  rw [← HR.out]
  have HLn : Hid (∀ r, R1 = .ok r → r.length ≤ 1000) := fun r hr => by
    have := tj_len (HR1.out.symm.trans hr)
    omega
  clear k HR1
  rcases hv with ⟨rfl, rfl⟩ | ⟨ho, rfl⟩
  all_goals first | (have ho1 : (op == 2) = false := by rw [beq_eq_false_iff_ne]; exact ho) | skip
  all_goals go_enter Tryd.func66, Tryd.ntmps66
  all_goals go_wp2_with fail
  all_goals refine c1.mono ?_
  all_goals rintro e W1 h1
  all_goals cases hR : R1 with
    | error c =>
      rw [hR] at h1 HR
      obtain ⟨rfl, kp⟩ := h1.out
      go_wp2
      refine ⟨rfl, ?_⟩
      rw [HR.out]
      exact ⟨rfl, kp⟩
    | ok r =>
      rw [hR] at h1 HR
      obtain ⟨rfl, ⟨q1, n1, cap1, k1⟩, kp⟩ := h1.out
      have hn1 : n1 ≤ 1000 := by rw [← k1.len]; exact HLn.out r hR
      have c2 := fun v => give_any k1 v hn1
      have HKp : Hid (Kp (fun i => i = h) w W1) := kp
      clear h1 c1 k1 kp
      go_wp2_with fail
      refine (c2 _).mono ?_
      rintro e W2 h2
      have h3 : Eff w h G a x R e W2 := by rw [HR.out]; exact h2.out.pre HKp.out
      clear h2 c2
      cases hRz : R with
      | error cz =>
        rw [hRz] at h3
        obtain ⟨rfl, kp⟩ := h3
        go_wp2
        refine ⟨rfl, ?_⟩
        rw [hRz]
        exact ⟨rfl, kp⟩
      | ok rz =>
        rw [hRz] at h3
        obtain ⟨rfl, hq, kp⟩ := h3
        go_wp2
        go_end0
        rw [hRz]
        exact ⟨rfl, hq, kp⟩
theorem unary_any {w : World} {h G : Nat} {a : Int} {x : In} {q : Option Addr} {n cap : Nat} {s : List Int} (k : LS w h G a x q n cap s) (hn : n ≤ 1000) (op : Int) : Calls Tryd.prog 66 #[.pointer (some ⟨h, 0, none⟩), .int .i64 op] w fun e w' => Hid (Eff w h G a x (tjS [if op = 2 then 2 else 1] s (gvS (if op = 2 then 2 else 1))) e w') := by
  by_cases ho : op = 2
  · rw [if_pos ho]
    exact unary_main k hn op 2 (.inl ⟨ho, rfl⟩)
  · rw [if_neg ho]
    exact unary_main k hn op 1 (.inr ⟨ho, rfl⟩)
theorem step_callX {P : Program} {w : World} {ops : Array Oper} {o : Oper} {a : Act} {K : Act → World → Prop} {Q : Exit → Act → World → Prop} {E : Prop} (hw : Region.wanted o (yielded ops a.tmps) = true) (f : FuncId) (xs : List Operand) (ts : Array TypeId) (us : List Value)
    (ho : o.op = .call { callee := .value (.func f), args := xs.toArray, argTypes := ts }) (hx : xs.map a.eval = us) (hcf : ∀ w : World, (callFunc f us.toArray).run P w = .ok (.enter f us.toArray) w)
    (k c : Int) (Post : World → Prop) (hc : Calls P f us.toArray w fun e w' => e = rfs k c ∧ Post w') (hP : ∀ w', Post w' → Q (.panic [{ v := .iface 89 (.agg #[.int .i64 k, .int .i64 c]), recovered := false }]) a w') (_hK : ∀ v w', False → K (a.put o.dst v) w') : if Region.wanted o (yielded ops a.tmps) = true then Oper.wp P o a w K Q else E := by
  refine step_callP hw f xs ts us ho hx hcf _ hc (fun v w' h => ?_) (fun ch w' h => ?_) (fun w' h => ?_)
  · cases h.1
  · obtain ⟨h1, h2⟩ := h
    cases h1
    exact hP _ h2
  · cases h.1
theorem callAO (a b : Value) (w : World) : (callFunc 86 #[a, b]).run Tryd.prog w = .ok (.enter 86 #[a, b]) w := by kernel_rfl
theorem callWa (a b : Value) (w : World) : (callFunc 69 #[a, b]).run Tryd.prog w = .ok (.enter 69 #[a, b]) w := by kernel_rfl
theorem want_yes {w : World} {h G : Nat} {a : Int} {x : In} {q : Option Addr} {n cap : Nat} (k : LkM w h G a x q n cap) : Calls Tryd.prog 69 #[.pointer (some ⟨h, 0, none⟩), .bool true] w fun e w' => ∃ v, e = .returned v ∧ (v = .tuple #[] ∧ w' = w) :=
  (want_any k true).mono fun e w' ⟨h1, h2⟩ => ⟨_, by rw [if_pos rfl] at h1; exact h1, rfl, h2⟩
theorem want_no {w : World} {h G : Nat} {a : Int} {x : In} {q : Option Addr} {n cap : Nat} (k : LkM w h G a x q n cap) : Calls Tryd.prog 69 #[.pointer (some ⟨h, 0, none⟩), .bool false] w fun e w' => e = rfs 142 a ∧ w' = w :=
  (want_any k false).mono fun e w' ⟨h1, h2⟩ => ⟨by rw [if_neg (by decide)] at h1; exact h1, h2⟩
theorem tk_no {n : Nat} {s : List Int} {k : List Int → List Int → Ex} (h : s.length < n) : tkS n s k = .error 141 := if_pos h
theorem tk_yes {n : Nat} {s : List Int} {k : List Int → List Int → Ex} (h : n ≤ s.length) : tkS n s k = k (s.take (s.length - n)) (s.drop (s.length - n)) := if_neg (by omega)
theorem Stk.two {w : World} {q : Option Addr} {cap : Nat} {t : List Int} (h : Stk w q 2 cap t) : ∃ g o u v, q = some ⟨g, o, none⟩ ∧ t = [u, v] ∧ w.cell? ⟨g, o, none⟩ = some (.int .i64 u) ∧ w.cell? ⟨g, o + 1, none⟩ = some (.int .i64 v) := by
  obtain ⟨g, o, h1, h2, h3, h4, h5⟩ := h
  obtain ⟨u, v, rfl⟩ := len2 h2
  exact ⟨g, o, u, v, h1, rfl, h4 0 _ rfl, h4 1 _ rfl⟩
theorem Stk.one {w : World} {q : Option Addr} {cap : Nat} {t : List Int} (h : Stk w q 1 cap t) : ∃ g o u, q = some ⟨g, o, none⟩ ∧ t = [u] ∧ w.cell? ⟨g, o, none⟩ = some (.int .i64 u) := by
  obtain ⟨g, o, h1, h2, h3, h4, h5⟩ := h
  obtain ⟨u, rfl⟩ := len1 h2
  exact ⟨g, o, u, h1, rfl, h4 0 _ rfl⟩
theorem Stk.three {w : World} {q : Option Addr} {cap : Nat} {t : List Int} (h : Stk w q 3 cap t) : ∃ g o u v z, q = some ⟨g, o, none⟩ ∧ t = [u, v, z] ∧ w.cell? ⟨g, o, none⟩ = some (.int .i64 u) ∧ w.cell? ⟨g, o + 1, none⟩ = some (.int .i64 v) ∧ w.cell? ⟨g, o + 2, none⟩ = some (.int .i64 z) := by
  obtain ⟨g, o, h1, h2, h3, h4, h5⟩ := h
  obtain ⟨u, v, z, rfl⟩ := len3 h2
  exact ⟨g, o, u, v, z, h1, rfl, h4 0 _ rfl, h4 1 _ rfl, h4 2 _ rfl⟩
set_option maxRecDepth 100000 in
set_option maxHeartbeats 4000000 in
theorem binary_any {w : World} {h G : Nat} {a : Int} {x : In} {q : Option Addr} {n cap : Nat} {s : List Int} (k : LS w h G a x q n cap s) (hn : n ≤ 1000) (op : Int) (hop : 3 ≤ op ∧ op ≤ 13) : Calls Tryd.prog 67 #[.pointer (some ⟨h, 0, none⟩), .int .i64 op] w fun e w' => Hid (Eff w h G a x (tkS 2 s fun r t => wtS (decide (t.getD 0 0 = t.getD 1 0) && opnd op (t.getD 0 0)) (gvS (if op ≤ 7 then t.getD 0 0 else 2) r)) e w') := by
  have c1 : Calls Tryd.prog 65 #[.pointer (some ⟨h, 0, none⟩), .int .i64 2] w _ := take_any k 2 hn
  obtain ⟨R, HR⟩ : ∃ R, Hid (R = tkS 2 s fun r t => wtS (decide (t.getD 0 0 = t.getD 1 0) && opnd op (t.getD 0 0)) (gvS (if op ≤ 7 then t.getD 0 0 else 2) r)) := ⟨_, (rfl : (tkS 2 s fun r t => wtS (decide (t.getD 0 0 = t.getD 1 0) && opnd op (t.getD 0 0)) (gvS (if op ≤ 7 then t.getD 0 0 else 2) r)) = _)⟩
  rw [← HR.out]
  have HN : Hid (s.length ≤ 1000) := by show s.length ≤ 1000; rw [k.len]; exact hn
  have HAO : Hid (∀ (W : World) (v : Int), Calls Tryd.prog 86 #[.int .i64 op, .int .i64 v] W fun e w' => ∃ u, e = .returned u ∧ (u = .bool (opnd op v) ∧ w' = W)) := fun W v => (areOperands_any W op v hop).mono fun e w' ⟨h1, h2⟩ => ⟨_, h1, rfl, h2⟩
  clear k hop
  go_enter Tryd.func67, Tryd.ntmps67
  go_wp2_with fail
  refine c1.mono ?_
  rintro e W1 h1
  rcases h1 with ⟨h2, rfl, rfl⟩ | ⟨h2, q1, cap1, rfl, hw1⟩
  · have HE : Hid (R = .error 141) := HR.out.trans (tk_no h2)
    go_wp2
    refine ⟨rfl, ?_⟩
    rw [HE.out]
    exact ⟨rfl, Kp.refl _ _⟩
  · have HE : Hid (R = _) := HR.out.trans (tk_yes h2)
    obtain ⟨g, o, u, v, rfl, et, x0, x1⟩ := hw1.out.st.two
    rw [et] at HE
    have HLS : Hid (LS W1.drew h G a x q (n - 2) cap (s.take (s.length - 2)) ∧ Kp (fun i => i = h) w W1.drew) := ⟨hw1.out.ls.next (Below.refl _ W1).drew, hw1.out.kp.next (Below.refl _ W1).drew⟩
    have z0 : W1.drew.cell? ⟨g, o, none⟩ = some (.int .i64 u) := x0
    have z1 : W1.drew.cell? ⟨g, o + 1, none⟩ = some (.int .i64 v) := x1
    have HG : Hid (([u, v] : List Int).getD 0 0 = u ∧ ([u, v] : List Int).getD 1 0 = v) := ⟨rfl, rfl⟩
    rw [HG.out.1, HG.out.2] at HE
    have HNr : Hid ((s.take (s.length - 2)).length ≤ 1000) := by
      show _ ≤ 1000
      have := HN.out
      rw [List.length_take]
      omega
    generalize s.take (s.length - 2) = r at HE HLS HNr
    clear c1 hw1 et HG HR h2 HN
    by_cases huv : u = v
    · subst huv
      have hbq : (u == u) = true := by simp
      have cAO := HAO.out W1.drew u
      rw [decide_eq_true (rfl : u = u), Bool.true_and] at HE
      cases hB : opnd op u with
      | true =>
        rw [hB] at cAO HE
        have HE2 : Hid (R = gvS (if op ≤ 7 then u else 2) r) := HE.out
        have cW := want_yes HLS.out.1.lk
        clear HE hB HAO
        go_wp2_with fail
        go_region_law (first
          | (refine step_callG (by rfl) 86 [.tmp 16, .tmp 19] #[96, 45] [.int .i64 op, .int .i64 u] (by rfl) (by rfl) (callAO _ _) _ cAO ?_; rintro b9 W9 ⟨rfl, rfl⟩)
          | (refine step_callG (by rfl) 69 [.tmp 7, .tmp 21] #[121, 4] [.pointer (some ⟨h, 0, none⟩), .bool true] (by rfl) (by rfl) (callWa _ _) _ cW ?_; rintro b8 W8 ⟨rfl, rfl⟩)
          | fail)
        all_goals
          have hnr : n - 2 ≤ 1000 := by omega
          have cg := fun v => give_any HLS.out.1 v hnr
          clear cAO cW x0 x1
          by_cases ho : op ≤ 7
          · have HE3 : Hid (R = gvS u r) := by show R = _; rw [HE2.out, if_pos ho]
            clear HE2
            go_wp2_with fail
            refine (cg _).mono ?_
            rintro e W2 h2
            have h3 : Eff w h G a x R e W2 := by rw [HE3.out]; exact h2.out.pre HLS.out.2
            clear h2 cg
            cases hRz : R with
            | error cz =>
              rw [hRz] at h3
              obtain ⟨rfl, kp⟩ := h3
              go_wp2
              refine ⟨rfl, ?_⟩
              rw [hRz]
              exact ⟨rfl, kp⟩
            | ok rz =>
              rw [hRz] at h3
              obtain ⟨rfl, hq, kp⟩ := h3
              go_wp2
              go_end0
              rw [hRz]
              exact ⟨rfl, hq, kp⟩
          · have HE3 : Hid (R = gvS 2 r) := by show R = _; rw [HE2.out, if_neg ho]
            clear HE2
            go_wp2_with fail
            refine (cg _).mono ?_
            rintro e W2 h2
            have h3 : Eff w h G a x R e W2 := by rw [HE3.out]; exact h2.out.pre HLS.out.2
            clear h2 cg
            cases hRz : R with
            | error cz =>
              rw [hRz] at h3
              obtain ⟨rfl, kp⟩ := h3
              go_wp2
              refine ⟨rfl, ?_⟩
              rw [hRz]
              exact ⟨rfl, kp⟩
            | ok rz =>
              rw [hRz] at h3
              obtain ⟨rfl, hq, kp⟩ := h3
              go_wp2
              go_end0
              rw [hRz]
              exact ⟨rfl, hq, kp⟩
      | false =>
        rw [hB] at cAO HE
        have HE2 : Hid (R = .error 142) := HE.out
        have cW := want_no HLS.out.1.lk
        clear HE hB HAO
        go_wp2_with fail
        go_region_law (first
          | (refine step_callG (by rfl) 86 [.tmp 16, .tmp 19] #[96, 45] [.int .i64 op, .int .i64 u] (by rfl) (by rfl) (callAO _ _) _ cAO ?_; rintro b9 W9 ⟨rfl, rfl⟩)
          | (refine step_callX (by rfl) 69 [.tmp 7, .tmp 21] #[121, 4] [.pointer (some ⟨h, 0, none⟩), .bool false] (by rfl) (by rfl) (callWa _ _) 142 a _ cW (fun W8 h8 => ⟨rfl, by rw [HE2.out, h8]; exact ⟨rfl, HLS.out.2⟩⟩) ?_; intro v8 W8 hf8)
          | fail)
        all_goals exact hf8.elim
    · have hbq : (u == v) = false := by rw [beq_eq_false_iff_ne]; exact huv
      rw [decide_eq_false huv, Bool.false_and] at HE
      have HE2 : Hid (R = .error 142) := HE.out
      have cW := want_no HLS.out.1.lk
      clear HE HAO
      go_wp2_with fail
      first
        | (go_region_law (first
            | (refine step_callX (by rfl) 69 [.tmp 7, .tmp 21] #[121, 4] [.pointer (some ⟨h, 0, none⟩), .bool false] (by rfl) (by rfl) (callWa _ _) 142 a _ cW (fun W8 h8 => ⟨rfl, by rw [HE2.out, h8]; exact ⟨rfl, HLS.out.2⟩⟩) ?_; intro v8 W8 hf8)
            | fail))
        | fail
      all_goals exact hf8.elim
end Go.Proofs.YtdcaonfnhdjibaaDoor
namespace Go.Proofs.YtdcaonfnhdjibaaDoor
open Go.RowKit

theorem cut_nil (n cap : Nat) : ∀ w : World, (Instr.slice 35 (.slice none n cap) none (some (.int .i64 0)) none).run Tryd.prog w = .ok (.slice none 0 cap) w := fun w => by
  simp [go_sem, Instr.slice, run_underlying Tryd.underlying35]
theorem cut_ls {q : Option Addr} {n cap p : Nat} (hq : q = none → n = 0) (hp : p ≤ n) (hc : n ≤ cap) : ∀ w : World, (Instr.slice 35 (.slice q n cap) none (some (.int .i64 (p : Int))) none).run Tryd.prog w = .ok (.slice q p cap) w := by
  cases q with
  | none =>
    obtain rfl : n = 0 := hq rfl
    obtain rfl : p = 0 := by omega
    exact cut_nil 0 cap
  | some a => exact cut_run (t := 35) Tryd.underlying35 sz_st a n cap p (by omega)
/-- Sorts that lie elsewhere than the look. -/
structure SoM (w : World) (h : Nat) (q : Option Addr) (cap : Nat) (L : List Int) : Prop where
  row : RowN w h q L.length (sv L)
  nil : q = none → L.length = 0
  cap : L.length ≤ cap
theorem RowN.next {w w' : World} {h : Nat} {q : Option Addr} {m : Nat} {xs : List Value} (r : RowN w h q m xs) (k : Kp (fun i => i = h) w w') : RowN w' h q m xs := fun h0 => by
  obtain ⟨g, o, h1, h2, h3⟩ := r h0
  exact ⟨g, o, h1, ⟨Nat.lt_of_lt_of_le h2.1 k.size, h2.2⟩, range_same h3 (k.block g h2.1 h2.2)⟩
theorem SoM.next {w w' : World} {h : Nat} {q : Option Addr} {cap : Nat} {L : List Int} (s : SoM w h q cap L) (k : Kp (fun i => i = h) w w') : SoM w' h q cap L := ⟨s.row.next k, s.nil, s.cap⟩
theorem SoM.pre {w : World} {h : Nat} {q : Option Addr} {cap : Nat} {L : List Int} (s : SoM w h q cap L) (p : Nat) (hp : p ≤ L.length) : RowN w h q p (sv (L.take p)) := fun h0 => by
  obtain ⟨g, o, h1, h2, h3⟩ := s.row (by omega)
  refine ⟨g, o, h1, h2, fun j v hv => h3 j v ?_⟩
  unfold sv at hv ⊢
  rw [List.map_take, List.getElem?_take] at hv
  split at hv
  · exact hv
  · cases hv
set_option maxRecDepth 100000 in
set_option maxHeartbeats 1000000 in
theorem call_any {w : World} {h G : Nat} {a : Int} {x : In} {q : Option Addr} {n cap : Nat} {s : List Int} (k : LS w h G a x q n cap s) (hn : n ≤ 1000) (d : En) {dq : Option Addr} {dc : Nat} (hd : SoM w h dq dc d.sorts) (hp : 0 ≤ d.params ∧ d.params ≤ (d.sorts.length : Int)) :
    Calls Tryd.prog 68 #[.pointer (some ⟨h, 0, none⟩), .agg #[.string d.name, .int .i64 d.start, .int .i64 d.params, .slice dq d.sorts.length dc, .int .i64 d.result]] w fun e w' => Hid (Eff w h G a x (tjS (d.sorts.take d.params.toNat) s fun r => if d.result = 0 then .ok r else gvS d.result r) e w') := by
  obtain ⟨W, hW⟩ : ∃ W, W = w.alloc (.cells #[.string d.name, .int .i64 d.start, .int .i64 d.params, .slice dq d.sorts.length dc, .int .i64 d.result] 47) := ⟨_, rfl⟩
  have b : Below w.heap.size w W := by rw [hW]; exact (Below.refl _ w).alloc (Nat.le_refl _) _
  have f : Full W w.heap.size 47 [.string d.name, .int .i64 d.start, .int .i64 d.params, .slice dq d.sorts.length dc, .int .i64 d.result] := by rw [hW]; exact Full.new w _ _
  have x2 := (f.cell 2 _ rfl).1
  have x3 := (f.cell 3 _ rfl).1
  have x4 := (f.cell 4 _ rfl).1
  obtain ⟨p, hpe⟩ : ∃ p : Nat, d.params = (p : Int) := ⟨d.params.toNat, by omega⟩
  have hpl : p ≤ d.sorts.length := by omega
  have ept : d.params.toNat = p := by omega
  have hM : (d.sorts.take p).length = p := by rw [List.length_take]; omega
  have hc := cut_ls (p := p) hd.nil hpl hd.cap
  have c1 := takeJust_any (k.next b) hn dc hM ((hd.next (Kp.of b)).pre p hpl)
  rw [ept]
  rw [hpe] at x2
  have HPt : Hid (∀ W', Kp (fun i => i = h) W W' → W'.cell? ⟨w.heap.size, 4, none⟩ = some (.int .i64 d.result)) := fun W' kp => by
    have := kp.block w.heap.size f.lt (fun e => by have := k.lk.blk.lt; omega)
    exact ((show Full W' w.heap.size _ _ from this.trans f).cell 4 _ rfl).1
  have HKw : Hid (Kp (fun i => i = h) w W) := Kp.of b
  obtain ⟨R1, HR1⟩ : ∃ R1, Hid (R1 = tjS (d.sorts.take p) s .ok) := ⟨_, (rfl : tjS (d.sorts.take p) s .ok = _)⟩
  rw [tj_thn, ← HR1.out]
  rw [← HR1.out] at c1
  obtain ⟨R, HR⟩ : ∃ R, Hid (R = thn R1 fun r => if d.result = 0 then .ok r else gvS d.result r) := ⟨_, (rfl : (thn R1 fun r => if d.result = 0 then .ok r else gvS d.result r) = _)⟩
  rw [← HR.out]
  have hl := k.len
  have HLn : Hid (∀ r, R1 = .ok r → r.length ≤ 1000) := fun r hr => by
    have := tj_len (HR1.out.symm.trans hr)
    omega
  generalize d.params = dp at *
  generalize d.result = dr at *
  generalize d.sorts.length = dl at *
  clear k HR1 f b hd hp ept hM hpl
  subst hpe
  go_enter Tryd.func68, Tryd.ntmps68
  go_upto_region 1 with fail
  rw [← hW]
  clear hW
  go_wp2_with fail
  refine c1.mono ?_
  rintro e W1 h1
  cases hR : R1 with
  | error c =>
    rw [hR] at h1 HR
    obtain ⟨rfl, kp⟩ := h1.out
    go_wp2
    refine ⟨rfl, ?_⟩
    rw [HR.out]
    exact ⟨rfl, HKw.out.trans kp fun _ _ e => e⟩
  | ok r =>
    rw [hR] at h1 HR
    obtain ⟨rfl, ⟨q1, n1, cap1, k1⟩, kp⟩ := h1.out
    have hn1 : n1 ≤ 1000 := by rw [← k1.len]; exact HLn.out r hR
    have z4 := HPt.out W1 kp
    have HKp : Hid (Kp (fun i => i = h) w W1) := HKw.out.trans kp fun _ _ e => e
    by_cases h0 : dr = 0
    · have HRo : Hid (R = .ok r) := by show R = _; rw [HR.out]; exact if_pos h0
      subst h0
      have HK1 : Hid (LS W1 h G a x q1 n1 cap1 r) := k1
      clear h1 c1 k1 kp x2 x3 x4 HR
      go_wp2
      go_end0
      rw [HRo.out]
      exact ⟨rfl, ⟨_, _, _, HK1.out⟩, HKp.out⟩
    · have HRo : Hid (R = gvS dr r) := by show R = _; rw [HR.out]; exact if_neg h0
      have h01 : (dr != 0) = true := by rw [bne_iff_ne]; exact h0
      have c2 := give_any k1 dr hn1
      clear h1 c1 k1 kp x2 x3 x4 HR
      go_wp2_with fail
      refine c2.mono ?_
      rintro e W2 h2
      have h3 : Eff w h G a x R e W2 := by rw [HRo.out]; exact h2.out.pre HKp.out
      clear h2 c2
      cases hRz : R with
      | error cz =>
        rw [hRz] at h3
        obtain ⟨rfl, kp⟩ := h3
        go_wp2
        refine ⟨rfl, ?_⟩
        rw [hRz]
        exact ⟨rfl, kp⟩
      | ok rz =>
        rw [hRz] at h3
        obtain ⟨rfl, hq, kp⟩ := h3
        go_wp2
        go_end0
        rw [hRz]
        exact ⟨rfl, hq, kp⟩
end Go.Proofs.YtdcaonfnhdjibaaDoor
