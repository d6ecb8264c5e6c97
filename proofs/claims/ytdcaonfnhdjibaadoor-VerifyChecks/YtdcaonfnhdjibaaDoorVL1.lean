import Derived.Test.YtdcaonfnhdjibaaDoorVS1
namespace Go.Proofs.YtdcaonfnhdjibaaDoor
open Go.RowKit

/-! A look at an instruction, in memory. -/
/-- A refusal. -/
abbrev rfs (k a : Int) : Ending := .panicked [{ v := .iface 89 (.agg #[.int .i64 k, .int .i64 a]), recovered := false }]
/-- A stack that is known: no one writes into it. -/
def Stk (w : World) (q : Option Addr) (n cap : Nat) (s : List Int) : Prop := ∃ g o, q = some ⟨g, o, none⟩ ∧ s.length = n ∧ n ≤ cap ∧ w.rangeAt g o (sv s) ∧ Blk w g 45 0
theorem Stk.keep {w w' : World} {q : Option Addr} {n cap : Nat} {s : List Int} (h : Stk w q n cap s) (hk : ∀ g, Blk w g 45 0 → w'.heap[g]? = w.heap[g]?) : Stk w' q n cap s := by
  obtain ⟨g, o, h1, h2, h3, h4, h5⟩ := h
  exact ⟨g, o, h1, h2, h3, range_same h4 (hk g h5), h5.same (hk g h5)⟩
theorem Stk.next {w w' : World} {q : Option Addr} {n cap : Nat} {s : List Int} (h : Stk w q n cap s) (k : Below w.heap.size w w') : Stk w' q n cap s := h.keep fun g hg => k.block g hg.lt
theorem Stk.row {w : World} {q : Option Addr} {n cap : Nat} {s : List Int} (h : Stk w q n cap s) : Row w w.heap.size q n (sv s) := fun _ => by
  obtain ⟨g, o, h1, h2, h3, h4, h5⟩ := h
  exact ⟨g, o, h1, h5.lt, h4⟩
theorem Stk.at {w : World} {q : Option Addr} {n cap : Nat} {s : List Int} (h : Stk w q n cap s) (i : Nat) (hi : i < n) : ∃ g o, q = some ⟨g, o, none⟩ ∧ w.cell? ⟨g, o + i, none⟩ = some (.int .i64 (s.getD i 0)) := by
  obtain ⟨g, o, h1, h2, h3, h4, h5⟩ := h
  obtain ⟨g', o', e1, -, e2⟩ := row_atI h2 (Stk.row (w := w) (q := q) (n := n) (cap := cap) ⟨g, o, h1, h2, h3, h4, h5⟩) i hi
  exact ⟨g', o', e1, e2⟩
/-- The look. -/
def LkM (w : World) (h G : Nat) (a : Int) (x : In) (q : Option Addr) (n cap : Nat) : Prop := Full w h 106 [.pointer (some ⟨G, 0, none⟩), .int .i64 a, .int .i64 x.1, .int .i64 x.2.1, .int .i64 x.2.2, .slice q n cap]
theorem LkM.cs {w : World} {h G : Nat} {a : Int} {x : In} {q : Option Addr} {n cap : Nat} (k : LkM w h G a x q n cap) : (w.cell? ⟨h, 0, none⟩ = some (.pointer (some ⟨G, 0, none⟩)) ∧ w.cell? ⟨h, 1, none⟩ = some (.int .i64 a)) ∧ (w.cell? ⟨h, 2, none⟩ = some (.int .i64 x.1) ∧ w.cell? ⟨h, 3, none⟩ = some (.int .i64 x.2.1) ∧ w.cell? ⟨h, 4, none⟩ = some (.int .i64 x.2.2)) ∧ w.cell? ⟨h, 5, none⟩ = some (.slice q n cap) ∧ w.frozen? ⟨h, 5, none⟩ = false :=
  ⟨⟨(Full.cell k 0 _ rfl).1, (Full.cell k 1 _ rfl).1⟩, ⟨(Full.cell k 2 _ rfl).1, (Full.cell k 3 _ rfl).1, (Full.cell k 4 _ rfl).1⟩, Full.cell k 5 _ rfl⟩
theorem LkM.blk {w : World} {h G : Nat} {a : Int} {x : In} {q : Option Addr} {n cap : Nat} (k : LkM w h G a x q n cap) : Blk w h 106 6 := ⟨_, k, Nat.le_refl 6⟩
theorem LkM.next {w w' : World} {h G : Nat} {a : Int} {x : In} {q : Option Addr} {n cap : Nat} (k : LkM w h G a x q n cap) (b : Below w.heap.size w w') : LkM w' h G a x q n cap := Full.next k b
theorem LkM.put {w : World} {h G : Nat} {a : Int} {x : In} {q : Option Addr} {n cap : Nat} (k : LkM w h G a x q n cap) (q' : Option Addr) (n' cap' : Nat) : LkM (w.setCell ⟨h, 5, none⟩ (.slice q' n' cap')) h G a x q' n' cap' :=
  Full.put1 (a := [.pointer (some ⟨G, 0, none⟩), .int .i64 a, .int .i64 x.1, .int .i64 x.2.1, .int .i64 x.2.2]) (d := []) k _
theorem LkM.ne {w : World} {h G : Nat} {a : Int} {x : In} {q : Option Addr} {n cap : Nat} (k : LkM w h G a x q n cap) {g : Nat} (b : Blk w g 45 0) : g ≠ h := b.ne k.blk (by decide)
/-- Look and stack together: the look at the place a, its stack s. -/
structure LS (w : World) (h G : Nat) (a : Int) (x : In) (q : Option Addr) (n cap : Nat) (s : List Int) : Prop where
  lk : LkM w h G a x q n cap
  st : Stk w q n cap s
theorem LS.next {w w' : World} {h G : Nat} {a : Int} {x : In} {q : Option Addr} {n cap : Nat} {s : List Int} (k : LS w h G a x q n cap s) (b : Below w.heap.size w w') : LS w' h G a x q n cap s := ⟨k.lk.next b, k.st.next b⟩
theorem kp_sort {w w' : World} {h G : Nat} {a : Int} {x : In} {q : Option Addr} {n cap : Nat} (k : LkM w h G a x q n cap) (p : Kp (fun i => i = h) w w') : ∀ g, Blk w g 45 0 → w'.heap[g]? = w.heap[g]? := fun g hg => p.block g hg.lt fun e => k.ne hg e
set_option maxRecDepth 100000 in
set_option maxHeartbeats 400000 in
theorem refuse_any (w : World) (k a : Int) : Calls Tryd.prog 41 #[.int .i64 k, .int .i64 a] w fun e w' => e = rfs k a ∧ w' = w := by
  go_enter Tryd.func41, Tryd.ntmps41
  go_wp2
  exact ⟨rfl, rfl, rfl⟩
/-- What a call answers that may refuse. -/
def Ans (a : Int) (R : Except Int Unit) (e : Ending) : Prop := match R with | .ok _ => e = .returned (.tuple #[]) | .error k => e = rfs k a
set_option maxRecDepth 100000 in
set_option maxHeartbeats 400000 in
theorem want_any {w : World} {h G : Nat} {a : Int} {x : In} {q : Option Addr} {n cap : Nat} (k : LkM w h G a x q n cap) (b : Bool) : Calls Tryd.prog 69 #[.pointer (some ⟨h, 0, none⟩), .bool b] w fun e w' => (if b then e = .returned (.tuple #[]) else e = rfs 142 a) ∧ w' = w := by
  obtain ⟨⟨x0, x1⟩, -, -⟩ := k.cs
  cases b with
  | true =>
    go_enter Tryd.func69, Tryd.ntmps69
    go_wp2
    go_end0
    exact ⟨rfl, rfl⟩
  | false =>
    have r := refuse_any w 142 a
    go_enter Tryd.func69, Tryd.ntmps69
    go_wp2_with fail
    refine r.mono ?_
    rintro e w' ⟨rfl, rfl⟩
    go_wp2
    exact ⟨rfl, rfl, rfl⟩
theorem cut_lo {t e : TypeId} (ht : Tryd.prog.underlying t = some (.slice e)) (hz : ∀ w : World, (sizeOf e).run Tryd.prog w = .ok 1 w) (g o n cap k : Nat) (hk : k ≤ n) : ∀ w : World, (Instr.slice t (.slice (some ⟨g, o, none⟩) n cap) (some (.int .i64 (k : Int))) none none).run Tryd.prog w = .ok (.slice (some ⟨g, if cap = k then o else o + k, none⟩) (n - k) (cap - k)) w := fun w => by
  have h1 : (k : Int) ≤ (n : Int) := by omega
  by_cases hc : cap = k
  · subst hc
    simp [go_sem, Instr.slice, run_underlying ht, hz, h1]
  · simp [go_sem, Instr.slice, run_underlying ht, hz, h1, hc]
theorem Stk.split {w : World} {g o n cap : Nat} {s : List Int} (h : Stk w (some ⟨g, o, none⟩) n cap s) (m : Nat) (hm : m ≤ n) : Stk w (some ⟨g, o, none⟩) (n - m) cap (s.take (s.length - m)) ∧ Stk w (some ⟨g, if cap = n - m then o else o + (n - m), none⟩) m (cap - (n - m)) (s.drop (s.length - m)) := by
  obtain ⟨g', o', h1, h2, h3, h4, h5⟩ := h
  cases h1
  have e : sv s = sv (s.take (s.length - m)) ++ sv (s.drop (s.length - m)) := by unfold sv; rw [← List.map_append, List.take_append_drop]
  rw [e] at h4
  refine ⟨⟨g, o, rfl, by rw [List.length_take]; omega, by omega, fun j v hv => h4 j v (by rw [List.getElem?_append_left (List.getElem?_eq_some_iff.1 hv).1]; exact hv), h5⟩, ?_⟩
  by_cases hc : cap = n - m
  · have hm0 : m = 0 := by omega
    subst hm0
    rw [if_pos hc]
    exact ⟨g, o, rfl, by rw [List.length_drop]; omega, by omega, (fun j v hv => by
      rw [Nat.sub_zero, List.drop_length] at hv
      cases hv), h5⟩
  · rw [if_neg hc]
    refine ⟨g, o + (n - m), rfl, by rw [List.length_drop]; omega, by omega, fun j v hv => ?_, h5⟩
    have hl : (sv (s.take (s.length - m))).length = n - m := by rw [sv_len, List.length_take]; omega
    have := h4 (n - m + j) v (by rw [List.getElem?_append_right (by omega), hl, Nat.add_sub_cancel_left]; exact hv)
    rw [← Nat.add_assoc] at this
    exact this
/-- What take leaves and answers. -/
structure Tkn (w w' : World) (h G : Nat) (a : Int) (x : In) (s : List Int) (m : Nat) (q q' : Option Addr) (n cap cap' : Nat) : Prop where
  ls : LS w' h G a x q n cap (s.take (s.length - m))
  st : Stk w' q' m cap' (s.drop (s.length - m))
  kp : Kp (fun i => i = h) w w'
set_option maxRecDepth 100000 in
set_option maxHeartbeats 1000000 in
theorem take_any {w : World} {h G : Nat} {a : Int} {x : In} {q : Option Addr} {n cap : Nat} {s : List Int} (k : LS w h G a x q n cap s) (m : Nat) (hn : n ≤ 1000) : Calls Tryd.prog 65 #[.pointer (some ⟨h, 0, none⟩), .int .i64 (m : Int)] w fun e w' => (s.length < m ∧ e = rfs 141 a ∧ w' = w) ∨ (m ≤ s.length ∧ ∃ q' cap', e = .returned (.slice q' m cap') ∧ Hid (Tkn w w' h G a x s m q q' (n - m) cap cap')) := by
  obtain ⟨⟨x0, x1⟩, -, x5, y5⟩ := k.lk.cs
  obtain ⟨g, o, rfl, hl, hc, h4, h5⟩ := k.st
  by_cases hm : s.length < m
  · have r := refuse_any w 141 a
    have f1 : (n : Int) < (m : Int) := by omega
    have HL : Hid (s.length < m) := hm
    clear k h4 h5 hl hm
    go_enter Tryd.func65, Tryd.ntmps65
    go_wp2_with fail
    refine r.mono ?_
    rintro e w' ⟨rfl, rfl⟩
    go_wp2
    exact ⟨rfl, .inl ⟨HL.out, rfl, rfl⟩⟩
  · have f1 : ¬ ((n : Int) < (m : Int)) := by omega
    have f2 : (n : Int) - (m : Int) = ((n - m : Nat) : Int) := by omega
    have c1 := cut_lo (t := 72) Tryd.underlying72 sz_st g o n cap (n - m) (by omega)
    have c2 := cut_run (t := 72) Tryd.underlying72 sz_st ⟨g, o, none⟩ n cap (n - m) (by omega)
    have e1 : n - (n - m) = m := by omega
    rw [e1] at c1
    have sp := k.st.split m (by omega)
    have HE : Hid (m ≤ s.length ∧ Tkn w (w.setCell ⟨h, 5, none⟩ (.slice (some ⟨g, o, none⟩) (n - m) cap)) h G a x s m (some ⟨g, o, none⟩) (some ⟨g, if cap = n - m then o else o + (n - m), none⟩) (n - m) cap (cap - (n - m))) := by
      have kp : Kp (fun i => i = h) w (w.setCell ⟨h, 5, none⟩ (.slice (some ⟨g, o, none⟩) (n - m) cap)) := (Kp.refl (fun i => i = h) w).setCell (p := ⟨h, 5, none⟩) (.inl rfl) _
      exact ⟨by omega, ⟨k.lk.put _ _ _, sp.1.keep (kp_sort k.lk kp)⟩, sp.2.keep (kp_sort k.lk kp), kp⟩
    generalize n - m = d at *
    generalize (if cap = d then o else o + d) = o' at *
    generalize cap - d = cap' at *
    clear k h4 h5 hl hm sp e1
    go_enter Tryd.func65, Tryd.ntmps65
    go_wp2
    go_ret
    exact .inr ⟨HE.out.1, _, _, rfl, HE.out.2⟩
set_option maxRecDepth 100000 in
set_option maxHeartbeats 1000000 in
theorem with_any {w : World} {q : Option Addr} {n cap : Nat} {s : List Int} (k : Stk w q n cap s) (hn : n ≤ 1000) (v : Int) : Calls Tryd.prog 84 #[.slice q n cap, .int .i64 v] w fun e w' => ∃ q' cap', e = .returned (.slice q' (n + 1) cap') ∧ Hid (Stk w' q' (n + 1) cap' (s ++ [v]) ∧ Below w.heap.size w w') := by
  obtain ⟨g, o, rfl, hl, hc, h4, h5⟩ := k
  obtain ⟨W, hW⟩ : ∃ W, W = (w.alloc (.cells #[.int .i64 v] 45)).alloc (.cells #[.slice (some ⟨g, o, none⟩) n cap, .slice (some ⟨w.heap.size, 0, none⟩) 1 1] 72) := ⟨_, rfl⟩
  have b1 : Below w.heap.size w (w.alloc (.cells #[.int .i64 v] 45)) := (Below.refl _ w).alloc (Nat.le_refl _) _
  have b2 : Below (w.alloc (.cells #[.int .i64 v] 45)).heap.size (w.alloc (.cells #[.int .i64 v] 45)) W := by rw [hW]; exact (Below.refl _ _).alloc (Nat.le_refl _) _
  have b3 := below2 b1 b2
  have z1 : (w.alloc (.cells #[.int .i64 v] 45)).heap.size = w.heap.size + 1 := by simp
  have c1 := concat_any (w := W) (P := w.heap.size + 1) (g := g) (o := o) (n := n) (c := cap) (T := w.heap.size) (S := s) (top := v) hl hn (by rw [hW, ← z1]; exact Full.new _ _ _) (range_same h4 (b3.block g h5.lt)) (by
    have := range_new w [.int .i64 v] 45
    exact range_same this (b2.block _ (by omega))) (Nat.lt_of_lt_of_le h5.lt b3.size) (by have := b2.size; omega)
  have HB : Hid (Below w.heap.size w W) := b3
  clear h4 h5 b1 b2 b3
  go_enter Tryd.func84, Tryd.ntmps84
  go_wp2_with fail
  try rw [← hW]
  refine c1.mono ?_
  rintro e W2 ⟨G2, cap2, rfl, hw2⟩
  clear c1 hW z1
  go_wp2
  go_ret
  refine ⟨_, _, rfl, ⟨G2, 0, rfl, by simp [hl], ?_, ?_, ?_⟩, below2 HB.out hw2.out.2⟩
  · obtain ⟨q', cap', e, hle, -⟩ := own_slice hw2.out.1
    cases e
    exact hle
  · obtain ⟨q', cap', e, -, hr⟩ := own_slice hw2.out.1
    cases e
    obtain ⟨g', e1, e2⟩ := hr (Nat.succ_pos n)
    cases e1
    exact e2
  · exact (own_blk hw2.out.1 G2 rfl).le (Nat.zero_le _)
end Go.Proofs.YtdcaonfnhdjibaaDoor
namespace Go.Proofs.YtdcaonfnhdjibaaDoor
open Go.RowKit

/-- What a step that may refuse answers and leaves. -/
def Eff (w : World) (h G : Nat) (a : Int) (x : In) (R : Ex) (e : Ending) (w' : World) : Prop :=
  match R with
  | .error k => e = rfs k a ∧ Kp (fun i => i = h) w w'
  | .ok s => e = .returned (.tuple #[]) ∧ (∃ q n cap, LS w' h G a x q n cap s) ∧ Kp (fun i => i = h) w w'
set_option maxRecDepth 100000 in
set_option maxHeartbeats 1000000 in
theorem give_any {w : World} {h G : Nat} {a : Int} {x : In} {q : Option Addr} {n cap : Nat} {s : List Int} (k : LS w h G a x q n cap s) (v : Int) (hn : n ≤ 1000) : Calls Tryd.prog 63 #[.pointer (some ⟨h, 0, none⟩), .int .i64 v] w fun e w' => Hid (Eff w h G a x (gvS v s) e w') := by
  obtain ⟨⟨x0, x1⟩, -, x5, y5⟩ := k.lk.cs
  have hl : s.length = n := by obtain ⟨g, o, rfl, hl, -⟩ := k.st; exact hl
  by_cases h4 : n = 400
  · have r := refuse_any w 141 a
    have HG : Hid (gvS v s = .error 141) := if_pos (by omega)
    rw [HG.out]
    subst h4
    clear k hl
    go_enter Tryd.func63, Tryd.ntmps63
    go_wp2_with fail
    refine r.mono ?_
    rintro e w' ⟨rfl, rfl⟩
    go_wp2
    exact ⟨rfl, rfl, Kp.refl _ _⟩
  · have HG : Hid (gvS v s = .ok (s ++ [v])) := if_neg (by omega)
    rw [HG.out]
    have f1 : ((n : Int) == 400) = false := by rw [beq_eq_false_iff_ne]; omega
    have f2 : ¬ ((n : Int) = 400) := by omega
    have c1 := with_any k.st hn v
    have HK : Hid (LkM w h G a x q n cap) := k.lk
    clear k hl h4
    go_enter Tryd.func63, Tryd.ntmps63
    go_wp2_with fail
    refine c1.mono ?_
    rintro e W1 ⟨q1, cap1, rfl, hw1⟩
    have H1 : Hid (LkM W1 h G a x q n cap) := HK.out.next hw1.out.2
    obtain ⟨⟨z0, z1⟩, -, z5, u5⟩ := H1.out.cs
    clear c1 x0 x1 x5 y5
    go_wp2
    go_end0
    have kp : Kp (fun i => i = h) W1 (W1.setCell ⟨h, 5, none⟩ (.slice q1 (n + 1) cap1)) := (Kp.refl (fun i => i = h) W1).setCell (p := ⟨h, 5, none⟩) (.inl rfl) _
    exact ⟨rfl, ⟨q1, n + 1, cap1, H1.out.put _ _ _, hw1.out.1.keep (kp_sort H1.out kp)⟩, (Kp.of hw1.out.2).trans kp fun _ _ e => e⟩
/-- A row that lies elsewhere. -/
def RowN (w : World) (h : Nat) (q : Option Addr) (m : Nat) (xs : List Value) : Prop := 0 < m → ∃ g o, q = some ⟨g, o, none⟩ ∧ (g < w.heap.size ∧ g ≠ h) ∧ w.rangeAt g o xs
theorem tj_cases (M s : List Int) (k : List Int → Ex) : tjS M s k = if s.length < M.length then .error 141 else if s.drop (s.length - M.length) = M then k (s.take (s.length - M.length)) else .error 142 := by
  unfold tjS tkS wtS
  split
  · rfl
  · simp only [decide_eq_true_eq]
theorem tj_ok (M s : List Int) (k : List Int → Ex) : tjS M s k = match tjS M s .ok with | .error e => .error e | .ok r => k r := by
  rw [tj_cases, tj_cases]
  split
  · rfl
  · split <;> rfl
set_option maxRecDepth 100000 in
set_option maxHeartbeats 1000000 in
theorem takeJust_any {w : World} {h G : Nat} {a : Int} {x : In} {q : Option Addr} {n cap : Nat} {s : List Int} (k : LS w h G a x q n cap s) (hn : n ≤ 1000) {qm : Option Addr} {m : Nat} {M : List Int} (cm : Nat) (hm : M.length = m) (hM : RowN w h qm m (sv M)) : Calls Tryd.prog 64 #[.pointer (some ⟨h, 0, none⟩), .slice qm m cm] w fun e w' => Hid (Eff w h G a x (tjS M s .ok) e w') := by
  have hl : s.length = n := by obtain ⟨g, o, rfl, hl, -⟩ := k.st; exact hl
  have c1 := take_any k m hn
  obtain ⟨R, HT⟩ : ∃ R, Hid (R = tjS M s .ok) := ⟨_, (rfl : tjS M s .ok = _)⟩
  rw [← HT.out]
  have HT1 : Hid (s.length < m → R = .error 141) := fun q => by rw [HT.out, tj_cases, hm, if_pos q]
  have HT2 : Hid (m ≤ s.length → s.drop (s.length - m) = M → R = .ok (s.take (s.length - m))) := fun q r => by rw [HT.out, tj_cases, hm, if_neg (by omega), if_pos r]
  have HT3 : Hid (m ≤ s.length → s.drop (s.length - m) ≠ M → R = .error 142) := fun q r => by rw [HT.out, tj_cases, hm, if_neg (by omega), if_neg r]
  have HR : Hid (∀ W, Kp (fun i => i = h) w W → Row W W.heap.size qm m (sv M)) := fun W kp hm0 => by
    obtain ⟨g, o, h1, h2, h3⟩ := hM hm0
    exact ⟨g, o, h1, Nat.lt_of_lt_of_le h2.1 kp.size, range_same h3 (kp.block g h2.1 h2.2)⟩
  clear k hM HT
  go_enter Tryd.func64, Tryd.ntmps64
  go_wp2_with fail
  refine c1.mono ?_
  rintro e W1 h1
  rcases h1 with ⟨h2, rfl, rfl⟩ | ⟨h2, q1, cap1, rfl, hw1⟩
  · go_wp2
    refine ⟨rfl, ?_⟩
    rw [HT1.out h2]
    exact ⟨rfl, Kp.refl _ _⟩
  · have c2 := sequal_any cap1 cm (by rw [List.length_drop]; omega) hm hw1.out.st.row (HR.out W1 hw1.out.kp) (by omega)
    obtain ⟨B, HB⟩ : ∃ B : Bool, Hid (B = decide (s.drop (s.length - m) = M)) := ⟨_, (rfl : decide (s.drop (s.length - m) = M) = _)⟩
    rw [← HB.out] at c2
    clear c1
    go_wp2_with fail
    refine c2.mono ?_
    rintro e W2 ⟨rfl, hw2⟩
    have H2 : Hid (LS W2 h G a x q (n - m) cap (s.take (s.length - m)) ∧ Kp (fun i => i = h) w W2) := ⟨hw1.out.ls.next hw2, hw1.out.kp.next hw2⟩
    have c3 := want_any H2.out.1.lk B
    clear c2 hw1 hw2
    go_wp2_with fail
    refine c3.mono ?_
    rintro e W3 ⟨h3, rfl⟩
    cases B with
    | true =>
      rw [if_pos rfl] at h3
      subst h3
      have he : s.drop (s.length - m) = M := of_decide_eq_true HB.out.symm
      go_wp2
      go_end0
      rw [HT2.out h2 he]
      exact ⟨rfl, ⟨_, _, _, H2.out.1⟩, H2.out.2⟩
    | false =>
      rw [if_neg (by decide)] at h3
      subst h3
      have he : s.drop (s.length - m) ≠ M := of_decide_eq_false HB.out.symm
      go_wp2
      refine ⟨rfl, ?_⟩
      rw [HT3.out h2 he]
      exact ⟨rfl, H2.out.2⟩
end Go.Proofs.YtdcaonfnhdjibaaDoor
namespace Go.Proofs.YtdcaonfnhdjibaaDoor
open Go.RowKit

/-! A step for a call inside a region, wanted by its guard; and for one that may panic. -/
theorem step_callG {P : Program} {w : World} {ops : Array Oper} {o : Oper} {a : Act} {K : Act → World → Prop} {Q : Exit → Act → World → Prop} {E : Prop} (hw : Region.wanted o (yielded ops a.tmps) = true) (f : FuncId) (xs : List Operand) (ts : Array TypeId) (us : List Value)
    (ho : o.op = .call { callee := .value (.func f), args := xs.toArray, argTypes := ts }) (hx : xs.map a.eval = us) (hcf : ∀ w : World, (callFunc f us.toArray).run P w = .ok (.enter f us.toArray) w)
    (Post : Value → World → Prop) (hc : Calls P f us.toArray w fun e w' => ∃ v, e = .returned v ∧ Post v w') (hK : ∀ v w', Post v w' → K (a.put o.dst v) w') : if Region.wanted o (yielded ops a.tmps) = true then Oper.wp P o a w K Q else E := by
  rw [if_pos hw]
  have hf : a.eval (.func f) = .func (.func f) #[] #[] := rfl
  have hr : (execOp a.eval o).run P w = .ok (.enter f us.toArray) w := by
    unfold execOp
    simp only [ho, resolve, invoke, Sem.run_bind, List.map_toArray, hx, hf]
    simp [go_sem, hcf]
  unfold Oper.wp
  rw [hr, Oper.upon_enter]
  refine hc.mono ?_
  rintro e w' ⟨v, rfl, hb⟩
  exact hK _ _ hb
theorem wpList_callG {P : Program} {w : World} {ops : Array Oper} {rest : List Oper} {o : Oper} {a : Act} {Q : Exit → Act → World → Prop} (hw : Region.wanted o (yielded ops a.tmps) = true) (f : FuncId) (xs : List Operand) (ts : Array TypeId) (us : List Value)
    (ho : o.op = .call { callee := .value (.func f), args := xs.toArray, argTypes := ts }) (hx : xs.map a.eval = us) (hcf : ∀ w : World, (callFunc f us.toArray).run P w = .ok (.enter f us.toArray) w)
    (Post : Value → World → Prop) (hc : Calls P f us.toArray w fun e w' => ∃ v, e = .returned v ∧ Post v w') (hK : ∀ v w', Post v w' → wpList P ops Q rest (a.put o.dst v) w') : wpList P ops Q (o :: rest) a w :=
  BigFrame.wpList_want hw fun K hKK => by
    have := step_callG (K := K) (Q := Q) (E := True) hw f xs ts us ho hx hcf Post hc fun v w' h => hKK _ _ (hK v w' h)
    rw [if_pos hw] at this
    exact this
theorem step_callP {P : Program} {w : World} {ops : Array Oper} {o : Oper} {a : Act} {K : Act → World → Prop} {Q : Exit → Act → World → Prop} {E : Prop} (hw : Region.wanted o (yielded ops a.tmps) = true) (f : FuncId) (xs : List Operand) (ts : Array TypeId) (us : List Value)
    (ho : o.op = .call { callee := .value (.func f), args := xs.toArray, argTypes := ts }) (hx : xs.map a.eval = us) (hcf : ∀ w : World, (callFunc f us.toArray).run P w = .ok (.enter f us.toArray) w)
    (Post : Ending → World → Prop) (hc : Calls P f us.toArray w Post) (hK : ∀ v w', Post (.returned v) w' → K (a.put o.dst v) w') (hP : ∀ ch w', Post (.panicked ch) w' → Q (.panic ch) a w') (hO : ∀ w', ¬ Post .outgrown w') : if Region.wanted o (yielded ops a.tmps) = true then Oper.wp P o a w K Q else E := by
  rw [if_pos hw]
  have hf : a.eval (.func f) = .func (.func f) #[] #[] := rfl
  have hr : (execOp a.eval o).run P w = .ok (.enter f us.toArray) w := by
    unfold execOp
    simp only [ho, resolve, invoke, Sem.run_bind, List.map_toArray, hx, hf]
    simp [go_sem, hcf]
  unfold Oper.wp
  rw [hr, Oper.upon_enter]
  refine hc.mono ?_
  intro e w' he
  cases e with
  | returned v => exact hK _ _ he
  | panicked ch => exact hP _ _ he
  | outgrown => exact absurd he (hO _)
/-! Sorts. -/
set_option maxRecDepth 100000 in
theorem arrayOf_any (w : World) (v : Int) (h : -1000 ≤ v ∧ v ≤ 1000) : Calls Tryd.prog 70 #[.int .i64 v] w fun e w' => e = .returned (.int .i64 (v + 4)) ∧ w' = w := by
  obtain ⟨h1, h2⟩ := h
  have e : IntKind.i64.wrap (v + 4) = v + 4 := by rw [IntKind.wrap_i64]; omega
  go_enter Tryd.func70, Tryd.ntmps70
  go_wp2
  go_ret
  exact ⟨rfl, rfl⟩
set_option maxRecDepth 100000 in
theorem isArray_any (w : World) (v : Int) : Calls Tryd.prog 73 #[.int .i64 v] w fun e w' => e = .returned (.bool (decide (4 < v))) ∧ w' = w := by
  go_enter Tryd.func73, Tryd.ntmps73
  go_wp2
  go_ret
  exact ⟨rfl, rfl⟩
set_option maxRecDepth 100000 in
theorem isPlain_any (w : World) (v : Int) : Calls Tryd.prog 74 #[.int .i64 v] w fun e w' => e = .returned (.bool (!decide (4 < v))) ∧ w' = w := by
  have c := isArray_any w v
  generalize decide (4 < v) = B at *
  go_enter Tryd.func74, Tryd.ntmps74
  go_wp2_with fail
  refine c.mono ?_
  rintro e w' ⟨rfl, rfl⟩
  go_wp2
  go_ret
  exact ⟨rfl, rfl⟩
set_option maxRecDepth 100000 in
theorem hasLength_any (w : World) (v : Int) : Calls Tryd.prog 71 #[.int .i64 v] w fun e w' => e = .returned (.bool (hasL v)) ∧ w' = w := by
  have c := isArray_any w v
  have HL : Hid (hasL v = (decide (4 < v) || v == 3)) := rfl
  rw [HL.out]
  cases hB : decide (4 < v) with
  | true =>
    rw [hB] at c
    clear hB
    go_enter Tryd.func71, Tryd.ntmps71
    go_wp2_with fail
    refine c.mono ?_
    rintro e w' ⟨rfl, rfl⟩
    go_wp2
    go_ret
    exact ⟨rfl, rfl⟩
  | false =>
    rw [hB] at c
    clear hB
    go_enter Tryd.func71, Tryd.ntmps71
    go_wp2_with fail
    refine c.mono ?_
    rintro e w' ⟨rfl, rfl⟩
    go_wp2
    go_ret
    exact ⟨rfl, rfl⟩
set_option maxRecDepth 100000 in
theorem elementOf_any (w : World) (v : Int) (h : -1000 ≤ v ∧ v ≤ 1000) : Calls Tryd.prog 72 #[.int .i64 v] w fun e w' => e = .returned (.int .i64 (eltS v)) ∧ w' = w := by
  obtain ⟨h1, h2⟩ := h
  have e : IntKind.i64.wrap (v - 4) = v - 4 := by rw [IntKind.wrap_i64]; omega
  by_cases h3 : v = 3
  · subst h3
    go_enter Tryd.func72, Tryd.ntmps72
    go_wp2
    go_ret
    exact ⟨rfl, rfl⟩
  · have HE : Hid (eltS v = v - 4) := if_neg h3
    have h4 : (v == 3) = false := by rw [beq_eq_false_iff_ne]; exact h3
    rw [HE.out]
    go_enter Tryd.func72, Tryd.ntmps72
    go_wp2
    go_ret
    exact ⟨rfl, rfl⟩
set_option maxRecDepth 100000 in
set_option maxHeartbeats 1000000 in
theorem areOperands_any (w : World) (op v : Int) (h : 3 ≤ op ∧ op ≤ 13) : Calls Tryd.prog 86 #[.int .i64 op, .int .i64 v] w fun e w' => e = .returned (.bool (opnd op v)) ∧ w' = w := by
  have hcs : op = 3 ∨ op = 4 ∨ op = 5 ∨ op = 6 ∨ op = 7 ∨ op = 8 ∨ op = 9 ∨ op = 10 ∨ op = 11 ∨ op = 12 ∨ op = 13 := by omega
  have hb : ∀ o : Int, (o = 8 ∨ o = 9 → opnd o v = true) ∧ (4 ≤ o ∧ o ≤ 7 → opnd o v = (v == 1)) ∧ (o = 3 ∨ 10 ≤ o → opnd o v = (v == 1 || v == 3)) := fun o => by
    unfold opnd
    refine ⟨fun q => if_pos q, fun q => by rw [if_neg (by omega), if_pos q], fun q => by rw [if_neg (by omega), if_neg (by omega)]⟩
  obtain ⟨h1, h2, h3⟩ := hb op
  clear hb h
  by_cases e1 : v = 1
  · subst e1
    rcases hcs with rfl | rfl | rfl | rfl | rfl | rfl | rfl | rfl | rfl | rfl | rfl
    all_goals first | rw [h1 (by omega)] | rw [h2 (by omega)] | rw [h3 (by omega)]
    all_goals clear h1 h2 h3
    all_goals go_enter Tryd.func86, Tryd.ntmps86
    all_goals go_wp2
    all_goals go_ret
    all_goals exact ⟨rfl, rfl⟩
  · have e2 : (v == 1) = false := by rw [beq_eq_false_iff_ne]; exact e1
    rw [e2] at h2 h3
    generalize hq : (v == 3) = B at *
    rcases hcs with rfl | rfl | rfl | rfl | rfl | rfl | rfl | rfl | rfl | rfl | rfl
    all_goals first | rw [h1 (by omega)] | rw [h2 (by omega)] | rw [h3 (by omega)]
    all_goals clear h1 h2 h3
    all_goals go_enter Tryd.func86, Tryd.ntmps86
    all_goals go_wp2
    all_goals go_ret
    all_goals exact ⟨rfl, rfl⟩
end Go.Proofs.YtdcaonfnhdjibaaDoor
