import Derived.Test.YtdcaonfnhdjibaaDoorVLf
import Derived.Test.YtdcaonfnhdjibaaDoorVM1
import Derived.Test.YtdcaonfnhdjibaaDoorVL3
namespace Go.Proofs.YtdcaonfnhdjibaaDoor
open Go.RowKit

/-! The search, in memory. -/
/-- What is known, in memory. -/
structure KnM (w : World) (kg : Nat) (K : Kn) (ks : List Value) : Prop where
  full : Full w kg 72 ks
  len : ks.length = K.length
  no : ∀ i, i < K.length → K.getD i none = none → ks[i]? = some (.slice none 0 0)
  yes : ∀ i s, K.getD i none = some s → ∃ q n cap, ks[i]? = some (.slice q n cap) ∧ Stk w q n cap s
theorem KnM.blk {w : World} {kg : Nat} {K : Kn} {ks : List Value} (h : KnM w kg K ks) : Blk w kg 72 0 := ⟨_, h.full, Nat.zero_le _⟩
theorem KnM.keep {w w' : World} {kg : Nat} {K : Kn} {ks : List Value} (h : KnM w kg K ks) (e : w'.heap[kg]? = w.heap[kg]?) (hk : ∀ g, Blk w g 45 0 → w'.heap[g]? = w.heap[g]?) : KnM w' kg K ks :=
  ⟨e.trans h.full, h.len, h.no, fun i s hs => by obtain ⟨q, n, cap, h1, h2⟩ := h.yes i s hs; exact ⟨q, n, cap, h1, h2.keep hk⟩⟩
theorem KnM.set {w : World} {kg : Nat} {K : Kn} {ks : List Value} (h : KnM w kg K ks) {j : Nat} (hj : j < K.length) {q : Option Addr} {n cap : Nat} {s : List Int} (hs : Stk w q n cap s) : KnM (w.setCell ⟨kg, j, none⟩ (.slice q n cap)) kg (K.set j (some s)) (ks.set j (.slice q n cap)) := by
  have hkeep : ∀ g, Blk w g 45 0 → (w.setCell ⟨kg, j, none⟩ (.slice q n cap)).heap[g]? = w.heap[g]? := fun g hg => set_heap (a := ⟨kg, j, none⟩) (fun e => hg.ne h.blk (by decide) e)
  refine ⟨?_, by simp [h.len], fun i hi hn => ?_, fun i t ht => ?_⟩
  · have := set_blk (j := j) h.full (.slice q n cap)
    unfold Full
    rw [this]
    congr 2
    rw [Array.set!_eq_setIfInBounds, List.setIfInBounds_toArray]
  · rw [set_getD] at hn
    split at hn
    · cases hn
    · rename_i hne
      rw [List.length_set] at hi
      by_cases e : j = i
      · exact absurd ⟨e, hj⟩ hne
      · rw [List.getElem?_set_ne e]
        exact h.no i hi hn
  · rw [set_getD] at ht
    split at ht
    · rename_i hq
      cases ht
      obtain ⟨rfl, -⟩ := hq
      exact ⟨q, n, cap, by rw [List.getElem?_set_self (by rw [h.len]; exact hj)], hs.keep hkeep⟩
    · rename_i hne
      obtain ⟨q', n', cap', h1, h2⟩ := h.yes i t ht
      by_cases e : j = i
      · exact absurd ⟨e, hj⟩ hne
      · exact ⟨q', n', cap', by rw [List.getElem?_set_ne e]; exact h1, h2.keep hkeep⟩
/-- The piece's cells but the open places. -/
abbrev pcV (iq eq tq : Option Addr) (ia ea ta : Nat) (c : Cd) (e : En) (sq : Option Addr) (sc : Nat) (hi : Int) (kg N : Nat) : List Value := [.slice iq c.ins.length ia, .slice eq c.ens.length ea, .slice tq c.txs.length ta, .int .i64 c.main, .string e.name, .int .i64 e.start, .int .i64 e.params, .slice sq e.sorts.length sc, .int .i64 e.result, .int .i64 hi, .slice (some ⟨kg, 0, none⟩) N N]
/-- Where the search stands, in memory. -/
structure Sv (w : World) (B b G kg : Nat) (iq eq tq : Option Addr) (ia ea ta : Nat) (Es : List Em) (c : Cd) (e : En) (sq : Option Addr) (sc : Nat) (hi : Int) (K : Kn) (O : List Int) (q : Option Addr) (cap : Nat) : Prop where
  pl : PlM w b G (pcV iq eq tq ia ea ta c e sq sc hi kg c.ins.length) O q cap
  kn : ∃ ks, KnM w kg K ks
  m : CodeM w B iq eq tq Es c
  so : Row w B sq e.sorts.length (sv e.sorts)
  sn : (sq = none → e.sorts.length = 0) ∧ e.sorts.length ≤ sc
  cp : ∀ y ∈ Es, y.1.sorts.length ≤ y.2.2 ∧ (y.2.1 = none → y.1.sorts.length = 0)
  bs : B ≤ b ∧ B ≤ G ∧ B ≤ kg ∧ b ≤ w.heap.size
  kl : K.length = c.ins.length
  lf : lft (K, O) ≤ 70000
section
variable {w w' : World} {B b G kg : Nat} {iq eq tq : Option Addr} {ia ea ta : Nat} {Es : List Em} {c : Cd} {e : En} {sq : Option Addr} {sc : Nat} {hi : Int} {K : Kn} {O : List Int} {q : Option Addr} {cap : Nat}
theorem Sv.next (h : Sv w B b G kg iq eq tq ia ea ta Es c e sq sc hi K O q cap) (k : Below w.heap.size w w') : Sv w' B b G kg iq eq tq ia ea ta Es c e sq sc hi K O q cap := by
  obtain ⟨ks, hk⟩ := h.kn
  have hB : B ≤ w.heap.size := Nat.le_trans h.bs.1 h.bs.2.2.2
  exact ⟨h.pl.next k, ⟨ks, hk.keep (k.block kg hk.blk.lt) fun g hg => k.block g hg.lt⟩, h.m.below k hB, h.so.below k hB, h.sn, h.cp, ⟨h.bs.1, h.bs.2.1, h.bs.2.2.1, Nat.le_trans h.bs.2.2.2 k.size⟩, h.kl, h.lf⟩
theorem Sv.kG (h : Sv w B b G kg iq eq tq ia ea ta Es c e sq sc hi K O q cap) : kg ≠ G := by
  obtain ⟨ks, hk⟩ := h.kn
  exact hk.blk.ne h.pl.blk (by decide)
theorem Sv.kO (h : Sv w B b G kg iq eq tq ia ea ta Es c e sq sc hi K O q cap) : ob q ≠ some kg := by
  obtain ⟨ks, hk⟩ := h.kn
  rw [← ob_own q O.length cap]
  exact own_ne h.pl.own hk.blk (by decide)
/-- Stacks stay. -/
theorem Sv.sort (h : Sv w B b G kg iq eq tq ia ea ta Es c e sq sc hi K O q cap) {q' : Option Addr} (p : Pt w w' G kg q q') : ∀ g, Blk w g 45 0 → w'.heap[g]? = w.heap[g]? := fun g hg => p.kp.block g hg.lt fun x => by
  obtain ⟨ks, hk⟩ := h.kn
  rcases x with x | x | x
  · exact hg.ne h.pl.blk (by decide) x
  · exact hg.ne hk.blk (by decide) x
  · rw [← ob_own q O.length cap] at x
    exact hg.ne (own_blk h.pl.own g x) (by decide) rfl
theorem Sv.below (h : Sv w B b G kg iq eq tq ia ea ta Es c e sq sc hi K O q cap) {q' : Option Addr} (p : Pt w w' G kg q q') : Below B w w' := p.kp.below (fun k x => by
  rcases x with x | x | x
  · rw [x]; exact h.bs.2.1
  · rw [x]; exact h.bs.2.2.1
  · rw [← ob_own q O.length cap] at x
    exact Nat.le_trans h.bs.1 (h.pl.own.lt k x).1) (Nat.le_trans h.bs.1 h.bs.2.2.2)
theorem Sv.cs (h : Sv w B b G kg iq eq tq ia ea ta Es c e sq sc hi K O q cap) : (w.cell? ⟨G, 0, none⟩ = some (.slice iq c.ins.length ia) ∧ w.cell? ⟨G, 5, none⟩ = some (.int .i64 e.start) ∧ w.cell? ⟨G, 9, none⟩ = some (.int .i64 hi)) ∧ w.cell? ⟨G, 10, none⟩ = some (.slice (some ⟨kg, 0, none⟩) c.ins.length c.ins.length) ∧ w.cell? ⟨G, 11, none⟩ = some (.slice q O.length cap) :=
  ⟨⟨(h.pl.full.cell 0 _ rfl).1, (h.pl.full.cell 5 _ rfl).1, (h.pl.full.cell 9 _ rfl).1⟩, (h.pl.full.cell 10 _ rfl).1, h.pl.cell⟩
end
set_option maxRecDepth 100000 in
set_option maxHeartbeats 1000000 in
theorem learn_any {w : World} {B b G kg : Nat} {iq eq tq : Option Addr} {ia ea ta : Nat} {Es : List Em} {c : Cd} {e : En} {sq : Option Addr} {sc : Nat} {hi : Int} {K : Kn} {O : List Int} {q : Option Addr} {cap : Nat} (h : Sv w B b G kg iq eq tq ia ea ta Es c e sq sc hi K O q cap) (j : Nat) (hj : j < c.ins.length) (hn : K.getD j none = none) {qs : Option Addr} {n cs : Nat} {s : List Int} (hs : Stk w qs n cs s) :
    Calls Tryd.prog 51 #[.pointer (some ⟨G, 0, none⟩), .int .i64 (j : Int), .slice qs n cs] w fun z w' => z = .returned (.tuple #[]) ∧ ∃ q' cap', Hid (Sv w' B b G kg iq eq tq ia ea ta Es c e sq sc hi (K.set j (some s)) (pushH O (j : Int)) q' cap' ∧ Pt w w' G kg q q') := by
  obtain ⟨ks, hk⟩ := h.kn
  obtain ⟨-, x10, -⟩ := h.cs
  have hjK : j < K.length := by rw [h.kl]; exact hj
  have hjk : j < ks.length := by rw [hk.len]; exact hjK
  have y1 := (hk.full.cell j ks[j] (List.getElem?_eq_getElem hjk))
  obtain ⟨y1, y2⟩ := y1
  obtain ⟨W1, hW1⟩ : ∃ W1, W1 = w.setCell ⟨kg, j, none⟩ (.slice qs n cs) := ⟨_, rfl⟩
  have P1 : Pt w W1 G kg q q := by rw [hW1]; exact ⟨(Kp.refl _ w).setCell (p := ⟨kg, j, none⟩) (.inl (.inr (.inl rfl))) _, fun _ x => .inl x⟩
  have hG : W1.heap[G]? = w.heap[G]? := by rw [hW1]; exact set_heap (a := ⟨kg, j, none⟩) (Ne.symm h.kG)
  have hOw : ∀ g, ob q = some g → W1.heap[g]? = w.heap[g]? := fun g hg => by rw [hW1]; exact set_heap (a := ⟨kg, j, none⟩) (fun x => by apply h.kO; rw [hg]; exact congrArg some x)
  have pl1 : PlM W1 b G (pcV iq eq tq ia ea ta c e sq sc hi kg c.ins.length) O q cap := ⟨hG.trans h.pl.full, h.pl.len, own_same h.pl.own fun g hg => hOw g (by rw [← ob_own q O.length cap]; exact hg)⟩
  have kn1 : KnM W1 kg (K.set j (some s)) (ks.set j (.slice qs n cs)) := by rw [hW1]; exact hk.set hjK hs
  have hlf := cnt_set (s := s) hjK hn
  have hO : O.length ≤ 900000 := by
    have := h.lf
    unfold lft at this
    simp only at this
    omega
  have c1 := hpush_any pl1 rfl hO (j : Int) (Nat.le_trans h.bs.2.2.2 P1.kp.size)
  have HE : Hid (∀ (W : World) q' cap', PlM W b G (pcV iq eq tq ia ea ta c e sq sc hi kg c.ins.length) (pushH O (j : Int)) q' cap' → Pt W1 W G G q q' → Sv W B b G kg iq eq tq ia ea ta Es c e sq sc hi (K.set j (some s)) (pushH O (j : Int)) q' cap' ∧ Pt w W G kg q q') := fun W q' cap' hp hpt => by
    have P2 : Pt W1 W G kg q q' := ⟨(Kp.refl (fun k => k = G ∨ k = kg ∨ ob q = some k) W1).trans hpt.kp fun i _ x => by
      rcases x with x | x | x
      · exact .inl x
      · exact .inl x
      · exact .inr (.inr x), hpt.new⟩
    have P3 := P1.trans P2
    have hB := h.below P3
    have hkW : W.heap[kg]? = W1.heap[kg]? := hpt.kp.block kg kn1.blk.lt fun x => by
      rcases x with x | x | x
      · exact h.kG x
      · exact h.kG x
      · exact h.kO x
    have hsW : ∀ g, Blk W1 g 45 0 → W.heap[g]? = W1.heap[g]? := fun g hg => hpt.kp.block g hg.lt fun x => by
      have hgp : g ≠ G := hg.ne pl1.blk (by decide)
      rcases x with x | x | x
      · exact hgp x
      · exact hgp x
      · rw [← ob_own q O.length cap] at x
        exact hg.ne (own_blk pl1.own g x) (by decide) rfl
    refine ⟨⟨hp, ⟨_, kn1.keep hkW hsW⟩, h.m.below hB (Nat.le_refl _), h.so.below hB (Nat.le_refl _), h.sn, h.cp, ⟨h.bs.1, h.bs.2.1, h.bs.2.2.1, Nat.le_trans h.bs.2.2.2 P3.kp.size⟩, by rw [List.length_set]; exact h.kl, ?_⟩, P3⟩
    have := h.lf
    unfold lft at this ⊢
    rw [push_len]
    simp only at this ⊢
    omega
  have j0 : (0 : Int) ≤ (j : Int) := by omega
  have j1 : (j : Int) < (c.ins.length : Int) := by omega
  generalize c.ins.length = N at *
  generalize ks[j] = v0 at *
  clear h hk hs P1 hG hOw pl1 kn1 hlf hO hjK hjk
  go_enter Tryd.func51, Tryd.ntmps51
  go_upto_region 1 with fail
  rw [← hW1]
  clear hW1
  go_wp2_with fail
  refine c1.mono ?_
  rintro z W2 ⟨rfl, q2, cap2, hw2⟩
  go_wp2
  go_end0
  exact ⟨rfl, q2, cap2, HE.out W2 q2 cap2 hw2.out.1 hw2.out.2⟩
set_option maxRecDepth 100000 in
set_option maxHeartbeats 400000 in
theorem has_any {w : World} {G : Nat} {st hi : Int} (h5 : w.cell? ⟨G, 5, none⟩ = some (.int .i64 st)) (h9 : w.cell? ⟨G, 9, none⟩ = some (.int .i64 hi)) (t : Int) : Calls Tryd.prog 87 #[.pointer (some ⟨G, 0, none⟩), .int .i64 t] w fun z w' => z = .returned (.bool (decide (st ≤ t ∧ t < hi))) ∧ w' = w := by
  by_cases h1 : st ≤ t
  · have e : decide (st ≤ t ∧ t < hi) = decide (t < hi) := by simp [h1]
    rw [e]
    go_enter Tryd.func87, Tryd.ntmps87
    go_wp2
    go_ret
    exact ⟨rfl, rfl⟩
  · have e : decide (st ≤ t ∧ t < hi) = false := by simp [h1]
    rw [e]
    go_enter Tryd.func87, Tryd.ntmps87
    go_wp2
    go_ret
    exact ⟨rfl, rfl⟩
end Go.Proofs.YtdcaonfnhdjibaaDoor
namespace Go.Proofs.YtdcaonfnhdjibaaDoor
open Go.RowKit

theorem nilEq (w : World) : (binOp BinOp.eql 72 (.slice none 0 0) (.slice none 0 0)).run Tryd.prog w = .ok (.bool true) w := by kernel_rfl
theorem nilNe (a : Addr) (n cap : Nat) (w : World) : (binOp BinOp.eql 72 (.slice (some a) n cap) (.slice none 0 0)).run Tryd.prog w = .ok (.bool false) w := by kernel_rfl
theorem callLe (a b d : Value) (w : World) : (callFunc 51 #[a, b, d]).run Tryd.prog w = .ok (.enter 51 #[a, b, d]) w := by kernel_rfl
section
variable {w w' : World} {B b G kg : Nat} {iq eq tq : Option Addr} {ia ea ta : Nat} {Es : List Em} {c : Cd} {e : En} {sq : Option Addr} {sc : Nat} {hi : Int} {K : Kn} {O : List Int} {q : Option Addr} {cap : Nat} {h : Nat} {a : Int} {x : In} {ql : Option Addr} {nl cl : Nat} {s : List Int}
theorem LS.pt (k : LS w h G a x ql nl cl s) (S : Sv w B b G kg iq eq tq ia ea ta Es c e sq sc hi K O q cap) {q' : Option Addr} (p : Pt w w' G kg q q') : LS w' h G a x ql nl cl s := by
  obtain ⟨ks, hk⟩ := S.kn
  refine ⟨(p.kp.block h k.lk.blk.lt fun y => ?_).trans k.lk, k.st.keep (S.sort p)⟩
  rcases y with y | y | y
  · exact k.lk.blk.ne S.pl.blk (by decide) y
  · exact k.lk.blk.ne hk.blk (by decide) y
  · rw [← ob_own q O.length cap] at y
    exact k.lk.blk.ne (own_blk S.pl.own h y) (by decide) rfl
/-- What a follower's turn answers and leaves. -/
def FwR (w : World) (B b G kg : Nat) (iq eq tq : Option Addr) (ia ea ta : Nat) (Es : List Em) (c : Cd) (e : En) (sq : Option Addr) (sc : Nat) (hi : Int) (q : Option Addr) (h : Nat) (a : Int) (x : In) (ql : Option Addr) (nl cl : Nat) (s : List Int) (R : Except Int Vst) (z : Ending) (w' : World) : Prop :=
  match R with
  | .error k => z = rfs k a ∧ Pt w w' G kg q q
  | .ok st => z = .returned (.tuple #[]) ∧ ∃ q' cap', Sv w' B b G kg iq eq tq ia ea ta Es c e sq sc hi st.1 st.2 q' cap' ∧ LS w' h G a x ql nl cl s ∧ Pt w w' G kg q q'
set_option maxRecDepth 100000 in
set_option maxHeartbeats 4000000 in
theorem follow_any (S : Sv w B b G kg iq eq tq ia ea ta Es c e sq sc hi K O q cap) (k : LS w h G a x ql nl cl s) (hnl : nl ≤ 1000) (t er : Int) (h0 : 0 ≤ e.start) (h1 : hi ≤ (c.ins.length : Int)) :
    Calls Tryd.prog 75 #[.pointer (some ⟨h, 0, none⟩), .int .i64 t, .int .i64 er] w fun z w' => Hid (FwR w B b G kg iq eq tq ia ea ta Es c e sq sc hi q h a x ql nl cl s (fwS e.start hi s (K, O) (t, er)) z w') := by
  obtain ⟨R, HR⟩ : ∃ R, Hid (R = fwS e.start hi s (K, O) (t, er)) := ⟨_, (rfl : fwS e.start hi s (K, O) (t, er) = _)⟩
  rw [← HR.out]
  obtain ⟨⟨x0, x1⟩, -, x5, -⟩ := k.lk.cs
  obtain ⟨⟨-, p5, p9⟩, p10, -⟩ := S.cs
  have cH := has_any p5 p9 t
  have HSv : Hid (Sv w B b G kg iq eq tq ia ea ta Es c e sq sc hi K O q cap ∧ LS w h G a x ql nl cl s) := ⟨S, k⟩
  by_cases hin : e.start ≤ t ∧ t < hi
  · obtain ⟨j, hj⟩ : ∃ j : Nat, t = (j : Int) := ⟨t.toNat, by omega⟩
    have hjl : j < c.ins.length := by omega
    have etn : t.toNat = j := by omega
    rw [decide_eq_true hin] at cH
    have HE : Hid (R = match K.getD j none with | none => .ok (K.set j (some s), pushH O t) | some kk => if kk.length ≠ s.length then .error 141 else if kk ≠ s then .error 142 else .ok (K, O)) := by
      show R = _
      rw [HR.out]
      unfold fwS
      rw [if_pos hin, etn]
      rfl
    obtain ⟨ks, hk⟩ := S.kn
    have j0 : (0 : Int) ≤ (j : Int) := by omega
    have j1 : (j : Int) < (c.ins.length : Int) := by omega
    cases hK : K.getD j none with
    | none =>
      rw [hK] at HE
      replace HE : Hid (R = .ok (K.set j (some s), pushH O (j : Int))) := by show R = _; rw [HE.out, hj]
      have z1 := (hk.full.cell j _ (hk.no j (by rw [S.kl]; exact hjl) hK)).1
      have bd : Below w.heap.size w w.drew := (Below.refl _ w).drew
      have cL := learn_any (S.next bd) j hjl hK (k.st.next bd)
      have cL2 : Calls Tryd.prog 51 #[.pointer (some ⟨G, 0, none⟩), .int .i64 (j : Int), .slice ql nl cl] w.drew fun z w' => ∃ u, z = .returned u ∧ (u = .tuple #[] ∧ Hid (∃ q' cap', Sv w' B b G kg iq eq tq ia ea ta Es c e sq sc hi (K.set j (some s)) (pushH O (j : Int)) q' cap' ∧ LS w' h G a x ql nl cl s ∧ Pt w w' G kg q q')) := cL.mono fun z w' hh => by
        obtain ⟨h1, q', cap', h2⟩ := hh
        exact ⟨_, h1, rfl, q', cap', h2.out.1, (HSv.out.2.next bd).pt (HSv.out.1.next bd) h2.out.2, (Pt.of bd G kg q).trans h2.out.2⟩
      have nE := nilEq
      have a0 : w.drew.cell? ⟨h, 0, none⟩ = _ := x0
      have a5 : w.drew.cell? ⟨h, 5, none⟩ = _ := x5
      generalize c.ins.length = N at *
      clear S k hk hK HR etn hjl hin p5 p9 bd cL HSv
      subst hj
      go_enter Tryd.func75, Tryd.ntmps75
      go_wp2_with fail
      refine cH.mono ?_
      rintro z W1 ⟨rfl, rfl⟩
      go_wp2_with fail
      first
        | (go_region_law (first
            | (refine step_callG (by rfl) 51 [.tmp 36, .tmp 37, .tmp 41] #[101, 3, 72] [.pointer (some ⟨G, 0, none⟩), .int .i64 (j : Int), .slice ql nl cl] (by rfl) (by rfl) (callLe _ _ _) _ cL2 ?_; rintro b8 W8 ⟨rfl, h8⟩)
            | fail))
        | fail
      all_goals
        go_wp2
        go_end0
        rw [HE.out]
        exact ⟨rfl, h8.out⟩
    | some kk =>
      rw [hK] at HE
      obtain ⟨qk, nk, ck, hks, hst⟩ := hk.yes j kk hK
      have z1 := (hk.full.cell j _ hks).1
      obtain ⟨gk, ok, rfl, hlk, -, -, -⟩ := id hst
      have nN := nilNe ⟨gk, ok, none⟩ nk ck
      have hls := k.len
      by_cases hlen : kk.length = s.length
      · have hnk : nk = nl := by omega
        subst hnk
        have cE := sequal_any ck cl hlk hls hst.row k.st.row (by omega)
        obtain ⟨Bq, HBq⟩ : ∃ Bq : Bool, Hid (Bq = decide (kk = s)) := ⟨_, (rfl : decide (kk = s) = _)⟩
        rw [← HBq.out] at cE
        have r := fun W : World => refuse_any W 142 a
        have HX : Hid (∀ W, Below w.heap.size w W → W.cell? ⟨h, 1, none⟩ = some (.int .i64 a)) := fun W bW => (HSv.out.2.lk.next bW).cs.1.2
        have HE1 : Hid (Bq = true → R = .ok (K, O)) := fun hb => by
          have : kk = s := of_decide_eq_true (HBq.out.symm.trans hb)
          rw [HE.out]
          simp only [ne_eq, not_true_eq_false, if_false, this]
        have HE2 : Hid (Bq = false → R = .error 142) := fun hb => by
          have : kk ≠ s := of_decide_eq_false (HBq.out.symm.trans hb)
          rw [HE.out]
          simp only [hlen, ne_eq, not_true_eq_false, if_false]
          rw [if_pos this]
        generalize c.ins.length = N at *
        clear S k hk hK HR etn hjl hin p5 p9 hst hlk hls hlen HBq hks HE
        subst hj
        go_enter Tryd.func75, Tryd.ntmps75
        go_wp2_with fail
        refine cH.mono ?_
        rintro z W1 ⟨rfl, rfl⟩
        go_wp2_with fail
        refine cE.mono ?_
        rintro z W2 ⟨rfl, hw2⟩
        cases Bq with
        | true =>
          have HEr := HE1.out rfl
          clear cE cH r
          go_wp2
          go_end0
          rw [HEr]
          exact ⟨rfl, q, cap, HSv.out.1.next hw2, HSv.out.2.next hw2, Pt.of hw2 G kg q⟩
        | false =>
          have HEr := HE2.out rfl
          have y1 := HX.out W2 hw2
          have r2 := r W2
          clear cE cH r
          go_wp2_with fail
          refine r2.mono ?_
          rintro z W3 ⟨rfl, rfl⟩
          go_wp2
          refine ⟨rfl, ?_⟩
          rw [HEr]
          exact ⟨rfl, Pt.of hw2 G kg q⟩
      · have HEr : Hid (R = .error 141) := by show R = _; rw [HE.out]; exact if_pos hlen
        have hne1 : ((nk : Int) != (nl : Int)) = true := by rw [bne_iff_ne]; omega
        have hne2 : ¬ ((nk : Int) = (nl : Int)) := by omega
        have r := refuse_any w 141 a
        generalize c.ins.length = N at *
        clear S k hk hK HR etn hjl hin p5 p9 hst hlk hls hlen hks HE HSv
        subst hj
        go_enter Tryd.func75, Tryd.ntmps75
        go_wp2_with fail
        refine cH.mono ?_
        rintro z W1 ⟨rfl, rfl⟩
        go_wp2_with fail
        refine r.mono ?_
        rintro z W2 ⟨rfl, rfl⟩
        go_wp2
        refine ⟨rfl, ?_⟩
        rw [HEr.out]
        exact ⟨rfl, Pt.refl _ G kg q⟩
  · have HE : Hid (R = .error er) := by
      show R = _
      rw [HR.out]
      unfold fwS
      rw [if_neg hin]
    rw [decide_eq_false hin] at cH
    have r := refuse_any w er a
    clear S k HR hin p5 p9 HSv p10 x5
    go_enter Tryd.func75, Tryd.ntmps75
    go_wp2_with fail
    refine cH.mono ?_
    rintro z W1 ⟨rfl, rfl⟩
    go_wp2_with fail
    refine r.mono ?_
    rintro z W2 ⟨rfl, rfl⟩
    go_wp2
    refine ⟨rfl, ?_⟩
    rw [HE.out]
    exact ⟨rfl, Pt.refl _ G kg q⟩
end
end Go.Proofs.YtdcaonfnhdjibaaDoor
namespace Go.Proofs.YtdcaonfnhdjibaaDoor
open Go.RowKit

theorem fws_one (lo hi : Int) (s : List Int) (f : Int × Int) (st : Vst) : fwsS lo hi s [f] st = fwS lo hi s st f := by
  rw [fwsS]
  cases fwS lo hi s st f <;> rfl
theorem fws_two (lo hi : Int) (s : List Int) (f g : Int × Int) (st : Vst) : fwsS lo hi s [f, g] st = match fwS lo hi s st f with | .error k => .error k | .ok st' => fwS lo hi s st' g := by
  rw [fwsS]
  cases fwS lo hi s st f with
  | error k => rfl
  | ok st' => exact fws_one lo hi s g st'
set_option maxRecDepth 100000 in
set_option maxHeartbeats 1000000 in
theorem fol_12 {w : World} {B b G kg : Nat} {iq eq tq : Option Addr} {ia ea ta : Nat} {Es : List Em} {c : Cd} {e : En} {sq : Option Addr} {sc : Nat} {hi : Int} {K : Kn} {O : List Int} {q : Option Addr} {cap : Nat} {h : Nat} {at_ : Nat} {A Bb : Int} {ql : Option Addr} {nl cl : Nat} {s : List Int} (S : Sv w B b G kg iq eq tq ia ea ta Es c e sq sc hi K O q cap) (k : LS w h G (at_ : Int) (12, A, Bb) ql nl cl s) (_hnl : nl ≤ 1000) (_h0 : 0 ≤ e.start) (_h1 : hi ≤ (c.ins.length : Int)) (_h6 : at_ ≤ 100000) : Calls Tryd.prog 55 #[.pointer (some ⟨h, 0, none⟩)] w fun z w' => Hid (FwR w B b G kg iq eq tq ia ea ta Es c e sq sc hi q h (at_ : Int) (12, A, Bb) ql nl cl s (fwsS e.start hi s (flS (12, A, Bb) at_) (K, O)) z w') := by
  obtain ⟨⟨x0, x1⟩, ⟨x2, x3, x4⟩, -, -⟩ := k.lk.cs
  have HE : Hid (fwsS e.start hi s (flS (12, A, Bb) at_) (K, O) = .ok (K, O)) := rfl
  have HS : Hid (Sv w B b G kg iq eq tq ia ea ta Es c e sq sc hi K O q cap ∧ LS w h G (at_ : Int) (12, A, Bb) ql nl cl s) := ⟨S, k⟩
  rw [HE.out]
  clear S k HE
  go_enter Tryd.func55, Tryd.ntmps55
  go_wp2
  go_end0
  exact ⟨rfl, q, cap, HS.out.1, HS.out.2, Pt.refl w G kg q⟩
set_option maxRecDepth 100000 in
set_option maxHeartbeats 1000000 in
theorem fol_13 {w : World} {B b G kg : Nat} {iq eq tq : Option Addr} {ia ea ta : Nat} {Es : List Em} {c : Cd} {e : En} {sq : Option Addr} {sc : Nat} {hi : Int} {K : Kn} {O : List Int} {q : Option Addr} {cap : Nat} {h : Nat} {at_ : Nat} {A Bb : Int} {ql : Option Addr} {nl cl : Nat} {s : List Int} (S : Sv w B b G kg iq eq tq ia ea ta Es c e sq sc hi K O q cap) (k : LS w h G (at_ : Int) (13, A, Bb) ql nl cl s) (_hnl : nl ≤ 1000) (_h0 : 0 ≤ e.start) (_h1 : hi ≤ (c.ins.length : Int)) (_h6 : at_ ≤ 100000) : Calls Tryd.prog 55 #[.pointer (some ⟨h, 0, none⟩)] w fun z w' => Hid (FwR w B b G kg iq eq tq ia ea ta Es c e sq sc hi q h (at_ : Int) (13, A, Bb) ql nl cl s (fwsS e.start hi s (flS (13, A, Bb) at_) (K, O)) z w') := by
  obtain ⟨⟨x0, x1⟩, ⟨x2, x3, x4⟩, -, -⟩ := k.lk.cs
  have HE : Hid (fwsS e.start hi s (flS (13, A, Bb) at_) (K, O) = .ok (K, O)) := rfl
  have HS : Hid (Sv w B b G kg iq eq tq ia ea ta Es c e sq sc hi K O q cap ∧ LS w h G (at_ : Int) (13, A, Bb) ql nl cl s) := ⟨S, k⟩
  rw [HE.out]
  clear S k HE
  go_enter Tryd.func55, Tryd.ntmps55
  go_wp2
  go_end0
  exact ⟨rfl, q, cap, HS.out.1, HS.out.2, Pt.refl w G kg q⟩
set_option maxRecDepth 100000 in
set_option maxHeartbeats 1000000 in
theorem fol_9 {w : World} {B b G kg : Nat} {iq eq tq : Option Addr} {ia ea ta : Nat} {Es : List Em} {c : Cd} {e : En} {sq : Option Addr} {sc : Nat} {hi : Int} {K : Kn} {O : List Int} {q : Option Addr} {cap : Nat} {h : Nat} {at_ : Nat} {A Bb : Int} {ql : Option Addr} {nl cl : Nat} {s : List Int} (S : Sv w B b G kg iq eq tq ia ea ta Es c e sq sc hi K O q cap) (k : LS w h G (at_ : Int) (9, A, Bb) ql nl cl s) (hnl : nl ≤ 1000) (h0 : 0 ≤ e.start) (h1 : hi ≤ (c.ins.length : Int)) (_h6 : at_ ≤ 100000) : Calls Tryd.prog 55 #[.pointer (some ⟨h, 0, none⟩)] w fun z w' => Hid (FwR w B b G kg iq eq tq ia ea ta Es c e sq sc hi q h (at_ : Int) (9, A, Bb) ql nl cl s (fwsS e.start hi s (flS (9, A, Bb) at_) (K, O)) z w') := by
  obtain ⟨⟨x0, x1⟩, ⟨x2, x3, x4⟩, -, -⟩ := k.lk.cs
  have c1 := follow_any S k hnl A 140 h0 h1
  obtain ⟨R, HR⟩ : ∃ R, Hid (R = fwS e.start hi s (K, O) (A, 140)) := ⟨_, (rfl : fwS e.start hi s (K, O) (A, 140) = _)⟩
  have HE : Hid (fwsS e.start hi s (flS (9, A, Bb) at_) (K, O) = R) := (fws_one _ _ _ _ _).trans HR.out.symm
  rw [HE.out]
  rw [← HR.out] at c1
  clear S k HE HR
  go_enter Tryd.func55, Tryd.ntmps55
  go_wp2_with fail
  refine c1.mono ?_
  rintro z W1 h3
  replace h3 := h3.out
  clear c1
  cases hRz : R with
  | error cz =>
    rw [hRz] at h3
    obtain ⟨rfl, kp⟩ := h3
    go_wp2
    refine ⟨rfl, ?_⟩
    rw [hRz]
    exact ⟨rfl, kp⟩
  | ok rz =>
    rw [hRz] at h3
    obtain ⟨rfl, hq⟩ := h3
    go_wp2
    go_end0
    rw [hRz]
    exact ⟨rfl, hq⟩
set_option maxRecDepth 100000 in
set_option maxHeartbeats 1000000 in
theorem fol_else {w : World} {B b G kg : Nat} {iq eq tq : Option Addr} {ia ea ta : Nat} {Es : List Em} {c : Cd} {e : En} {sq : Option Addr} {sc : Nat} {hi : Int} {K : Kn} {O : List Int} {q : Option Addr} {cap : Nat} {h : Nat} {at_ : Nat} {o A Bb : Int} {ql : Option Addr} {nl cl : Nat} {s : List Int} (S : Sv w B b G kg iq eq tq ia ea ta Es c e sq sc hi K O q cap) (k : LS w h G (at_ : Int) (o, A, Bb) ql nl cl s) (hnl : nl ≤ 1000) (h0 : 0 ≤ e.start) (h1 : hi ≤ (c.ins.length : Int)) (h6 : at_ ≤ 100000) (ho : o = 0 ∨ o = 1 ∨ o = 2 ∨ o = 3 ∨ o = 4 ∨ o = 5 ∨ o = 6 ∨ o = 7 ∨ o = 8 ∨ o = 11 ∨ o = 14 ∨ o = 15 ∨ o = 16 ∨ o = 17 ∨ o = 18 ∨ o = 19 ∨ o = 20 ∨ o = 21 ∨ o = 22 ∨ o = 23) : Calls Tryd.prog 55 #[.pointer (some ⟨h, 0, none⟩)] w fun z w' => Hid (FwR w B b G kg iq eq tq ia ea ta Es c e sq sc hi q h (at_ : Int) (o, A, Bb) ql nl cl s (fwsS e.start hi s (flS (o, A, Bb) at_) (K, O)) z w') := by
  obtain ⟨⟨x0, x1⟩, ⟨x2, x3, x4⟩, -, -⟩ := k.lk.cs
  have c1 := follow_any S k hnl ((at_ : Int) + 1) 144 h0 h1
  obtain ⟨R, HR⟩ : ∃ R, Hid (R = fwS e.start hi s (K, O) ((at_ : Int) + 1, 144)) := ⟨_, (rfl : fwS e.start hi s (K, O) ((at_ : Int) + 1, 144) = _)⟩
  have HE : Hid (fwsS e.start hi s (flS (o, A, Bb) at_) (K, O) = R) := by
    have ef : flS (o, A, Bb) at_ = [((at_ : Int) + 1, 144)] := by
      unfold flS
      rw [if_neg (show ¬ (o = 12 ∨ o = 13) by omega), if_neg (show ¬ o = 9 by omega), if_neg (show ¬ o = 10 by omega)]
    show _ = R
    rw [ef]
    exact (fws_one _ _ _ _ _).trans HR.out.symm
  rw [HE.out]
  rw [← HR.out] at c1
  clear S k HE HR
  rcases ho with rfl | rfl | rfl | rfl | rfl | rfl | rfl | rfl | rfl | rfl | rfl | rfl | rfl | rfl | rfl | rfl | rfl | rfl | rfl | rfl
  all_goals go_enter Tryd.func55, Tryd.ntmps55
  all_goals go_wp2_with fail
  all_goals refine c1.mono ?_
  all_goals rintro z W1 h3
  all_goals replace h3 := h3.out
  all_goals clear c1
  all_goals cases hRz : R with
    | error cz =>
      rw [hRz] at h3
      obtain ⟨rfl, kp⟩ := h3
      go_wp2
      refine ⟨rfl, ?_⟩
      rw [hRz]
      exact ⟨rfl, kp⟩
    | ok rz =>
      rw [hRz] at h3
      obtain ⟨rfl, hq⟩ := h3
      go_wp2
      go_end0
      rw [hRz]
      exact ⟨rfl, hq⟩
set_option maxRecDepth 100000 in
set_option maxHeartbeats 1000000 in
theorem fol_10 {w : World} {B b G kg : Nat} {iq eq tq : Option Addr} {ia ea ta : Nat} {Es : List Em} {c : Cd} {e : En} {sq : Option Addr} {sc : Nat} {hi : Int} {K : Kn} {O : List Int} {q : Option Addr} {cap : Nat} {h : Nat} {at_ : Nat} {A Bb : Int} {ql : Option Addr} {nl cl : Nat} {s : List Int} (S : Sv w B b G kg iq eq tq ia ea ta Es c e sq sc hi K O q cap) (k : LS w h G (at_ : Int) (10, A, Bb) ql nl cl s) (hnl : nl ≤ 1000) (h0 : 0 ≤ e.start) (h1 : hi ≤ (c.ins.length : Int)) (h6 : at_ ≤ 100000) : Calls Tryd.prog 55 #[.pointer (some ⟨h, 0, none⟩)] w fun z w' => Hid (FwR w B b G kg iq eq tq ia ea ta Es c e sq sc hi q h (at_ : Int) (10, A, Bb) ql nl cl s (fwsS e.start hi s (flS (10, A, Bb) at_) (K, O)) z w') := by
  obtain ⟨⟨x0, x1⟩, ⟨x2, x3, x4⟩, -, -⟩ := k.lk.cs
  have c1 := follow_any S k hnl ((at_ : Int) + 1) 144 h0 h1
  obtain ⟨R1, HR1⟩ : ∃ R1, Hid (R1 = fwS e.start hi s (K, O) ((at_ : Int) + 1, 144)) := ⟨_, (rfl : fwS e.start hi s (K, O) ((at_ : Int) + 1, 144) = _)⟩
  obtain ⟨R, HR⟩ : ∃ R, Hid (R = fwsS e.start hi s (flS (10, A, Bb) at_) (K, O)) := ⟨_, (rfl : fwsS e.start hi s (flS (10, A, Bb) at_) (K, O) = _)⟩
  rw [← HR.out]
  rw [← HR1.out] at c1
  have HE1 : Hid (∀ cz, R1 = .error cz → R = .error cz) := fun cz hz => by
    rw [HR.out]
    refine (fws_two _ _ _ _ _ _).trans ?_
    rw [← HR1.out, hz]
  have HE2 : Hid (∀ st, R1 = .ok st → R = fwS e.start hi s (st.1, st.2) (A, 140)) := fun st hz => by
    rw [HR.out]
    refine (fws_two _ _ _ _ _ _).trans ?_
    rw [← HR1.out, hz]
  clear S k HR HR1
  go_enter Tryd.func55, Tryd.ntmps55
  go_wp2_with fail
  refine c1.mono ?_
  rintro z W1 h3
  replace h3 := h3.out
  clear c1
  cases hR1 : R1 with
  | error cz =>
    rw [hR1] at h3
    obtain ⟨rfl, kp⟩ := h3
    have HEr := HE1.out cz hR1
    go_wp2
    refine ⟨rfl, ?_⟩
    rw [HEr]
    exact ⟨rfl, kp⟩
  | ok st =>
    rw [hR1] at h3
    obtain ⟨rfl, q1, cap1, S1, k1, pt1⟩ := h3
    obtain ⟨-, ⟨-, z3, -⟩, -, -⟩ := k1.lk.cs
    have c2 := follow_any S1 k1 hnl A 140 h0 h1
    have HEr : Hid (R = fwS e.start hi s (st.1, st.2) (A, 140)) := HE2.out st hR1
    have HPt : Hid (Pt w W1 G kg q q1) := pt1
    clear S1 k1 pt1 x0 x1 x2 x3 x4
    go_wp2_with fail
    refine c2.mono ?_
    rintro z W2 h4
    replace h4 := h4.out
    rw [← HEr.out] at h4
    clear c2
    cases hRz : R with
    | error cz =>
      rw [hRz] at h4
      obtain ⟨rfl, kp⟩ := h4
      go_wp2
      refine ⟨rfl, ?_⟩
      rw [hRz]
      exact ⟨rfl, ⟨(HPt.out.trans kp).kp, fun _ y => .inl y⟩⟩
    | ok rz =>
      rw [hRz] at h4
      obtain ⟨rfl, q2, cap2, S2, k2, pt2⟩ := h4
      have HQ : Hid (Sv W2 B b G kg iq eq tq ia ea ta Es c e sq sc hi rz.1 rz.2 q2 cap2 ∧ LS W2 h G (at_ : Int) (10, A, Bb) ql nl cl s ∧ Pt w W2 G kg q q2) := ⟨S2, k2, HPt.out.trans pt2⟩
      clear S2 k2 pt2
      go_wp2
      go_end0
      rw [hRz]
      exact ⟨rfl, q2, cap2, HQ.out⟩
theorem followers_any {w : World} {B b G kg : Nat} {iq eq tq : Option Addr} {ia ea ta : Nat} {Es : List Em} {c : Cd} {e : En} {sq : Option Addr} {sc : Nat} {hi : Int} {K : Kn} {O : List Int} {q : Option Addr} {cap : Nat} {h : Nat} {at_ : Nat} {x : In} {ql : Option Addr} {nl cl : Nat} {s : List Int} (S : Sv w B b G kg iq eq tq ia ea ta Es c e sq sc hi K O q cap) (k : LS w h G (at_ : Int) x ql nl cl s) (hnl : nl ≤ 1000) (h0 : 0 ≤ e.start) (h1 : hi ≤ (c.ins.length : Int)) (h6 : at_ ≤ 100000) (hx : 0 ≤ x.1 ∧ x.1 < 24) : Calls Tryd.prog 55 #[.pointer (some ⟨h, 0, none⟩)] w fun z w' => Hid (FwR w B b G kg iq eq tq ia ea ta Es c e sq sc hi q h (at_ : Int) x ql nl cl s (fwsS e.start hi s (flS x at_) (K, O)) z w') := by
  obtain ⟨o, A, Bb⟩ := x
  simp only at hx
  by_cases h12 : o = 12
  · subst h12; exact fol_12 S k hnl h0 h1 h6
  by_cases h13 : o = 13
  · subst h13; exact fol_13 S k hnl h0 h1 h6
  by_cases h9 : o = 9
  · subst h9; exact fol_9 S k hnl h0 h1 h6
  by_cases h10 : o = 10
  · subst h10; exact fol_10 S k hnl h0 h1 h6
  exact fol_else S k hnl h0 h1 h6 (by omega)
end Go.Proofs.YtdcaonfnhdjibaaDoor
