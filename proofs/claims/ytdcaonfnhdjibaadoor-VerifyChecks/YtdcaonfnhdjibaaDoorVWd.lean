import Derived.Test.YtdcaonfnhdjibaaDoorVWc
namespace Go.Proofs.YtdcaonfnhdjibaaDoor
open Go.RowKit

/-! Of the reference: takes. -/
/-- Numbers that a slice reads as. -/
def SlR (w : World) (v : Value) (l : List Int) : Prop := ∃ q cap, v = .slice q l.length cap ∧ l.length ≤ cap ∧ Row w w.heap.size q l.length (sv l)
theorem slr_lit (W : World) (l : List Int) (C : Array Value) (h : C.toList = sv l) : SlR (W.alloc (.cells C 45)) (.slice (some ⟨W.heap.size, 0, none⟩) l.length l.length) l := by
  have f := Full.new W C 45
  refine ⟨_, _, rfl, Nat.le_refl _, fun _ => ⟨W.heap.size, 0, rfl, f.lt, ?_⟩⟩
  rw [← h]
  exact Full.range (d := []) (by rw [List.append_nil]; exact f)
theorem slr_nil (W : World) : SlR W (.slice none 0 0) [] := ⟨none, 0, rfl, Nat.le_refl _, fun h => absurd h (Nat.lt_irrefl _)⟩
theorem slr_own {W : World} {b : Nat} {v : Value} {l : List Int} (h : W.ownsRow b 45 1 v l.length (sv l)) : SlR W v l := by
  obtain ⟨q, cap, rfl, hc, -⟩ := own_slice h
  exact ⟨q, cap, rfl, hc, row_of_own h⟩
theorem SlR.next {w w' : World} {v : Value} {l : List Int} (h : SlR w v l) (k : Below w.heap.size w w') : SlR w' v l := by
  obtain ⟨q, cap, e, hc, r⟩ := h
  exact ⟨q, cap, e, hc, (r.below k (Nat.le_refl _)).up k.size⟩
/-- The boxes of a code and of an instruction. -/
structure Bx2 (w Y : World) (iq eq tq : Option Addr) (ia ea ta : Nat) (c : Cd) (k A Bb : Int) : Prop where
  b : Below w.heap.size w Y
  f : Full Y w.heap.size 26 [.slice iq c.ins.length ia, .slice eq c.ens.length ea, .slice tq c.txs.length ta, .int .i64 c.main]
  g : Full Y (w.heap.size + 1) 38 [.int .i64 k, .int .i64 A, .int .i64 Bb]
theorem bx2_new (w : World) (iq eq tq : Option Addr) (ia ea ta : Nat) (c : Cd) (k A Bb : Int) : Bx2 w ((w.alloc (.cells #[.slice iq c.ins.length ia, .slice eq c.ens.length ea, .slice tq c.txs.length ta, .int .i64 c.main] 26)).alloc (.cells #[.int .i64 k, .int .i64 A, .int .i64 Bb] 38)) iq eq tq ia ea ta c k A Bb := by
  have b0 : Below w.heap.size w (w.alloc (.cells #[.slice iq c.ins.length ia, .slice eq c.ens.length ea, .slice tq c.txs.length ta, .int .i64 c.main] 26)) := (Below.refl _ w).alloc (Nat.le_refl _) _
  have b1 : Below (w.alloc (.cells #[.slice iq c.ins.length ia, .slice eq c.ens.length ea, .slice tq c.txs.length ta, .int .i64 c.main] 26)).heap.size (w.alloc (.cells #[.slice iq c.ins.length ia, .slice eq c.ens.length ea, .slice tq c.txs.length ta, .int .i64 c.main] 26)) ((w.alloc (.cells #[.slice iq c.ins.length ia, .slice eq c.ens.length ea, .slice tq c.txs.length ta, .int .i64 c.main] 26)).alloc (.cells #[.int .i64 k, .int .i64 A, .int .i64 Bb] 38)) := (Below.refl _ _).alloc (Nat.le_refl _) _
  refine ⟨below2 b0 b1, (Full.new w _ _).next b1, ?_⟩
  have := Full.new (w.alloc (.cells #[.slice iq c.ins.length ia, .slice eq c.ens.length ea, .slice tq c.txs.length ta, .int .i64 c.main] 26)) #[.int .i64 k, .int .i64 A, .int .i64 Bb] 38
  rw [World.size_alloc] at this
  exact this
theorem sv_get {l : List Int} {j : Nat} (h : j < l.length) : (sv l)[j]? = some (.int .i64 (l.getD j 0)) := by
  unfold sv
  rw [List.getElem?_map, List.getD_eq_getElem?_getD, List.getElem?_eq_getElem h]
  rfl
theorem Bx2.grow {w W W' : World} {iq eq tq : Option Addr} {ia ea ta : Nat} {c : Cd} {k A Bb : Int} (h : Bx2 w W iq eq tq ia ea ta c k A Bb) {v : Value} {n : Nat} {xs : List Value} (ho : W.ownsRow w.heap.size 45 1 v n xs) {C : Obj} (hg : (W.alloc C).grownBy W' v.ownBlock) : Bx2 w W' iq eq tq ia ea ta c k A Bb := by
  have k1 : Kp (fun x => v.ownBlock = some x) W W' := ((Kp.refl _ W).alloc C).trans ((Kp.refl (fun x => v.ownBlock = some x) _).grown hg fun k hk => .inl hk) fun _ _ q => q
  exact ⟨h.b.trans (k1.below (fun k hk => (ho.lt k hk).1) h.b.size), (k1.block _ h.f.lt fun q => own_ne ho (Blk.le ⟨_, h.f, Nat.le_refl _⟩ (Nat.zero_le _)) (by decide) q).trans h.f, (k1.block _ h.g.lt fun q => own_ne ho (Blk.le ⟨_, h.g, Nat.le_refl _⟩ (Nat.zero_le _)) (by decide) q).trans h.g⟩
/-- While a call's parameters are taken. -/
structure Ck (w W : World) (p B : Nat) (nm : ByteArray) (st : Int) (n : Nat) (dq : Option Addr) (SL : List Int) (dc : Nat) (rs : Int) : Prop where
  b : Below w.heap.size w W
  f : Full W p 47 [.string nm, .int .i64 st, .int .i64 (n : Int), .slice dq SL.length dc, .int .i64 rs]
  r : Row W B dq SL.length (sv SL)
  l : B ≤ W.heap.size
  q : w.heap.size ≤ p
theorem Ck.grow {w W W' : World} {p B : Nat} {nm : ByteArray} {st : Int} {n : Nat} {dq : Option Addr} {SL : List Int} {dc : Nat} {rs : Int} (h : Ck w W p B nm st n dq SL dc rs) {v : Value} {m : Nat} {xs : List Value} (hB : B ≤ w.heap.size) (ho : W.ownsRow w.heap.size 45 1 v m xs) {C : Obj} (hg : (W.alloc C).grownBy W' v.ownBlock) : Ck w W' p B nm st n dq SL dc rs := by
  have k1 : Kp (fun x => v.ownBlock = some x) W W' := ((Kp.refl _ W).alloc C).trans ((Kp.refl (fun x => v.ownBlock = some x) _).grown hg fun k hk => .inl hk) fun _ _ q => q
  have k2 := k1.below (fun k hk => (ho.lt k hk).1) h.b.size
  exact ⟨h.b.trans k2, (k1.block _ h.f.lt fun q => own_ne ho (Blk.le ⟨_, h.f, Nat.le_refl _⟩ (Nat.zero_le _)) (by decide) q).trans h.f, h.r.below k2 hB, Nat.le_trans h.l k1.size, h.q⟩
/-- What is asked and what is told. -/
def TkP (w : World) (iq eq tq : Option Addr) (ia ea ta : Nat) (c : Cd) (f : Nat) (k A Bb : Int) : Prop :=
  Calls Tryd.prog 33 #[codeV iq eq tq ia ea ta c, .int .i64 (f : Int), .agg #[.int .i64 k, .int .i64 A, .int .i64 Bb]] w fun z w' => Hid (∃ v, z = .returned v ∧ SlR w' v (takR c (enAt c.ens f) (k, A, Bb)) ∧ Below w.heap.size w w')
section
variable {w : World} {B : Nat} {iq eq tq : Option Addr} {Es : List Em} {c : Cd}

set_option maxRecDepth 100000 in
set_option maxHeartbeats 4000000 in
theorem tk6 (ia ea ta f : Nat) (A Bb : Int) : TkP w iq eq tq ia ea ta c f 6 A Bb := by
  obtain ⟨Y, hY⟩ : ∃ Y, ((w.alloc (.cells #[.slice iq c.ins.length ia, .slice eq c.ens.length ea, .slice tq c.txs.length ta, .int .i64 c.main] 26)).alloc (.cells #[.int .i64 6, .int .i64 A, .int .i64 Bb] 38)) = Y := ⟨_, rfl⟩
  have hb := bx2_new w iq eq tq ia ea ta c 6 A Bb
  rw [hY] at hb
  have y0 := (hb.g.cell 0 _ rfl).1
  have y1 := (hb.g.cell 1 _ rfl).1
  have HB : Hid (Bx2 w Y iq eq tq ia ea ta c 6 A Bb) := hb
  have HL : Hid (takR c (enAt c.ens f) (6, A, Bb) = [-1]) := rfl
  have HE : Hid (SlR (Y.alloc (.cells #[.int .i64 (-1)] 45)) (.slice (some ⟨Y.heap.size, 0, none⟩) 1 1) [-1] ∧ Below w.heap.size w (Y.alloc (.cells #[.int .i64 (-1)] 45))) := by
    have := slr_lit Y [-1] #[.int .i64 (-1)] rfl
    exact ⟨this, below2 hb.b ((Below.refl _ Y).alloc (Nat.le_refl _) _)⟩
  clear hb
  unfold TkP codeV
  rw [HL.out]
  go_enter Tryd.func33, Tryd.ntmps33
  go_wp2
  go_ret
  exact ⟨_, rfl, HE.out⟩

set_option maxRecDepth 100000 in
set_option maxHeartbeats 4000000 in
theorem tk23 (ia ea ta f : Nat) (A Bb : Int) : TkP w iq eq tq ia ea ta c f 23 A Bb := by
  obtain ⟨Y, hY⟩ : ∃ Y, ((w.alloc (.cells #[.slice iq c.ins.length ia, .slice eq c.ens.length ea, .slice tq c.txs.length ta, .int .i64 c.main] 26)).alloc (.cells #[.int .i64 23, .int .i64 A, .int .i64 Bb] 38)) = Y := ⟨_, rfl⟩
  have hb := bx2_new w iq eq tq ia ea ta c 23 A Bb
  rw [hY] at hb
  have y0 := (hb.g.cell 0 _ rfl).1
  have y1 := (hb.g.cell 1 _ rfl).1
  have HB : Hid (Bx2 w Y iq eq tq ia ea ta c 23 A Bb) := hb
  have HL : Hid (takR c (enAt c.ens f) (23, A, Bb) = [-1]) := rfl
  have HE : Hid (SlR (Y.alloc (.cells #[.int .i64 (-1)] 45)) (.slice (some ⟨Y.heap.size, 0, none⟩) 1 1) [-1] ∧ Below w.heap.size w (Y.alloc (.cells #[.int .i64 (-1)] 45))) := by
    have := slr_lit Y [-1] #[.int .i64 (-1)] rfl
    exact ⟨this, below2 hb.b ((Below.refl _ Y).alloc (Nat.le_refl _) _)⟩
  clear hb
  unfold TkP codeV
  rw [HL.out]
  go_enter Tryd.func33, Tryd.ntmps33
  go_wp2
  go_ret
  exact ⟨_, rfl, HE.out⟩

set_option maxRecDepth 100000 in
set_option maxHeartbeats 4000000 in
theorem tk8 (ia ea ta f : Nat) (A Bb : Int) : TkP w iq eq tq ia ea ta c f 8 A Bb := by
  obtain ⟨Y, hY⟩ : ∃ Y, ((w.alloc (.cells #[.slice iq c.ins.length ia, .slice eq c.ens.length ea, .slice tq c.txs.length ta, .int .i64 c.main] 26)).alloc (.cells #[.int .i64 8, .int .i64 A, .int .i64 Bb] 38)) = Y := ⟨_, rfl⟩
  have hb := bx2_new w iq eq tq ia ea ta c 8 A Bb
  rw [hY] at hb
  have y0 := (hb.g.cell 0 _ rfl).1
  have y1 := (hb.g.cell 1 _ rfl).1
  have HB : Hid (Bx2 w Y iq eq tq ia ea ta c 8 A Bb) := hb
  have HL : Hid (takR c (enAt c.ens f) (8, A, Bb) = [-1, -1]) := rfl
  have HE : Hid (SlR (Y.alloc (.cells #[.int .i64 (-1), .int .i64 (-1)] 45)) (.slice (some ⟨Y.heap.size, 0, none⟩) 2 2) [-1, -1] ∧ Below w.heap.size w (Y.alloc (.cells #[.int .i64 (-1), .int .i64 (-1)] 45))) := by
    have := slr_lit Y [-1, -1] #[.int .i64 (-1), .int .i64 (-1)] rfl
    exact ⟨this, below2 hb.b ((Below.refl _ Y).alloc (Nat.le_refl _) _)⟩
  clear hb
  unfold TkP codeV
  rw [HL.out]
  go_enter Tryd.func33, Tryd.ntmps33
  go_wp2
  go_ret
  exact ⟨_, rfl, HE.out⟩

set_option maxRecDepth 100000 in
set_option maxHeartbeats 4000000 in
theorem tk10 (ia ea ta f : Nat) (A Bb : Int) : TkP w iq eq tq ia ea ta c f 10 A Bb := by
  obtain ⟨Y, hY⟩ : ∃ Y, ((w.alloc (.cells #[.slice iq c.ins.length ia, .slice eq c.ens.length ea, .slice tq c.txs.length ta, .int .i64 c.main] 26)).alloc (.cells #[.int .i64 10, .int .i64 A, .int .i64 Bb] 38)) = Y := ⟨_, rfl⟩
  have hb := bx2_new w iq eq tq ia ea ta c 10 A Bb
  rw [hY] at hb
  have y0 := (hb.g.cell 0 _ rfl).1
  have y1 := (hb.g.cell 1 _ rfl).1
  have HB : Hid (Bx2 w Y iq eq tq ia ea ta c 10 A Bb) := hb
  have HL : Hid (takR c (enAt c.ens f) (10, A, Bb) = [2]) := rfl
  have HE : Hid (SlR (Y.alloc (.cells #[.int .i64 2] 45)) (.slice (some ⟨Y.heap.size, 0, none⟩) 1 1) [2] ∧ Below w.heap.size w (Y.alloc (.cells #[.int .i64 2] 45))) := by
    have := slr_lit Y [2] #[.int .i64 2] rfl
    exact ⟨this, below2 hb.b ((Below.refl _ Y).alloc (Nat.le_refl _) _)⟩
  clear hb
  unfold TkP codeV
  rw [HL.out]
  go_enter Tryd.func33, Tryd.ntmps33
  go_wp2
  go_ret
  exact ⟨_, rfl, HE.out⟩

set_option maxRecDepth 100000 in
set_option maxHeartbeats 4000000 in
theorem tk14 (ia ea ta f : Nat) (A Bb : Int) : TkP w iq eq tq ia ea ta c f 14 A Bb := by
  obtain ⟨Y, hY⟩ : ∃ Y, ((w.alloc (.cells #[.slice iq c.ins.length ia, .slice eq c.ens.length ea, .slice tq c.txs.length ta, .int .i64 c.main] 26)).alloc (.cells #[.int .i64 14, .int .i64 A, .int .i64 Bb] 38)) = Y := ⟨_, rfl⟩
  have hb := bx2_new w iq eq tq ia ea ta c 14 A Bb
  rw [hY] at hb
  have y0 := (hb.g.cell 0 _ rfl).1
  have y1 := (hb.g.cell 1 _ rfl).1
  have HB : Hid (Bx2 w Y iq eq tq ia ea ta c 14 A Bb) := hb
  have HL : Hid (takR c (enAt c.ens f) (14, A, Bb) = [1]) := rfl
  have HE : Hid (SlR (Y.alloc (.cells #[.int .i64 1] 45)) (.slice (some ⟨Y.heap.size, 0, none⟩) 1 1) [1] ∧ Below w.heap.size w (Y.alloc (.cells #[.int .i64 1] 45))) := by
    have := slr_lit Y [1] #[.int .i64 1] rfl
    exact ⟨this, below2 hb.b ((Below.refl _ Y).alloc (Nat.le_refl _) _)⟩
  clear hb
  unfold TkP codeV
  rw [HL.out]
  go_enter Tryd.func33, Tryd.ntmps33
  go_wp2
  go_ret
  exact ⟨_, rfl, HE.out⟩

set_option maxRecDepth 100000 in
set_option maxHeartbeats 4000000 in
theorem tk15 (ia ea ta f : Nat) (A Bb : Int) : TkP w iq eq tq ia ea ta c f 15 A Bb := by
  obtain ⟨Y, hY⟩ : ∃ Y, ((w.alloc (.cells #[.slice iq c.ins.length ia, .slice eq c.ens.length ea, .slice tq c.txs.length ta, .int .i64 c.main] 26)).alloc (.cells #[.int .i64 15, .int .i64 A, .int .i64 Bb] 38)) = Y := ⟨_, rfl⟩
  have hb := bx2_new w iq eq tq ia ea ta c 15 A Bb
  rw [hY] at hb
  have y0 := (hb.g.cell 0 _ rfl).1
  have y1 := (hb.g.cell 1 _ rfl).1
  have HB : Hid (Bx2 w Y iq eq tq ia ea ta c 15 A Bb) := hb
  have HL : Hid (takR c (enAt c.ens f) (15, A, Bb) = [-1, 1]) := rfl
  have HE : Hid (SlR (Y.alloc (.cells #[.int .i64 (-1), .int .i64 1] 45)) (.slice (some ⟨Y.heap.size, 0, none⟩) 2 2) [-1, 1] ∧ Below w.heap.size w (Y.alloc (.cells #[.int .i64 (-1), .int .i64 1] 45))) := by
    have := slr_lit Y [-1, 1] #[.int .i64 (-1), .int .i64 1] rfl
    exact ⟨this, below2 hb.b ((Below.refl _ Y).alloc (Nat.le_refl _) _)⟩
  clear hb
  unfold TkP codeV
  rw [HL.out]
  go_enter Tryd.func33, Tryd.ntmps33
  go_wp2
  go_ret
  exact ⟨_, rfl, HE.out⟩

set_option maxRecDepth 100000 in
set_option maxHeartbeats 4000000 in
theorem tk16 (ia ea ta f : Nat) (A Bb : Int) : TkP w iq eq tq ia ea ta c f 16 A Bb := by
  obtain ⟨Y, hY⟩ : ∃ Y, ((w.alloc (.cells #[.slice iq c.ins.length ia, .slice eq c.ens.length ea, .slice tq c.txs.length ta, .int .i64 c.main] 26)).alloc (.cells #[.int .i64 16, .int .i64 A, .int .i64 Bb] 38)) = Y := ⟨_, rfl⟩
  have hb := bx2_new w iq eq tq ia ea ta c 16 A Bb
  rw [hY] at hb
  have y0 := (hb.g.cell 0 _ rfl).1
  have y1 := (hb.g.cell 1 _ rfl).1
  have HB : Hid (Bx2 w Y iq eq tq ia ea ta c 16 A Bb) := hb
  have HL : Hid (takR c (enAt c.ens f) (16, A, Bb) = [-2, 1, -1]) := rfl
  have HE : Hid (SlR (Y.alloc (.cells #[.int .i64 (-2), .int .i64 1, .int .i64 (-1)] 45)) (.slice (some ⟨Y.heap.size, 0, none⟩) 3 3) [-2, 1, -1] ∧ Below w.heap.size w (Y.alloc (.cells #[.int .i64 (-2), .int .i64 1, .int .i64 (-1)] 45))) := by
    have := slr_lit Y [-2, 1, -1] #[.int .i64 (-2), .int .i64 1, .int .i64 (-1)] rfl
    exact ⟨this, below2 hb.b ((Below.refl _ Y).alloc (Nat.le_refl _) _)⟩
  clear hb
  unfold TkP codeV
  rw [HL.out]
  go_enter Tryd.func33, Tryd.ntmps33
  go_wp2
  go_ret
  exact ⟨_, rfl, HE.out⟩

set_option maxRecDepth 100000 in
set_option maxHeartbeats 4000000 in
theorem tk17 (ia ea ta f : Nat) (A Bb : Int) : TkP w iq eq tq ia ea ta c f 17 A Bb := by
  obtain ⟨Y, hY⟩ : ∃ Y, ((w.alloc (.cells #[.slice iq c.ins.length ia, .slice eq c.ens.length ea, .slice tq c.txs.length ta, .int .i64 c.main] 26)).alloc (.cells #[.int .i64 17, .int .i64 A, .int .i64 Bb] 38)) = Y := ⟨_, rfl⟩
  have hb := bx2_new w iq eq tq ia ea ta c 17 A Bb
  rw [hY] at hb
  have y0 := (hb.g.cell 0 _ rfl).1
  have y1 := (hb.g.cell 1 _ rfl).1
  have HB : Hid (Bx2 w Y iq eq tq ia ea ta c 17 A Bb) := hb
  have HL : Hid (takR c (enAt c.ens f) (17, A, Bb) = [-1]) := rfl
  have HE : Hid (SlR (Y.alloc (.cells #[.int .i64 (-1)] 45)) (.slice (some ⟨Y.heap.size, 0, none⟩) 1 1) [-1] ∧ Below w.heap.size w (Y.alloc (.cells #[.int .i64 (-1)] 45))) := by
    have := slr_lit Y [-1] #[.int .i64 (-1)] rfl
    exact ⟨this, below2 hb.b ((Below.refl _ Y).alloc (Nat.le_refl _) _)⟩
  clear hb
  unfold TkP codeV
  rw [HL.out]
  go_enter Tryd.func33, Tryd.ntmps33
  go_wp2
  go_ret
  exact ⟨_, rfl, HE.out⟩

set_option maxRecDepth 100000 in
set_option maxHeartbeats 4000000 in
theorem tk18 (ia ea ta f : Nat) (A Bb : Int) : TkP w iq eq tq ia ea ta c f 18 A Bb := by
  obtain ⟨Y, hY⟩ : ∃ Y, ((w.alloc (.cells #[.slice iq c.ins.length ia, .slice eq c.ens.length ea, .slice tq c.txs.length ta, .int .i64 c.main] 26)).alloc (.cells #[.int .i64 18, .int .i64 A, .int .i64 Bb] 38)) = Y := ⟨_, rfl⟩
  have hb := bx2_new w iq eq tq ia ea ta c 18 A Bb
  rw [hY] at hb
  have y0 := (hb.g.cell 0 _ rfl).1
  have y1 := (hb.g.cell 1 _ rfl).1
  have HB : Hid (Bx2 w Y iq eq tq ia ea ta c 18 A Bb) := hb
  have HL : Hid (takR c (enAt c.ens f) (18, A, Bb) = [-3]) := rfl
  have HE : Hid (SlR (Y.alloc (.cells #[.int .i64 (-3)] 45)) (.slice (some ⟨Y.heap.size, 0, none⟩) 1 1) [-3] ∧ Below w.heap.size w (Y.alloc (.cells #[.int .i64 (-3)] 45))) := by
    have := slr_lit Y [-3] #[.int .i64 (-3)] rfl
    exact ⟨this, below2 hb.b ((Below.refl _ Y).alloc (Nat.le_refl _) _)⟩
  clear hb
  unfold TkP codeV
  rw [HL.out]
  go_enter Tryd.func33, Tryd.ntmps33
  go_wp2
  go_ret
  exact ⟨_, rfl, HE.out⟩

set_option maxRecDepth 100000 in
set_option maxHeartbeats 4000000 in
theorem tk7y (ia ea ta f : Nat) (A Bb : Int) (hA : A = 1) : TkP w iq eq tq ia ea ta c f 7 A Bb := by
  subst hA
  obtain ⟨Y, hY⟩ : ∃ Y, ((w.alloc (.cells #[.slice iq c.ins.length ia, .slice eq c.ens.length ea, .slice tq c.txs.length ta, .int .i64 c.main] 26)).alloc (.cells #[.int .i64 7, .int .i64 1, .int .i64 Bb] 38)) = Y := ⟨_, rfl⟩
  have hb := bx2_new w iq eq tq ia ea ta c 7 1 Bb
  rw [hY] at hb
  have y0 := (hb.g.cell 0 _ rfl).1
  have y1 := (hb.g.cell 1 _ rfl).1
  have HB : Hid (Bx2 w Y iq eq tq ia ea ta c 7 1 Bb) := hb
  have HL : Hid (takR c (enAt c.ens f) (7, 1, Bb) = [1]) := rfl
  have HE : Hid (SlR (Y.alloc (.cells #[.int .i64 1] 45)) (.slice (some ⟨Y.heap.size, 0, none⟩) 1 1) [1] ∧ Below w.heap.size w (Y.alloc (.cells #[.int .i64 1] 45))) := by
    have := slr_lit Y [1] #[.int .i64 1] rfl
    exact ⟨this, below2 hb.b ((Below.refl _ Y).alloc (Nat.le_refl _) _)⟩
  clear hb
  unfold TkP codeV
  rw [HL.out]
  go_enter Tryd.func33, Tryd.ntmps33
  go_wp2
  go_ret
  exact ⟨_, rfl, HE.out⟩

set_option maxRecDepth 100000 in
set_option maxHeartbeats 4000000 in
theorem tk7n (ia ea ta f : Nat) (A Bb : Int) (hA : A ≠ 1) : TkP w iq eq tq ia ea ta c f 7 A Bb := by
  obtain ⟨Y, hY⟩ : ∃ Y, ((w.alloc (.cells #[.slice iq c.ins.length ia, .slice eq c.ens.length ea, .slice tq c.txs.length ta, .int .i64 c.main] 26)).alloc (.cells #[.int .i64 7, .int .i64 A, .int .i64 Bb] 38)) = Y := ⟨_, rfl⟩
  have hb := bx2_new w iq eq tq ia ea ta c 7 A Bb
  rw [hY] at hb
  have y0 := (hb.g.cell 0 _ rfl).1
  have y1 := (hb.g.cell 1 _ rfl).1
  have HB : Hid (Bx2 w Y iq eq tq ia ea ta c 7 A Bb) := hb
  have hA1 : (A == 1) = false := by rw [beq_eq_false_iff_ne]; exact hA
  have HL : Hid (takR c (enAt c.ens f) (7, A, Bb) = [2]) := by show takR c (enAt c.ens f) (7, A, Bb) = [2]; unfold takR; simp [hA]
  clear hA
  have HE : Hid (SlR (Y.alloc (.cells #[.int .i64 2] 45)) (.slice (some ⟨Y.heap.size, 0, none⟩) 1 1) [2] ∧ Below w.heap.size w (Y.alloc (.cells #[.int .i64 2] 45))) := by
    have := slr_lit Y [2] #[.int .i64 2] rfl
    exact ⟨this, below2 hb.b ((Below.refl _ Y).alloc (Nat.le_refl _) _)⟩
  clear hb
  unfold TkP codeV
  rw [HL.out]
  go_enter Tryd.func33, Tryd.ntmps33
  go_wp2
  go_ret
  exact ⟨_, rfl, HE.out⟩

set_option maxRecDepth 100000 in
set_option maxHeartbeats 4000000 in
theorem tkOther (ia ea ta f : Nat) (k A Bb : Int) (h5 : k ≠ 5) (h6 : k ≠ 6) (h23 : k ≠ 23) (h7 : k ≠ 7) (h8 : k ≠ 8) (h10 : k ≠ 10) (h11 : k ≠ 11) (h12 : k ≠ 12) (h14 : k ≠ 14) (h15 : k ≠ 15) (h16 : k ≠ 16) (h17 : k ≠ 17) (h18 : k ≠ 18) (h19 : k ≠ 19) : TkP w iq eq tq ia ea ta c f k A Bb := by
  obtain ⟨Y, hY⟩ : ∃ Y, ((w.alloc (.cells #[.slice iq c.ins.length ia, .slice eq c.ens.length ea, .slice tq c.txs.length ta, .int .i64 c.main] 26)).alloc (.cells #[.int .i64 k, .int .i64 A, .int .i64 Bb] 38)) = Y := ⟨_, rfl⟩
  have hb := bx2_new w iq eq tq ia ea ta c k A Bb
  rw [hY] at hb
  have y0 := (hb.g.cell 0 _ rfl).1
  have y1 := (hb.g.cell 1 _ rfl).1
  have HB : Hid (Bx2 w Y iq eq tq ia ea ta c k A Bb) := hb
  have HL : Hid (takR c (enAt c.ens f) (k, A, Bb) = []) := by
    show takR c (enAt c.ens f) (k, A, Bb) = []
    unfold takR
    simp only [h5, h6, h23, h7, h8, h10, h11, h12, h14, h15, h16, h17, h18, h19, if_false, or_self]
  have e5 : (k == 5) = false := by rw [beq_eq_false_iff_ne]; exact h5
  have e6 : (k == 6) = false := by rw [beq_eq_false_iff_ne]; exact h6
  have e23 : (k == 23) = false := by rw [beq_eq_false_iff_ne]; exact h23
  have e7 : (k == 7) = false := by rw [beq_eq_false_iff_ne]; exact h7
  have e8 : (k == 8) = false := by rw [beq_eq_false_iff_ne]; exact h8
  have e10 : (k == 10) = false := by rw [beq_eq_false_iff_ne]; exact h10
  have e11 : (k == 11) = false := by rw [beq_eq_false_iff_ne]; exact h11
  have e12 : (k == 12) = false := by rw [beq_eq_false_iff_ne]; exact h12
  have e14 : (k == 14) = false := by rw [beq_eq_false_iff_ne]; exact h14
  have e15 : (k == 15) = false := by rw [beq_eq_false_iff_ne]; exact h15
  have e16 : (k == 16) = false := by rw [beq_eq_false_iff_ne]; exact h16
  have e17 : (k == 17) = false := by rw [beq_eq_false_iff_ne]; exact h17
  have e18 : (k == 18) = false := by rw [beq_eq_false_iff_ne]; exact h18
  have e19 : (k == 19) = false := by rw [beq_eq_false_iff_ne]; exact h19
  clear h5 h6 h23 h7 h8 h10 h11 h12 h14 h15 h16 h17 h18 h19 hb
  unfold TkP codeV
  rw [HL.out]
  go_enter Tryd.func33, Tryd.ntmps33
  go_wp2
  go_ret
  exact ⟨_, rfl, slr_nil _, HB.out.b⟩

set_option maxRecDepth 100000 in
set_option maxHeartbeats 4000000 in
theorem tk5 (m : CodeM w B iq eq tq Es c) (ia ea ta : Nat) (hB : B ≤ w.heap.size) (f : Nat) (hf : f < c.ens.length) (A Bb : Int) (hA0 : 0 ≤ A) (hA1 : A < ((enAt c.ens f).sorts.length : Int)) : TkP w iq eq tq ia ea ta c f 5 A Bb := by
  obtain ⟨Y, hY⟩ : ∃ Y, ((w.alloc (.cells #[.slice iq c.ins.length ia, .slice eq c.ens.length ea, .slice tq c.txs.length ta, .int .i64 c.main] 26)).alloc (.cells #[.int .i64 5, .int .i64 A, .int .i64 Bb] 38)) = Y := ⟨_, rfl⟩
  have hb := bx2_new w iq eq tq ia ea ta c 5 A Bb
  rw [hY] at hb
  have y0 := (hb.g.cell 0 _ rfl).1
  have y1 := (hb.g.cell 1 _ rfl).1
  have HB : Hid (Bx2 w Y iq eq tq ia ea ta c 5 A Bb) := hb
  obtain ⟨a, rfl⟩ : ∃ a : Nat, A = (a : Int) := ⟨A.toNat, by omega⟩
  have HL : Hid (takR c (enAt c.ens f) (5, (a : Int), Bb) = [(enAt c.ens f).sorts.getD a 0]) := by show takR c (enAt c.ens f) (5, (a : Int), Bb) = _; unfold takR; rw [if_pos rfl, Int.toNat_natCast]
  obtain ⟨g, o, dq, dc, hq, hg, hr, hrow, -⟩ := code_ent (m.below hb.b hB) f hf
  obtain ⟨g2, o2, rfl, hg2, hr2⟩ := row_get hrow a (by omega)
  have x1 := (hb.f.cell 1 _ rfl).1
  rw [hq] at x1
  have r3 := hr 3 _ rfl
  have s0 := hr2 a (.int .i64 ((enAt c.ens f).sorts.getD a 0)) (sv_get (by omega))
  have a0 : (0 : Int) ≤ (f : Int) := by omega
  have a1 : (f : Int) < (c.ens.length : Int) := by omega
  obtain ⟨t, Ht⟩ : ∃ t, Hid ((enAt c.ens f).sorts.getD a 0 = t) := ⟨_, (rfl : (enAt c.ens f).sorts.getD a 0 = _)⟩
  rw [Ht.out] at s0 HL
  generalize (enAt c.ens f).sorts.length = sl at *
  have HE : Hid (SlR (Y.alloc (.cells #[.int .i64 t] 45)).drew (.slice (some ⟨Y.heap.size, 0, none⟩) 1 1) [t] ∧ Below w.heap.size w (Y.alloc (.cells #[.int .i64 t] 45)).drew) := by
    have := slr_lit Y [t] #[.int .i64 t] rfl
    exact ⟨this.next (Below.refl _ _).drew, (below2 hb.b ((Below.refl _ Y).alloc (Nat.le_refl _) _)).drew⟩
  clear hb m hr hrow hg hg2 hr2 hB hf Ht
  subst hq
  unfold TkP codeV
  rw [HL.out]
  go_enter Tryd.func33, Tryd.ntmps33
  go_upto_region 3 with fail
  go_region
  go_wp2
  go_ret
  exact ⟨_, rfl, HE.out⟩

set_option maxRecDepth 100000 in
set_option maxHeartbeats 4000000 in
theorem tk12y (m : CodeM w B iq eq tq Es c) (ia ea ta : Nat) (hB : B ≤ w.heap.size) (f : Nat) (hf : f < c.ens.length) (A Bb : Int) (hR : (enAt c.ens f).result = 0) : TkP w iq eq tq ia ea ta c f 12 A Bb := by
  obtain ⟨Y, hY⟩ : ∃ Y, ((w.alloc (.cells #[.slice iq c.ins.length ia, .slice eq c.ens.length ea, .slice tq c.txs.length ta, .int .i64 c.main] 26)).alloc (.cells #[.int .i64 12, .int .i64 A, .int .i64 Bb] 38)) = Y := ⟨_, rfl⟩
  have hb := bx2_new w iq eq tq ia ea ta c 12 A Bb
  rw [hY] at hb
  have y0 := (hb.g.cell 0 _ rfl).1
  have y1 := (hb.g.cell 1 _ rfl).1
  have HB : Hid (Bx2 w Y iq eq tq ia ea ta c 12 A Bb) := hb
  obtain ⟨g, o, dq, dc, hq, hg, hr, hrow, -⟩ := code_ent (m.below hb.b hB) f hf
  have x1 := (hb.f.cell 1 _ rfl).1
  rw [hq] at x1
  have r4 := hr 4 _ rfl
  have a0 : (0 : Int) ≤ (f : Int) := by omega
  have a1 : (f : Int) < (c.ens.length : Int) := by omega
  rw [hR] at r4
  have HL : Hid (takR c (enAt c.ens f) (12, A, Bb) = [-4]) := by show takR c (enAt c.ens f) (12, A, Bb) = [-4]; unfold takR; simp [hR]
  clear hR
  have HE : Hid (SlR (Y.alloc (.cells #[.int .i64 (-4)] 45)) (.slice (some ⟨Y.heap.size, 0, none⟩) 1 1) [-4] ∧ Below w.heap.size w (Y.alloc (.cells #[.int .i64 (-4)] 45))) := by
    have := slr_lit Y [-4] #[.int .i64 (-4)] rfl
    exact ⟨this, below2 hb.b ((Below.refl _ Y).alloc (Nat.le_refl _) _)⟩
  clear hb m hr hrow hg hB hf
  subst hq
  unfold TkP codeV
  rw [HL.out]
  go_enter Tryd.func33, Tryd.ntmps33
  go_wp2
  go_ret
  exact ⟨_, rfl, HE.out⟩

set_option maxRecDepth 100000 in
set_option maxHeartbeats 4000000 in
theorem tk12n (m : CodeM w B iq eq tq Es c) (ia ea ta : Nat) (hB : B ≤ w.heap.size) (f : Nat) (hf : f < c.ens.length) (A Bb : Int) (hR : (enAt c.ens f).result ≠ 0) : TkP w iq eq tq ia ea ta c f 12 A Bb := by
  obtain ⟨Y, hY⟩ : ∃ Y, ((w.alloc (.cells #[.slice iq c.ins.length ia, .slice eq c.ens.length ea, .slice tq c.txs.length ta, .int .i64 c.main] 26)).alloc (.cells #[.int .i64 12, .int .i64 A, .int .i64 Bb] 38)) = Y := ⟨_, rfl⟩
  have hb := bx2_new w iq eq tq ia ea ta c 12 A Bb
  rw [hY] at hb
  have y0 := (hb.g.cell 0 _ rfl).1
  have y1 := (hb.g.cell 1 _ rfl).1
  have HB : Hid (Bx2 w Y iq eq tq ia ea ta c 12 A Bb) := hb
  obtain ⟨g, o, dq, dc, hq, hg, hr, hrow, -⟩ := code_ent (m.below hb.b hB) f hf
  have x1 := (hb.f.cell 1 _ rfl).1
  rw [hq] at x1
  have r4 := hr 4 _ rfl
  have a0 : (0 : Int) ≤ (f : Int) := by omega
  have a1 : (f : Int) < (c.ens.length : Int) := by omega
  obtain ⟨t, Ht⟩ : ∃ t, (enAt c.ens f).result = t := ⟨_, rfl⟩
  have HL : Hid (takR c (enAt c.ens f) (12, A, Bb) = [t]) := by show takR c (enAt c.ens f) (12, A, Bb) = [t]; unfold takR; rw [← Ht]; simp [hR]
  rw [Ht] at r4 hR
  have e0 : (t == 0) = false := by rw [beq_eq_false_iff_ne]; exact hR
  clear hR Ht
  have HE : Hid (SlR (Y.alloc (.cells #[.int .i64 t] 45)) (.slice (some ⟨Y.heap.size, 0, none⟩) 1 1) [t] ∧ Below w.heap.size w (Y.alloc (.cells #[.int .i64 t] 45))) := by
    have := slr_lit Y [t] #[.int .i64 t] rfl
    exact ⟨this, below2 hb.b ((Below.refl _ Y).alloc (Nat.le_refl _) _)⟩
  clear hb m hr hrow hg hB hf
  subst hq
  unfold TkP codeV
  rw [HL.out]
  go_enter Tryd.func33, Tryd.ntmps33
  go_wp2
  go_ret
  exact ⟨_, rfl, HE.out⟩

set_option maxRecDepth 100000 in
set_option maxHeartbeats 4000000 in
theorem tk19 (ia ea ta f a : Nat) (ha : a ≤ 60000) (Bb : Int) : TkP w iq eq tq ia ea ta c f 19 (a : Int) Bb := by
  obtain ⟨Y, hY⟩ : ∃ Y, ((w.alloc (.cells #[.slice iq c.ins.length ia, .slice eq c.ens.length ea, .slice tq c.txs.length ta, .int .i64 c.main] 26)).alloc (.cells #[.int .i64 19, .int .i64 (a : Int), .int .i64 Bb] 38)) = Y := ⟨_, rfl⟩
  have hb := bx2_new w iq eq tq ia ea ta c 19 (a : Int) Bb
  rw [hY] at hb
  have y0 := (hb.g.cell 0 _ rfl).1
  have y1 := (hb.g.cell 1 _ rfl).1
  have HB : Hid (Bx2 w Y iq eq tq ia ea ta c 19 (a : Int) Bb) := hb
  have HL : Hid (takR c (enAt c.ens f) (19, (a : Int), Bb) = List.replicate a (-3)) := by show takR c (enAt c.ens f) (19, (a : Int), Bb) = _; unfold takR; simp
  have h0 : Hid (Y.ownsRow w.heap.size 45 1 (.slice none 0 0) 0 (sv (List.replicate 0 (-3)))) := World.ownsRow_nil _ _ _ _
  clear hb y0 y1
  have HY : Hid (Bx2 w Y iq eq tq ia ea ta c 19 (a : Int) Bb ∧ ∀ W, Below Y.heap.size Y W → Bx2 w W iq eq tq ia ea ta c 19 (a : Int) Bb) := ⟨HB.out, fun W k => ⟨below2 HB.out.b k, HB.out.f.next k, HB.out.g.next k⟩⟩
  unfold TkP codeV
  rw [HL.out]
  have y0 := (HB.out.g.cell 0 _ rfl).1
  clear HL
  go_enter Tryd.func33, Tryd.ntmps33
  go_wp2_with fail
  clear y0
  go_loopw [10, 11] (fun u s wr => ∃ j : Nat, j ≤ a ∧ s = .int .i64 (j : Int) ∧ Hid (wr.ownsRow w.heap.size 45 1 u j (sv (List.replicate j (-3))) ∧ Bx2 w wr iq eq tq ia ea ta c 19 (a : Int) Bb)) (fun _ s _ => a - (intOf s).toNat)
  case atStart => exact ⟨0, Nat.zero_le _, rfl, h0.out, HB.out⟩
  case round =>
    obtain ⟨j, hj, rfl, HI⟩ := hrel
    have y1 := (HI.out.2.g.cell 1 _ rfl).1
    have haI : (a : Int) ≤ 60000 := by omega
    by_cases hlt : j < a
    · have c1 : (j : Int) < (a : Int) := by omega
      have hown := HI.out.1
      have hbw := HI.out.2.b.size
      have hj2 : j + 1 ≤ 1000000000 := by omega
      clear h0 HY
      go_wp2_with (first
        | (at_builtin; refine wpList_app 35 45 _ 1 8 Tryd.underlying35 infoSt rfl (by decide) (by decide) (by rfl) _ _ (by rfl) w.heap.size _ j (sv (List.replicate j (-3))) (by rfl) hown #[.int .i64 (-3)] rfl (by simp [Value.oneCell']) (by rfl) hj2 hbw ?_; rintro v4 W4 ho4 hg4)
        | fail)
      have HN : Hid (W4.ownsRow w.heap.size 45 1 v4 (j + 1) (sv (List.replicate (j + 1) (-3))) ∧ Bx2 w W4 iq eq tq ia ea ta c 19 (a : Int) Bb) := by
        refine ⟨?_, HI.out.2.grow HI.out.1 hg4.out.1⟩
        have := ho4.out
        rw [List.replicate_succ', show sv (List.replicate j (-3) ++ [-3]) = sv (List.replicate j (-3)) ++ [.int .i64 (-3)] by unfold sv; rw [List.map_append]; rfl]
        exact this
      exact ⟨⟨j + 1, by omega, by go_num, HN⟩, by simp [intOf]; omega⟩
    · obtain rfl : j = a := by omega
      have c1 : ¬ ((j : Int) < (j : Int)) := by omega
      go_wp2
      go_ret
      refine ⟨_, rfl, ?_, HI.out.2.b⟩
      have := HI.out.1
      exact slr_own (l := List.replicate j (-3)) (by rw [List.length_replicate]; exact this)

set_option maxRecDepth 100000 in
set_option maxHeartbeats 4000000 in
theorem tk11 (m : CodeM w B iq eq tq Es c) (hc : CodeOk c) (ia ea ta : Nat) (hB : B ≤ w.heap.size) (f : Nat) (A Bb : Int) (hA0 : 0 ≤ A) (hA1 : A < (c.ens.length : Int)) : TkP w iq eq tq ia ea ta c f 11 A Bb := by
  obtain ⟨a, rfl⟩ : ∃ a : Nat, A = (a : Int) := ⟨A.toNat, by omega⟩
  obtain ⟨Y, hY⟩ : ∃ Y, ((w.alloc (.cells #[.slice iq c.ins.length ia, .slice eq c.ens.length ea, .slice tq c.txs.length ta, .int .i64 c.main] 26)).alloc (.cells #[.int .i64 11, .int .i64 (a : Int), .int .i64 Bb] 38)) = Y := ⟨_, rfl⟩
  have hb := bx2_new w iq eq tq ia ea ta c 11 (a : Int) Bb
  rw [hY] at hb
  have y0 := (hb.g.cell 0 _ rfl).1
  have y1 := (hb.g.cell 1 _ rfl).1
  have HB : Hid (Bx2 w Y iq eq tq ia ea ta c 11 (a : Int) Bb) := hb
  obtain ⟨e, He⟩ : ∃ e, Hid (enAt c.ens a = e) := ⟨_, (rfl : enAt c.ens a = _)⟩
  have heo : EntOk e := by rw [← He.out]; exact ent_ok.1 (hc.es _ (en_mem (by omega)))
  obtain ⟨n, hn⟩ : ∃ n : Nat, e.params = (n : Int) := ⟨e.params.toNat, by have := heo.p0; omega⟩
  have hn8 : n ≤ 8 := by have := heo.p8; omega
  have hnl : n ≤ e.sorts.length := by have := heo.pl; omega
  have HL : Hid (takR c (enAt c.ens f) (11, (a : Int), Bb) = e.sorts.take n) := by
    show takR c (enAt c.ens f) (11, (a : Int), Bb) = _
    have h0 : takR c (enAt c.ens f) (11, (a : Int), Bb) = (enAt c.ens a).sorts.take (enAt c.ens a).params.toNat := rfl
    rw [h0, He.out, hn, Int.toNat_natCast]
  obtain ⟨g, o, dq, dc, hq, hg, hr, hrow, -⟩ := code_ent (m.below hb.b hB) a (by omega)
  rw [He.out] at hr hrow
  have HRow : Hid (Row Y B dq e.sorts.length (sv e.sorts) ∧ B ≤ Y.heap.size ∧ n ≤ e.sorts.length) := ⟨hrow, Nat.le_trans hB hb.b.size, hnl⟩
  have x1 := (hb.f.cell 1 _ rfl).1
  rw [hq] at x1
  have r0 := hr 0 _ rfl
  have r1 := hr 1 _ rfl
  have r2 := hr 2 _ rfl
  have r3 := hr 3 _ rfl
  have r4 := hr 4 _ rfl
  rw [Nat.add_zero] at r0
  rw [hn] at r2
  have a0 : (0 : Int) ≤ (a : Int) := by omega
  have HBw : Hid (B ≤ w.heap.size) := hB
  clear hr hrow hg hq hc heo hn hnl m hB hb
  unfold TkP codeV
  rw [HL.out]
  clear HL
  obtain ⟨nm, st, pr, SL, rs⟩ := e
  simp only at r0 r1 r2 r3 r4 HRow ⊢
  go_enter Tryd.func33, Tryd.ntmps33
  go_upto_region 18 with fail
  obtain ⟨Z, hZ⟩ : ∃ Z, Z = Y.alloc (.cells #[.string nm, .int .i64 st, .int .i64 (n : Int), .slice dq SL.length dc, .int .i64 rs] 47) := ⟨_, rfl⟩
  rw [← hZ]
  have bZ : Below Y.heap.size Y Z := by rw [hZ]; exact (Below.refl _ Y).alloc (Nat.le_refl _) _
  have FZ : Full Z Y.heap.size 47 [.string nm, .int .i64 st, .int .i64 (n : Int), .slice dq SL.length dc, .int .i64 rs] := by rw [hZ]; exact Full.new Y _ _
  have h0 : Hid (Z.ownsRow w.heap.size 45 1 (.slice none 0 0) 0 (sv (SL.take 0)) ∧ Ck w Z Y.heap.size B nm st n dq SL dc rs) := ⟨World.ownsRow_nil _ _ _ _, below2 HB.out.b bZ, FZ, HRow.out.1.below bZ HRow.out.2.1, Nat.le_trans HRow.out.2.1 bZ.size, HB.out.b.size⟩
  clear hZ bZ FZ x1 r0 r1 r2 r3 r4 y0 y1 HB hY
  obtain ⟨p, Hp⟩ : ∃ p, Hid (Y.heap.size = p) := ⟨_, (rfl : Y.heap.size = _)⟩
  rw [Hp.out] at h0 ⊢
  go_wp2_with fail
  go_loopw [8, 9] (fun u s wr => ∃ j : Nat, j ≤ n ∧ s = .int .i64 (j : Int) ∧ Hid (wr.ownsRow w.heap.size 45 1 u j (sv (SL.take j)) ∧ Ck w wr p B nm st n dq SL dc rs)) (fun _ s _ => n - (intOf s).toNat)
  case atStart => exact ⟨0, Nat.zero_le _, rfl, h0⟩
  case round =>
    obtain ⟨j, hj, rfl, HI⟩ := hrel
    have y2 := (HI.out.2.f.cell 2 _ rfl).1
    have hnI : (n : Int) ≤ 8 := by omega
    by_cases hlt : j < n
    · have c1 : (j : Int) < (n : Int) := by omega
      have hjl : j < SL.length := Nat.lt_of_lt_of_le hlt HRow.out.2.2
      obtain ⟨g2, o2, hq2, hg2, hr2⟩ := row_get HI.out.2.r j hjl
      subst hq2
      have s0 := hr2 j (.int .i64 (SL.getD j 0)) (sv_get hjl)
      have y3 := (HI.out.2.f.cell 3 _ rfl).1
      obtain ⟨t, Ht⟩ : ∃ t, Hid (SL.getD j 0 = t) := ⟨_, (rfl : SL.getD j 0 = _)⟩
      rw [Ht.out] at s0
      have b0 : (0 : Int) ≤ (j : Int) := by omega
      have b1 : (j : Int) < (SL.length : Int) := by omega
      have hown := HI.out.1
      have hbw := HI.out.2.b.size
      have hj2 : j + 1 ≤ 1000000000 := by omega
      have HJ : Hid (j < SL.length) := hjl
      clear h0 hr2 hg2 hjl
      go_wp2_with (first
        | (at_builtin; refine wpList_app 35 45 _ 1 8 Tryd.underlying35 infoSt rfl (by decide) (by decide) (by rfl) _ _ (by rfl) w.heap.size _ j (sv (SL.take j)) (by rfl) hown #[.int .i64 t] rfl (by simp [Value.oneCell']) (by rfl) hj2 hbw ?_; rintro v4 W4 ho4 hg4)
        | fail)
      have HN : Hid (W4.ownsRow w.heap.size 45 1 v4 (j + 1) (sv (SL.take (j + 1))) ∧ Ck w W4 p B nm st n (some ⟨g2, o2, none⟩) SL dc rs) := by
        refine ⟨?_, HI.out.2.grow HBw.out HI.out.1 hg4.out.1⟩
        have := ho4.out
        rw [List.take_add_one, List.getElem?_eq_getElem HJ.out, show sv (SL.take j ++ (some SL[j]).toList) = sv (SL.take j) ++ [.int .i64 t] by
          unfold sv
          rw [List.map_append, ← Ht.out, List.getD_eq_getElem?_getD, List.getElem?_eq_getElem HJ.out]
          rfl]
        exact this
      exact ⟨⟨j + 1, by omega, by go_num, HN⟩, by simp [intOf]; omega⟩
    · obtain rfl : j = n := by omega
      have c1 : ¬ ((j : Int) < (j : Int)) := by omega
      have HK : Hid (j ≤ SL.length) := HRow.out.2.2
      go_wp2
      go_ret
      refine ⟨_, rfl, ?_, HI.out.2.b⟩
      have := HI.out.1
      have e1 : (SL.take j).length = j := by rw [List.length_take]; exact Nat.min_eq_left HK.out
      exact slr_own (l := SL.take j) (by rw [e1]; exact this)

theorem takes_any (m : CodeM w B iq eq tq Es c) (hc : CodeOk c) (ia ea ta : Nat) (hB : B ≤ w.heap.size) (f : Nat) (hf : f < c.ens.length) (x : In) (hx : insS x = true) (hn : namedS c (enAt c.ens f) x = true) :
    Calls Tryd.prog 33 #[codeV iq eq tq ia ea ta c, .int .i64 (f : Int), .agg #[.int .i64 x.1, .int .i64 x.2.1, .int .i64 x.2.2]] w fun z w' => Hid (∃ v, z = .returned v ∧ SlR w' v (takR c (enAt c.ens f) x) ∧ Below w.heap.size w w') := by
  obtain ⟨k, A, Bb⟩ := x
  show TkP w iq eq tq ia ea ta c f k A Bb
  obtain ⟨-, hm⟩ := ins_op hx
  have hlo := may_lo hm
  simp only at hlo
  unfold namedS at hn
  simp only at hn
  by_cases h5 : k = 5
  · subst h5
    have h1 := hlo.1
    have h2 : A < ((enAt c.ens f).sorts.length : Int) := by simpa using hn
    exact tk5 m ia ea ta hB f hf A Bb h1 h2
  by_cases h6 : k = 6
  · subst h6; exact tk6 ia ea ta f A Bb
  by_cases h23 : k = 23
  · subst h23; exact tk23 ia ea ta f A Bb
  by_cases h7 : k = 7
  · subst h7
    by_cases h : A = 1
    · exact tk7y ia ea ta f A Bb h
    · exact tk7n ia ea ta f A Bb h
  by_cases h8 : k = 8
  · subst h8; exact tk8 ia ea ta f A Bb
  by_cases h10 : k = 10
  · subst h10; exact tk10 ia ea ta f A Bb
  by_cases h11 : k = 11
  · subst h11
    have h1 := hlo.1
    have h2 : A < (c.ens.length : Int) := by simpa using hn
    exact tk11 m hc ia ea ta hB f A Bb h1 h2
  by_cases h12 : k = 12
  · subst h12
    by_cases h : (enAt c.ens f).result = 0
    · exact tk12y m ia ea ta hB f hf A Bb h
    · exact tk12n m ia ea ta hB f hf A Bb h
  by_cases h14 : k = 14
  · subst h14; exact tk14 ia ea ta f A Bb
  by_cases h15 : k = 15
  · subst h15; exact tk15 ia ea ta f A Bb
  by_cases h16 : k = 16
  · subst h16; exact tk16 ia ea ta f A Bb
  by_cases h17 : k = 17
  · subst h17; exact tk17 ia ea ta f A Bb
  by_cases h18 : k = 18
  · subst h18; exact tk18 ia ea ta f A Bb
  by_cases h19 : k = 19
  · subst h19
    have h1 : (0 : Int) ≤ A := Int.le_trans (by decide) hlo.1
    have h2 : A ≤ 60000 := Int.le_trans hlo.2.1 (by decide)
    obtain ⟨a, rfl⟩ : ∃ a : Nat, A = (a : Int) := ⟨A.toNat, by omega⟩
    exact tk19 ia ea ta f a (by omega) Bb
  exact tkOther ia ea ta f k A Bb h5 h6 h23 h7 h8 h10 h11 h12 h14 h15 h16 h17 h18 h19
end
end Go.Proofs.YtdcaonfnhdjibaaDoor
