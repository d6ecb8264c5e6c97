import Derived.Test.YtdcaonfnhdjibaaDoorVT1
import Derived.Test.YtdcaonfnhdjibaaDoorVPf
import Derived.Deep.RegionHeld3
import Derived.Deep.CutBlock
import Derived.Deep.DeepCutAuto
namespace Go.Proofs.YtdcaonfnhdjibaaDoor
open Go.RowKit

theorem infoTwI : (Tryd.prog.info? 38).map (fun i => (i.zero, i.size, i.bytes)) = some (some (.agg #[.int .i64 0, .int .i64 0, .int .i64 0]), 3, 24) := by kernel_rfl
theorem infoTwE : (Tryd.prog.info? 47).map (fun i => (i.zero, i.size, i.bytes)) = some (some (.agg #[.string ⟨#[]⟩, .int .i64 0, .int .i64 0, .slice none 0 0, .int .i64 0]), 5, 64) := by kernel_rfl
theorem infoTwT : (Tryd.prog.info? 9).map (fun i => (i.zero, i.size, i.bytes)) = some (some (.string ⟨#[]⟩), 1, 16) := by kernel_rfl
/-- The mark of texts and names. -/
abbrev spT : ByteArray := ⟨#[115, 112, 97, 114, 101]⟩
theorem row_nil {w : World} {B : Nat} {q : Option Addr} {n : Nat} {xs : List Value} (h : Row w B q n xs) : q = none → n = 0 := fun e => by
  rcases Nat.eq_zero_or_pos n with h0 | h0
  · exact h0
  · obtain ⟨_, _, hq, _⟩ := h h0
    rw [hq] at e
    cases e
theorem ic_one (L : List In) : ∀ u ∈ L.flatMap ic, u.oneCell' = true := fun u hu => by
  obtain ⟨x, -, hx⟩ := List.mem_flatMap.1 hu
  simp only [ic, List.mem_cons, List.not_mem_nil, or_false] at hx
  rcases hx with rfl | rfl | rfl <;> rfl
theorem tv_one (L : List ByteArray) : ∀ u ∈ tv L, u.oneCell' = true := fun u hu => by
  obtain ⟨x, -, rfl⟩ := List.mem_map.1 hu
  rfl
theorem sv_one (L : List Int) : ∀ u ∈ sv L, u.oneCell' = true := fun u hu => by
  obtain ⟨x, -, rfl⟩ := List.mem_map.1 hu
  rfl
/-- A twin in memory, with its marks. -/
structure TwF (w W : World) (gi ci ge ce gt ct : Nat) (Es' : List Em) (c : Cd) : Prop where
  b : Below w.heap.size w W
  ins : W.ownsRow w.heap.size 38 3 (.slice (some ⟨gi, 0, none⟩) (c.ins.length + 1) ci) (c.ins.length + 1) (c.ins.flatMap ic ++ [.int .i64 0, .int .i64 77, .int .i64 0])
  ens : W.ownsRow w.heap.size 47 5 (.slice (some ⟨ge, 0, none⟩) (c.ens.length + 1) ce) (c.ens.length + 1) (Es'.flatMap ec ++ [.string spT, .int .i64 0, .int .i64 0, .slice none 0 0, .int .i64 0])
  txs : W.ownsRow w.heap.size 9 1 (.slice (some ⟨gt, 0, none⟩) (c.txs.length + 1) ct) (c.txs.length + 1) (tv c.txs ++ [.string spT])
  en : Es'.map (·.1) = c.ens
  sr : ∀ y ∈ Es', ∃ g, y.2.1 = some ⟨g, 0, none⟩ ∧ W.ownsRow w.heap.size 45 1 (.slice (some ⟨g, 0, none⟩) (y.1.sorts.length + 1) y.2.2) (y.1.sorts.length + 1) (sv y.1.sorts ++ [.int .i64 77])
theorem sz_in : ∀ w : World, (sizeOf 38).run Tryd.prog w = .ok 3 w := fun w => by kernel_rfl
theorem sz_en : ∀ w : World, (sizeOf 47).run Tryd.prog w = .ok 5 w := fun w => by kernel_rfl
theorem sz_tx : ∀ w : World, (sizeOf 9).run Tryd.prog w = .ok 1 w := fun w => by kernel_rfl
/-- While the twin is made: the code's box, the answer's, the twin's. -/
structure TwS (w W : World) (d1 d2 d3 : Nat) (c0 c1 c2 c3 a0 a1 a2 : Value) : Prop where
  b : Below w.heap.size w W
  x : Full W d1 26 [c0, c1, c2, c3]
  r : Full W d2 26 [.slice none 0 0, .slice none 0 0, .slice none 0 0, .int .i64 0]
  d : Full W d3 26 [a0, a1, a2, c3]
  l : w.heap.size ≤ d1 ∧ w.heap.size ≤ d2 ∧ w.heap.size ≤ d3
  ne : d1 ≠ d3 ∧ d2 ≠ d3
theorem TwS.next {w W W' : World} {d1 d2 d3 : Nat} {c0 c1 c2 c3 a0 a1 a2 : Value} (h : TwS w W d1 d2 d3 c0 c1 c2 c3 a0 a1 a2) (k : Below W.heap.size W W') : TwS w W' d1 d2 d3 c0 c1 c2 c3 a0 a1 a2 := ⟨below2 h.b k, h.x.next k, h.r.next k, h.d.next k, h.l, h.ne⟩
theorem TwS.set0 {w W : World} {d1 d2 d3 : Nat} {c0 c1 c2 c3 a0 a1 a2 : Value} (h : TwS w W d1 d2 d3 c0 c1 c2 c3 a0 a1 a2) (v : Value) : TwS w (W.setCell ⟨d3, 0, none⟩ v) d1 d2 d3 c0 c1 c2 c3 v a1 a2 :=
  ⟨h.b.setCell (p := ⟨d3, 0, none⟩) h.l.2.2 v, h.x.other1 h.ne.1, h.r.other1 h.ne.2, Full.put1 (a := []) (d := [a1, a2, c3]) h.d v, h.l, h.ne⟩
theorem TwS.set1 {w W : World} {d1 d2 d3 : Nat} {c0 c1 c2 c3 a0 a1 a2 : Value} (h : TwS w W d1 d2 d3 c0 c1 c2 c3 a0 a1 a2) (v : Value) : TwS w (W.setCell ⟨d3, 1, none⟩ v) d1 d2 d3 c0 c1 c2 c3 a0 v a2 :=
  ⟨h.b.setCell (p := ⟨d3, 1, none⟩) h.l.2.2 v, h.x.other1 h.ne.1, h.r.other1 h.ne.2, Full.put1 (a := [a0]) (d := [a2, c3]) h.d v, h.l, h.ne⟩
theorem TwS.set2 {w W : World} {d1 d2 d3 : Nat} {c0 c1 c2 c3 a0 a1 a2 : Value} (h : TwS w W d1 d2 d3 c0 c1 c2 c3 a0 a1 a2) (v : Value) : TwS w (W.setCell ⟨d3, 2, none⟩ v) d1 d2 d3 c0 c1 c2 c3 a0 a1 v :=
  ⟨h.b.setCell (p := ⟨d3, 2, none⟩) h.l.2.2 v, h.x.other1 h.ne.1, h.r.other1 h.ne.2, Full.put1 (a := [a0, a1]) (d := [c3]) h.d v, h.l, h.ne⟩
/-- A list with its mark, behind the store of it. -/
theorem Mk.set {X W : World} {e : TypeId} {size G cap n d : Nat} {xs : List Value} (h : Mk X W e size G cap n xs) (hd : d < X.heap.size) (j : Nat) (v : Value) {b : Nat} (hb : b ≤ X.heap.size) : (W.setCell ⟨d, j, none⟩ v).ownsRow b e size (.slice (some ⟨G, 0, none⟩) (n + 1) cap) (n + 1) xs :=
  own_down (own_same h.own fun g hg => by cases hg; have h1 : X.heap.size ≤ G := (h.own.lt _ rfl).1; exact set_heap (a := ⟨d, j, none⟩) (show G ≠ d by omega)) hb
/-- Between two rounds over the entries. -/
structure TwI (w W : World) (d1 d2 d3 : Nat) (iq eq tq : Option Addr) (ia ea ta gi ci gt ct : Nat) (c : Cd) (v : Value) (j : Nat) (Es' : List Em) : Prop where
  s : TwS w W d1 d2 d3 (.slice iq c.ins.length ia) (.slice eq c.ens.length ea) (.slice tq c.txs.length ta) (.int .i64 c.main) (.slice (some ⟨gi, 0, none⟩) c.ins.length ci) (.slice eq c.ens.length ea) (.slice (some ⟨gt, 0, none⟩) c.txs.length ct)
  i : W.ownsRow w.heap.size 38 3 (.slice (some ⟨gi, 0, none⟩) (c.ins.length + 1) ci) (c.ins.length + 1) (c.ins.flatMap ic ++ [.int .i64 0, .int .i64 77, .int .i64 0])
  t : W.ownsRow w.heap.size 9 1 (.slice (some ⟨gt, 0, none⟩) (c.txs.length + 1) ct) (c.txs.length + 1) (tv c.txs ++ [.string spT])
  e : W.ownsRow w.heap.size 47 5 v j (Es'.flatMap ec)
  m : Es'.map (·.1) = c.ens.take j
  sr : ∀ y ∈ Es', ∃ g, y.2.1 = some ⟨g, 0, none⟩ ∧ W.ownsRow w.heap.size 45 1 (.slice (some ⟨g, 0, none⟩) (y.1.sorts.length + 1) y.2.2) (y.1.sorts.length + 1) (sv y.1.sorts ++ [.int .i64 77])
theorem TwI.next {w W W' : World} {d1 d2 d3 : Nat} {iq eq tq : Option Addr} {ia ea ta gi ci gt ct : Nat} {c : Cd} {v : Value} {j : Nat} {Es' : List Em} (h : TwI w W d1 d2 d3 iq eq tq ia ea ta gi ci gt ct c v j Es') (k : Below W.heap.size W W') : TwI w W' d1 d2 d3 iq eq tq ia ea ta gi ci gt ct c v j Es' :=
  ⟨h.s.next k, own_next h.i k, own_next h.t k, own_next h.e k, h.m, fun y hy => by
    obtain ⟨g, e, o⟩ := h.sr y hy
    exact ⟨g, e, own_next o k⟩⟩
theorem own_other {W : World} {b : Nat} {e : TypeId} {size : Nat} {v : Value} {n : Nat} {xs : List Value} (h : W.ownsRow b e size v n xs) {d : Nat} (hd : v.ownBlock ≠ some d) (j : Nat) (u : Value) : (W.setCell ⟨d, j, none⟩ u).ownsRow b e size v n xs :=
  own_same h fun g hg => set_heap (a := ⟨d, j, none⟩) (fun e => hd (hg.trans (by rw [e])))
/-- A cell of another block is written. -/
theorem TwI.set {w W : World} {d1 d2 d3 : Nat} {iq eq tq : Option Addr} {ia ea ta gi ci gt ct : Nat} {c : Cd} {v : Value} {j : Nat} {Es' : List Em} (h : TwI w W d1 d2 d3 iq eq tq ia ea ta gi ci gt ct c v j Es') {d : Nat} (hv : v.ownBlock ≠ some d) (hd : w.heap.size ≤ d) {vs : List Value} (hf : Full W d 47 vs) (k : Nat) (u : Value) : TwI w (W.setCell ⟨d, k, none⟩ u) d1 d2 d3 iq eq tq ia ea ta gi ci gt ct c v j Es' := by
  have bk : Blk W d 47 0 := ⟨_, hf, Nat.zero_le _⟩
  have ne : ∀ {x : Nat} {vs' : List Value}, Full W x 26 vs' → x ≠ d := fun f => f.ne hf (by decide)
  exact ⟨⟨h.s.b.setCell (p := ⟨d, k, none⟩) hd u, h.s.x.other1 (ne h.s.x), h.s.r.other1 (ne h.s.r), h.s.d.other1 (ne h.s.d), h.s.l, h.s.ne⟩, own_other h.i (own_ne h.i bk (by decide)) k u, own_other h.t (own_ne h.t bk (by decide)) k u, own_other h.e hv k u, h.m, fun y hy => by
    obtain ⟨g, e, o⟩ := h.sr y hy
    exact ⟨g, e, own_other o (own_ne o bk (by decide)) k u⟩⟩
/-- One entry more. -/
theorem TwI.more {w W W' : World} {d1 d2 d3 : Nat} {iq eq tq : Option Addr} {ia ea ta gi ci gt ct : Nat} {c : Cd} {v v' : Value} {j : Nat} {Es' : List Em} (h : TwI w W d1 d2 d3 iq eq tq ia ea ta gi ci gt ct c v j Es') (hj : j < c.ens.length) {nm : ByteArray} {st pr : Int} {SL : List Int} {rs : Int} (he : enAt c.ens j = ⟨nm, st, pr, SL, rs⟩) {gs cs : Nat} (so : W.ownsRow w.heap.size 45 1 (.slice (some ⟨gs, 0, none⟩) (SL.length + 1) cs) (SL.length + 1) (sv SL ++ [.int .i64 77])) {C : Obj}
    (ho : W'.ownsRow w.heap.size 47 5 v' (j + 1) (Es'.flatMap ec ++ [.string nm, .int .i64 st, .int .i64 pr, .slice (some ⟨gs, 0, none⟩) SL.length cs, .int .i64 rs])) (hg : (W.alloc C).grownBy W' v.ownBlock) : TwI w W' d1 d2 d3 iq eq tq ia ea ta gi ci gt ct c v' (j + 1) (Es' ++ [(⟨nm, st, pr, SL, rs⟩, some ⟨gs, 0, none⟩, cs)]) := by
  have k1 : Kp (fun x => v.ownBlock = some x) W W' := ((Kp.refl _ W).alloc C).trans ((Kp.refl (fun x => v.ownBlock = some x) _).grown hg fun k hk => .inl hk) fun _ _ q => q
  have kf : ∀ {x : Nat} {vs : List Value}, Full W x 26 vs → Full W' x 26 vs := fun f => (k1.block _ f.lt fun q => own_ne h.e (Blk.le ⟨_, f, Nat.le_refl _⟩ (Nat.zero_le _)) (by decide) q).trans f
  have ko : ∀ {e : TypeId} {sz n : Nat} {u : Value} {xs : List Value}, e ≠ 47 → W.ownsRow w.heap.size e sz u n xs → W'.ownsRow w.heap.size e sz u n xs := fun hne o => own_same o fun g hg => k1.block g (own_blk o g hg).lt fun q => own_ne h.e (own_blk o g hg) hne q
  refine ⟨⟨h.s.b.trans (k1.below (fun k hk => (h.e.lt k hk).1) h.s.b.size), kf h.s.x, kf h.s.r, kf h.s.d, h.s.l, h.s.ne⟩, ko (by decide) h.i, ko (by decide) h.t, ?_, ?_, fun y hy => ?_⟩
  · rw [List.flatMap_append]
    simpa [ec] using ho
  · rw [List.map_append, h.m, List.take_add_one, List.getElem?_eq_getElem hj, ← he]
    unfold enAt
    simp [List.getD_eq_getElem?_getD, hj]
  · rcases List.mem_append.1 hy with q | q
    · obtain ⟨g, e, o⟩ := h.sr y q
      exact ⟨g, e, ko (by decide) o⟩
    · obtain rfl := List.mem_singleton.1 q
      exact ⟨gs, rfl, ko (by decide) so⟩
/-- The entries' mark. -/
theorem TwI.last {w W W' : World} {d1 d2 d3 : Nat} {iq eq tq : Option Addr} {ia ea ta gi ci gt ct : Nat} {c : Cd} {v : Value} {Es' : List Em} (h : TwI w W d1 d2 d3 iq eq tq ia ea ta gi ci gt ct c v c.ens.length Es') {G cp : Nat} {C : Obj}
    (ho : W'.ownsRow w.heap.size 47 5 (.slice (some ⟨G, 0, none⟩) (c.ens.length + 1) cp) (c.ens.length + 1) (Es'.flatMap ec ++ [.string spT, .int .i64 0, .int .i64 0, .slice none 0 0, .int .i64 0])) (hg : (W.alloc C).drew.grownBy W' v.ownBlock) :
    TwF w W' gi ci G cp gt ct Es' c ∧ TwS w W' d1 d2 d3 (.slice iq c.ins.length ia) (.slice eq c.ens.length ea) (.slice tq c.txs.length ta) (.int .i64 c.main) (.slice (some ⟨gi, 0, none⟩) c.ins.length ci) (.slice eq c.ens.length ea) (.slice (some ⟨gt, 0, none⟩) c.txs.length ct) := by
  have k0 : Kp (fun x => v.ownBlock = some x) W (W.alloc C).drew := ((Kp.refl _ W).alloc C).next (Below.refl _ _).drew
  have k1 : Kp (fun x => v.ownBlock = some x) W W' := k0.trans ((Kp.refl (fun x => v.ownBlock = some x) _).grown hg fun k hk => .inl hk) fun _ _ q => q
  have kf : ∀ {x : Nat} {vs : List Value}, Full W x 26 vs → Full W' x 26 vs := fun f => (k1.block _ f.lt fun q => own_ne h.e (Blk.le ⟨_, f, Nat.le_refl _⟩ (Nat.zero_le _)) (by decide) q).trans f
  have ko : ∀ {e : TypeId} {sz n : Nat} {u : Value} {xs : List Value}, e ≠ 47 → W.ownsRow w.heap.size e sz u n xs → W'.ownsRow w.heap.size e sz u n xs := fun hne o => own_same o fun g hg => k1.block g (own_blk o g hg).lt fun q => own_ne h.e (own_blk o g hg) hne q
  have hb := h.s.b.trans (k1.below (fun k hk => (h.e.lt k hk).1) h.s.b.size)
  refine ⟨⟨hb, ko (by decide) h.i, ho, ko (by decide) h.t, by rw [h.m, List.take_length], fun y hy => ?_⟩, hb, kf h.s.x, kf h.s.r, kf h.s.d, h.s.l, h.s.ne⟩
  obtain ⟨g, e, o⟩ := h.sr y hy
  exact ⟨g, e, ko (by decide) o⟩
theorem TwF.set {w W : World} {gi ci ge ce gt ct : Nat} {Es' : List Em} {c : Cd} (h : TwF w W gi ci ge ce gt ct Es' c) {d : Nat} {vs : List Value} (f : Full W d 26 vs) (hd : w.heap.size ≤ d) (k : Nat) (u : Value) : TwF w (W.setCell ⟨d, k, none⟩ u) gi ci ge ce gt ct Es' c := by
  have bk : Blk W d 26 0 := ⟨_, f, Nat.zero_le _⟩
  exact ⟨h.b.setCell (p := ⟨d, k, none⟩) hd u, own_other h.ins (own_ne h.ins bk (by decide)) k u, own_other h.ens (own_ne h.ens bk (by decide)) k u, own_other h.txs (own_ne h.txs bk (by decide)) k u, h.en, fun y hy => by
    obtain ⟨g, e, o⟩ := h.sr y hy
    exact ⟨g, e, own_other o (own_ne o bk (by decide)) k u⟩⟩
/-- What is told, laid where it is told from. -/
theorem TwF.told {w W : World} {gi ci ge ce gt ct : Nat} {Es' : List Em} {c : Cd} (h : TwF w W gi ci ge ce gt ct Es' c) {d : Nat} {v0 v1 v2 v3 : Value} (f : Full W d 26 [v0, v1, v2, v3]) (hd : w.heap.size ≤ d) (u0 u1 u2 u3 : Value) :
    TwF w ((((W.setCell ⟨d, 0, none⟩ u0).setCell ⟨d, 1, none⟩ u1).setCell ⟨d, 2, none⟩ u2).setCell ⟨d, 3, none⟩ u3) gi ci ge ce gt ct Es' c ∧ Full ((((W.setCell ⟨d, 0, none⟩ u0).setCell ⟨d, 1, none⟩ u1).setCell ⟨d, 2, none⟩ u2).setCell ⟨d, 3, none⟩ u3) d 26 [u0, u1, u2, u3] := by
  have f0 := Full.put1 (a := []) (d := [v1, v2, v3]) f u0
  have f1 := Full.put1 (a := [u0]) (d := [v2, v3]) f0 u1
  have f2 := Full.put1 (a := [u0, u1]) (d := [v3]) f1 u2
  exact ⟨(((h.set f hd 0 u0).set f0 hd 1 u1).set f1 hd 2 u2).set f2 hd 3 u3, Full.put1 (a := [u0, u1, u2]) (d := []) f2 u3⟩
theorem kp_set1 {X W : World} {d : Nat} (h : Below X.heap.size X W) (j : Nat) (v : Value) : Kp (fun x => x = d) X (W.setCell ⟨d, j, none⟩ v) := Kp.setCell (F := fun x => x = d) (p := ⟨d, j, none⟩) (Kp.of h) (Or.inl rfl) v
section
variable {w : World} {B : Nat} {iq eq tq : Option Addr} {Es : List Em} {c : Cd}
set_option maxRecDepth 100000 in
set_option maxHeartbeats 16000000 in
theorem twin_any (m : CodeM w B iq eq tq Es c) (ia ea ta : Nat) (hB : B ≤ w.heap.size) (hin : (c.ins.length + 1) * 24 ≤ 140737488355328) (hen : (c.ens.length + 1) * 64 ≤ 140737488355328) (htn : (c.txs.length + 1) * 16 ≤ 140737488355328) (hsn : ∀ y ∈ Es, (y.1.sorts.length + 1) * 8 ≤ 140737488355328) :
    Calls Tryd.prog 9 #[codeV iq eq tq ia ea ta c] w fun z w' => Hid (∃ gi ci ge ce gt ct Es', z = .returned (codeV (some ⟨gi, 0, none⟩) (some ⟨ge, 0, none⟩) (some ⟨gt, 0, none⟩) ci ce ct c) ∧ TwF w w' gi ci ge ce gt ct Es' c) := by
  have HM : Hid (CodeM w B iq eq tq Es c ∧ B ≤ w.heap.size ∧ (c.ins.length + 1) * 24 ≤ 140737488355328 ∧ (c.ens.length + 1) * 64 ≤ 140737488355328 ∧ (c.txs.length + 1) * 16 ≤ 140737488355328 ∧ ∀ y ∈ Es, (y.1.sorts.length + 1) * 8 ≤ 140737488355328) := ⟨m, hB, hin, hen, htn, hsn⟩
  clear m hB hin hen htn hsn
  unfold codeV
  go_enter Tryd.func9, Tryd.ntmps9
  go_upto_region 2 with fail
  obtain ⟨X, hX⟩ : ∃ X, X = ((w.alloc (.cells #[.slice iq c.ins.length ia, .slice eq c.ens.length ea, .slice tq c.txs.length ta, .int .i64 c.main] 26)).alloc (.cells #[.slice none 0 0, .slice none 0 0, .slice none 0 0, .int .i64 0] 26)).alloc (.cells #[.slice iq c.ins.length ia, .slice eq c.ens.length ea, .slice tq c.txs.length ta, .int .i64 c.main] 26) := ⟨_, rfl⟩
  rw [← hX]
  have HS0 : Hid (TwS w X w.heap.size (w.heap.size + 1) (w.heap.size + 1 + 1) (.slice iq c.ins.length ia) (.slice eq c.ens.length ea) (.slice tq c.txs.length ta) (.int .i64 c.main) (.slice iq c.ins.length ia) (.slice eq c.ens.length ea) (.slice tq c.txs.length ta)) := by
    have f1 := Full.new w #[.slice iq c.ins.length ia, .slice eq c.ens.length ea, .slice tq c.txs.length ta, .int .i64 c.main] 26
    have f2 := Full.new (w.alloc (.cells #[.slice iq c.ins.length ia, .slice eq c.ens.length ea, .slice tq c.txs.length ta, .int .i64 c.main] 26)) #[.slice none 0 0, .slice none 0 0, .slice none 0 0, .int .i64 0] 26
    have f3 := Full.new ((w.alloc (.cells #[.slice iq c.ins.length ia, .slice eq c.ens.length ea, .slice tq c.txs.length ta, .int .i64 c.main] 26)).alloc (.cells #[.slice none 0 0, .slice none 0 0, .slice none 0 0, .int .i64 0] 26)) #[.slice iq c.ins.length ia, .slice eq c.ens.length ea, .slice tq c.txs.length ta, .int .i64 c.main] 26
    have al := fun (W : World) (o : Obj) => ((Below.refl W.heap.size W).alloc (Nat.le_refl _) o)
    rw [World.size_alloc] at f2
    rw [World.size_alloc, World.size_alloc] at f3
    rw [hX]
    exact ⟨below2 (below2 (al _ _) (al _ _)) (al _ _), (f1.next (al _ _)).next (al _ _), f2.next (al _ _), f3, ⟨Nat.le_refl _, by omega, by omega⟩, by omega, by omega⟩
  clear hX
  obtain ⟨d2, Hd2⟩ : ∃ d2, Hid (w.heap.size + 1 = d2) := ⟨_, (rfl : w.heap.size + 1 = _)⟩
  obtain ⟨d3, Hd3⟩ : ∃ d3, Hid (w.heap.size + 1 + 1 = d3) := ⟨_, (rfl : w.heap.size + 1 + 1 = _)⟩
  rw [Hd3.out, Hd2.out] at HS0 ⊢
  obtain ⟨d1, Hd1⟩ : ∃ d1, Hid (w.heap.size = d1) := ⟨_, (rfl : w.heap.size = _)⟩
  rw [Hd1.out] at HS0 ⊢
  go_cut [3] (fun u wx => u = .pointer (some ⟨d3, 0, none⟩) ∧ Hid (∃ gi ci, TwS w wx d1 d2 d3 (.slice iq c.ins.length ia) (.slice eq c.ens.length ea) (.slice tq c.txs.length ta) (.int .i64 c.main) (.slice (some ⟨gi, 0, none⟩) c.ins.length ci) (.slice eq c.ens.length ea) (.slice tq c.txs.length ta) ∧ wx.ownsRow w.heap.size 38 3 (.slice (some ⟨gi, 0, none⟩) (c.ins.length + 1) ci) (c.ins.length + 1) (c.ins.flatMap ic ++ [.int .i64 0, .int .i64 77, .int .i64 0])))
  case first =>
    have bX := HS0.out.b
    have irow := HM.out.1.ir.below bX HM.out.2.1
    have hBX := Nat.le_trans HM.out.2.1 bX.size
    have x0 := (HS0.out.x.cell 0 _ rfl).1
    have SV : Hid (∀ w' : World, Kp (fun x => x = d3) X w' → w'.cell? ⟨d1, 0, none⟩ = some (.slice iq c.ins.length ia) ∧ Kp (fun x => x = d3) X w') := fun w' hb => ⟨(Full.cell (show Full w' d1 26 _ from (hb.block _ HS0.out.x.lt HS0.out.ne.1).trans HS0.out.x) 0 _ rfl).1, hb⟩
    have hA0 : Hid (Below X.heap.size X (X.alloc (.cells #[] 38)).drew ∧ Below X.heap.size X (X.alloc (.cells #[.int .i64 0, .int .i64 77, .int .i64 0] 38)).drew ∧ Below X.heap.size X ((X.alloc (.cells #[] 38)).alloc (.cells #[.int .i64 0, .int .i64 77, .int .i64 0] 38)).drew ∧ Below X.heap.size X ((X.alloc (.cells #[.int .i64 0, .int .i64 77, .int .i64 0] 38)).alloc (.cells #[] 38)).drew) := ⟨((Below.refl _ X).alloc (Nat.le_refl _) _).drew, ((Below.refl _ X).alloc (Nat.le_refl _) _).drew, (below2 ((Below.refl _ X).alloc (Nat.le_refl _) _) ((Below.refl _ _).alloc (Nat.le_refl _) _)).drew, (below2 ((Below.refl _ X).alloc (Nat.le_refl _) _) ((Below.refl _ _).alloc (Nat.le_refl _) _)).drew⟩
    obtain ⟨G1a, e1a, w1a, G2a, e2a, w2a, rA1, bA1, rA2, mA⟩ := dup_a 22 _ 24 Tryd.underlying22 infoTwI rfl (by decide) (by decide) X iq c.ins.length ia B (c.ins.flatMap ic) (flat_lenF ic 3 (fun _ => rfl) _) (row_nil irow) irow hBX (ic_one _) #[.int .i64 0, .int .i64 77, .int .i64 0] rfl (by simp [Value.oneCell']) (by have := HM.out.2.2.1; omega)
    obtain ⟨G1b, e1b, w1b, G2b, e2b, w2b, rB1, bB1, rB2, mB⟩ := dup_b 22 _ 24 Tryd.underlying22 infoTwI rfl (by decide) (by decide) X ((X.alloc (.cells #[] 38)).alloc (.cells #[.int .i64 0, .int .i64 77, .int .i64 0] 38)).drew X.heap.size (X.heap.size + 1) hA0.out.2.2.1 ((Below.heap_alloc _ _ _ (by simp)).trans (World.alloc_heap_new _ _)) #[.int .i64 0, .int .i64 77, .int .i64 0] (by have := World.alloc_heap_new (X.alloc (.cells #[] 38)) (.cells #[.int .i64 0, .int .i64 77, .int .i64 0] 38); rw [World.size_alloc] at this; exact this) (Nat.le_refl _) (by omega) iq c.ins.length ia B (c.ins.flatMap ic) (flat_lenF ic 3 (fun _ => rfl) _) (row_nil irow) irow hBX (ic_one _) rfl (by simp [Value.oneCell']) (by have := HM.out.2.2.1; omega)
    obtain ⟨G1c, e1c, w1c, G2c, e2c, w2c, rC1, bC1, rC2, mC⟩ := dup_b 22 _ 24 Tryd.underlying22 infoTwI rfl (by decide) (by decide) X ((X.alloc (.cells #[.int .i64 0, .int .i64 77, .int .i64 0] 38)).alloc (.cells #[] 38)).drew (X.heap.size + 1) X.heap.size hA0.out.2.2.2 (by have := World.alloc_heap_new (X.alloc (.cells #[.int .i64 0, .int .i64 77, .int .i64 0] 38)) (.cells #[] 38); rw [World.size_alloc] at this; exact this) #[.int .i64 0, .int .i64 77, .int .i64 0] ((Below.heap_alloc _ _ _ (by simp)).trans (World.alloc_heap_new _ _)) (by omega) (by omega) iq c.ins.length ia B (c.ins.flatMap ic) (flat_lenF ic 3 (fun _ => rfl) _) (row_nil irow) irow hBX (ic_one _) rfl (by simp [Value.oneCell']) (by have := HM.out.2.2.1; omega)
    have sla := cut_run (t := 22) Tryd.underlying22 sz_in ⟨G2a, 0, none⟩ (c.ins.length + 1) e2a c.ins.length (by have := mA.le; omega)
    have slb := cut_run (t := 22) Tryd.underlying22 sz_in ⟨G2b, 0, none⟩ (c.ins.length + 1) e2b c.ins.length (by have := mB.le; omega)
    have slc := cut_run (t := 22) Tryd.underlying22 sz_in ⟨G2c, 0, none⟩ (c.ins.length + 1) e2c c.ins.length (by have := mC.le; omega)
    have bA3 : Below X.heap.size X (w1a.alloc (.cells #[.int .i64 0, .int .i64 77, .int .i64 0] 38)) := below2 bA1 ((Below.refl _ w1a).alloc (Nat.le_refl _) _)
    have bA2 := mA.b
    have bB2 := mB.b
    have bC2 := mC.b
    have HMk : Hid (Mk X w2a 38 3 G2a e2a c.ins.length ((c.ins.flatMap ic) ++ #[.int .i64 0, .int .i64 77, .int .i64 0].toList) ∧ Mk X w2b 38 3 G2b e2b c.ins.length ((c.ins.flatMap ic) ++ #[.int .i64 0, .int .i64 77, .int .i64 0].toList) ∧ Mk X w2c 38 3 G2c e2c c.ins.length ((c.ins.flatMap ic) ++ #[.int .i64 0, .int .i64 77, .int .i64 0].toList)) := ⟨mA, mB, mC⟩
    obtain ⟨q1a, q2a⟩ := (HS0.out.d.next mA.b).cell 0 _ rfl
    obtain ⟨q1b, q2b⟩ := (HS0.out.d.next mB.b).cell 0 _ rfl
    obtain ⟨q1c, q2c⟩ := (HS0.out.d.next mC.b).cell 0 _ rfl
    clear mA mB mC
    go_wp2_with fail
    go_region_held3 (fun w' => w'.cell? ⟨d1, 0, none⟩ = some (.slice iq c.ins.length ia) ∧ Kp (fun x => x = d3) X w') (exact SV.out _ (by first | with_reducible exact Kp.of (by with_reducible assumption) | with_reducible exact Kp.of hA0.out.1 | with_reducible exact Kp.of hA0.out.2.1 | with_reducible exact Kp.of hA0.out.2.2.1 | with_reducible exact Kp.of hA0.out.2.2.2 | exact Kp.of (Below.refl _ X).drew | exact kp_set1 bA2 _ _ | exact kp_set1 bB2 _ _ | exact kp_set1 bC2 _ _))
      (first
      | ((with_reducible refine step_apr ?_ (.tmp 8) (.tmp 10) 22 ?_ ?_ _ _ rA1 ?_ ?_ ?_); rfl; rfl; rfl; rfl; rfl)
      | ((with_reducible refine step_apr ?_ (.tmp 8) (.tmp 10) 22 ?_ ?_ _ _ rB1 ?_ ?_ ?_); rfl; rfl; rfl; rfl; rfl)
      | ((with_reducible refine step_apr ?_ (.tmp 8) (.tmp 10) 22 ?_ ?_ _ _ rC1 ?_ ?_ ?_); rfl; rfl; rfl; rfl; rfl)
      | ((with_reducible refine step_apr ?_ (.tmp 11) (.tmp 13) 22 ?_ ?_ _ _ rA2 ?_ ?_ ?_); rfl; rfl; rfl; rfl; rfl)
      | ((with_reducible refine step_apr ?_ (.tmp 11) (.tmp 13) 22 ?_ ?_ _ _ rB2 ?_ ?_ ?_); rfl; rfl; rfl; rfl; rfl)
      | ((with_reducible refine step_apr ?_ (.tmp 11) (.tmp 13) 22 ?_ ?_ _ _ rC2 ?_ ?_ ?_); rfl; rfl; rfl; rfl; rfl)
      | fail)
    all_goals
      have hd3 : d3 < X.heap.size := HS0.out.d.lt
      clear SV
      go_wp2
      go_meet
      case rel => first | exact ⟨rfl, _, _, (HS0.out.next HMk.out.1.b).set0 _, HMk.out.1.set hd3 _ _ bX.size⟩ | exact ⟨rfl, _, _, (HS0.out.next HMk.out.2.1.b).set0 _, HMk.out.2.1.set hd3 _ _ bX.size⟩ | exact ⟨rfl, _, _, (HS0.out.next HMk.out.2.2.b).set0 _, HMk.out.2.2.set hd3 _ _ bX.size⟩
  case rest =>
    obtain ⟨rfl, h1⟩ := hcut
    obtain ⟨gi, ci, hs1, hi1⟩ := h1.out
    have HS1 : Hid (TwS w wc d1 d2 d3 (.slice iq c.ins.length ia) (.slice eq c.ens.length ea) (.slice tq c.txs.length ta) (.int .i64 c.main) (.slice (some ⟨gi, 0, none⟩) c.ins.length ci) (.slice eq c.ens.length ea) (.slice tq c.txs.length ta) ∧ wc.ownsRow w.heap.size 38 3 (.slice (some ⟨gi, 0, none⟩) (c.ins.length + 1) ci) (c.ins.length + 1) (c.ins.flatMap ic ++ [.int .i64 0, .int .i64 77, .int .i64 0])) := ⟨hs1, hi1⟩
    clear h1 hs1 hi1 HS0
    go_wp2_with fail
    go_cut [3] (fun u wx => u = .pointer (some ⟨d3, 0, none⟩) ∧ Hid (∃ gt ct, (TwS w wx d1 d2 d3 (.slice iq c.ins.length ia) (.slice eq c.ens.length ea) (.slice tq c.txs.length ta) (.int .i64 c.main) (.slice (some ⟨gi, 0, none⟩) c.ins.length ci) (.slice eq c.ens.length ea) (.slice (some ⟨gt, 0, none⟩) c.txs.length ct) ∧ wx.ownsRow w.heap.size 9 1 (.slice (some ⟨gt, 0, none⟩) (c.txs.length + 1) ct) (c.txs.length + 1) (tv c.txs ++ [.string spT])) ∧ wx.ownsRow w.heap.size 38 3 (.slice (some ⟨gi, 0, none⟩) (c.ins.length + 1) ci) (c.ins.length + 1) (c.ins.flatMap ic ++ [.int .i64 0, .int .i64 77, .int .i64 0])))
    case first =>
      have bX := HS1.out.1.b
      have irow := HM.out.1.tr.below bX HM.out.2.1
      have hBX := Nat.le_trans HM.out.2.1 bX.size
      have x0 := (HS1.out.1.x.cell 2 _ rfl).1
      have SV : Hid (∀ w' : World, Kp (fun x => x = d3) wc w' → w'.cell? ⟨d1, 2, none⟩ = some (.slice tq c.txs.length ta) ∧ Kp (fun x => x = d3) wc w') := fun w' hb => ⟨(Full.cell (show Full w' d1 26 _ from (hb.block _ HS1.out.1.x.lt HS1.out.1.ne.1).trans HS1.out.1.x) 2 _ rfl).1, hb⟩
      have hA0 : Hid (Below wc.heap.size wc (wc.alloc (.cells #[] 9)).drew ∧ Below wc.heap.size wc (wc.alloc (.cells #[.string spT] 9)).drew ∧ Below wc.heap.size wc ((wc.alloc (.cells #[] 9)).alloc (.cells #[.string spT] 9)).drew ∧ Below wc.heap.size wc ((wc.alloc (.cells #[.string spT] 9)).alloc (.cells #[] 9)).drew) := ⟨((Below.refl _ wc).alloc (Nat.le_refl _) _).drew, ((Below.refl _ wc).alloc (Nat.le_refl _) _).drew, (below2 ((Below.refl _ wc).alloc (Nat.le_refl _) _) ((Below.refl _ _).alloc (Nat.le_refl _) _)).drew, (below2 ((Below.refl _ wc).alloc (Nat.le_refl _) _) ((Below.refl _ _).alloc (Nat.le_refl _) _)).drew⟩
      obtain ⟨G1a, e1a, w1a, G2a, e2a, w2a, rA1, bA1, rA2, mA⟩ := dup_a 24 _ 16 Tryd.underlying24 infoTwT rfl (by decide) (by decide) wc tq c.txs.length ta B (tv c.txs) (by rw [Nat.mul_one]; exact List.length_map ..) (row_nil irow) irow hBX (tv_one _) #[.string spT] rfl (by simp [Value.oneCell']) (by have := HM.out.2.2.2.2.1; omega)
      obtain ⟨G1b, e1b, w1b, G2b, e2b, w2b, rB1, bB1, rB2, mB⟩ := dup_b 24 _ 16 Tryd.underlying24 infoTwT rfl (by decide) (by decide) wc ((wc.alloc (.cells #[] 9)).alloc (.cells #[.string spT] 9)).drew wc.heap.size (wc.heap.size + 1) hA0.out.2.2.1 ((Below.heap_alloc _ _ _ (by simp)).trans (World.alloc_heap_new _ _)) #[.string spT] (by have := World.alloc_heap_new (wc.alloc (.cells #[] 9)) (.cells #[.string spT] 9); rw [World.size_alloc] at this; exact this) (Nat.le_refl _) (by omega) tq c.txs.length ta B (tv c.txs) (by rw [Nat.mul_one]; exact List.length_map ..) (row_nil irow) irow hBX (tv_one _) rfl (by simp [Value.oneCell']) (by have := HM.out.2.2.2.2.1; omega)
      obtain ⟨G1c, e1c, w1c, G2c, e2c, w2c, rC1, bC1, rC2, mC⟩ := dup_b 24 _ 16 Tryd.underlying24 infoTwT rfl (by decide) (by decide) wc ((wc.alloc (.cells #[.string spT] 9)).alloc (.cells #[] 9)).drew (wc.heap.size + 1) wc.heap.size hA0.out.2.2.2 (by have := World.alloc_heap_new (wc.alloc (.cells #[.string spT] 9)) (.cells #[] 9); rw [World.size_alloc] at this; exact this) #[.string spT] ((Below.heap_alloc _ _ _ (by simp)).trans (World.alloc_heap_new _ _)) (by omega) (by omega) tq c.txs.length ta B (tv c.txs) (by rw [Nat.mul_one]; exact List.length_map ..) (row_nil irow) irow hBX (tv_one _) rfl (by simp [Value.oneCell']) (by have := HM.out.2.2.2.2.1; omega)
      have sla := cut_run (t := 24) Tryd.underlying24 sz_tx ⟨G2a, 0, none⟩ (c.txs.length + 1) e2a c.txs.length (by have := mA.le; omega)
      have slb := cut_run (t := 24) Tryd.underlying24 sz_tx ⟨G2b, 0, none⟩ (c.txs.length + 1) e2b c.txs.length (by have := mB.le; omega)
      have slc := cut_run (t := 24) Tryd.underlying24 sz_tx ⟨G2c, 0, none⟩ (c.txs.length + 1) e2c c.txs.length (by have := mC.le; omega)
      have bA3 : Below wc.heap.size wc (w1a.alloc (.cells #[.string spT] 9)) := below2 bA1 ((Below.refl _ w1a).alloc (Nat.le_refl _) _)
      have bA2 := mA.b
      have bB2 := mB.b
      have bC2 := mC.b
      have HMk : Hid (Mk wc w2a 9 1 G2a e2a c.txs.length ((tv c.txs) ++ #[.string spT].toList) ∧ Mk wc w2b 9 1 G2b e2b c.txs.length ((tv c.txs) ++ #[.string spT].toList) ∧ Mk wc w2c 9 1 G2c e2c c.txs.length ((tv c.txs) ++ #[.string spT].toList)) := ⟨mA, mB, mC⟩
      obtain ⟨q1a, q2a⟩ := (HS1.out.1.d.next mA.b).cell 2 _ rfl
      obtain ⟨q1b, q2b⟩ := (HS1.out.1.d.next mB.b).cell 2 _ rfl
      obtain ⟨q1c, q2c⟩ := (HS1.out.1.d.next mC.b).cell 2 _ rfl
      clear mA mB mC
      go_wp2_with fail
      go_region_held3 (fun w' => w'.cell? ⟨d1, 2, none⟩ = some (.slice tq c.txs.length ta) ∧ Kp (fun x => x = d3) wc w') (exact SV.out _ (by first | with_reducible exact Kp.of (by with_reducible assumption) | with_reducible exact Kp.of hA0.out.1 | with_reducible exact Kp.of hA0.out.2.1 | with_reducible exact Kp.of hA0.out.2.2.1 | with_reducible exact Kp.of hA0.out.2.2.2 | exact Kp.of (Below.refl _ wc).drew | exact kp_set1 bA2 _ _ | exact kp_set1 bB2 _ _ | exact kp_set1 bC2 _ _))
        (first
        | ((with_reducible refine step_apr ?_ (.tmp 20) (.tmp 22) 24 ?_ ?_ _ _ rA1 ?_ ?_ ?_); rfl; rfl; rfl; rfl; rfl)
        | ((with_reducible refine step_apr ?_ (.tmp 20) (.tmp 22) 24 ?_ ?_ _ _ rB1 ?_ ?_ ?_); rfl; rfl; rfl; rfl; rfl)
        | ((with_reducible refine step_apr ?_ (.tmp 20) (.tmp 22) 24 ?_ ?_ _ _ rC1 ?_ ?_ ?_); rfl; rfl; rfl; rfl; rfl)
        | ((with_reducible refine step_apr ?_ (.tmp 23) (.tmp 24) 24 ?_ ?_ _ _ rA2 ?_ ?_ ?_); rfl; rfl; rfl; rfl; rfl)
        | ((with_reducible refine step_apr ?_ (.tmp 23) (.tmp 24) 24 ?_ ?_ _ _ rB2 ?_ ?_ ?_); rfl; rfl; rfl; rfl; rfl)
        | ((with_reducible refine step_apr ?_ (.tmp 23) (.tmp 24) 24 ?_ ?_ _ _ rC2 ?_ ?_ ?_); rfl; rfl; rfl; rfl; rfl)
        | fail)
      all_goals
        have hd3 : d3 < wc.heap.size := HS1.out.1.d.lt
        have hI : Hid (∀ W' v, Below wc.heap.size wc W' → (W'.setCell ⟨d3, 2, none⟩ v).ownsRow w.heap.size 38 3 (.slice (some ⟨gi, 0, none⟩) (c.ins.length + 1) ci) (c.ins.length + 1) (c.ins.flatMap ic ++ [.int .i64 0, .int .i64 77, .int .i64 0])) := fun W' v hb => own_same (own_next HS1.out.2 hb) fun g hg => set_heap (a := ⟨d3, 2, none⟩) (own_blk HS1.out.2 g hg |>.lt |> fun _ => fun e => own_ne HS1.out.2 (Blk.le (n := 4) ⟨_, HS1.out.1.d, by simp⟩ (Nat.zero_le _)) (by decide) (hg.trans (by rw [e])))
        clear SV
        go_wp2
        go_meet
        case rel => first | exact ⟨rfl, _, _, ⟨(HS1.out.1.next HMk.out.1.b).set2 _, HMk.out.1.set hd3 _ _ bX.size⟩, hI.out _ _ HMk.out.1.b⟩ | exact ⟨rfl, _, _, ⟨(HS1.out.1.next HMk.out.2.1.b).set2 _, HMk.out.2.1.set hd3 _ _ bX.size⟩, hI.out _ _ HMk.out.2.1.b⟩ | exact ⟨rfl, _, _, ⟨(HS1.out.1.next HMk.out.2.2.b).set2 _, HMk.out.2.2.set hd3 _ _ bX.size⟩, hI.out _ _ HMk.out.2.2.b⟩
    case rest =>
      obtain ⟨rfl, h1⟩ := hcut
      obtain ⟨gt, ct, ⟨hs1, ht1⟩, hi1⟩ := h1.out
      have HI0 : Hid (TwI w wc d1 d2 d3 iq eq tq ia ea ta gi ci gt ct c (.slice none 0 0) 0 []) := ⟨hs1, hi1, ht1, World.ownsRow_nil _ _ _ _, by simp, fun y hy => by cases hy⟩
      clear h1 hs1 hi1 ht1 HS1
      have x1 := (HI0.out.s.x.cell 1 _ rfl).1
      have hel : (c.ens.length : Int) ≤ 2199023255551 := by have := HM.out.2.2.2.1; omega
      go_wp2_with fail
      clear x1
      go_loopw [4, 34] (fun u4 sv wr => ∃ (j : Nat) (Es' : List Em), j ≤ c.ens.length ∧ sv = .int .i64 (j : Int) ∧ Hid (TwI w wr d1 d2 d3 iq eq tq ia ea ta gi ci gt ct c u4 j Es')) (fun _ sv _ => c.ens.length - (intOf sv).toNat)
      case atStart => exact ⟨0, [], Nat.zero_le _, rfl, HI0⟩
      case round =>
        obtain ⟨j, Es', hj, rfl, HI⟩ := hrel
        clear HI0
        by_cases hlt : j < c.ens.length
        · have x1 := (HI.out.s.x.cell 1 _ rfl).1
          have hcm := HM.out.1.below HI.out.s.b HM.out.2.1
          obtain ⟨g, o, dq, dc, hq, hg, hr, hrow, y, hy, hy1, hy2⟩ := code_ent hcm j hlt
          rw [hq] at x1
          have r0 := hr 0 _ rfl
          have r1 := hr 1 _ rfl
          have r2 := hr 2 _ rfl
          have r3 := hr 3 _ rfl
          have r4 := hr 4 _ rfl
          rw [Nat.add_zero] at r0
          have a0 : (0 : Int) ≤ (j : Int) := by omega
          have a1 : (j : Int) < (c.ens.length : Int) := by omega
          have hsl : ((enAt c.ens j).sorts.length + 1) * 8 ≤ 140737488355328 := by
            have := HM.out.2.2.2.2.2 y hy
            rw [hy1] at this
            exact this
          obtain ⟨e, He⟩ : ∃ e, Hid (enAt c.ens j = e) := ⟨_, (rfl : enAt c.ens j = _)⟩
          rw [He.out] at r0 r1 r2 r3 r4 hsl hrow
          obtain ⟨nm, st, pr, SL, rs⟩ := e
          simp only at r0 r1 r2 r3 r4 hsl hrow
          have HRow : Hid (Row wr B dq SL.length (sv SL) ∧ g < B ∧ eq = some ⟨g, o, none⟩) := ⟨hrow, hg, hq⟩
          clear hr hrow hy hy1 hy2 hg hq hcm
          go_upto_region 9 with fail
          obtain ⟨X1, hX1⟩ : ∃ X1, X1 = wr.alloc (.cells #[.string nm, .int .i64 st, .int .i64 pr, .slice dq SL.length dc, .int .i64 rs] 47) := ⟨_, rfl⟩
          rw [← hX1]
          have b1 : Below wr.heap.size wr X1 := by rw [hX1]; exact (Below.refl _ wr).alloc (Nat.le_refl _) _
          have F1 : Full X1 wr.heap.size 47 [.string nm, .int .i64 st, .int .i64 pr, .slice dq SL.length dc, .int .i64 rs] := by rw [hX1]; exact Full.new wr _ _
          have HI1 : Hid (TwI w X1 d1 d2 d3 iq eq tq ia ea ta gi ci gt ct c u4 j Es' ∧ Full X1 wr.heap.size 47 [.string nm, .int .i64 st, .int .i64 pr, .slice dq SL.length dc, .int .i64 rs] ∧ Row X1 B dq SL.length (sv SL) ∧ w.heap.size ≤ wr.heap.size ∧ B ≤ X1.heap.size ∧ wr.heap.size < X1.heap.size) := ⟨HI.out.next b1, F1, HRow.out.1.below b1 (Nat.le_trans HM.out.2.1 HI.out.s.b.size), HI.out.s.b.size, Nat.le_trans (Nat.le_trans HM.out.2.1 HI.out.s.b.size) b1.size, F1.lt⟩
          have x1' := (b1.cell (p := ⟨d1, 1, none⟩) HI.out.s.x.lt).trans x1
          have r3' := (b1.cell (p := ⟨g, o + j * 5 + 3, none⟩) (Nat.lt_of_lt_of_le HRow.out.2.1 (Nat.le_trans HM.out.2.1 HI.out.s.b.size))).trans r3
          clear hX1 b1 F1 x1 r0 r1 r2 r3 r4
          obtain ⟨b6, Hb6⟩ : ∃ b6, Hid (wr.heap.size = b6) := ⟨_, (rfl : wr.heap.size = _)⟩
          rw [Hb6.out] at HI1 ⊢
          go_cut [6] (fun u wx => u = .pointer (some ⟨b6, 0, none⟩) ∧ Hid (∃ gs cs, TwI w wx d1 d2 d3 iq eq tq ia ea ta gi ci gt ct c u4 j Es' ∧ Full wx b6 47 [.string nm, .int .i64 st, .int .i64 pr, .slice (some ⟨gs, 0, none⟩) SL.length cs, .int .i64 rs] ∧ wx.ownsRow w.heap.size 45 1 (.slice (some ⟨gs, 0, none⟩) (SL.length + 1) cs) (SL.length + 1) (sv SL ++ [.int .i64 77])))
          case first =>
            have hBX := HI1.out.2.2.2.2.1
            have irow := HI1.out.2.2.1
            have x3 := (HI1.out.2.1.cell 3 _ rfl).1
            have hb6 := HI1.out.2.2.2.2.2
            have SV : Hid (∀ w' : World, Below X1.heap.size X1 w' → w'.cell? ⟨b6, 3, none⟩ = some (.slice dq SL.length dc) ∧ w'.cell? ⟨d1, 1, none⟩ = some (.slice (some ⟨g, o, none⟩) c.ens.length ea) ∧ w'.cell? ⟨g, o + j * 5 + 3, none⟩ = some (.slice dq SL.length dc)) := fun w' hb =>
              ⟨((HI1.out.2.1.next hb).cell 3 _ rfl).1, (hb.cell (p := ⟨d1, 1, none⟩) HI1.out.1.s.x.lt).trans x1', (hb.cell (p := ⟨g, o + j * 5 + 3, none⟩) (Nat.lt_of_lt_of_le HRow.out.2.1 hBX)).trans r3'⟩
            have hA0 : Hid (Below X1.heap.size X1 (X1.alloc (.cells #[] 45)).drew ∧ Below X1.heap.size X1 (X1.alloc (.cells #[.int .i64 77] 45)).drew ∧ Below X1.heap.size X1 ((X1.alloc (.cells #[] 45)).alloc (.cells #[.int .i64 77] 45)).drew ∧ Below X1.heap.size X1 ((X1.alloc (.cells #[.int .i64 77] 45)).alloc (.cells #[] 45)).drew) := ⟨((Below.refl _ X1).alloc (Nat.le_refl _) _).drew, ((Below.refl _ X1).alloc (Nat.le_refl _) _).drew, (below2 ((Below.refl _ X1).alloc (Nat.le_refl _) _) ((Below.refl _ _).alloc (Nat.le_refl _) _)).drew, (below2 ((Below.refl _ X1).alloc (Nat.le_refl _) _) ((Below.refl _ _).alloc (Nat.le_refl _) _)).drew⟩
            obtain ⟨G1a, e1a, w1a, G2a, e2a, w2a, rA1, bA1, rA2, mA⟩ := dup_a 35 _ 8 Tryd.underlying35 infoSt rfl (by decide) (by decide) X1 dq SL.length dc B (sv SL) (by rw [Nat.mul_one]; exact List.length_map ..) (row_nil irow) irow hBX (sv_one _) #[.int .i64 77] rfl (by simp [Value.oneCell']) (by omega)
            obtain ⟨G1b, e1b, w1b, G2b, e2b, w2b, rB1, bB1, rB2, mB⟩ := dup_b 35 _ 8 Tryd.underlying35 infoSt rfl (by decide) (by decide) X1 ((X1.alloc (.cells #[] 45)).alloc (.cells #[.int .i64 77] 45)).drew X1.heap.size (X1.heap.size + 1) hA0.out.2.2.1 ((Below.heap_alloc _ _ _ (by simp)).trans (World.alloc_heap_new _ _)) #[.int .i64 77] (by have := World.alloc_heap_new (X1.alloc (.cells #[] 45)) (.cells #[.int .i64 77] 45); rw [World.size_alloc] at this; exact this) (Nat.le_refl _) (by omega) dq SL.length dc B (sv SL) (by rw [Nat.mul_one]; exact List.length_map ..) (row_nil irow) irow hBX (sv_one _) rfl (by simp [Value.oneCell']) (by omega)
            obtain ⟨G1c, e1c, w1c, G2c, e2c, w2c, rC1, bC1, rC2, mC⟩ := dup_b 35 _ 8 Tryd.underlying35 infoSt rfl (by decide) (by decide) X1 ((X1.alloc (.cells #[.int .i64 77] 45)).alloc (.cells #[] 45)).drew (X1.heap.size + 1) X1.heap.size hA0.out.2.2.2 (by have := World.alloc_heap_new (X1.alloc (.cells #[.int .i64 77] 45)) (.cells #[] 45); rw [World.size_alloc] at this; exact this) #[.int .i64 77] ((Below.heap_alloc _ _ _ (by simp)).trans (World.alloc_heap_new _ _)) (by omega) (by omega) dq SL.length dc B (sv SL) (by rw [Nat.mul_one]; exact List.length_map ..) (row_nil irow) irow hBX (sv_one _) rfl (by simp [Value.oneCell']) (by omega)
            have sla := cut_run (t := 35) Tryd.underlying35 sz_st ⟨G2a, 0, none⟩ (SL.length + 1) e2a SL.length (by have := mA.le; omega)
            have slb := cut_run (t := 35) Tryd.underlying35 sz_st ⟨G2b, 0, none⟩ (SL.length + 1) e2b SL.length (by have := mB.le; omega)
            have slc := cut_run (t := 35) Tryd.underlying35 sz_st ⟨G2c, 0, none⟩ (SL.length + 1) e2c SL.length (by have := mC.le; omega)
            have bA3 : Below X1.heap.size X1 (w1a.alloc (.cells #[.int .i64 77] 45)) := below2 bA1 ((Below.refl _ w1a).alloc (Nat.le_refl _) _)
            have bA2 := mA.b
            have bB2 := mB.b
            have bC2 := mC.b
            have HMk : Hid (Mk X1 w2a 45 1 G2a e2a SL.length ((sv SL) ++ #[.int .i64 77].toList) ∧ Mk X1 w2b 45 1 G2b e2b SL.length ((sv SL) ++ #[.int .i64 77].toList) ∧ Mk X1 w2c 45 1 G2c e2c SL.length ((sv SL) ++ #[.int .i64 77].toList)) := ⟨mA, mB, mC⟩
            obtain ⟨q1a, q2a⟩ := (HI1.out.2.1.next mA.b).cell 3 _ rfl
            obtain ⟨q1b, q2b⟩ := (HI1.out.2.1.next mB.b).cell 3 _ rfl
            obtain ⟨q1c, q2c⟩ := (HI1.out.2.1.next mC.b).cell 3 _ rfl
            clear mA mB mC
            have hq : ∀ {W : World} {G cp : Nat} {xs : List Value}, Mk X1 W 45 1 G cp SL.length xs → ∀ v, TwI w (W.setCell ⟨b6, 3, none⟩ v) d1 d2 d3 iq eq tq ia ea ta gi ci gt ct c u4 j Es' ∧ Full (W.setCell ⟨b6, 3, none⟩ v) b6 47 [.string nm, .int .i64 st, .int .i64 pr, v, .int .i64 rs] ∧ (W.setCell ⟨b6, 3, none⟩ v).ownsRow w.heap.size 45 1 (.slice (some ⟨G, 0, none⟩) (SL.length + 1) cp) (SL.length + 1) xs := fun {W G cp xs} hm v => by
              have fb := HI1.out.2.1.next hm.b
              refine ⟨(HI1.out.1.next hm.b).set (fun e => ?_) (Nat.le_trans HI.out.s.b.size (Nat.le_of_eq Hb6.out)) fb 3 v, Full.put1 (a := [.string nm, .int .i64 st, .int .i64 pr]) (d := [.int .i64 rs]) fb v, hm.set hb6 3 v HI1.out.1.s.b.size⟩
              have := HI.out.e
              rw [← Hb6.out] at e
              exact Nat.lt_irrefl _ (own_blk HI.out.e _ e).lt
            have HFin : Hid (((Value.pointer (some ⟨b6, 0, none⟩) = .pointer (some ⟨b6, 0, none⟩)) ∧ Hid (∃ gs cs, TwI w (w2a.setCell ⟨b6, 3, none⟩ (.slice (some ⟨G2a, 0, none⟩) SL.length e2a)) d1 d2 d3 iq eq tq ia ea ta gi ci gt ct c u4 j Es' ∧ Full (w2a.setCell ⟨b6, 3, none⟩ (.slice (some ⟨G2a, 0, none⟩) SL.length e2a)) b6 47 [.string nm, .int .i64 st, .int .i64 pr, .slice (some ⟨gs, 0, none⟩) SL.length cs, .int .i64 rs] ∧ (w2a.setCell ⟨b6, 3, none⟩ (.slice (some ⟨G2a, 0, none⟩) SL.length e2a)).ownsRow w.heap.size 45 1 (.slice (some ⟨gs, 0, none⟩) (SL.length + 1) cs) (SL.length + 1) (sv SL ++ [.int .i64 77]))) ∧ ((Value.pointer (some ⟨b6, 0, none⟩) = .pointer (some ⟨b6, 0, none⟩)) ∧ Hid (∃ gs cs, TwI w (w2b.setCell ⟨b6, 3, none⟩ (.slice (some ⟨G2b, 0, none⟩) SL.length e2b)) d1 d2 d3 iq eq tq ia ea ta gi ci gt ct c u4 j Es' ∧ Full (w2b.setCell ⟨b6, 3, none⟩ (.slice (some ⟨G2b, 0, none⟩) SL.length e2b)) b6 47 [.string nm, .int .i64 st, .int .i64 pr, .slice (some ⟨gs, 0, none⟩) SL.length cs, .int .i64 rs] ∧ (w2b.setCell ⟨b6, 3, none⟩ (.slice (some ⟨G2b, 0, none⟩) SL.length e2b)).ownsRow w.heap.size 45 1 (.slice (some ⟨gs, 0, none⟩) (SL.length + 1) cs) (SL.length + 1) (sv SL ++ [.int .i64 77]))) ∧ ((Value.pointer (some ⟨b6, 0, none⟩) = .pointer (some ⟨b6, 0, none⟩)) ∧ Hid (∃ gs cs, TwI w (w2c.setCell ⟨b6, 3, none⟩ (.slice (some ⟨G2c, 0, none⟩) SL.length e2c)) d1 d2 d3 iq eq tq ia ea ta gi ci gt ct c u4 j Es' ∧ Full (w2c.setCell ⟨b6, 3, none⟩ (.slice (some ⟨G2c, 0, none⟩) SL.length e2c)) b6 47 [.string nm, .int .i64 st, .int .i64 pr, .slice (some ⟨gs, 0, none⟩) SL.length cs, .int .i64 rs] ∧ (w2c.setCell ⟨b6, 3, none⟩ (.slice (some ⟨G2c, 0, none⟩) SL.length e2c)).ownsRow w.heap.size 45 1 (.slice (some ⟨gs, 0, none⟩) (SL.length + 1) cs) (SL.length + 1) (sv SL ++ [.int .i64 77])))) := ⟨⟨rfl, _, _, hq HMk.out.1 _⟩, ⟨rfl, _, _, hq HMk.out.2.1 _⟩, rfl, _, _, hq HMk.out.2.2 _⟩
            clear hq
            go_wp2_with fail
            refine region_T (L := 15) (T := fun w' => w'.cell? ⟨b6, 3, none⟩ = some (.slice dq SL.length dc) ∧ w'.cell? ⟨d1, 1, none⟩ = some (.slice (some ⟨g, o, none⟩) c.ens.length ea) ∧ w'.cell? ⟨g, o + j * 5 + 3, none⟩ = some (.slice dq SL.length dc)) (by kernel_rfl) ?_
            refine T_take (i := 1) (L := 15) (oi := { dst := some 43, op := Op.fieldAddr 47 (Operand.tmp 6) 3, type := 0, pos := "law.go:46", after := #[], guard := none }) (oL := { dst := none, op := Op.store 35 (Operand.tmp 56) (Operand.tmp 55), type := 0, pos := "law.go:46", after := #[{ on := 14, ground := Ground.data }, { on := 13, ground := Ground.data }, { on := 5, ground := Ground.chain }, { on := 0, ground := Ground.phase }, { on := 1, ground := Ground.phase }, { on := 2, ground := Ground.phase }, { on := 3, ground := Ground.phase }, { on := 4, ground := Ground.phase }, { on := 5, ground := Ground.phase }, { on := 6, ground := Ground.phase }, { on := 7, ground := Ground.phase }, { on := 8, ground := Ground.phase }, { on := 9, ground := Ground.phase }, { on := 10, ground := Ground.phase }, { on := 11, ground := Ground.phase }, { on := 12, ground := Ground.phase }, { on := 13, ground := Ground.phase }], guard := none }) (v := .pointer (some ⟨b6, 3, none⟩)) rfl rfl (by kernel_rfl) (by kernel_rfl) (by kernel_rfl) (by kernel_rfl) (fun _ _ _ h => h) (Or.inl ⟨by rfl, fun w' hT => by obtain ⟨h1, h2, h3⟩ := hT; go_simp⟩) (SV.out _ (Below.refl _ X1).drew) ?_
            simp only [Act.put, List.setIfInBounds_toArray, List.set_cons_zero, List.set_cons_succ]
            refine T_take (i := 2) (L := 15) (oi := { dst := some 44, op := Op.load 35 (Operand.tmp 43), type := 35, pos := "law.go:46", after := #[{ on := 1, ground := Ground.data }], guard := none }) (oL := { dst := none, op := Op.store 35 (Operand.tmp 56) (Operand.tmp 55), type := 0, pos := "law.go:46", after := #[{ on := 14, ground := Ground.data }, { on := 13, ground := Ground.data }, { on := 5, ground := Ground.chain }, { on := 0, ground := Ground.phase }, { on := 1, ground := Ground.phase }, { on := 2, ground := Ground.phase }, { on := 3, ground := Ground.phase }, { on := 4, ground := Ground.phase }, { on := 5, ground := Ground.phase }, { on := 6, ground := Ground.phase }, { on := 7, ground := Ground.phase }, { on := 8, ground := Ground.phase }, { on := 9, ground := Ground.phase }, { on := 10, ground := Ground.phase }, { on := 11, ground := Ground.phase }, { on := 12, ground := Ground.phase }, { on := 13, ground := Ground.phase }], guard := none }) (v := .slice dq SL.length dc) rfl rfl (by kernel_rfl) (by kernel_rfl) (by kernel_rfl) (by kernel_rfl) (fun _ _ _ h => h) (Or.inl ⟨by rfl, fun w' hT => by obtain ⟨h1, h2, h3⟩ := hT; go_simp⟩) (SV.out _ (Below.refl _ X1).drew) ?_
            simp only [Act.put, List.setIfInBounds_toArray, List.set_cons_zero, List.set_cons_succ]
            refine T_take (i := 6) (L := 15) (oi := { dst := some 48, op := Op.fieldAddr 26 (Operand.tmp 1) 1, type := 0, pos := "law.go:46", after := #[], guard := none }) (oL := { dst := none, op := Op.store 35 (Operand.tmp 56) (Operand.tmp 55), type := 0, pos := "law.go:46", after := #[{ on := 14, ground := Ground.data }, { on := 13, ground := Ground.data }, { on := 5, ground := Ground.chain }, { on := 0, ground := Ground.phase }, { on := 1, ground := Ground.phase }, { on := 2, ground := Ground.phase }, { on := 3, ground := Ground.phase }, { on := 4, ground := Ground.phase }, { on := 5, ground := Ground.phase }, { on := 6, ground := Ground.phase }, { on := 7, ground := Ground.phase }, { on := 8, ground := Ground.phase }, { on := 9, ground := Ground.phase }, { on := 10, ground := Ground.phase }, { on := 11, ground := Ground.phase }, { on := 12, ground := Ground.phase }, { on := 13, ground := Ground.phase }], guard := none }) (v := .pointer (some ⟨d1, 1, none⟩)) rfl rfl (by kernel_rfl) (by kernel_rfl) (by kernel_rfl) (by kernel_rfl) (fun _ _ _ h => h) (Or.inl ⟨by rfl, fun w' hT => by obtain ⟨h1, h2, h3⟩ := hT; go_simp⟩) (SV.out _ (Below.refl _ X1).drew) ?_
            simp only [Act.put, List.setIfInBounds_toArray, List.set_cons_zero, List.set_cons_succ]
            refine T_take (i := 7) (L := 15) (oi := { dst := some 49, op := Op.load 23 (Operand.tmp 48), type := 23, pos := "law.go:46", after := #[{ on := 6, ground := Ground.data }], guard := none }) (oL := { dst := none, op := Op.store 35 (Operand.tmp 56) (Operand.tmp 55), type := 0, pos := "law.go:46", after := #[{ on := 14, ground := Ground.data }, { on := 13, ground := Ground.data }, { on := 5, ground := Ground.chain }, { on := 0, ground := Ground.phase }, { on := 1, ground := Ground.phase }, { on := 2, ground := Ground.phase }, { on := 3, ground := Ground.phase }, { on := 4, ground := Ground.phase }, { on := 5, ground := Ground.phase }, { on := 6, ground := Ground.phase }, { on := 7, ground := Ground.phase }, { on := 8, ground := Ground.phase }, { on := 9, ground := Ground.phase }, { on := 10, ground := Ground.phase }, { on := 11, ground := Ground.phase }, { on := 12, ground := Ground.phase }, { on := 13, ground := Ground.phase }], guard := none }) (v := .slice (some ⟨g, o, none⟩) c.ens.length ea) rfl rfl (by kernel_rfl) (by kernel_rfl) (by kernel_rfl) (by kernel_rfl) (fun _ _ _ h => h) (Or.inl ⟨by rfl, fun w' hT => by obtain ⟨h1, h2, h3⟩ := hT; go_simp⟩) (SV.out _ (Below.refl _ X1).drew) ?_
            simp only [Act.put, List.setIfInBounds_toArray, List.set_cons_zero, List.set_cons_succ]
            refine T_take (i := 8) (L := 15) (oi := { dst := some 50, op := Op.move (Operand.tmp 5), type := 3, pos := "law.go:46", after := #[], guard := none }) (oL := { dst := none, op := Op.store 35 (Operand.tmp 56) (Operand.tmp 55), type := 0, pos := "law.go:46", after := #[{ on := 14, ground := Ground.data }, { on := 13, ground := Ground.data }, { on := 5, ground := Ground.chain }, { on := 0, ground := Ground.phase }, { on := 1, ground := Ground.phase }, { on := 2, ground := Ground.phase }, { on := 3, ground := Ground.phase }, { on := 4, ground := Ground.phase }, { on := 5, ground := Ground.phase }, { on := 6, ground := Ground.phase }, { on := 7, ground := Ground.phase }, { on := 8, ground := Ground.phase }, { on := 9, ground := Ground.phase }, { on := 10, ground := Ground.phase }, { on := 11, ground := Ground.phase }, { on := 12, ground := Ground.phase }, { on := 13, ground := Ground.phase }], guard := none }) (v := .int .i64 (j : Int)) rfl rfl (by kernel_rfl) (by kernel_rfl) (by kernel_rfl) (by kernel_rfl) (fun _ _ _ h => h) (Or.inl ⟨by rfl, fun w' hT => by obtain ⟨h1, h2, h3⟩ := hT; go_simp⟩) (SV.out _ (Below.refl _ X1).drew) ?_
            simp only [Act.put, List.setIfInBounds_toArray, List.set_cons_zero, List.set_cons_succ]
            refine T_take (i := 9) (L := 15) (oi := { dst := some 51, op := Op.indexAddr 23 (Operand.tmp 49) (Operand.tmp 50), type := 0, pos := "law.go:46", after := #[{ on := 7, ground := Ground.data }, { on := 8, ground := Ground.data }], guard := none }) (oL := { dst := none, op := Op.store 35 (Operand.tmp 56) (Operand.tmp 55), type := 0, pos := "law.go:46", after := #[{ on := 14, ground := Ground.data }, { on := 13, ground := Ground.data }, { on := 5, ground := Ground.chain }, { on := 0, ground := Ground.phase }, { on := 1, ground := Ground.phase }, { on := 2, ground := Ground.phase }, { on := 3, ground := Ground.phase }, { on := 4, ground := Ground.phase }, { on := 5, ground := Ground.phase }, { on := 6, ground := Ground.phase }, { on := 7, ground := Ground.phase }, { on := 8, ground := Ground.phase }, { on := 9, ground := Ground.phase }, { on := 10, ground := Ground.phase }, { on := 11, ground := Ground.phase }, { on := 12, ground := Ground.phase }, { on := 13, ground := Ground.phase }], guard := none }) (v := .pointer (some ⟨g, o + j * 5, none⟩)) rfl rfl (by kernel_rfl) (by kernel_rfl) (by kernel_rfl) (by kernel_rfl) (fun _ _ _ h => h) (Or.inl ⟨by rfl, fun w' hT => by obtain ⟨h1, h2, h3⟩ := hT; go_simp⟩) (SV.out _ (Below.refl _ X1).drew) ?_
            simp only [Act.put, List.setIfInBounds_toArray, List.set_cons_zero, List.set_cons_succ]
            refine T_take (i := 10) (L := 15) (oi := { dst := some 52, op := Op.fieldAddr 47 (Operand.tmp 51) 3, type := 0, pos := "law.go:46", after := #[{ on := 9, ground := Ground.data }], guard := none }) (oL := { dst := none, op := Op.store 35 (Operand.tmp 56) (Operand.tmp 55), type := 0, pos := "law.go:46", after := #[{ on := 14, ground := Ground.data }, { on := 13, ground := Ground.data }, { on := 5, ground := Ground.chain }, { on := 0, ground := Ground.phase }, { on := 1, ground := Ground.phase }, { on := 2, ground := Ground.phase }, { on := 3, ground := Ground.phase }, { on := 4, ground := Ground.phase }, { on := 5, ground := Ground.phase }, { on := 6, ground := Ground.phase }, { on := 7, ground := Ground.phase }, { on := 8, ground := Ground.phase }, { on := 9, ground := Ground.phase }, { on := 10, ground := Ground.phase }, { on := 11, ground := Ground.phase }, { on := 12, ground := Ground.phase }, { on := 13, ground := Ground.phase }], guard := none }) (v := .pointer (some ⟨g, o + j * 5 + 3, none⟩)) rfl rfl (by kernel_rfl) (by kernel_rfl) (by kernel_rfl) (by kernel_rfl) (fun _ _ _ h => h) (Or.inl ⟨by rfl, fun w' hT => by obtain ⟨h1, h2, h3⟩ := hT; go_simp⟩) (SV.out _ (Below.refl _ X1).drew) ?_
            simp only [Act.put, List.setIfInBounds_toArray, List.set_cons_zero, List.set_cons_succ]
            refine T_take (i := 11) (L := 15) (oi := { dst := some 53, op := Op.load 35 (Operand.tmp 52), type := 35, pos := "law.go:46", after := #[{ on := 10, ground := Ground.data }], guard := none }) (oL := { dst := none, op := Op.store 35 (Operand.tmp 56) (Operand.tmp 55), type := 0, pos := "law.go:46", after := #[{ on := 14, ground := Ground.data }, { on := 13, ground := Ground.data }, { on := 5, ground := Ground.chain }, { on := 0, ground := Ground.phase }, { on := 1, ground := Ground.phase }, { on := 2, ground := Ground.phase }, { on := 3, ground := Ground.phase }, { on := 4, ground := Ground.phase }, { on := 5, ground := Ground.phase }, { on := 6, ground := Ground.phase }, { on := 7, ground := Ground.phase }, { on := 8, ground := Ground.phase }, { on := 9, ground := Ground.phase }, { on := 10, ground := Ground.phase }, { on := 11, ground := Ground.phase }, { on := 12, ground := Ground.phase }, { on := 13, ground := Ground.phase }], guard := none }) (v := .slice dq SL.length dc) rfl rfl (by kernel_rfl) (by kernel_rfl) (by kernel_rfl) (by kernel_rfl) (fun _ _ _ h => h) (Or.inl ⟨by rfl, fun w' hT => by obtain ⟨h1, h2, h3⟩ := hT; go_simp⟩) (SV.out _ (Below.refl _ X1).drew) ?_
            simp only [Act.put, List.setIfInBounds_toArray, List.set_cons_zero, List.set_cons_succ]
            refine T_take (i := 12) (L := 15) (oi := { dst := some 54, op := Op.call { callee := Callee.builtin Builtin.len, args := #[Operand.tmp 53], argTypes := #[35] }, type := 3, pos := "law.go:46", after := #[{ on := 11, ground := Ground.data }], guard := none }) (oL := { dst := none, op := Op.store 35 (Operand.tmp 56) (Operand.tmp 55), type := 0, pos := "law.go:46", after := #[{ on := 14, ground := Ground.data }, { on := 13, ground := Ground.data }, { on := 5, ground := Ground.chain }, { on := 0, ground := Ground.phase }, { on := 1, ground := Ground.phase }, { on := 2, ground := Ground.phase }, { on := 3, ground := Ground.phase }, { on := 4, ground := Ground.phase }, { on := 5, ground := Ground.phase }, { on := 6, ground := Ground.phase }, { on := 7, ground := Ground.phase }, { on := 8, ground := Ground.phase }, { on := 9, ground := Ground.phase }, { on := 10, ground := Ground.phase }, { on := 11, ground := Ground.phase }, { on := 12, ground := Ground.phase }, { on := 13, ground := Ground.phase }], guard := none }) (v := .int .i64 (SL.length : Int)) rfl rfl (by kernel_rfl) (by kernel_rfl) (by kernel_rfl) (by kernel_rfl) (fun _ _ _ h => h) (Or.inl ⟨by rfl, fun w' hT => by obtain ⟨h1, h2, h3⟩ := hT; go_simp⟩) (SV.out _ (Below.refl _ X1).drew) ?_
            simp only [Act.put, List.setIfInBounds_toArray, List.set_cons_zero, List.set_cons_succ]
            refine T_ready (rs := [0, 4]) (by kernel_rfl) (by simp) ?_
            intro i hi
            simp only [List.mem_cons, List.not_mem_nil, or_false] at hi
            rcases hi with rfl | rfl
            · refine T_op (o := { dst := some 42, op := Op.buildSlice 35 0 #[], type := 35, pos := "law.go:46", after := #[], guard := none }) (v := .slice (some ⟨X1.heap.size, 0, none⟩) 0 0) (w' := (X1.alloc (.cells #[] 45)).drew) rfl rfl (by first | rfl | kernel_rfl) ⟨fun _ => SV.out _ hA0.out.1, ?_⟩
              simp only [Act.put, List.setIfInBounds_toArray, List.set_cons_zero, List.set_cons_succ]
              refine T_ready (rs := [3, 4]) (by kernel_rfl) (by simp) ?_
              intro i hi
              simp only [List.mem_cons, List.not_mem_nil, or_false] at hi
              rcases hi with rfl | rfl
              · refine T_op (o := { dst := some 45, op := Op.call { callee := Callee.builtin Builtin.append, args := #[Operand.tmp 42, Operand.tmp 44], argTypes := #[35, 35] }, type := 35, pos := "law.go:46", after := #[{ on := 0, ground := Ground.data }, { on := 2, ground := Ground.data }], guard := none }) (v := .slice (some ⟨G1a, 0, none⟩) SL.length e1a) (w' := w1a) rfl rfl (run_apr (.tmp 42) (.tmp 44) 35 rfl rfl _ _ rfl rfl rA1) ⟨fun _ => SV.out _ bA1, ?_⟩
                simp only [Act.put, List.setIfInBounds_toArray, List.set_cons_zero, List.set_cons_succ]
                refine T_ready (rs := [4]) (by kernel_rfl) (by simp) ?_
                intro i hi
                simp only [List.mem_cons, List.not_mem_nil, or_false] at hi
                subst hi
                refine T_op (o := { dst := some 46, op := Op.buildSlice 35 1 #[(0, Operand.const (Value.int IntKind.i64 77))], type := 35, pos := "law.go:46", after := #[], guard := none }) (v := .slice (some ⟨w1a.heap.size, 0, none⟩) 1 1) (w' := w1a.alloc (.cells #[.int .i64 77] 45)) rfl rfl (by first | rfl | kernel_rfl) ⟨fun _ => SV.out _ bA3, ?_⟩
                simp only [Act.put, List.setIfInBounds_toArray, List.set_cons_zero, List.set_cons_succ]
                refine T_ready (rs := [5]) (by kernel_rfl) (by simp) ?_
                intro i hi
                simp only [List.mem_cons, List.not_mem_nil, or_false] at hi
                subst hi
                refine T_op (o := { dst := some 47, op := Op.call { callee := Callee.builtin Builtin.append, args := #[Operand.tmp 45, Operand.tmp 46], argTypes := #[35, 35] }, type := 35, pos := "law.go:46", after := #[{ on := 3, ground := Ground.data }, { on := 4, ground := Ground.data }, { on := 3, ground := Ground.chain }], guard := none }) (v := .slice (some ⟨G2a, 0, none⟩) (SL.length + 1) e2a) (w' := w2a) rfl rfl (run_apr (.tmp 45) (.tmp 46) 35 rfl rfl _ _ rfl rfl rA2) ⟨fun _ => SV.out _ bA2, ?_⟩
                simp only [Act.put, List.setIfInBounds_toArray, List.set_cons_zero, List.set_cons_succ]
                refine T_take (i := 13) (L := 15) (oi := { dst := some 55, op := Op.slice 35 (Operand.tmp 47) none (some (Operand.tmp 54)) none, type := 35, pos := "law.go:46", after := #[{ on := 5, ground := Ground.data }, { on := 12, ground := Ground.data }], guard := none }) (oL := { dst := none, op := Op.store 35 (Operand.tmp 56) (Operand.tmp 55), type := 0, pos := "law.go:46", after := #[{ on := 14, ground := Ground.data }, { on := 13, ground := Ground.data }, { on := 5, ground := Ground.chain }, { on := 0, ground := Ground.phase }, { on := 1, ground := Ground.phase }, { on := 2, ground := Ground.phase }, { on := 3, ground := Ground.phase }, { on := 4, ground := Ground.phase }, { on := 5, ground := Ground.phase }, { on := 6, ground := Ground.phase }, { on := 7, ground := Ground.phase }, { on := 8, ground := Ground.phase }, { on := 9, ground := Ground.phase }, { on := 10, ground := Ground.phase }, { on := 11, ground := Ground.phase }, { on := 12, ground := Ground.phase }, { on := 13, ground := Ground.phase }], guard := none }) (v := .slice (some ⟨G2a, 0, none⟩) SL.length e2a) rfl rfl (by kernel_rfl) (by kernel_rfl) (by kernel_rfl) (by kernel_rfl) (fun _ _ _ h => h) (Or.inl ⟨by rfl, fun w' hT => by obtain ⟨h1, h2, h3⟩ := hT; go_simp⟩) (SV.out _ bA2) ?_
                simp only [Act.put, List.setIfInBounds_toArray, List.set_cons_zero, List.set_cons_succ]
                refine T_take (i := 14) (L := 15) (oi := { dst := some 56, op := Op.fieldAddr 47 (Operand.tmp 6) 3, type := 0, pos := "law.go:46", after := #[{ on := 0, ground := Ground.phase }, { on := 1, ground := Ground.phase }, { on := 2, ground := Ground.phase }, { on := 3, ground := Ground.phase }, { on := 4, ground := Ground.phase }, { on := 5, ground := Ground.phase }, { on := 6, ground := Ground.phase }, { on := 7, ground := Ground.phase }, { on := 8, ground := Ground.phase }, { on := 9, ground := Ground.phase }, { on := 10, ground := Ground.phase }, { on := 11, ground := Ground.phase }, { on := 12, ground := Ground.phase }, { on := 13, ground := Ground.phase }], guard := none }) (oL := { dst := none, op := Op.store 35 (Operand.tmp 56) (Operand.tmp 55), type := 0, pos := "law.go:46", after := #[{ on := 14, ground := Ground.data }, { on := 13, ground := Ground.data }, { on := 5, ground := Ground.chain }, { on := 0, ground := Ground.phase }, { on := 1, ground := Ground.phase }, { on := 2, ground := Ground.phase }, { on := 3, ground := Ground.phase }, { on := 4, ground := Ground.phase }, { on := 5, ground := Ground.phase }, { on := 6, ground := Ground.phase }, { on := 7, ground := Ground.phase }, { on := 8, ground := Ground.phase }, { on := 9, ground := Ground.phase }, { on := 10, ground := Ground.phase }, { on := 11, ground := Ground.phase }, { on := 12, ground := Ground.phase }, { on := 13, ground := Ground.phase }], guard := none }) (v := .pointer (some ⟨b6, 3, none⟩)) rfl rfl (by kernel_rfl) (by kernel_rfl) (by kernel_rfl) (by kernel_rfl) (fun _ _ _ h => h) (Or.inl ⟨by rfl, fun w' hT => by obtain ⟨h1, h2, h3⟩ := hT; go_simp⟩) (SV.out _ bA2) ?_
                simp only [Act.put, List.setIfInBounds_toArray, List.set_cons_zero, List.set_cons_succ]
                refine T_ready (rs := [15]) (by kernel_rfl) (by simp) ?_
                intro i hi
                simp only [List.mem_cons, List.not_mem_nil, or_false] at hi
                subst hi
                refine T_skip (o := { dst := none, op := Op.store 35 (Operand.tmp 56) (Operand.tmp 55), type := 0, pos := "law.go:46", after := #[{ on := 14, ground := Ground.data }, { on := 13, ground := Ground.data }, { on := 5, ground := Ground.chain }, { on := 0, ground := Ground.phase }, { on := 1, ground := Ground.phase }, { on := 2, ground := Ground.phase }, { on := 3, ground := Ground.phase }, { on := 4, ground := Ground.phase }, { on := 5, ground := Ground.phase }, { on := 6, ground := Ground.phase }, { on := 7, ground := Ground.phase }, { on := 8, ground := Ground.phase }, { on := 9, ground := Ground.phase }, { on := 10, ground := Ground.phase }, { on := 11, ground := Ground.phase }, { on := 12, ground := Ground.phase }, { on := 13, ground := Ground.phase }], guard := none }) (w' := w2a.setCell ⟨b6, 3, none⟩ (.slice (some ⟨G2a, 0, none⟩) SL.length e2a)) rfl rfl (by go_simp) ⟨fun h => absurd rfl h, ?_⟩
                simp only [Act.put]
                refine T_done (by kernel_rfl) ?_ _
                go_wp2
                go_meet
                case rel => exact ⟨rfl, HFin.out.1.2⟩
              · refine T_op (o := { dst := some 46, op := Op.buildSlice 35 1 #[(0, Operand.const (Value.int IntKind.i64 77))], type := 35, pos := "law.go:46", after := #[], guard := none }) (v := .slice (some ⟨X1.heap.size + 1, 0, none⟩) 1 1) (w' := ((X1.alloc (.cells #[] 45)).alloc (.cells #[.int .i64 77] 45)).drew) rfl rfl (by first | (simp [go_sem, execOp]; done) | rfl | kernel_rfl) ⟨fun _ => SV.out _ hA0.out.2.2.1, ?_⟩
                simp only [Act.put, List.setIfInBounds_toArray, List.set_cons_zero, List.set_cons_succ]
                refine T_ready (rs := [3]) (by kernel_rfl) (by simp) ?_
                intro i hi
                simp only [List.mem_cons, List.not_mem_nil, or_false] at hi
                subst hi
                refine T_op (o := { dst := some 45, op := Op.call { callee := Callee.builtin Builtin.append, args := #[Operand.tmp 42, Operand.tmp 44], argTypes := #[35, 35] }, type := 35, pos := "law.go:46", after := #[{ on := 0, ground := Ground.data }, { on := 2, ground := Ground.data }], guard := none }) (v := .slice (some ⟨G1b, 0, none⟩) SL.length e1b) (w' := w1b) rfl rfl (run_apr (.tmp 42) (.tmp 44) 35 rfl rfl _ _ rfl rfl rB1) ⟨fun _ => SV.out _ bB1, ?_⟩
                simp only [Act.put, List.setIfInBounds_toArray, List.set_cons_zero, List.set_cons_succ]
                refine T_ready (rs := [5]) (by kernel_rfl) (by simp) ?_
                intro i hi
                simp only [List.mem_cons, List.not_mem_nil, or_false] at hi
                subst hi
                refine T_op (o := { dst := some 47, op := Op.call { callee := Callee.builtin Builtin.append, args := #[Operand.tmp 45, Operand.tmp 46], argTypes := #[35, 35] }, type := 35, pos := "law.go:46", after := #[{ on := 3, ground := Ground.data }, { on := 4, ground := Ground.data }, { on := 3, ground := Ground.chain }], guard := none }) (v := .slice (some ⟨G2b, 0, none⟩) (SL.length + 1) e2b) (w' := w2b) rfl rfl (run_apr (.tmp 45) (.tmp 46) 35 rfl rfl _ _ rfl rfl rB2) ⟨fun _ => SV.out _ bB2, ?_⟩
                simp only [Act.put, List.setIfInBounds_toArray, List.set_cons_zero, List.set_cons_succ]
                refine T_take (i := 13) (L := 15) (oi := { dst := some 55, op := Op.slice 35 (Operand.tmp 47) none (some (Operand.tmp 54)) none, type := 35, pos := "law.go:46", after := #[{ on := 5, ground := Ground.data }, { on := 12, ground := Ground.data }], guard := none }) (oL := { dst := none, op := Op.store 35 (Operand.tmp 56) (Operand.tmp 55), type := 0, pos := "law.go:46", after := #[{ on := 14, ground := Ground.data }, { on := 13, ground := Ground.data }, { on := 5, ground := Ground.chain }, { on := 0, ground := Ground.phase }, { on := 1, ground := Ground.phase }, { on := 2, ground := Ground.phase }, { on := 3, ground := Ground.phase }, { on := 4, ground := Ground.phase }, { on := 5, ground := Ground.phase }, { on := 6, ground := Ground.phase }, { on := 7, ground := Ground.phase }, { on := 8, ground := Ground.phase }, { on := 9, ground := Ground.phase }, { on := 10, ground := Ground.phase }, { on := 11, ground := Ground.phase }, { on := 12, ground := Ground.phase }, { on := 13, ground := Ground.phase }], guard := none }) (v := .slice (some ⟨G2b, 0, none⟩) SL.length e2b) rfl rfl (by kernel_rfl) (by kernel_rfl) (by kernel_rfl) (by kernel_rfl) (fun _ _ _ h => h) (Or.inl ⟨by rfl, fun w' hT => by obtain ⟨h1, h2, h3⟩ := hT; go_simp⟩) (SV.out _ bB2) ?_
                simp only [Act.put, List.setIfInBounds_toArray, List.set_cons_zero, List.set_cons_succ]
                refine T_take (i := 14) (L := 15) (oi := { dst := some 56, op := Op.fieldAddr 47 (Operand.tmp 6) 3, type := 0, pos := "law.go:46", after := #[{ on := 0, ground := Ground.phase }, { on := 1, ground := Ground.phase }, { on := 2, ground := Ground.phase }, { on := 3, ground := Ground.phase }, { on := 4, ground := Ground.phase }, { on := 5, ground := Ground.phase }, { on := 6, ground := Ground.phase }, { on := 7, ground := Ground.phase }, { on := 8, ground := Ground.phase }, { on := 9, ground := Ground.phase }, { on := 10, ground := Ground.phase }, { on := 11, ground := Ground.phase }, { on := 12, ground := Ground.phase }, { on := 13, ground := Ground.phase }], guard := none }) (oL := { dst := none, op := Op.store 35 (Operand.tmp 56) (Operand.tmp 55), type := 0, pos := "law.go:46", after := #[{ on := 14, ground := Ground.data }, { on := 13, ground := Ground.data }, { on := 5, ground := Ground.chain }, { on := 0, ground := Ground.phase }, { on := 1, ground := Ground.phase }, { on := 2, ground := Ground.phase }, { on := 3, ground := Ground.phase }, { on := 4, ground := Ground.phase }, { on := 5, ground := Ground.phase }, { on := 6, ground := Ground.phase }, { on := 7, ground := Ground.phase }, { on := 8, ground := Ground.phase }, { on := 9, ground := Ground.phase }, { on := 10, ground := Ground.phase }, { on := 11, ground := Ground.phase }, { on := 12, ground := Ground.phase }, { on := 13, ground := Ground.phase }], guard := none }) (v := .pointer (some ⟨b6, 3, none⟩)) rfl rfl (by kernel_rfl) (by kernel_rfl) (by kernel_rfl) (by kernel_rfl) (fun _ _ _ h => h) (Or.inl ⟨by rfl, fun w' hT => by obtain ⟨h1, h2, h3⟩ := hT; go_simp⟩) (SV.out _ bB2) ?_
                simp only [Act.put, List.setIfInBounds_toArray, List.set_cons_zero, List.set_cons_succ]
                refine T_ready (rs := [15]) (by kernel_rfl) (by simp) ?_
                intro i hi
                simp only [List.mem_cons, List.not_mem_nil, or_false] at hi
                subst hi
                refine T_skip (o := { dst := none, op := Op.store 35 (Operand.tmp 56) (Operand.tmp 55), type := 0, pos := "law.go:46", after := #[{ on := 14, ground := Ground.data }, { on := 13, ground := Ground.data }, { on := 5, ground := Ground.chain }, { on := 0, ground := Ground.phase }, { on := 1, ground := Ground.phase }, { on := 2, ground := Ground.phase }, { on := 3, ground := Ground.phase }, { on := 4, ground := Ground.phase }, { on := 5, ground := Ground.phase }, { on := 6, ground := Ground.phase }, { on := 7, ground := Ground.phase }, { on := 8, ground := Ground.phase }, { on := 9, ground := Ground.phase }, { on := 10, ground := Ground.phase }, { on := 11, ground := Ground.phase }, { on := 12, ground := Ground.phase }, { on := 13, ground := Ground.phase }], guard := none }) (w' := w2b.setCell ⟨b6, 3, none⟩ (.slice (some ⟨G2b, 0, none⟩) SL.length e2b)) rfl rfl (by go_simp) ⟨fun h => absurd rfl h, ?_⟩
                simp only [Act.put]
                refine T_done (by kernel_rfl) ?_ _
                go_wp2
                go_meet
                case rel => exact ⟨rfl, HFin.out.2.1.2⟩
            · refine T_op (o := { dst := some 46, op := Op.buildSlice 35 1 #[(0, Operand.const (Value.int IntKind.i64 77))], type := 35, pos := "law.go:46", after := #[], guard := none }) (v := .slice (some ⟨X1.heap.size, 0, none⟩) 1 1) (w' := (X1.alloc (.cells #[.int .i64 77] 45)).drew) rfl rfl (by first | rfl | kernel_rfl) ⟨fun _ => SV.out _ hA0.out.2.1, ?_⟩
              simp only [Act.put, List.setIfInBounds_toArray, List.set_cons_zero, List.set_cons_succ]
              refine T_ready (rs := [0]) (by kernel_rfl) (by simp) ?_
              intro i hi
              simp only [List.mem_cons, List.not_mem_nil, or_false] at hi
              subst hi
              refine T_op (o := { dst := some 42, op := Op.buildSlice 35 0 #[], type := 35, pos := "law.go:46", after := #[], guard := none }) (v := .slice (some ⟨X1.heap.size + 1, 0, none⟩) 0 0) (w' := ((X1.alloc (.cells #[.int .i64 77] 45)).alloc (.cells #[] 45)).drew) rfl rfl (by first | (simp [go_sem, execOp]; done) | rfl | kernel_rfl) ⟨fun _ => SV.out _ hA0.out.2.2.2, ?_⟩
              simp only [Act.put, List.setIfInBounds_toArray, List.set_cons_zero, List.set_cons_succ]
              refine T_ready (rs := [3]) (by kernel_rfl) (by simp) ?_
              intro i hi
              simp only [List.mem_cons, List.not_mem_nil, or_false] at hi
              subst hi
              refine T_op (o := { dst := some 45, op := Op.call { callee := Callee.builtin Builtin.append, args := #[Operand.tmp 42, Operand.tmp 44], argTypes := #[35, 35] }, type := 35, pos := "law.go:46", after := #[{ on := 0, ground := Ground.data }, { on := 2, ground := Ground.data }], guard := none }) (v := .slice (some ⟨G1c, 0, none⟩) SL.length e1c) (w' := w1c) rfl rfl (run_apr (.tmp 42) (.tmp 44) 35 rfl rfl _ _ rfl rfl rC1) ⟨fun _ => SV.out _ bC1, ?_⟩
              simp only [Act.put, List.setIfInBounds_toArray, List.set_cons_zero, List.set_cons_succ]
              refine T_ready (rs := [5]) (by kernel_rfl) (by simp) ?_
              intro i hi
              simp only [List.mem_cons, List.not_mem_nil, or_false] at hi
              subst hi
              refine T_op (o := { dst := some 47, op := Op.call { callee := Callee.builtin Builtin.append, args := #[Operand.tmp 45, Operand.tmp 46], argTypes := #[35, 35] }, type := 35, pos := "law.go:46", after := #[{ on := 3, ground := Ground.data }, { on := 4, ground := Ground.data }, { on := 3, ground := Ground.chain }], guard := none }) (v := .slice (some ⟨G2c, 0, none⟩) (SL.length + 1) e2c) (w' := w2c) rfl rfl (run_apr (.tmp 45) (.tmp 46) 35 rfl rfl _ _ rfl rfl rC2) ⟨fun _ => SV.out _ bC2, ?_⟩
              simp only [Act.put, List.setIfInBounds_toArray, List.set_cons_zero, List.set_cons_succ]
              refine T_take (i := 13) (L := 15) (oi := { dst := some 55, op := Op.slice 35 (Operand.tmp 47) none (some (Operand.tmp 54)) none, type := 35, pos := "law.go:46", after := #[{ on := 5, ground := Ground.data }, { on := 12, ground := Ground.data }], guard := none }) (oL := { dst := none, op := Op.store 35 (Operand.tmp 56) (Operand.tmp 55), type := 0, pos := "law.go:46", after := #[{ on := 14, ground := Ground.data }, { on := 13, ground := Ground.data }, { on := 5, ground := Ground.chain }, { on := 0, ground := Ground.phase }, { on := 1, ground := Ground.phase }, { on := 2, ground := Ground.phase }, { on := 3, ground := Ground.phase }, { on := 4, ground := Ground.phase }, { on := 5, ground := Ground.phase }, { on := 6, ground := Ground.phase }, { on := 7, ground := Ground.phase }, { on := 8, ground := Ground.phase }, { on := 9, ground := Ground.phase }, { on := 10, ground := Ground.phase }, { on := 11, ground := Ground.phase }, { on := 12, ground := Ground.phase }, { on := 13, ground := Ground.phase }], guard := none }) (v := .slice (some ⟨G2c, 0, none⟩) SL.length e2c) rfl rfl (by kernel_rfl) (by kernel_rfl) (by kernel_rfl) (by kernel_rfl) (fun _ _ _ h => h) (Or.inl ⟨by rfl, fun w' hT => by obtain ⟨h1, h2, h3⟩ := hT; go_simp⟩) (SV.out _ bC2) ?_
              simp only [Act.put, List.setIfInBounds_toArray, List.set_cons_zero, List.set_cons_succ]
              refine T_take (i := 14) (L := 15) (oi := { dst := some 56, op := Op.fieldAddr 47 (Operand.tmp 6) 3, type := 0, pos := "law.go:46", after := #[{ on := 0, ground := Ground.phase }, { on := 1, ground := Ground.phase }, { on := 2, ground := Ground.phase }, { on := 3, ground := Ground.phase }, { on := 4, ground := Ground.phase }, { on := 5, ground := Ground.phase }, { on := 6, ground := Ground.phase }, { on := 7, ground := Ground.phase }, { on := 8, ground := Ground.phase }, { on := 9, ground := Ground.phase }, { on := 10, ground := Ground.phase }, { on := 11, ground := Ground.phase }, { on := 12, ground := Ground.phase }, { on := 13, ground := Ground.phase }], guard := none }) (oL := { dst := none, op := Op.store 35 (Operand.tmp 56) (Operand.tmp 55), type := 0, pos := "law.go:46", after := #[{ on := 14, ground := Ground.data }, { on := 13, ground := Ground.data }, { on := 5, ground := Ground.chain }, { on := 0, ground := Ground.phase }, { on := 1, ground := Ground.phase }, { on := 2, ground := Ground.phase }, { on := 3, ground := Ground.phase }, { on := 4, ground := Ground.phase }, { on := 5, ground := Ground.phase }, { on := 6, ground := Ground.phase }, { on := 7, ground := Ground.phase }, { on := 8, ground := Ground.phase }, { on := 9, ground := Ground.phase }, { on := 10, ground := Ground.phase }, { on := 11, ground := Ground.phase }, { on := 12, ground := Ground.phase }, { on := 13, ground := Ground.phase }], guard := none }) (v := .pointer (some ⟨b6, 3, none⟩)) rfl rfl (by kernel_rfl) (by kernel_rfl) (by kernel_rfl) (by kernel_rfl) (fun _ _ _ h => h) (Or.inl ⟨by rfl, fun w' hT => by obtain ⟨h1, h2, h3⟩ := hT; go_simp⟩) (SV.out _ bC2) ?_
              simp only [Act.put, List.setIfInBounds_toArray, List.set_cons_zero, List.set_cons_succ]
              refine T_ready (rs := [15]) (by kernel_rfl) (by simp) ?_
              intro i hi
              simp only [List.mem_cons, List.not_mem_nil, or_false] at hi
              subst hi
              refine T_skip (o := { dst := none, op := Op.store 35 (Operand.tmp 56) (Operand.tmp 55), type := 0, pos := "law.go:46", after := #[{ on := 14, ground := Ground.data }, { on := 13, ground := Ground.data }, { on := 5, ground := Ground.chain }, { on := 0, ground := Ground.phase }, { on := 1, ground := Ground.phase }, { on := 2, ground := Ground.phase }, { on := 3, ground := Ground.phase }, { on := 4, ground := Ground.phase }, { on := 5, ground := Ground.phase }, { on := 6, ground := Ground.phase }, { on := 7, ground := Ground.phase }, { on := 8, ground := Ground.phase }, { on := 9, ground := Ground.phase }, { on := 10, ground := Ground.phase }, { on := 11, ground := Ground.phase }, { on := 12, ground := Ground.phase }, { on := 13, ground := Ground.phase }], guard := none }) (w' := w2c.setCell ⟨b6, 3, none⟩ (.slice (some ⟨G2c, 0, none⟩) SL.length e2c)) rfl rfl (by go_simp) ⟨fun h => absurd rfl h, ?_⟩
              simp only [Act.put]
              refine T_done (by kernel_rfl) ?_ _
              go_wp2
              go_meet
              case rel => exact ⟨rfl, HFin.out.2.2.2⟩
          case rest =>
            obtain ⟨rfl, h1⟩ := hcut
            obtain ⟨gs, cs, ti, fb, so⟩ := h1.out
            have HJ : Hid (TwI w wc d1 d2 d3 iq eq tq ia ea ta gi ci gt ct c u4 j Es' ∧ wc.ownsRow w.heap.size 45 1 (.slice (some ⟨gs, 0, none⟩) (SL.length + 1) cs) (SL.length + 1) (sv SL ++ [.int .i64 77])) := ⟨ti, so⟩
            have q0 := (fb.cell 0 _ rfl).1
            have q1 := (fb.cell 1 _ rfl).1
            have q2 := (fb.cell 2 _ rfl).1
            have q3 := (fb.cell 3 _ rfl).1
            have q4 := (fb.cell 4 _ rfl).1
            have hj2 : (j + 1) * 64 ≤ 140737488355328 := by omega
            have hown := ti.e
            have hbw := ti.s.b.size
            clear h1 ti fb so HI1 x1' r3'
            go_wp2_with (first
              | (at_builtin; refine wpList_appV 23 47 _ 5 64 Tryd.underlying23 infoTwE rfl (by decide) (by decide) (by rfl) _ _ (by rfl) w.heap.size u4 j (Es'.flatMap ec) (by rfl) hown #[.string nm, .int .i64 st, .int .i64 pr, .slice (some ⟨gs, 0, none⟩) SL.length cs, .int .i64 rs] rfl (by simp [Value.oneCell']) (by rfl) hj2 hbw ?_; rintro v4 W4 ho4 hg4)
              | fail)
            have HN : Hid (TwI w W4 d1 d2 d3 iq eq tq ia ea ta gi ci gt ct c v4 (j + 1) (Es' ++ [(⟨nm, st, pr, SL, rs⟩, some ⟨gs, 0, none⟩, cs)])) := HJ.out.1.more hlt He.out HJ.out.2 ho4.out hg4.out.1
            exact ⟨⟨j + 1, _, by omega, by go_num, HN⟩, by simp [intOf]; omega⟩
        · obtain rfl : j = c.ens.length := by omega
          have i1 : ¬ ((c.ens.length : Int) < (c.ens.length : Int)) := by omega
          clear hj hlt
          have hj2 : (c.ens.length + 1) * 64 ≤ 140737488355328 := by omega
          have bS : Below wr.heap.size wr (wr.alloc (.cells #[.string spT, .int .i64 0, .int .i64 0, .slice none 0 0, .int .i64 0] 47)).drew := ((Below.refl _ wr).alloc (Nat.le_refl _) _).drew
          obtain ⟨v2, w2, rE, oE, gE⟩ := app_anyW (P := Tryd.prog) 23 23 _ 64 Tryd.underlying23 infoTwE rfl (by decide) (by decide) u4 c.ens.length (Es'.flatMap ec) (own_next HI.out.e bS) wr.heap.size [.string spT, .int .i64 0, .int .i64 0, .slice none 0 0, .int .i64 0] rfl (by simp [Value.oneCell']) (fun j u hu => by
            rw [Nat.zero_add]
            have e := World.alloc_heap_new wr (.cells #[.string spT, .int .i64 0, .int .i64 0, .slice none 0 0, .int .i64 0] 47)
            show (wr.alloc (.cells #[.string spT, .int .i64 0, .int .i64 0, .slice none 0 0, .int .i64 0] 47)).cell? _ = _
            simp only [World.cell?, e]
            simpa using hu) hj2 (Nat.le_trans HI.out.s.b.size bS.size)
          obtain ⟨G, cp, rfl, hcp⟩ : ∃ G cp, v2 = .slice (some ⟨G, 0, none⟩) (c.ens.length + 1) cp ∧ c.ens.length + 1 ≤ cp := by
            rcases oE.2 with ⟨-, q⟩ | ⟨G, cp, cur, q, -, -, q3, -⟩
            · cases q
            · exact ⟨G, cp, q, q3⟩
          have HL : Hid (TwF w w2 gi ci G cp gt ct Es' c ∧ TwS w w2 d1 d2 d3 (.slice iq c.ins.length ia) (.slice eq c.ens.length ea) (.slice tq c.txs.length ta) (.int .i64 c.main) (.slice (some ⟨gi, 0, none⟩) c.ins.length ci) (.slice eq c.ens.length ea) (.slice (some ⟨gt, 0, none⟩) c.txs.length ct)) := HI.out.last oE gE
          have sl := cut_run (t := 23) Tryd.underlying23 sz_en ⟨G, 0, none⟩ (c.ens.length + 1) cp c.ens.length (by omega)
          have kE : Kp (fun x => x = d3 ∨ u4.ownBlock = some x) wr w2 := (Kp.of bS).trans ((Kp.refl (fun x => x = d3 ∨ u4.ownBlock = some x) _).grown gE fun k hk => .inl (.inr hk)) fun _ _ q => q
          obtain ⟨q1, q2⟩ := HL.out.2.d.cell 1 _ rfl
          have SV : Hid (∀ w' : World, Kp (fun x => x = d3 ∨ u4.ownBlock = some x) wr w' → w'.cell? ⟨d1, 1, none⟩ = some (.slice eq c.ens.length ea) ∧ Kp (fun x => x = d3 ∨ u4.ownBlock = some x) wr w') := fun w' hb => ⟨(Full.cell (show Full w' d1 26 _ from (hb.block _ HI.out.s.x.lt fun q => q.elim HI.out.s.ne.1 fun q => own_ne HI.out.e (Blk.le ⟨_, HI.out.s.x, Nat.le_refl _⟩ (Nat.zero_le _)) (by decide) q).trans HI.out.s.x) 1 _ rfl).1, hb⟩
          clear oE gE hcp
          go_wp2_with fail
          go_region_held3 (fun w' => w'.cell? ⟨d1, 1, none⟩ = some (.slice eq c.ens.length ea) ∧ Kp (fun x => x = d3 ∨ u4.ownBlock = some x) wr w') (exact SV.out _ (by first | with_reducible exact kE | with_reducible exact Kp.of bS | exact Kp.of (Below.refl _ wr).drew | exact kE.setCell (p := ⟨d3, 1, none⟩) (.inl (.inl rfl)) _))
            (first
            | ((with_reducible refine step_apr ?_ (.tmp 62) (.tmp 64) 23 ?_ ?_ _ _ rE ?_ ?_ ?_); rfl; rfl; rfl; rfl; rfl)
            | fail)
          have HF : Hid (TwF w (w2.setCell ⟨d3, 1, none⟩ (.slice (some ⟨G, 0, none⟩) c.ens.length cp)) gi ci G cp gt ct Es' c ∧ TwS w (w2.setCell ⟨d3, 1, none⟩ (.slice (some ⟨G, 0, none⟩) c.ens.length cp)) d1 d2 d3 (.slice iq c.ins.length ia) (.slice eq c.ens.length ea) (.slice tq c.txs.length ta) (.int .i64 c.main) (.slice (some ⟨gi, 0, none⟩) c.ins.length ci) (.slice (some ⟨G, 0, none⟩) c.ens.length cp) (.slice (some ⟨gt, 0, none⟩) c.txs.length ct)) := ⟨HL.out.1.set HL.out.2.d HL.out.2.l.2.2 1 _, HL.out.2.set1 _⟩
          clear SV HL q1 q2 rE kE
          generalize w2.setCell ⟨d3, 1, none⟩ (.slice (some ⟨G, 0, none⟩) c.ens.length cp) = W2 at *
          have y0 := (HF.out.2.d.cell 0 _ rfl).1
          have y1 := (HF.out.2.d.cell 1 _ rfl).1
          have y2 := (HF.out.2.d.cell 2 _ rfl).1
          have y3 := (HF.out.2.d.cell 3 _ rfl).1
          obtain ⟨z0, f0⟩ := HF.out.2.r.cell 0 _ rfl
          obtain ⟨z1, f1⟩ := HF.out.2.r.cell 1 _ rfl
          obtain ⟨z2, f2⟩ := HF.out.2.r.cell 2 _ rfl
          obtain ⟨z3, f3⟩ := HF.out.2.r.cell 3 _ rfl
          obtain ⟨HT, HQ⟩ := HF.out.1.told HF.out.2.r HF.out.2.l.2.1 (.slice (some ⟨gi, 0, none⟩) c.ins.length ci) (.slice (some ⟨G, 0, none⟩) c.ens.length cp) (.slice (some ⟨gt, 0, none⟩) c.txs.length ct) (.int .i64 c.main)
          have HT2 : Hid (TwF w _ gi ci G cp gt ct Es' c) := HT
          have p0 := (HQ.cell 0 _ rfl).1
          have p1 := (HQ.cell 1 _ rfl).1
          have p2 := (HQ.cell 2 _ rfl).1
          have p3 := (HQ.cell 3 _ rfl).1
          clear HT HQ
          go_wp2
          exact bodyPost_ret (v := .agg #[.slice (some ⟨gi, 0, none⟩) c.ins.length ci, .slice (some ⟨G, 0, none⟩) c.ens.length cp, .slice (some ⟨gt, 0, none⟩) c.txs.length ct, .int .i64 c.main]) (by simp [results, Tryd.results9, go_sem, p0, p1, p2, p3]) rfl ⟨gi, ci, G, cp, gt, ct, Es', rfl, HT2.out⟩
end
end Go.Proofs.YtdcaonfnhdjibaaDoor
