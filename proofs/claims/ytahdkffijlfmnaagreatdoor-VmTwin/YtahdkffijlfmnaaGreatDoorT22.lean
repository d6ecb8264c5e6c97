import Derived.Test.YtahdkffijlfmnaaGreatDoorT21
namespace Go.Proofs.YtahdkffijlfmnaaGreatDoor
open Go.RowKit
open Hp (V vc vcs)
def DoY (w w' : World) (g : Nat) (K : Cg) (L : List Fm) (fv ov : Value) (F Q : Nat → Prop) (gf o : Nat) (z : Ending) (R : Except Int (Ms × Yd)) : Prop :=
  match R with
  | .error t => z = .returned (.tuple #[ydV yd0, .int .i64 t]) ∧ TopT w w' gf o
  | .ok r => z = .returned (.tuple #[ydV r.2, .int .i64 0]) ∧ WentM w w' g K r.1 L fv ov F Q
theorem Now.splitD {w0 w : World} {g : Nat} {K : Cg} {S : Ms} {L0 : List Fm} {ov : Value} {F Q : Nat → Prop} {gf cap n : Nat} {m : Fm} (h : Now w0 w g K L0 ov F Q gf cap n S m) : ∃ L2, (∀ b, foot L2 (.slice (some ⟨gf, 0, none⟩) (n + 1) cap) ov F b → b < w.heap.size) ∧ foot L2 (.slice (some ⟨gf, 0, none⟩) (n + 1) cap) ov F gf ∧ ∀ W, Below w.heap.size w W → Now W W g K L2 ov F Q gf cap n S m ∧ Mid w0 W g K L0 S L2 (.slice (some ⟨gf, 0, none⟩) (n + 1) cap) ov F Q gf (n * 4) := by
  obtain ⟨L2, hT, k⟩ := h
  refine ⟨L2, fun b hb => hT.h.lt b (.inl hb), .inr (.inl (hT.h.fob (by have := hT.hn; omega))), fun W b => ?_⟩
  have hTW : TopM W g K S L2 ov F Q gf cap n m := ⟨hT.h.next b, hT.hn, hT.hm, hT.hb, hT.hs⟩
  exact ⟨hTW.now, k.next b⟩
theorem DoR.kp {w w' : World} {g : Nat} {K : Cg} {L : List Fm} {fv ov : Value} {F Q : Nat → Prop} {gf o : Nat} {z : Ending} {R : Except Int Ms} (h : DoR w w' g K L fv ov F Q gf o z R) (hg : foot L fv ov F gf) : Kp (foot L fv ov F) w w' := by
  cases R with
  | error t => exact ⟨h.2.kp.os, h.2.kp.tape, h.2.kp.output, h.2.kp.size, fun b hb hn => h.2.kp.block b hb fun q => hn (q ▸ hg)⟩
  | ok S =>
    obtain ⟨-, L', fv', ov', F', -, -, k⟩ := h
    exact k
theorem DoR.yd {w w' : World} {g : Nat} {K : Cg} {L : List Fm} {fv ov : Value} {F Q : Nat → Prop} {gf o : Nat} {z z' : Ending} {t : Int} {R : Except Int Ms} (h : DoR w w' g K L fv ov F Q gf o z R) (hz : z = .returned (.int .i64 t)) (hz' : z' = .returned (.tuple #[ydV yd0, .int .i64 t])) : DoY w w' g K L fv ov F Q gf o z' (plainYd R) := by
  cases R with
  | error t' =>
    have h1 := h.1
    rw [hz] at h1
    cases h1
    exact ⟨hz', h.2⟩
  | ok S =>
    have h1 := h.1
    rw [hz] at h1
    cases h1
    exact ⟨hz', h.2⟩
def VOk (v : V) : Prop := v.2.2.size ≤ 256 ∧ I64 v.2.1
structure DoOk (K : Cg) (S : Ms) (n : Nat) (m : Fm) (i : Nat) : Prop where
  fn : FnOk K m.f i
  st : ∀ v ∈ m.f.st, VOk v
  sl : ∀ v ∈ m.f.sl, VOk v
  ln : m.f.sl.length = (K.Es[i]'fn.2.1).1.sorts.length
  ss : ∀ f ∈ S.fs, f.st.length ≤ 400
  ps : ∀ E ∈ K.Es, 0 ≤ E.1.params ∧ E.1.params ≤ 8 ∧ E.1.params ≤ (E.1.sorts.length : Int) ∧ E.1.sorts.length ≤ 250
  rd : S.rd ≤ K.inp.length
  inp : K.inp.length ≤ 1000000
  out : S.out.length ≤ 900000000
  nn : n ≤ 100000
theorem last_mem {l : List V} (h : 0 < l.length) : lastV l ∈ l := by
  rw [last_app h]
  simp [← last_app h]
  unfold lastV
  have hne : l ≠ [] := by rintro rfl; simp at h
  rw [List.getLastD_eq_getLast?, List.getLast?_eq_some_getLast hne]
  exact List.getLast_mem hne
theorem drop_mem {l : List V} {v : V} (h : v ∈ l.dropLast) : v ∈ l := List.dropLast_subset l h
theorem VOk.sz {v : V} (h : VOk v) : v.2.2.size ≤ 9223372036854775807 := by have := h.1; omega
theorem GloM.mid {w W : World} {g : Nat} {K : Cg} {S : Ms} {L L2 : List Fm} {fv ov : Value} {F Q : Nat → Prop} {gf o : Nat} (h : GloM w L fv ov F) (b : Below w.heap.size w W) (k : Mid w W g K L S L2 fv ov F Q gf o) : GloM W L2 fv ov F := ⟨h.1.next b, fun x hx q => by
  rcases k.ft x q with r | r
  · exact h.2 x hx r
  · have := h.1.tabs.size
    omega⟩
theorem set_self {w : World} {g j : Nat} {C : Array Value} {t : TypeId} (h : w.heap[g]? = some (.cells C t)) (v : Value) (hv : C[j]? = some v) : w.setCell ⟨g, j, none⟩ v = w := by
  have hC : C.set! j v = C := by
    apply Array.ext'
    rw [Array.set!_eq_setIfInBounds]
    apply List.ext_getElem?
    intro k
    simp only [Array.toList_setIfInBounds, List.getElem?_set, Array.getElem?_toList]
    split
    · rename_i e
      subst e
      rw [hv]
      split
      · rfl
      · rename_i hl
        rw [Array.getElem?_eq_none (by simpa using hl)] at hv
        cases hv
    · rfl
  have hh : (w.setCell ⟨g, j, none⟩ v).heap = w.heap := by
    apply Array.ext'
    apply List.ext_getElem?
    intro k
    rw [Array.getElem?_toList, Array.getElem?_toList]
    by_cases hk : k = g
    · subst hk
      rw [set_blk h v, hC, h]
    · exact set_heap (a := ⟨g, j, none⟩) hk
  have : w.setCell ⟨g, j, none⟩ v = { w with heap := (w.setCell ⟨g, j, none⟩ v).heap } := rfl
  rw [this, hh]
theorem five_self {w : World} {B : Nat} {t : TypeId} {a b c d e : Value} (h : Full w B t [a, b, c, d, e]) : ((((w.setCell ⟨B, 0, none⟩ a).setCell ⟨B, 1, none⟩ b).setCell ⟨B, 2, none⟩ c).setCell ⟨B, 3, none⟩ d).setCell ⟨B, 4, none⟩ e = w := by
  rw [set_self h a rfl, set_self h b rfl, set_self h c rfl, set_self h d rfl, set_self h e rfl]
theorem ret_do {w : World} {B : Nat} {t : TypeId} {a b c d e : Value} {tr : Int} {tm : Array Value} (h : Full w B t [a, b, c, d, e]) (h2 : tm[4]?.getD undef = .pointer (some ⟨B, 0, none⟩)) (h3 : tm[5]?.getD undef = .int .i64 tr) :
    (results Tryz.f54 tm).run Tryz.prog w = .ok (.tuple #[.agg #[a, b, c, d, e], .int .i64 tr]) w := by
  simp [results, Tryz.results54, go_sem, h2, h3, (h.cell 0 a rfl).1, (h.cell 1 b rfl).1, (h.cell 2 c rfl).1, (h.cell 3 d rfl).1, (h.cell 4 e rfl).1]
set_option maxRecDepth 100000 in
set_option maxHeartbeats 4000000 in
theorem do_1 {w : World} {g : Nat} {K : Cg} {S : Ms} {L : List Fm} {ov : Value} {F Q : Nat → Prop} {gf cap n : Nat} {m : Fm} (h : Now w w g K L ov F Q gf cap n S m) (hG : GloM w L (.slice (some ⟨gf, 0, none⟩) (n + 1) cap) ov F) {i : Nat} (d : DoOk K S n m i) (a : Int) (b : Int) :
    Calls Tryz.prog 54 #[.pointer (some ⟨g, 0, none⟩), .agg #[.int .i64 1, .int .i64 a, .int .i64 b]] w fun z w' => Hid (DoY w w' g K L (.slice (some ⟨gf, 0, none⟩) (n + 1) cap) ov F Q gf (n * 4) z (plainYd (doPush S n m.f (1, a, Hp.e0)))) := by
  have _u1 := hG
  have _u2 := d
  have bW : Below w.heap.size w ((w.alloc (.cells #[.int .i64 1, .int .i64 a, .int .i64 b] 86)).alloc (.cells #[.int .i64 0, .bool false, .int .i64 0, .int .i64 0, .string Hp.e0] 54)) := ((Below.refl _ w).alloc (Nat.le_refl _) _).alloc (by simp) _
  have fY : Full ((w.alloc (.cells #[.int .i64 1, .int .i64 a, .int .i64 b] 86)).alloc (.cells #[.int .i64 0, .bool false, .int .i64 0, .int .i64 0, .string Hp.e0] 54)) (w.heap.size + 1) 54 [.int .i64 0, .bool false, .int .i64 0, .int .i64 0, .string Hp.e0] := by
    have := Full.new (w.alloc (.cells #[.int .i64 1, .int .i64 a, .int .i64 b] 86)) #[.int .i64 0, .bool false, .int .i64 0, .int .i64 0, .string Hp.e0] 54
    rw [World.size_alloc] at this
    exact this
  obtain ⟨L2, hlt, hgf, hsp⟩ := h.splitD
  obtain ⟨hN, hMid⟩ := hsp _ bW
  have HK : Hid (∀ w' z R, DoR ((w.alloc (.cells #[.int .i64 1, .int .i64 a, .int .i64 b] 86)).alloc (.cells #[.int .i64 0, .bool false, .int .i64 0, .int .i64 0, .string Hp.e0] 54)) w' g K L2 (.slice (some ⟨gf, 0, none⟩) (n + 1) cap) ov F Q gf (n * 4) z R → Full w' (w.heap.size + 1) 54 [.int .i64 0, .bool false, .int .i64 0, .int .i64 0, .string Hp.e0] ∧ DoR w w' g K L (.slice (some ⟨gf, 0, none⟩) (n + 1) cap) ov F Q gf (n * 4) z R) := fun w' z R q => ⟨((q.kp hgf).block _ fY.lt fun r => by have := hlt _ r; omega).trans fY, DoR.after hMid q⟩
  have d1 := doInt_any hN a
  generalize hR : (doPush S n m.f (1, a, Hp.e0)) = R at d1 ⊢
  clear _u1 _u2 hN hMid hsp hlt hgf fY bW h hG d hR
  go_enter Tryz.func54, Tryz.ntmps54
  go_wp2_with (first
    | (go_at_call 74; refine d1.mono ?_; intro z1 w1 H1; obtain ⟨t1, e1⟩ := DoR.ret H1.out; subst e1; clear d1; obtain ⟨fY1, HD⟩ := HK.out _ _ _ H1.out; obtain ⟨y0, g0⟩ := fY1.cell 0 _ rfl; obtain ⟨y1, g1⟩ := fY1.cell 1 _ rfl; obtain ⟨y2, g2⟩ := fY1.cell 2 _ rfl; obtain ⟨y3, g3⟩ := fY1.cell 3 _ rfl; obtain ⟨y4, g4⟩ := fY1.cell 4 _ rfl)
    | fail)
  rw [five_self fY1]
  refine bodyPost_ret (ret_do fY1 rfl rfl) rfl ?_
  exact DoR.yd HD rfl rfl
set_option maxRecDepth 100000 in
set_option maxHeartbeats 4000000 in
theorem do_2 {w : World} {g : Nat} {K : Cg} {S : Ms} {L : List Fm} {ov : Value} {F Q : Nat → Prop} {gf cap n : Nat} {m : Fm} (h : Now w w g K L ov F Q gf cap n S m) (hG : GloM w L (.slice (some ⟨gf, 0, none⟩) (n + 1) cap) ov F) {i : Nat} (d : DoOk K S n m i) (a : Int) (b : Int) :
    Calls Tryz.prog 54 #[.pointer (some ⟨g, 0, none⟩), .agg #[.int .i64 2, .int .i64 a, .int .i64 b]] w fun z w' => Hid (DoY w w' g K L (.slice (some ⟨gf, 0, none⟩) (n + 1) cap) ov F Q gf (n * 4) z (plainYd (doPush S n m.f (2, a, Hp.e0)))) := by
  have _u1 := hG
  have _u2 := d
  have bW : Below w.heap.size w ((w.alloc (.cells #[.int .i64 2, .int .i64 a, .int .i64 b] 86)).alloc (.cells #[.int .i64 0, .bool false, .int .i64 0, .int .i64 0, .string Hp.e0] 54)) := ((Below.refl _ w).alloc (Nat.le_refl _) _).alloc (by simp) _
  have fY : Full ((w.alloc (.cells #[.int .i64 2, .int .i64 a, .int .i64 b] 86)).alloc (.cells #[.int .i64 0, .bool false, .int .i64 0, .int .i64 0, .string Hp.e0] 54)) (w.heap.size + 1) 54 [.int .i64 0, .bool false, .int .i64 0, .int .i64 0, .string Hp.e0] := by
    have := Full.new (w.alloc (.cells #[.int .i64 2, .int .i64 a, .int .i64 b] 86)) #[.int .i64 0, .bool false, .int .i64 0, .int .i64 0, .string Hp.e0] 54
    rw [World.size_alloc] at this
    exact this
  obtain ⟨L2, hlt, hgf, hsp⟩ := h.splitD
  obtain ⟨hN, hMid⟩ := hsp _ bW
  have HK : Hid (∀ w' z R, DoR ((w.alloc (.cells #[.int .i64 2, .int .i64 a, .int .i64 b] 86)).alloc (.cells #[.int .i64 0, .bool false, .int .i64 0, .int .i64 0, .string Hp.e0] 54)) w' g K L2 (.slice (some ⟨gf, 0, none⟩) (n + 1) cap) ov F Q gf (n * 4) z R → Full w' (w.heap.size + 1) 54 [.int .i64 0, .bool false, .int .i64 0, .int .i64 0, .string Hp.e0] ∧ DoR w w' g K L (.slice (some ⟨gf, 0, none⟩) (n + 1) cap) ov F Q gf (n * 4) z R) := fun w' z R q => ⟨((q.kp hgf).block _ fY.lt fun r => by have := hlt _ r; omega).trans fY, DoR.after hMid q⟩
  have d1 := doBool_any hN a
  generalize hR : (doPush S n m.f (2, a, Hp.e0)) = R at d1 ⊢
  clear _u1 _u2 hN hMid hsp hlt hgf fY bW h hG d hR
  go_enter Tryz.func54, Tryz.ntmps54
  go_wp2_with (first
    | (go_at_call 75; refine d1.mono ?_; intro z1 w1 H1; obtain ⟨t1, e1⟩ := DoR.ret H1.out; subst e1; clear d1; obtain ⟨fY1, HD⟩ := HK.out _ _ _ H1.out; obtain ⟨y0, g0⟩ := fY1.cell 0 _ rfl; obtain ⟨y1, g1⟩ := fY1.cell 1 _ rfl; obtain ⟨y2, g2⟩ := fY1.cell 2 _ rfl; obtain ⟨y3, g3⟩ := fY1.cell 3 _ rfl; obtain ⟨y4, g4⟩ := fY1.cell 4 _ rfl)
    | fail)
  rw [five_self fY1]
  refine bodyPost_ret (ret_do fY1 rfl rfl) rfl ?_
  exact DoR.yd HD rfl rfl
set_option maxRecDepth 100000 in
set_option maxHeartbeats 4000000 in
theorem do_3 {w : World} {g : Nat} {K : Cg} {S : Ms} {L : List Fm} {ov : Value} {F Q : Nat → Prop} {gf cap n : Nat} {m : Fm} (h : Now w w g K L ov F Q gf cap n S m) (hG : GloM w L (.slice (some ⟨gf, 0, none⟩) (n + 1) cap) ov F) {i : Nat} (d : DoOk K S n m i) (a : Nat) (b : Int) :
    Calls Tryz.prog 54 #[.pointer (some ⟨g, 0, none⟩), .agg #[.int .i64 3, .int .i64 (a : Int), .int .i64 b]] w fun z w' => Hid (DoY w w' g K L (.slice (some ⟨gf, 0, none⟩) (n + 1) cap) ov F Q gf (n * 4) z (plainYd (doTextS K S n m.f a))) := by
  have _u1 := hG
  have _u2 := d
  have bW : Below w.heap.size w ((w.alloc (.cells #[.int .i64 3, .int .i64 (a : Int), .int .i64 b] 86)).alloc (.cells #[.int .i64 0, .bool false, .int .i64 0, .int .i64 0, .string Hp.e0] 54)) := ((Below.refl _ w).alloc (Nat.le_refl _) _).alloc (by simp) _
  have fY : Full ((w.alloc (.cells #[.int .i64 3, .int .i64 (a : Int), .int .i64 b] 86)).alloc (.cells #[.int .i64 0, .bool false, .int .i64 0, .int .i64 0, .string Hp.e0] 54)) (w.heap.size + 1) 54 [.int .i64 0, .bool false, .int .i64 0, .int .i64 0, .string Hp.e0] := by
    have := Full.new (w.alloc (.cells #[.int .i64 3, .int .i64 (a : Int), .int .i64 b] 86)) #[.int .i64 0, .bool false, .int .i64 0, .int .i64 0, .string Hp.e0] 54
    rw [World.size_alloc] at this
    exact this
  obtain ⟨L2, hlt, hgf, hsp⟩ := h.splitD
  obtain ⟨hN, hMid⟩ := hsp _ bW
  have HK : Hid (∀ w' z R, DoR ((w.alloc (.cells #[.int .i64 3, .int .i64 (a : Int), .int .i64 b] 86)).alloc (.cells #[.int .i64 0, .bool false, .int .i64 0, .int .i64 0, .string Hp.e0] 54)) w' g K L2 (.slice (some ⟨gf, 0, none⟩) (n + 1) cap) ov F Q gf (n * 4) z R → Full w' (w.heap.size + 1) 54 [.int .i64 0, .bool false, .int .i64 0, .int .i64 0, .string Hp.e0] ∧ DoR w w' g K L (.slice (some ⟨gf, 0, none⟩) (n + 1) cap) ov F Q gf (n * 4) z R) := fun w' z R q => ⟨((q.kp hgf).block _ fY.lt fun r => by have := hlt _ r; omega).trans fY, DoR.after hMid q⟩
  have d1 := doText_any hN a
  generalize hR : (doTextS K S n m.f a) = R at d1 ⊢
  clear _u1 _u2 hN hMid hsp hlt hgf fY bW h hG d hR
  go_enter Tryz.func54, Tryz.ntmps54
  go_wp2_with (first
    | (go_at_call 76; refine d1.mono ?_; intro z1 w1 H1; obtain ⟨t1, e1⟩ := DoR.ret H1.out; subst e1; clear d1; obtain ⟨fY1, HD⟩ := HK.out _ _ _ H1.out; obtain ⟨y0, g0⟩ := fY1.cell 0 _ rfl; obtain ⟨y1, g1⟩ := fY1.cell 1 _ rfl; obtain ⟨y2, g2⟩ := fY1.cell 2 _ rfl; obtain ⟨y3, g3⟩ := fY1.cell 3 _ rfl; obtain ⟨y4, g4⟩ := fY1.cell 4 _ rfl)
    | fail)
  rw [five_self fY1]
  refine bodyPost_ret (ret_do fY1 rfl rfl) rfl ?_
  exact DoR.yd HD rfl rfl
set_option maxRecDepth 100000 in
set_option maxHeartbeats 4000000 in
theorem do_4 {w : World} {g : Nat} {K : Cg} {S : Ms} {L : List Fm} {ov : Value} {F Q : Nat → Prop} {gf cap n : Nat} {m : Fm} (h : Now w w g K L ov F Q gf cap n S m) (hG : GloM w L (.slice (some ⟨gf, 0, none⟩) (n + 1) cap) ov F) {i : Nat} (d : DoOk K S n m i) (a : Nat) (b : Int) :
    Calls Tryz.prog 54 #[.pointer (some ⟨g, 0, none⟩), .agg #[.int .i64 4, .int .i64 (a : Int), .int .i64 b]] w fun z w' => Hid (DoY w w' g K L (.slice (some ⟨gf, 0, none⟩) (n + 1) cap) ov F Q gf (n * 4) z (plainYd (doLoadS S n m.f a))) := by
  have _u1 := hG
  have _u2 := d
  have bW : Below w.heap.size w ((w.alloc (.cells #[.int .i64 4, .int .i64 (a : Int), .int .i64 b] 86)).alloc (.cells #[.int .i64 0, .bool false, .int .i64 0, .int .i64 0, .string Hp.e0] 54)) := ((Below.refl _ w).alloc (Nat.le_refl _) _).alloc (by simp) _
  have fY : Full ((w.alloc (.cells #[.int .i64 4, .int .i64 (a : Int), .int .i64 b] 86)).alloc (.cells #[.int .i64 0, .bool false, .int .i64 0, .int .i64 0, .string Hp.e0] 54)) (w.heap.size + 1) 54 [.int .i64 0, .bool false, .int .i64 0, .int .i64 0, .string Hp.e0] := by
    have := Full.new (w.alloc (.cells #[.int .i64 4, .int .i64 (a : Int), .int .i64 b] 86)) #[.int .i64 0, .bool false, .int .i64 0, .int .i64 0, .string Hp.e0] 54
    rw [World.size_alloc] at this
    exact this
  obtain ⟨L2, hlt, hgf, hsp⟩ := h.splitD
  obtain ⟨hN, hMid⟩ := hsp _ bW
  have HK : Hid (∀ w' z R, DoR ((w.alloc (.cells #[.int .i64 4, .int .i64 (a : Int), .int .i64 b] 86)).alloc (.cells #[.int .i64 0, .bool false, .int .i64 0, .int .i64 0, .string Hp.e0] 54)) w' g K L2 (.slice (some ⟨gf, 0, none⟩) (n + 1) cap) ov F Q gf (n * 4) z R → Full w' (w.heap.size + 1) 54 [.int .i64 0, .bool false, .int .i64 0, .int .i64 0, .string Hp.e0] ∧ DoR w w' g K L (.slice (some ⟨gf, 0, none⟩) (n + 1) cap) ov F Q gf (n * 4) z R) := fun w' z R q => ⟨((q.kp hgf).block _ fY.lt fun r => by have := hlt _ r; omega).trans fY, DoR.after hMid q⟩
  have d1 := doLoad_any hN a
  generalize hR : (doLoadS S n m.f a) = R at d1 ⊢
  clear _u1 _u2 hN hMid hsp hlt hgf fY bW h hG d hR
  go_enter Tryz.func54, Tryz.ntmps54
  go_wp2_with (first
    | (go_at_call 77; refine d1.mono ?_; intro z1 w1 H1; obtain ⟨t1, e1⟩ := DoR.ret H1.out; subst e1; clear d1; obtain ⟨fY1, HD⟩ := HK.out _ _ _ H1.out; obtain ⟨y0, g0⟩ := fY1.cell 0 _ rfl; obtain ⟨y1, g1⟩ := fY1.cell 1 _ rfl; obtain ⟨y2, g2⟩ := fY1.cell 2 _ rfl; obtain ⟨y3, g3⟩ := fY1.cell 3 _ rfl; obtain ⟨y4, g4⟩ := fY1.cell 4 _ rfl)
    | fail)
  rw [five_self fY1]
  refine bodyPost_ret (ret_do fY1 rfl rfl) rfl ?_
  exact DoR.yd HD rfl rfl
set_option maxRecDepth 100000 in
set_option maxHeartbeats 4000000 in
theorem do_5 {w : World} {g : Nat} {K : Cg} {S : Ms} {L : List Fm} {ov : Value} {F Q : Nat → Prop} {gf cap n : Nat} {m : Fm} (h : Now w w g K L ov F Q gf cap n S m) (hG : GloM w L (.slice (some ⟨gf, 0, none⟩) (n + 1) cap) ov F) {i : Nat} (d : DoOk K S n m i) (a : Nat) (b : Int) (hw : 1 ≤ m.f.st.length) :
    Calls Tryz.prog 54 #[.pointer (some ⟨g, 0, none⟩), .agg #[.int .i64 5, .int .i64 (a : Int), .int .i64 b]] w fun z w' => Hid (DoY w w' g K L (.slice (some ⟨gf, 0, none⟩) (n + 1) cap) ov F Q gf (n * 4) z (plainYd (doStoreS K S n m.f i d.fn.2.1 a m.f.st.dropLast (lastV m.f.st)))) := by
  have hx1 : m.f.st = m.f.st.dropLast ++ [lastV m.f.st] := last_app (by omega)
  have hv1 : (lastV m.f.st).2.2.size ≤ 9223372036854775807 := (d.st _ (last_mem (by omega))).sz
  have _u1 := hG
  have _u2 := d
  have bW : Below w.heap.size w ((w.alloc (.cells #[.int .i64 5, .int .i64 (a : Int), .int .i64 b] 86)).alloc (.cells #[.int .i64 0, .bool false, .int .i64 0, .int .i64 0, .string Hp.e0] 54)) := ((Below.refl _ w).alloc (Nat.le_refl _) _).alloc (by simp) _
  have fY : Full ((w.alloc (.cells #[.int .i64 5, .int .i64 (a : Int), .int .i64 b] 86)).alloc (.cells #[.int .i64 0, .bool false, .int .i64 0, .int .i64 0, .string Hp.e0] 54)) (w.heap.size + 1) 54 [.int .i64 0, .bool false, .int .i64 0, .int .i64 0, .string Hp.e0] := by
    have := Full.new (w.alloc (.cells #[.int .i64 5, .int .i64 (a : Int), .int .i64 b] 86)) #[.int .i64 0, .bool false, .int .i64 0, .int .i64 0, .string Hp.e0] 54
    rw [World.size_alloc] at this
    exact this
  obtain ⟨L2, hlt, hgf, hsp⟩ := h.splitD
  obtain ⟨hN, hMid⟩ := hsp _ bW
  have HK : Hid (∀ w' z R, DoR ((w.alloc (.cells #[.int .i64 5, .int .i64 (a : Int), .int .i64 b] 86)).alloc (.cells #[.int .i64 0, .bool false, .int .i64 0, .int .i64 0, .string Hp.e0] 54)) w' g K L2 (.slice (some ⟨gf, 0, none⟩) (n + 1) cap) ov F Q gf (n * 4) z R → Full w' (w.heap.size + 1) 54 [.int .i64 0, .bool false, .int .i64 0, .int .i64 0, .string Hp.e0] ∧ DoR w w' g K L (.slice (some ⟨gf, 0, none⟩) (n + 1) cap) ov F Q gf (n * 4) z R) := fun w' z R q => ⟨((q.kp hgf).block _ fY.lt fun r => by have := hlt _ r; omega).trans fY, DoR.after hMid q⟩
  have d1 := doStore_any hN hx1 hv1 d.fn a d.ln
  generalize hR : (doStoreS K S n m.f i d.fn.2.1 a m.f.st.dropLast (lastV m.f.st)) = R at d1 ⊢
  clear _u1 _u2 hN hMid hsp hlt hgf fY bW h hG d hR hx1 hv1 hw
  go_enter Tryz.func54, Tryz.ntmps54
  go_wp2_with (first
    | (go_at_call 78; refine d1.mono ?_; intro z1 w1 H1; obtain ⟨t1, e1⟩ := DoR.ret H1.out; subst e1; clear d1; obtain ⟨fY1, HD⟩ := HK.out _ _ _ H1.out; obtain ⟨y0, g0⟩ := fY1.cell 0 _ rfl; obtain ⟨y1, g1⟩ := fY1.cell 1 _ rfl; obtain ⟨y2, g2⟩ := fY1.cell 2 _ rfl; obtain ⟨y3, g3⟩ := fY1.cell 3 _ rfl; obtain ⟨y4, g4⟩ := fY1.cell 4 _ rfl)
    | fail)
  rw [five_self fY1]
  refine bodyPost_ret (ret_do fY1 rfl rfl) rfl ?_
  exact DoR.yd HD rfl rfl
set_option maxRecDepth 100000 in
set_option maxHeartbeats 4000000 in
theorem do_6 {w : World} {g : Nat} {K : Cg} {S : Ms} {L : List Fm} {ov : Value} {F Q : Nat → Prop} {gf cap n : Nat} {m : Fm} (h : Now w w g K L ov F Q gf cap n S m) (hG : GloM w L (.slice (some ⟨gf, 0, none⟩) (n + 1) cap) ov F) {i : Nat} (d : DoOk K S n m i) (a : Int) (b : Int) (hw : 1 ≤ m.f.st.length) :
    Calls Tryz.prog 54 #[.pointer (some ⟨g, 0, none⟩), .agg #[.int .i64 6, .int .i64 a, .int .i64 b]] w fun z w' => Hid (DoY w w' g K L (.slice (some ⟨gf, 0, none⟩) (n + 1) cap) ov F Q gf (n * 4) z (plainYd (.ok (S.cut n m.f m.f.st.dropLast)))) := by
  have hx1 : m.f.st = m.f.st.dropLast ++ [lastV m.f.st] := last_app (by omega)
  have hv1 : (lastV m.f.st).2.2.size ≤ 9223372036854775807 := (d.st _ (last_mem (by omega))).sz
  have _u1 := hG
  have _u2 := d
  have bW : Below w.heap.size w ((w.alloc (.cells #[.int .i64 6, .int .i64 a, .int .i64 b] 86)).alloc (.cells #[.int .i64 0, .bool false, .int .i64 0, .int .i64 0, .string Hp.e0] 54)) := ((Below.refl _ w).alloc (Nat.le_refl _) _).alloc (by simp) _
  have fY : Full ((w.alloc (.cells #[.int .i64 6, .int .i64 a, .int .i64 b] 86)).alloc (.cells #[.int .i64 0, .bool false, .int .i64 0, .int .i64 0, .string Hp.e0] 54)) (w.heap.size + 1) 54 [.int .i64 0, .bool false, .int .i64 0, .int .i64 0, .string Hp.e0] := by
    have := Full.new (w.alloc (.cells #[.int .i64 6, .int .i64 a, .int .i64 b] 86)) #[.int .i64 0, .bool false, .int .i64 0, .int .i64 0, .string Hp.e0] 54
    rw [World.size_alloc] at this
    exact this
  obtain ⟨L2, hlt, hgf, hsp⟩ := h.splitD
  obtain ⟨hN, hMid⟩ := hsp _ bW
  have HK : Hid (∀ w' z R, DoR ((w.alloc (.cells #[.int .i64 6, .int .i64 a, .int .i64 b] 86)).alloc (.cells #[.int .i64 0, .bool false, .int .i64 0, .int .i64 0, .string Hp.e0] 54)) w' g K L2 (.slice (some ⟨gf, 0, none⟩) (n + 1) cap) ov F Q gf (n * 4) z R → Full w' (w.heap.size + 1) 54 [.int .i64 0, .bool false, .int .i64 0, .int .i64 0, .string Hp.e0] ∧ DoR w w' g K L (.slice (some ⟨gf, 0, none⟩) (n + 1) cap) ov F Q gf (n * 4) z R) := fun w' z R q => ⟨((q.kp hgf).block _ fY.lt fun r => by have := hlt _ r; omega).trans fY, DoR.after hMid q⟩
  have d1 := doPop_any hN hx1
  generalize hR : (Except.ok (S.cut n m.f m.f.st.dropLast) : Except Int Ms) = R at d1 ⊢
  clear _u1 _u2 hN hMid hsp hlt hgf fY bW h hG d hR hx1 hv1 hw
  go_enter Tryz.func54, Tryz.ntmps54
  go_wp2_with (first
    | (go_at_call 79; refine d1.mono ?_; intro z1 w1 H1; obtain ⟨t1, e1⟩ := DoR.ret H1.out; subst e1; clear d1; obtain ⟨fY1, HD⟩ := HK.out _ _ _ H1.out; obtain ⟨y0, g0⟩ := fY1.cell 0 _ rfl; obtain ⟨y1, g1⟩ := fY1.cell 1 _ rfl; obtain ⟨y2, g2⟩ := fY1.cell 2 _ rfl; obtain ⟨y3, g3⟩ := fY1.cell 3 _ rfl; obtain ⟨y4, g4⟩ := fY1.cell 4 _ rfl)
    | fail)
  rw [five_self fY1]
  refine bodyPost_ret (ret_do fY1 rfl rfl) rfl ?_
  exact DoR.yd HD rfl rfl
set_option maxRecDepth 100000 in
set_option maxHeartbeats 4000000 in
theorem do_7 {w : World} {g : Nat} {K : Cg} {S : Ms} {L : List Fm} {ov : Value} {F Q : Nat → Prop} {gf cap n : Nat} {m : Fm} (h : Now w w g K L ov F Q gf cap n S m) (hG : GloM w L (.slice (some ⟨gf, 0, none⟩) (n + 1) cap) ov F) {i : Nat} (d : DoOk K S n m i) (a : Int) (b : Int) (hw : 1 ≤ m.f.st.length) :
    Calls Tryz.prog 54 #[.pointer (some ⟨g, 0, none⟩), .agg #[.int .i64 7, .int .i64 a, .int .i64 b]] w fun z w' => Hid (DoY w w' g K L (.slice (some ⟨gf, 0, none⟩) (n + 1) cap) ov F Q gf (n * 4) z (plainYd (cutPush S n m.f m.f.st.dropLast (vt (Hp.unS a (lastV m.f.st).1 (lastV m.f.st).2.1 (lastV m.f.st).2.2))))) := by
  have hx1 : m.f.st = m.f.st.dropLast ++ [lastV m.f.st] := last_app (by omega)
  have hv1 : (lastV m.f.st).2.2.size ≤ 9223372036854775807 := (d.st _ (last_mem (by omega))).sz
  have _u1 := hG
  have _u2 := d
  have bW : Below w.heap.size w ((w.alloc (.cells #[.int .i64 7, .int .i64 a, .int .i64 b] 86)).alloc (.cells #[.int .i64 0, .bool false, .int .i64 0, .int .i64 0, .string Hp.e0] 54)) := ((Below.refl _ w).alloc (Nat.le_refl _) _).alloc (by simp) _
  have fY : Full ((w.alloc (.cells #[.int .i64 7, .int .i64 a, .int .i64 b] 86)).alloc (.cells #[.int .i64 0, .bool false, .int .i64 0, .int .i64 0, .string Hp.e0] 54)) (w.heap.size + 1) 54 [.int .i64 0, .bool false, .int .i64 0, .int .i64 0, .string Hp.e0] := by
    have := Full.new (w.alloc (.cells #[.int .i64 7, .int .i64 a, .int .i64 b] 86)) #[.int .i64 0, .bool false, .int .i64 0, .int .i64 0, .string Hp.e0] 54
    rw [World.size_alloc] at this
    exact this
  obtain ⟨L2, hlt, hgf, hsp⟩ := h.splitD
  obtain ⟨hN, hMid⟩ := hsp _ bW
  have HK : Hid (∀ w' z R, DoR ((w.alloc (.cells #[.int .i64 7, .int .i64 a, .int .i64 b] 86)).alloc (.cells #[.int .i64 0, .bool false, .int .i64 0, .int .i64 0, .string Hp.e0] 54)) w' g K L2 (.slice (some ⟨gf, 0, none⟩) (n + 1) cap) ov F Q gf (n * 4) z R → Full w' (w.heap.size + 1) 54 [.int .i64 0, .bool false, .int .i64 0, .int .i64 0, .string Hp.e0] ∧ DoR w w' g K L (.slice (some ⟨gf, 0, none⟩) (n + 1) cap) ov F Q gf (n * 4) z R) := fun w' z R q => ⟨((q.kp hgf).block _ fY.lt fun r => by have := hlt _ r; omega).trans fY, DoR.after hMid q⟩
  have d1 := doUn_any hN hx1 hv1 a
  generalize hR : (cutPush S n m.f m.f.st.dropLast (vt (Hp.unS a (lastV m.f.st).1 (lastV m.f.st).2.1 (lastV m.f.st).2.2))) = R at d1 ⊢
  clear _u1 _u2 hN hMid hsp hlt hgf fY bW h hG d hR hx1 hv1 hw
  go_enter Tryz.func54, Tryz.ntmps54
  go_wp2_with (first
    | (go_at_call 80; refine d1.mono ?_; intro z1 w1 H1; obtain ⟨t1, e1⟩ := DoR.ret H1.out; subst e1; clear d1; obtain ⟨fY1, HD⟩ := HK.out _ _ _ H1.out; obtain ⟨y0, g0⟩ := fY1.cell 0 _ rfl; obtain ⟨y1, g1⟩ := fY1.cell 1 _ rfl; obtain ⟨y2, g2⟩ := fY1.cell 2 _ rfl; obtain ⟨y3, g3⟩ := fY1.cell 3 _ rfl; obtain ⟨y4, g4⟩ := fY1.cell 4 _ rfl)
    | fail)
  rw [five_self fY1]
  refine bodyPost_ret (ret_do fY1 rfl rfl) rfl ?_
  exact DoR.yd HD rfl rfl
set_option maxRecDepth 100000 in
set_option maxHeartbeats 4000000 in
theorem do_8 {w : World} {g : Nat} {K : Cg} {S : Ms} {L : List Fm} {ov : Value} {F Q : Nat → Prop} {gf cap n : Nat} {m : Fm} (h : Now w w g K L ov F Q gf cap n S m) (hG : GloM w L (.slice (some ⟨gf, 0, none⟩) (n + 1) cap) ov F) {i : Nat} (d : DoOk K S n m i) (a : Int) (b : Int) (hw : 2 ≤ m.f.st.length) :
    Calls Tryz.prog 54 #[.pointer (some ⟨g, 0, none⟩), .agg #[.int .i64 8, .int .i64 a, .int .i64 b]] w fun z w' => Hid (DoY w w' g K L (.slice (some ⟨gf, 0, none⟩) (n + 1) cap) ov F Q gf (n * 4) z (plainYd (cutPush (S.cut n m.f (m.f.st.dropLast.dropLast ++ [lastV m.f.st.dropLast])) n { m.f with st := m.f.st.dropLast.dropLast ++ [lastV m.f.st.dropLast] } m.f.st.dropLast.dropLast (vt (Hp.binS a (lastV m.f.st.dropLast).1 (lastV m.f.st.dropLast).2.1 (lastV m.f.st.dropLast).2.2 (lastV m.f.st).1 (lastV m.f.st).2.1 (lastV m.f.st).2.2))))) := by
  have hx1 : m.f.st = m.f.st.dropLast ++ [lastV m.f.st] := last_app (by omega)
  have hl1 : m.f.st.dropLast.length = m.f.st.length - 1 := List.length_dropLast
  have hx2 : m.f.st = (m.f.st.dropLast.dropLast ++ [lastV m.f.st.dropLast]) ++ [lastV m.f.st] := by rw [← last_app (l := m.f.st.dropLast) (by omega)]; exact hx1
  have hv1 : (lastV m.f.st).2.2.size ≤ 9223372036854775807 := (d.st _ (last_mem (by omega))).sz
  have hv2 : (lastV m.f.st.dropLast).2.2.size ≤ 9223372036854775807 := (d.st _ (drop_mem (last_mem (by omega)))).sz
  have _u1 := hG
  have _u2 := d
  have bW : Below w.heap.size w ((w.alloc (.cells #[.int .i64 8, .int .i64 a, .int .i64 b] 86)).alloc (.cells #[.int .i64 0, .bool false, .int .i64 0, .int .i64 0, .string Hp.e0] 54)) := ((Below.refl _ w).alloc (Nat.le_refl _) _).alloc (by simp) _
  have fY : Full ((w.alloc (.cells #[.int .i64 8, .int .i64 a, .int .i64 b] 86)).alloc (.cells #[.int .i64 0, .bool false, .int .i64 0, .int .i64 0, .string Hp.e0] 54)) (w.heap.size + 1) 54 [.int .i64 0, .bool false, .int .i64 0, .int .i64 0, .string Hp.e0] := by
    have := Full.new (w.alloc (.cells #[.int .i64 8, .int .i64 a, .int .i64 b] 86)) #[.int .i64 0, .bool false, .int .i64 0, .int .i64 0, .string Hp.e0] 54
    rw [World.size_alloc] at this
    exact this
  obtain ⟨L2, hlt, hgf, hsp⟩ := h.splitD
  obtain ⟨hN, hMid⟩ := hsp _ bW
  have HK : Hid (∀ w' z R, DoR ((w.alloc (.cells #[.int .i64 8, .int .i64 a, .int .i64 b] 86)).alloc (.cells #[.int .i64 0, .bool false, .int .i64 0, .int .i64 0, .string Hp.e0] 54)) w' g K L2 (.slice (some ⟨gf, 0, none⟩) (n + 1) cap) ov F Q gf (n * 4) z R → Full w' (w.heap.size + 1) 54 [.int .i64 0, .bool false, .int .i64 0, .int .i64 0, .string Hp.e0] ∧ DoR w w' g K L (.slice (some ⟨gf, 0, none⟩) (n + 1) cap) ov F Q gf (n * 4) z R) := fun w' z R q => ⟨((q.kp hgf).block _ fY.lt fun r => by have := hlt _ r; omega).trans fY, DoR.after hMid q⟩
  have d1 := doBin_any hN hx2 hv2 hv1 a
  generalize hR : (cutPush (S.cut n m.f (m.f.st.dropLast.dropLast ++ [lastV m.f.st.dropLast])) n { m.f with st := m.f.st.dropLast.dropLast ++ [lastV m.f.st.dropLast] } m.f.st.dropLast.dropLast (vt (Hp.binS a (lastV m.f.st.dropLast).1 (lastV m.f.st.dropLast).2.1 (lastV m.f.st.dropLast).2.2 (lastV m.f.st).1 (lastV m.f.st).2.1 (lastV m.f.st).2.2))) = R at d1 ⊢
  clear _u1 _u2 hN hMid hsp hlt hgf fY bW h hG d hR hx1 hx2 hl1 hv1 hv2 hw
  go_enter Tryz.func54, Tryz.ntmps54
  go_wp2_with (first
    | (go_at_call 81; refine d1.mono ?_; intro z1 w1 H1; obtain ⟨t1, e1⟩ := DoR.ret H1.out; subst e1; clear d1; obtain ⟨fY1, HD⟩ := HK.out _ _ _ H1.out; obtain ⟨y0, g0⟩ := fY1.cell 0 _ rfl; obtain ⟨y1, g1⟩ := fY1.cell 1 _ rfl; obtain ⟨y2, g2⟩ := fY1.cell 2 _ rfl; obtain ⟨y3, g3⟩ := fY1.cell 3 _ rfl; obtain ⟨y4, g4⟩ := fY1.cell 4 _ rfl)
    | fail)
  rw [five_self fY1]
  refine bodyPost_ret (ret_do fY1 rfl rfl) rfl ?_
  exact DoR.yd HD rfl rfl
set_option maxRecDepth 100000 in
set_option maxHeartbeats 4000000 in
theorem do_9 {w : World} {g : Nat} {K : Cg} {S : Ms} {L : List Fm} {ov : Value} {F Q : Nat → Prop} {gf cap n : Nat} {m : Fm} (h : Now w w g K L ov F Q gf cap n S m) (hG : GloM w L (.slice (some ⟨gf, 0, none⟩) (n + 1) cap) ov F) {i : Nat} (d : DoOk K S n m i) (a : Int) (b : Int) :
    Calls Tryz.prog 54 #[.pointer (some ⟨g, 0, none⟩), .agg #[.int .i64 9, .int .i64 a, .int .i64 b]] w fun z w' => Hid (DoY w w' g K L (.slice (some ⟨gf, 0, none⟩) (n + 1) cap) ov F Q gf (n * 4) z (plainYd (doJumpS K S n m.f i d.fn.2.1 a))) := by
  have _u1 := hG
  have _u2 := d
  have bW : Below w.heap.size w ((w.alloc (.cells #[.int .i64 9, .int .i64 a, .int .i64 b] 86)).alloc (.cells #[.int .i64 0, .bool false, .int .i64 0, .int .i64 0, .string Hp.e0] 54)) := ((Below.refl _ w).alloc (Nat.le_refl _) _).alloc (by simp) _
  have fY : Full ((w.alloc (.cells #[.int .i64 9, .int .i64 a, .int .i64 b] 86)).alloc (.cells #[.int .i64 0, .bool false, .int .i64 0, .int .i64 0, .string Hp.e0] 54)) (w.heap.size + 1) 54 [.int .i64 0, .bool false, .int .i64 0, .int .i64 0, .string Hp.e0] := by
    have := Full.new (w.alloc (.cells #[.int .i64 9, .int .i64 a, .int .i64 b] 86)) #[.int .i64 0, .bool false, .int .i64 0, .int .i64 0, .string Hp.e0] 54
    rw [World.size_alloc] at this
    exact this
  obtain ⟨L2, hlt, hgf, hsp⟩ := h.splitD
  obtain ⟨hN, hMid⟩ := hsp _ bW
  have HK : Hid (∀ w' z R, DoR ((w.alloc (.cells #[.int .i64 9, .int .i64 a, .int .i64 b] 86)).alloc (.cells #[.int .i64 0, .bool false, .int .i64 0, .int .i64 0, .string Hp.e0] 54)) w' g K L2 (.slice (some ⟨gf, 0, none⟩) (n + 1) cap) ov F Q gf (n * 4) z R → Full w' (w.heap.size + 1) 54 [.int .i64 0, .bool false, .int .i64 0, .int .i64 0, .string Hp.e0] ∧ DoR w w' g K L (.slice (some ⟨gf, 0, none⟩) (n + 1) cap) ov F Q gf (n * 4) z R) := fun w' z R q => ⟨((q.kp hgf).block _ fY.lt fun r => by have := hlt _ r; omega).trans fY, DoR.after hMid q⟩
  have d1 := hN.doJump d.fn a
  generalize hR : (doJumpS K S n m.f i d.fn.2.1 a) = R at d1 ⊢
  clear _u1 _u2 hN hMid hsp hlt hgf fY bW h hG d hR
  go_enter Tryz.func54, Tryz.ntmps54
  go_wp2_with (first
    | (go_at_call 82; refine d1.mono ?_; intro z1 w1 H1; obtain ⟨t1, e1⟩ := DoR.ret H1.out; subst e1; clear d1; obtain ⟨fY1, HD⟩ := HK.out _ _ _ H1.out; obtain ⟨y0, g0⟩ := fY1.cell 0 _ rfl; obtain ⟨y1, g1⟩ := fY1.cell 1 _ rfl; obtain ⟨y2, g2⟩ := fY1.cell 2 _ rfl; obtain ⟨y3, g3⟩ := fY1.cell 3 _ rfl; obtain ⟨y4, g4⟩ := fY1.cell 4 _ rfl)
    | fail)
  rw [five_self fY1]
  refine bodyPost_ret (ret_do fY1 rfl rfl) rfl ?_
  exact DoR.yd HD rfl rfl
set_option maxRecDepth 100000 in
set_option maxHeartbeats 4000000 in
theorem do_10 {w : World} {g : Nat} {K : Cg} {S : Ms} {L : List Fm} {ov : Value} {F Q : Nat → Prop} {gf cap n : Nat} {m : Fm} (h : Now w w g K L ov F Q gf cap n S m) (hG : GloM w L (.slice (some ⟨gf, 0, none⟩) (n + 1) cap) ov F) {i : Nat} (d : DoOk K S n m i) (a : Int) (b : Int) (hw : 1 ≤ m.f.st.length) :
    Calls Tryz.prog 54 #[.pointer (some ⟨g, 0, none⟩), .agg #[.int .i64 10, .int .i64 a, .int .i64 b]] w fun z w' => Hid (DoY w w' g K L (.slice (some ⟨gf, 0, none⟩) (n + 1) cap) ov F Q gf (n * 4) z (plainYd (doFalseS K S n m.f i d.fn.2.1 a m.f.st.dropLast (lastV m.f.st)))) := by
  have hx1 : m.f.st = m.f.st.dropLast ++ [lastV m.f.st] := last_app (by omega)
  have hv1 : (lastV m.f.st).2.2.size ≤ 9223372036854775807 := (d.st _ (last_mem (by omega))).sz
  have _u1 := hG
  have _u2 := d
  have bW : Below w.heap.size w ((w.alloc (.cells #[.int .i64 10, .int .i64 a, .int .i64 b] 86)).alloc (.cells #[.int .i64 0, .bool false, .int .i64 0, .int .i64 0, .string Hp.e0] 54)) := ((Below.refl _ w).alloc (Nat.le_refl _) _).alloc (by simp) _
  have fY : Full ((w.alloc (.cells #[.int .i64 10, .int .i64 a, .int .i64 b] 86)).alloc (.cells #[.int .i64 0, .bool false, .int .i64 0, .int .i64 0, .string Hp.e0] 54)) (w.heap.size + 1) 54 [.int .i64 0, .bool false, .int .i64 0, .int .i64 0, .string Hp.e0] := by
    have := Full.new (w.alloc (.cells #[.int .i64 10, .int .i64 a, .int .i64 b] 86)) #[.int .i64 0, .bool false, .int .i64 0, .int .i64 0, .string Hp.e0] 54
    rw [World.size_alloc] at this
    exact this
  obtain ⟨L2, hlt, hgf, hsp⟩ := h.splitD
  obtain ⟨hN, hMid⟩ := hsp _ bW
  have HK : Hid (∀ w' z R, DoR ((w.alloc (.cells #[.int .i64 10, .int .i64 a, .int .i64 b] 86)).alloc (.cells #[.int .i64 0, .bool false, .int .i64 0, .int .i64 0, .string Hp.e0] 54)) w' g K L2 (.slice (some ⟨gf, 0, none⟩) (n + 1) cap) ov F Q gf (n * 4) z R → Full w' (w.heap.size + 1) 54 [.int .i64 0, .bool false, .int .i64 0, .int .i64 0, .string Hp.e0] ∧ DoR w w' g K L (.slice (some ⟨gf, 0, none⟩) (n + 1) cap) ov F Q gf (n * 4) z R) := fun w' z R q => ⟨((q.kp hgf).block _ fY.lt fun r => by have := hlt _ r; omega).trans fY, DoR.after hMid q⟩
  have d1 := doFalse_any hN hx1 d.fn a
  generalize hR : (doFalseS K S n m.f i d.fn.2.1 a m.f.st.dropLast (lastV m.f.st)) = R at d1 ⊢
  clear _u1 _u2 hN hMid hsp hlt hgf fY bW h hG d hR hx1 hv1 hw
  go_enter Tryz.func54, Tryz.ntmps54
  go_wp2_with (first
    | (go_at_call 83; refine d1.mono ?_; intro z1 w1 H1; obtain ⟨t1, e1⟩ := DoR.ret H1.out; subst e1; clear d1; obtain ⟨fY1, HD⟩ := HK.out _ _ _ H1.out; obtain ⟨y0, g0⟩ := fY1.cell 0 _ rfl; obtain ⟨y1, g1⟩ := fY1.cell 1 _ rfl; obtain ⟨y2, g2⟩ := fY1.cell 2 _ rfl; obtain ⟨y3, g3⟩ := fY1.cell 3 _ rfl; obtain ⟨y4, g4⟩ := fY1.cell 4 _ rfl)
    | fail)
  rw [five_self fY1]
  refine bodyPost_ret (ret_do fY1 rfl rfl) rfl ?_
  exact DoR.yd HD rfl rfl
end Go.Proofs.YtahdkffijlfmnaaGreatDoor
