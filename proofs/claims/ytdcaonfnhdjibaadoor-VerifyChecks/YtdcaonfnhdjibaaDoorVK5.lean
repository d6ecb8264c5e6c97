import Derived.Test.YtdcaonfnhdjibaaDoorVKp
import Derived.Test.YtdcaonfnhdjibaaDoorVKo
import Derived.Test.YtdcaonfnhdjibaaDoorVKm
namespace Go.Proofs.YtdcaonfnhdjibaaDoor
open Go.RowKit

/-! The answers, one form each. -/
def stE : Except (Int × Int) Kn → Int
  | .error k => k.1
  | .ok _ => 0
def LsR (w : World) (b : Nat) (v : Value) : Except (Int × Int) Kn → Prop
  | .error _ => v = .slice none 0 0
  | .ok K => K.length ≤ 60000 ∧ All SOk K ∧ ∃ vs, LsM w b v K K.length vs
theorem LsR.lw {w : World} {b : Nat} {v : Value} {R : Except (Int × Int) Kn} (h : LsR w b v R) : LwR w b v R := by
  cases R with
  | error k => exact h
  | ok K => obtain ⟨h1, h2, vs, h3⟩ := h; exact ⟨h1, h2, vs, h3.lw h2⟩
theorem LsR.next {w w' : World} {b : Nat} {v : Value} {R : Except (Int × Int) Kn} (h : LsR w b v R) (k : Below w.heap.size w w') : LsR w' b v R := by
  cases R with
  | error k => exact h
  | ok K => obtain ⟨h1, h2, vs, h3⟩ := h; exact ⟨h1, h2, vs, h3.next k⟩
theorem sur_len {c : Cd} {K : Kn} (h : surS c = .ok K) : K.length ≤ 60000 ∧ All SOk K := by
  obtain ⟨hc, -, hl, -, -⟩ := sur_ok h
  have := hc.il
  exact ⟨by omega, sur_sok h⟩
def LsN (w : World) (b N : Nat) (v : Value) : Except (Int × Int) Kn → Prop
  | .error _ => v = .slice none 0 0
  | .ok K => K.length ≤ 60000 ∧ All SOk K ∧ ∃ vs, LsM w b v K K.length vs ∧ ∀ x ∈ vs, ∀ g, Value.ownBlock x = some g → g < N
theorem LsR.n {w : World} {b : Nat} {v : Value} {R : Except (Int × Int) Kn} (h : LsR w b v R) : LsN w b w.heap.size v R := by
  cases R with
  | error k => exact h
  | ok K =>
    obtain ⟨h1, h2, vs, h3⟩ := h
    exact ⟨h1, h2, vs, h3, fun x hx g hg => by
      obtain ⟨i, hi⟩ := List.getElem?_of_mem hx
      exact ls_lt h3 hi hg⟩
theorem LsN.next {w w' : World} {b N : Nat} {v : Value} {R : Except (Int × Int) Kn} (h : LsN w b N v R) (k : Below w.heap.size w w') : LsN w' b N v R := by
  cases R with
  | error k => exact h
  | ok K => obtain ⟨h1, h2, vs, h3, h4⟩ := h; exact ⟨h1, h2, vs, h3.next k, h4⟩
theorem defacedR_any {w : World} {b N : Nat} {v : Value} {R : Except (Int × Int) Kn} (h : LsN w b N v R) (hb : b ≤ w.heap.size) : Calls Tryd.prog 23 #[v] w fun z w' => z = .returned (.bool true) ∧ Kp (fun g => b ≤ g ∧ g < N) w w' := by
  cases R with
  | error k =>
    have h : v = _ := h
    subst h
    exact defaced_any (K := []) (vs := []) ⟨World.ownsRow_nil _ _ _ _, fun i x hx => (by cases hx), fun i j x y g _ hx => (by cases hx)⟩ (fun i s hs => by simp at hs) (by simp) hb N (fun x hx => by cases hx)
  | ok K =>
    obtain ⟨h1, h2, vs, h3, h4⟩ := h
    exact defaced_any h3 h2 h1 hb N h4
section
variable {w : World} {B : Nat} {iq eq tq : Option Addr} {Es : List Em} {c : Cd}
theorem stacks_u (m : CodeM w B iq eq tq Es c) (cp : ∀ y ∈ Es, y.1.sorts.length ≤ y.2.2 ∧ (y.2.1 = none → y.1.sorts.length = 0)) (ia ea ta : Nat) (hB : B ≤ w.heap.size) (ht : Tabs w) :
    Calls Tryd.prog 8 #[codeV iq eq tq ia ea ta c] w fun z w' => ∃ v, z = .returned (.tuple #[v, .int .i64 (stE (surS c))]) ∧ Hid (Below w.heap.size w w' ∧ LsR w' w.heap.size v (surS c)) := by
  refine (stacks_any m cp ia ea ta hB ht).mono ?_
  rintro z w' h
  obtain ⟨h1, h2⟩ := h.out
  cases hR : surS c with
  | error k => rw [hR] at h2; exact ⟨_, h2, h1, rfl⟩
  | ok K => rw [hR] at h2; obtain ⟨v, vs, e, hl⟩ := h2; exact ⟨v, e, h1, (sur_len hR).1, (sur_len hR).2, vs, hl⟩
theorem rstacks_u (m : CodeM w B iq eq tq Es c) (ia ea ta : Nat) (hB : B ≤ w.heap.size) (h64 : In64 c) :
    Calls Tryd.prog 19 #[codeV iq eq tq ia ea ta c] w fun z w' => ∃ v, z = .returned (.tuple #[v, .int .i64 (stE (surS c))]) ∧ Hid (Below w.heap.size w w' ∧ LwR w' w.heap.size v (surS c)) := by
  refine (rstacks_any m ia ea ta hB h64).mono ?_
  rintro z w' h
  obtain ⟨h1, h2⟩ := h.out
  cases hR : surS c with
  | error k => rw [hR] at h2; exact ⟨_, h2, h1, rfl⟩
  | ok K => rw [hR] at h2; obtain ⟨v, vs, e, hl⟩ := h2; exact ⟨v, e, h1, (sur_len hR).1, (sur_len hR).2, vs, hl⟩
end
/-! An instruction is written over. -/
theorem xor_rng (a : Int) : -9223372036854775808 ≤ bits BinOp.xor IntKind.i64 a 1 ∧ bits BinOp.xor IntKind.i64 a 1 ≤ 9223372036854775807 := by
  unfold bits
  simp only [IntKind.wrap_i64]
  omega
section
variable {w0 w W : World} {gi ci ge ce gt ct B : Nat} {iq eq tq : Option Addr} {Es Es' : List Em} {c : Cd}
theorem TwF.code (h : TwF w w0 gi ci ge ce gt ct Es' c) (m : CodeM w B iq eq tq Es c) (k : Below w0.heap.size w0 W) : CodeM W w0.heap.size (some ⟨gi, 0, none⟩) (some ⟨ge, 0, none⟩) (some ⟨gt, 0, none⟩) Es' c :=
  h.cm m W c.ins rfl (fun x hx _ => k.block x hx) ((row_of_own (own_cut h.ins (flat_lenF ic 3 (fun _ => rfl) _))).below k (Nat.le_refl _))
theorem TwF.put (h : TwF w0 W gi ci ge ce gt ct Es' c) (i : Nat) (hi : i < c.ins.length) (x : Int) : TwF w0 (W.setCell ⟨gi, i * 3 + 1, none⟩ (.int .i64 x)) gi ci ge ce gt ct Es' { c with ins := c.ins.set i ((insAt c i).1, x, (insAt c i).2.2) } := by
  have hge : w0.heap.size ≤ gi := (h.ins.lt gi rfl).1
  have ko : ∀ {e : TypeId} {sz g n cap : Nat} {xs : List Value}, e ≠ 38 → W.ownsRow w0.heap.size e sz (.slice (some ⟨g, 0, none⟩) n cap) n xs → (W.setCell ⟨gi, i * 3 + 1, none⟩ (.int .i64 x)).ownsRow w0.heap.size e sz (.slice (some ⟨g, 0, none⟩) n cap) n xs := fun hne o => own_same o fun g' hg' => set_heap (a := ⟨gi, i * 3 + 1, none⟩) fun q => by
    have q : g' = gi := q
    exact own_ne h.ins (own_blk o g' hg') hne (by rw [q]; rfl)
  have hlen : (c.ins.set i ((insAt c i).1, x, (insAt c i).2.2)).length = c.ins.length := List.length_set
  refine ⟨h.b.setCell (p := ⟨gi, i * 3 + 1, none⟩) hge _, ?_, ko (by decide) h.ens, ko (by decide) h.txs, h.en, fun y hy => ?_⟩
  · show (W.setCell _ _).ownsRow _ _ _ (.slice _ ((c.ins.set i _).length + 1) _) ((c.ins.set i _).length + 1) ((c.ins.set i ((insAt c i).1, x, (insAt c i).2.2)).flatMap ic ++ _)
    rw [hlen]
    have hfl := flat_lenF ic 3 (fun _ => rfl) c.ins
    have hfl2 := flat_lenF ic 3 (fun _ => rfl) (c.ins.set i ((insAt c i).1, x, (insAt c i).2.2))
    rw [hlen] at hfl2
    refine own_sets h.ins (i * 3 + 1) [.int .i64 x] _ (by rw [List.length_append, hfl2]; simp; omega) fun j hj => ?_
    have e0 : W.setCells gi (i * 3 + 1) [.int .i64 x] = W.setCell ⟨gi, i * 3 + 1, none⟩ (.int .i64 x) := rfl
    rw [e0]
    have hold := h.ins.cellAt j hj
    have hfs := flat_set ic 3 (fun _ => rfl) c.ins i hi ((insAt c i).1, x, (insAt c i).2.2) j
    have hat := flat_at ic 3 (fun _ => rfl) c.ins i
    have e2 : insAt c i = c.ins[i] := by unfold insAt; rw [List.getD_eq_getElem?_getD, List.getElem?_eq_getElem hi]; rfl
    by_cases hj1 : j = i * 3 + 1
    · subst hj1
      rw [World.cell?_setCell_same' _ _ _ (by rw [hold, List.getElem?_eq_getElem (by rw [List.length_append, hfl]; simp; omega)]; rfl), List.getElem?_append_left (by omega), hfs, if_pos (by omega), show i * 3 + 1 - i * 3 = 1 by omega]
      rfl
    · rw [World.cell?_setCell_other _ _ _ _ (fun e => by injection e with e1 e2; omega), hold]
      by_cases hj2 : j < c.ins.length * 3
      · rw [List.getElem?_append_left (by omega), List.getElem?_append_left (by omega), hfs]
        split
        · rename_i hr
          have : j = i * 3 + 0 ∨ j = i * 3 + 2 := by omega
          rcases this with rfl | rfl
          · rw [hat 0 hi (by omega), ← e2, show i * 3 + 0 - i * 3 = 0 by omega]; rfl
          · rw [hat 2 hi (by omega), ← e2, show i * 3 + 2 - i * 3 = 2 by omega]; rfl
        · rfl
      · rw [List.getElem?_append_right (by omega), List.getElem?_append_right (by omega), hfl, hfl2]
  · obtain ⟨g, e, o⟩ := h.sr y hy
    exact ⟨g, e, ko (by decide) o⟩
theorem in64_set {c : Cd} (h : In64 c) (i : Nat) {x : Int} (hx : -9223372036854775808 ≤ x ∧ x ≤ 9223372036854775807) (hi : i < c.ins.length) : In64 { c with ins := c.ins.set i ((insAt c i).1, x, (insAt c i).2.2) } := fun y hy => by
  rcases List.mem_or_eq_of_mem_set hy with q | rfl
  · exact h y q
  · have e2 : insAt c i = c.ins[i] := by unfold insAt; rw [List.getD_eq_getElem?_getD, List.getElem?_eq_getElem hi]; rfl
    exact ⟨hx, by rw [e2]; exact (h _ (List.getElem_mem hi)).2⟩
end
end Go.Proofs.YtdcaonfnhdjibaaDoor
namespace Go.Proofs.YtdcaonfnhdjibaaDoor
open Go.RowKit

/-! A code that was written over in its lists is looked at anew. -/
structure AnI (w0 w wr : World) (gi ci ge ce gt ct : Nat) (Es' : List Em) (c : Cd) (I : List In) : Prop where
  kp : Kp (fun x => x = gi) w wr
  t : TwF w0 wr gi ci ge ce gt ct Es' { c with ins := I }
  f : In64 { c with ins := I }
  l : I.length = c.ins.length
/-- What stands while the answers are held against one another. -/
structure AnW (w0 X W : World) (D D2 gi ci ge ce gt ct hi ki he ke ht kt b2 : Nat) (Es' Es2 : List Em) (d : Cd) : Prop where
  x : Full W D 26 [.slice (some ⟨gi, 0, none⟩) d.ins.length ci, .slice (some ⟨ge, 0, none⟩) d.ens.length ce, .slice (some ⟨gt, 0, none⟩) d.txs.length ct, .int .i64 d.main]
  y : Full W D2 26 [.slice (some ⟨hi, 0, none⟩) d.ins.length ki, .slice (some ⟨he, 0, none⟩) d.ens.length ke, .slice (some ⟨ht, 0, none⟩) d.txs.length kt, .int .i64 d.main]
  m : CodeM W X.heap.size (some ⟨gi, 0, none⟩) (some ⟨ge, 0, none⟩) (some ⟨gt, 0, none⟩) Es' d
  n : CodeM W b2 (some ⟨hi, 0, none⟩) (some ⟨he, 0, none⟩) (some ⟨ht, 0, none⟩) Es2 d
  hm : X.heap.size ≤ W.heap.size
  hn : b2 ≤ W.heap.size
  ta : Tabs W
  t : TwF w0 W gi ci ge ce gt ct Es' d
  cp : ∀ y ∈ Es', y.1.sorts.length ≤ y.2.2 ∧ (y.2.1 = none → y.1.sorts.length = 0)
  i : In64 d
theorem AnW.next {w0 X W W' : World} {D D2 gi ci ge ce gt ct hi ki he ke ht kt b2 : Nat} {Es' Es2 : List Em} {d : Cd} (h : AnW w0 X W D D2 gi ci ge ce gt ct hi ki he ke ht kt b2 Es' Es2 d) (k : Below W.heap.size W W') : AnW w0 X W' D D2 gi ci ge ce gt ct hi ki he ke ht kt b2 Es' Es2 d :=
  ⟨h.x.next k, h.y.next k, h.m.below k h.hm, h.n.below k h.hn, Nat.le_trans h.hm k.size, Nat.le_trans h.hn k.size, h.ta.next k, h.t.next k, h.cp, h.i⟩
theorem AnW.hid {w0 X W W' : World} {D D2 gi ci ge ce gt ct hi ki he ke ht kt b2 : Nat} {Es' Es2 : List Em} {d : Cd} (h : Hid (AnW w0 X W D D2 gi ci ge ce gt ct hi ki he ke ht kt b2 Es' Es2 d)) (k : Below W.heap.size W W') : Hid (AnW w0 X W' D D2 gi ci ge ce gt ct hi ki he ke ht kt b2 Es' Es2 d) := h.out.next k
theorem Row.imp_lt {w : World} {B C : Nat} {q : Option Addr} {n : Nat} {xs : List Value} (h : Row w B q n xs) (hC : ∀ g, (Value.slice q n n).ownBlock = some g → g < C) : Row w C q n xs := fun hn => by
  obtain ⟨g, o, rfl, -, hr⟩ := h hn
  exact ⟨g, o, rfl, hC g rfl, hr⟩
theorem tabs_kp {w W : World} {gi : Nat} (h : Tabs w) (k : Kp (fun x => x = gi) w W) (hg : 3 ≤ gi) : Tabs W := h.below (k.below (B := 3) (fun x hx => by rw [hx]; exact hg) h.size) (Nat.le_refl _)
section
variable {w0 w : World} {gi ci ge ce gt ct B : Nat} {iq eq tq : Option Addr} {Es Es' : List Em} {c : Cd}
set_option maxRecDepth 100000 in
set_option maxHeartbeats 8000000 in
theorem anew_any (t : TwF w0 w gi ci ge ce gt ct Es' c) (m : CodeM w0 B iq eq tq Es c) (hin : (c.ins.length + 1) * 24 ≤ 140737488355328) (hen : (c.ens.length + 1) * 64 ≤ 140737488355328) (htn : (c.txs.length + 1) * 16 ≤ 140737488355328) (hsn : ∀ e ∈ c.ens, (e.sorts.length + 1) * 8 ≤ 140737488355328) (h64 : In64 c) (hT : Tabs w) (h3 : 3 ≤ gi) :
    Calls Tryd.prog 25 #[codeV (some ⟨gi, 0, none⟩) (some ⟨ge, 0, none⟩) (some ⟨gt, 0, none⟩) ci ce ct c] w fun z w' => z = .returned (.bool true) ∧ Kp (fun x => x = gi) w w' := by
  obtain ⟨X, hX⟩ : ∃ X, w.alloc (.cells #[.slice (some ⟨gi, 0, none⟩) c.ins.length ci, .slice (some ⟨ge, 0, none⟩) c.ens.length ce, .slice (some ⟨gt, 0, none⟩) c.txs.length ct, .int .i64 c.main] 26) = X := ⟨_, rfl⟩
  have bX : Below w.heap.size w X := by rw [← hX]; exact (Below.refl _ w).alloc (Nat.le_refl _) _
  have fX : Full X w.heap.size 26 [.slice (some ⟨gi, 0, none⟩) c.ins.length ci, .slice (some ⟨ge, 0, none⟩) c.ens.length ce, .slice (some ⟨gt, 0, none⟩) c.txs.length ct, .int .i64 c.main] := by rw [← hX]; exact Full.new w _ _
  have tX := t.next bX
  have HX : Hid (Below w.heap.size w X ∧ Full X w.heap.size 26 [.slice (some ⟨gi, 0, none⟩) c.ins.length ci, .slice (some ⟨ge, 0, none⟩) c.ens.length ce, .slice (some ⟨gt, 0, none⟩) c.txs.length ct, .int .i64 c.main] ∧ TwF w0 X gi ci ge ce gt ct Es' c ∧ CodeM w0 B iq eq tq Es c ∧ Tabs X ∧ 3 ≤ gi) := ⟨bX, fX, tX, m, hT.next bX, h3⟩
  have HB : Hid ((c.ins.length + 1) * 24 ≤ 140737488355328 ∧ (c.ens.length + 1) * 64 ≤ 140737488355328 ∧ (c.txs.length + 1) * 16 ≤ 140737488355328 ∧ (∀ e ∈ c.ens, (e.sorts.length + 1) * 8 ≤ 140737488355328)) := ⟨hin, hen, htn, hsn⟩
  have HI0 : Hid (AnI w0 X X gi ci ge ce gt ct Es' c c.ins) := ⟨Kp.refl _ _, tX, h64, rfl⟩
  have hnI : (c.ins.length : Int) ≤ 5864062014805 := by omega
  have hneI : (c.ens.length : Int) ≤ 2199023255551 := by omega
  unfold codeV
  clear t m hin hen htn hsn h64 hT h3 bX fX tX
  have hgD : Hid (∀ W, Kp (fun x => x = gi) X W → Full W w.heap.size 26 [.slice (some ⟨gi, 0, none⟩) c.ins.length ci, .slice (some ⟨ge, 0, none⟩) c.ens.length ce, .slice (some ⟨gt, 0, none⟩) c.txs.length ct, .int .i64 c.main]) := fun W k => by
    have hl := HX.out.2.1.lt
    exact (k.block _ hl fun q => own_ne HX.out.2.2.1.ins (b := w.heap.size) (t := 26) (m := 0) ⟨_, HX.out.2.1, Nat.zero_le _⟩ (by decide) (by rw [q]; rfl)).trans HX.out.2.1
  obtain ⟨D, HD⟩ : ∃ D, Hid (w.heap.size = D) := ⟨_, (rfl : w.heap.size = _)⟩
  go_enter Tryd.func25, Tryd.ntmps25
  have x0 := ((hgD.out X (Kp.refl _ _)).cell 0 _ rfl).1
  go_wp2_with fail
  rw [HD.out] at hgD ⊢
  clear x0 hX
  go_loopw [21] (fun iv wr => ∃ (i : Nat) (I : List In), i ≤ c.ins.length ∧ iv = .int .i64 (i : Int) ∧ Hid (AnI w0 X wr gi ci ge ce gt ct Es' c I)) (fun iv _ => c.ins.length - (intOf iv).toNat)
  case atStart => exact ⟨0, c.ins, Nat.zero_le _, rfl, HI0⟩
  case round =>
    obtain ⟨i, I, hi, rfl, HI⟩ := hrel
    clear HI0
    have x0 := ((hgD.out wr HI.out.kp).cell 0 _ rfl).1
    by_cases hlt : i < c.ins.length
    · have a0 : (0 : Int) ≤ (i : Int) := by omega
      have a1 : (i : Int) < (c.ins.length : Int) := by omega
      have hiI : i < I.length := by rw [HI.out.l]; exact hlt
      have hr := HI.out.t.in_ i hiI
      obtain ⟨⟨p1, p2, p3⟩, Hp⟩ : ∃ p, Hid (insAt { c with ins := I } i = p) := ⟨_, (rfl : insAt { c with ins := I } i = _)⟩
      rw [Hp.out] at hr
      have r1 := hr 1 _ rfl
      simp only at r1
      have fr := (own_blk HI.out.t.ins gi rfl).unfrozen (i * 3 + 1)
      obtain ⟨b, Hb⟩ : ∃ b, Hid (bits BinOp.xor IntKind.i64 p2 1 = b) := ⟨_, (rfl : bits BinOp.xor IntKind.i64 p2 1 = _)⟩
      have hb : -9223372036854775808 ≤ b ∧ b ≤ 9223372036854775807 := by rw [← Hb.out]; exact xor_rng p2
      have HN : Hid (AnI w0 X (wr.setCell ⟨gi, i * 3 + 1, none⟩ (.int .i64 b)).drew gi ci ge ce gt ct Es' c (I.set i (p1, b, p3))) := by
        have tt := HI.out.t.put i hiI b
        have ff := in64_set HI.out.f i hb hiI
        rw [Hp.out] at tt ff
        have bd : Below (wr.setCell ⟨gi, i * 3 + 1, none⟩ (.int .i64 b)).heap.size (wr.setCell ⟨gi, i * 3 + 1, none⟩ (.int .i64 b)) (wr.setCell ⟨gi, i * 3 + 1, none⟩ (.int .i64 b)).drew := (Below.refl _ _).drew
        exact ⟨(HI.out.kp.setCell (p := ⟨gi, i * 3 + 1, none⟩) (.inl rfl) _).next bd, tt.next bd, ff, by rw [List.length_set]; exact HI.out.l⟩
      clear hr hb
      rw [← Hb.out] at HN
      go_upto_region 4 with fail
      go_region
      go_wp2
      exact ⟨⟨i + 1, I.set i (p1, bits BinOp.xor IntKind.i64 p2 1, p3), by omega, by go_num, HN⟩, by simp [intOf]; omega⟩
    · obtain rfl : i = c.ins.length := by omega
      have i1 : ¬ ((c.ins.length : Int) < (c.ins.length : Int)) := by omega
      obtain ⟨d, Hd⟩ : ∃ d : Cd, Hid (({ c with ins := I } : Cd) = d) := ⟨{ c with ins := I }, (rfl : ({ c with ins := I } : Cd) = { c with ins := I })⟩
      have hdl : Hid (d.ins.length = c.ins.length ∧ d.ens = c.ens ∧ d.txs = c.txs ∧ d.main = c.main) := by rw [← Hd.out]; exact ⟨HI.out.l, rfl, rfl, rfl⟩
      have hfD := hgD.out wr HI.out.kp
      have td := HI.out.t
      have fd := HI.out.f
      have mD : CodeM wr X.heap.size (some ⟨gi, 0, none⟩) (some ⟨ge, 0, none⟩) (some ⟨gt, 0, none⟩) Es' { c with ins := I } := HX.out.2.2.1.cm HX.out.2.2.2.1 wr I HI.out.l (fun x hx hne => HI.out.kp.block x hx hne) (((row_of_own (own_cut td.ins (flat_lenF ic 3 (fun _ => rfl) _)))).imp_lt (fun g hg => by cases hg; exact (own_blk HX.out.2.2.1.ins gi rfl).lt))
      rw [Hd.out] at td fd mD
      rw [← hdl.out.1, ← hdl.out.2.1, ← hdl.out.2.2.1, ← hdl.out.2.2.2] at hfD
      have hneD : (d.ens.length : Int) ≤ 2199023255551 := by rw [hdl.out.2.1]; exact hneI
      have hsz : X.heap.size ≤ wr.heap.size := HI.out.kp.size
      have cT := twin_any mD ci ce ct hsz (by rw [hdl.out.1]; exact HB.out.1) (by rw [hdl.out.2.1]; exact HB.out.2.1) (by rw [hdl.out.2.2.1]; exact HB.out.2.2.1) (fun y hy => HB.out.2.2.2 y.1 (by rw [← hdl.out.2.1, ← mD.en]; exact List.mem_map_of_mem hy))
      unfold codeV at cT
      have HL : Hid (Full wr D 26 [.slice (some ⟨gi, 0, none⟩) d.ins.length ci, .slice (some ⟨ge, 0, none⟩) d.ens.length ce, .slice (some ⟨gt, 0, none⟩) d.txs.length ct, .int .i64 d.main] ∧ CodeM wr X.heap.size (some ⟨gi, 0, none⟩) (some ⟨ge, 0, none⟩) (some ⟨gt, 0, none⟩) Es' d ∧ X.heap.size ≤ wr.heap.size ∧ TwF w0 wr gi ci ge ce gt ct Es' d ∧ In64 d ∧ Tabs wr ∧ Kp (fun x => x = gi) w wr) := ⟨hfD, mD, hsz, td, fd, tabs_kp HX.out.2.2.2.2.1 HI.out.kp HX.out.2.2.2.2.2, (Kp.of HX.out.1).trans HI.out.kp fun _ _ q => q⟩
      clear x0 hfD td fd mD hsz
      obtain ⟨Wl, rfl⟩ : ∃ Wl, Wl = wr := ⟨wr, rfl⟩
      have x0 := (HL.out.1.cell 0 _ rfl).1
      have x1 := (HL.out.1.cell 1 _ rfl).1
      have x2 := (HL.out.1.cell 2 _ rfl).1
      have x3 := (HL.out.1.cell 3 _ rfl).1
      go_wp2_with fail
      refine cT.mono ?_
      rintro z W2 hz
      obtain ⟨hi_, ki, he, ke, ht, kt, Es2, rfl, tw⟩ := hz.out
      clear cT hz x0 x1 x2 x3
      go_upto_region 7 with fail
      obtain ⟨W3, hW3⟩ : ∃ W3, W3 = W2.alloc (.cells #[.slice (some ⟨hi_, 0, none⟩) d.ins.length ki, .slice (some ⟨he, 0, none⟩) d.ens.length ke, .slice (some ⟨ht, 0, none⟩) d.txs.length kt, .int .i64 d.main] 26) := ⟨_, rfl⟩
      rw [← hW3]
      have b3 : Below W2.heap.size W2 W3 := by rw [hW3]; exact (Below.refl _ W2).alloc (Nat.le_refl _) _
      have f3 : Full W3 W2.heap.size 26 [.slice (some ⟨hi_, 0, none⟩) d.ins.length ki, .slice (some ⟨he, 0, none⟩) d.ens.length ke, .slice (some ⟨ht, 0, none⟩) d.txs.length kt, .int .i64 d.main] := by rw [hW3]; exact Full.new W2 _ _
      have bl := below2 tw.b b3
      have HA : Hid (AnW w0 X W3 D W2.heap.size gi ci ge ce gt ct hi_ ki he ke ht kt W2.heap.size Es' Es2 d) := ⟨HL.out.1.next bl, f3, HL.out.2.1.below bl HL.out.2.2.1, tw.code HL.out.2.1 b3, Nat.le_trans HL.out.2.2.1 bl.size, b3.size, HL.out.2.2.2.2.2.1.next bl, HL.out.2.2.2.1.next bl, HX.out.2.2.1.cp, HL.out.2.2.2.2.1⟩
      have HK : Hid (Kp (fun x => x = gi) w W3) := HL.out.2.2.2.2.2.2.next bl
      clear hW3 b3 f3 bl tw HL
      obtain ⟨D2, HD2⟩ : ∃ D2, Hid (W2.heap.size = D2) := ⟨_, (rfl : W2.heap.size = _)⟩
      rw [HD2.out] at HA ⊢
      obtain ⟨⟨e, at_⟩, He⟩ : ∃ p, Hid (chkS d = p) := ⟨_, (rfl : chkS d = _)⟩
      obtain ⟨R, HR⟩ : ∃ R, Hid (surS d = R) := ⟨_, (rfl : surS d = _)⟩
      obtain ⟨st, Hst⟩ : ∃ st, Hid (stE R = st) := ⟨_, (rfl : stE R = _)⟩
      have x0 := (HA.out.x.cell 0 _ rfl).1
      have x1 := (HA.out.x.cell 1 _ rfl).1
      have x2 := (HA.out.x.cell 2 _ rfl).1
      have x3 := (HA.out.x.cell 3 _ rfl).1
      have cc := check_any HA.out.m HA.out.cp ci ce ct HA.out.hm HA.out.ta
      rw [He.out] at cc
      unfold codeV at cc
      go_wp2_with fail
      refine cc.mono ?_
      rintro z W4 ⟨rfl, b4⟩
      have HA4 := AnW.hid HA b4
      have HK4 : Hid (Kp (fun x => x = gi) w W4) := HK.out.next b4
      clear cc x0 x1 x2 x3 b4 HA HK
      have y0 := (HA4.out.y.cell 0 _ rfl).1
      have y1 := (HA4.out.y.cell 1 _ rfl).1
      have y2 := (HA4.out.y.cell 2 _ rfl).1
      have y3 := (HA4.out.y.cell 3 _ rfl).1
      have cc := rcheck_any HA4.out.n ki ke kt HA4.out.hn HA4.out.i
      rw [He.out] at cc
      unfold codeV at cc
      go_wp2_with fail
      refine cc.mono ?_
      rintro z W5 ⟨rfl, b5⟩
      have HA5 := AnW.hid HA4 b5
      have HK5 : Hid (Kp (fun x => x = gi) w W5) := HK4.out.next b5
      clear cc y0 y1 y2 y3 b5 HA4 HK4
      have x0 := (HA5.out.x.cell 0 _ rfl).1
      have x1 := (HA5.out.x.cell 1 _ rfl).1
      have x2 := (HA5.out.x.cell 2 _ rfl).1
      have x3 := (HA5.out.x.cell 3 _ rfl).1
      have cc := stacks_u HA5.out.m HA5.out.cp ci ce ct HA5.out.hm HA5.out.ta
      rw [HR.out, Hst.out] at cc
      unfold codeV at cc
      go_wp2_with fail
      refine cc.mono ?_
      rintro z W6 ⟨l, rfl, h6⟩
      have HA6 := AnW.hid HA5 h6.out.1
      have HK6 : Hid (Kp (fun x => x = gi) w W6 ∧ LsR W6 W5.heap.size l R) := ⟨HK5.out.next h6.out.1, h6.out.2⟩
      clear cc x0 x1 x2 x3 h6 HA5 HK5
      have y0 := (HA6.out.y.cell 0 _ rfl).1
      have y1 := (HA6.out.y.cell 1 _ rfl).1
      have y2 := (HA6.out.y.cell 2 _ rfl).1
      have y3 := (HA6.out.y.cell 3 _ rfl).1
      have cc := rstacks_u HA6.out.n ki ke kt HA6.out.hn HA6.out.i
      rw [HR.out, Hst.out] at cc
      unfold codeV at cc
      go_wp2_with fail
      refine cc.mono ?_
      rintro z W7 ⟨wt, rfl, h7⟩
      have HA7 := AnW.hid HA6 h7.out.1
      have HK7 : Hid (Kp (fun x => x = gi) w W7 ∧ LwR W7 W5.heap.size l R ∧ LwR W7 W6.heap.size wt R) := ⟨HK6.out.1.next h7.out.1, (HK6.out.2.next h7.out.1).lw, h7.out.2⟩
      clear cc y0 y1 y2 y3 h7 HA6 HK6
      go_wp2_with fail
      go_loopw [13] (fun iv wr => ∃ n : Int, -1 ≤ n ∧ n ≤ (d.ens.length : Int) + 1 ∧ iv = .int .i64 n ∧ Hid (Below W7.heap.size W7 wr)) (fun iv _ => ((d.ens.length : Int) + 1 - intOf iv).toNat)
      case atStart => exact ⟨-1, by omega, by omega, rfl, Below.refl _ _⟩
      case round =>
        obtain ⟨n, hn1, hn2, rfl, HQ⟩ := hrel
        have HAq : Hid (AnW w0 X wr D D2 gi ci ge ce gt ct hi_ ki he ke ht kt D2 Es' Es2 d) := HA7.out.next HQ.out
        have x1 := (HAq.out.x.cell 1 _ rfl).1
        by_cases hle : n ≤ (d.ens.length : Int)
        · have hw : IntKind.i64.wrap (n + 1) = n + 1 := by rw [IntKind.wrap_i64]; omega
          obtain ⟨⟨hh, hc⟩, Hh⟩ : ∃ p, Hid (highR d n R = p) := ⟨_, (rfl : highR d n R = _)⟩
          have cc := high_any HAq.out.m HAq.out.cp ci ce ct HAq.out.hm HAq.out.ta n
          rw [HR.out, Hh.out] at cc
          unfold codeV at cc
          have x0 := (HAq.out.x.cell 0 _ rfl).1
          have x2 := (HAq.out.x.cell 2 _ rfl).1
          have x3 := (HAq.out.x.cell 3 _ rfl).1
          go_wp2_with fail
          refine cc.mono ?_
          rintro z W8 ⟨rfl, b8⟩
          have HA8 := AnW.hid HAq b8
          have HQ8 : Hid (Below W7.heap.size W7 W8) := below2 HQ.out b8
          clear cc x0 x1 x2 x3 b8 HAq HQ
          have cc := rhigh_any HA8.out.n ki ke kt HA8.out.hn HA8.out.i n
          rw [HR.out, Hh.out] at cc
          unfold codeV at cc
          have y0 := (HA8.out.y.cell 0 _ rfl).1
          have y1 := (HA8.out.y.cell 1 _ rfl).1
          have y2 := (HA8.out.y.cell 2 _ rfl).1
          have y3 := (HA8.out.y.cell 3 _ rfl).1
          go_wp2_with fail
          refine cc.mono ?_
          rintro z W9 ⟨rfl, b9⟩
          have HQ9 : Hid (Below W7.heap.size W7 W9) := below2 HQ8.out b9
          clear cc y0 y1 y2 y3 b9 HA8 HQ8
          go_wp2
          exact ⟨⟨n + 1, by omega, by omega, rfl, HQ9⟩, by simp [intOf]; omega⟩
        · have HE : Hid (Kp (fun x => x = gi) w wr ∧ LwR wr W5.heap.size l R ∧ LwR wr W6.heap.size wt R) := ⟨HK7.out.1.next HQ.out, HK7.out.2.1.next HQ.out, HK7.out.2.2.next HQ.out⟩
          have cc := sameR_yes HE.out.2.1 HE.out.2.2
          clear HA7 HK7 HQ
          go_wp2_with fail
          refine cc.mono ?_
          rintro z W8 ⟨rfl, b8⟩
          have HA8 := AnW.hid HAq b8
          have HK8 : Hid (Kp (fun x => x = gi) w W8) := HE.out.1.next b8
          clear cc x1 b8 HAq HE
          have cc := sameCode_any HA8.out.t HA8.out.n HA8.out.hn ki ke kt (by rw [hdl.out.1]; exact HB.out.1) (by rw [hdl.out.2.1]; exact HB.out.2.1) (by rw [hdl.out.2.2.1]; exact HB.out.2.2.1) (fun y hy => HB.out.2.2.2 y.1 (by rw [← hdl.out.2.1, ← HA8.out.n.en]; exact List.mem_map_of_mem hy))
          unfold codeV at cc
          have x0 := (HA8.out.x.cell 0 _ rfl).1
          have x1 := (HA8.out.x.cell 1 _ rfl).1
          have x2 := (HA8.out.x.cell 2 _ rfl).1
          have x3 := (HA8.out.x.cell 3 _ rfl).1
          have y0 := (HA8.out.y.cell 0 _ rfl).1
          have y1 := (HA8.out.y.cell 1 _ rfl).1
          have y2 := (HA8.out.y.cell 2 _ rfl).1
          have y3 := (HA8.out.y.cell 3 _ rfl).1
          go_wp2_with fail
          refine cc.mono ?_
          rintro z W9 ⟨rfl, b9⟩
          have HK9 : Hid (Kp (fun x => x = gi) w W9) := HK8.out.next b9
          clear cc x0 x1 x2 x3 y0 y1 y2 y3 b9 HA8 HK8
          go_wp2
          go_ret
          exact ⟨rfl, HK9.out⟩
end
end Go.Proofs.YtdcaonfnhdjibaaDoor
namespace Go.Proofs.YtdcaonfnhdjibaaDoor
open Go.RowKit

/-! VerifyChecks. -/
structure VcW (X W : World) (D D2 gi ci ge ce gt ct b1 B : Nat) (iq eq tq : Option Addr) (ia ea ta : Nat) (Es Es' : List Em) (c : Cd) : Prop where
  x : Full W D 26 [.slice (some ⟨gi, 0, none⟩) c.ins.length ci, .slice (some ⟨ge, 0, none⟩) c.ens.length ce, .slice (some ⟨gt, 0, none⟩) c.txs.length ct, .int .i64 c.main]
  y : Full W D2 26 [.slice iq c.ins.length ia, .slice eq c.ens.length ea, .slice tq c.txs.length ta, .int .i64 c.main]
  m : CodeM W b1 (some ⟨gi, 0, none⟩) (some ⟨ge, 0, none⟩) (some ⟨gt, 0, none⟩) Es' c
  n : CodeM W B iq eq tq Es c
  hm : b1 ≤ W.heap.size
  hn : B ≤ W.heap.size
  ta : Tabs W
  t : TwF X W gi ci ge ce gt ct Es' c
  cp : ∀ y ∈ Es', y.1.sorts.length ≤ y.2.2 ∧ (y.2.1 = none → y.1.sorts.length = 0)
  i : In64 c
section
variable {X W W' : World} {D D2 gi ci ge ce gt ct b1 B : Nat} {iq eq tq : Option Addr} {ia ea ta : Nat} {Es Es' : List Em} {c : Cd}
theorem VcW.next (h : VcW X W D D2 gi ci ge ce gt ct b1 B iq eq tq ia ea ta Es Es' c) (k : Below W.heap.size W W') : VcW X W' D D2 gi ci ge ce gt ct b1 B iq eq tq ia ea ta Es Es' c :=
  ⟨h.x.next k, h.y.next k, h.m.below k h.hm, h.n.below k h.hn, Nat.le_trans h.hm k.size, Nat.le_trans h.hn k.size, h.ta.next k, h.t.next k, h.cp, h.i⟩
theorem VcW.hid (h : Hid (VcW X W D D2 gi ci ge ce gt ct b1 B iq eq tq ia ea ta Es Es' c)) (k : Below W.heap.size W W') : Hid (VcW X W' D D2 gi ci ge ce gt ct b1 B iq eq tq ia ea ta Es Es' c) := h.out.next k
end
theorem in64_pl : In64 plC := fun x hx => by
  unfold plC at hx
  simp at hx
  rcases hx with rfl | rfl | rfl <;> simp
section
variable {w : World} {B : Nat} {iq eq tq : Option Addr} {Es : List Em} {c : Cd}
set_option maxRecDepth 100000 in
set_option maxHeartbeats 16000000 in
theorem checks_any (m : CodeM w B iq eq tq Es c) (ia ea ta : Nat) (hB : B ≤ w.heap.size) (hin : (c.ins.length + 1) * 24 ≤ 140737488355328) (hen : (c.ens.length + 1) * 64 ≤ 140737488355328) (htn : (c.txs.length + 1) * 16 ≤ 140737488355328) (hsn : ∀ e ∈ c.ens, (e.sorts.length + 1) * 8 ≤ 140737488355328) (h64 : In64 c) (hT : Tabs w) :
    Calls Tryd.prog 6 #[codeV iq eq tq ia ea ta c] w fun z w' => z = .returned (.bool true) ∧ Below w.heap.size w w' := by
  obtain ⟨X, hX⟩ : ∃ X, w.alloc (.cells #[.slice iq c.ins.length ia, .slice eq c.ens.length ea, .slice tq c.txs.length ta, .int .i64 c.main] 26) = X := ⟨_, rfl⟩
  have bX : Below w.heap.size w X := by rw [← hX]; exact (Below.refl _ w).alloc (Nat.le_refl _) _
  have fX : Full X w.heap.size 26 [.slice iq c.ins.length ia, .slice eq c.ens.length ea, .slice tq c.txs.length ta, .int .i64 c.main] := by rw [← hX]; exact Full.new w _ _
  have mX := m.below bX hB
  have cT := twin_any mX ia ea ta (Nat.le_trans hB bX.size) hin hen htn (fun y hy => hsn y.1 (by rw [← m.en]; exact List.mem_map_of_mem hy))
  have HX : Hid (Below w.heap.size w X ∧ Full X w.heap.size 26 [.slice iq c.ins.length ia, .slice eq c.ens.length ea, .slice tq c.txs.length ta, .int .i64 c.main] ∧ CodeM X B iq eq tq Es c ∧ B ≤ X.heap.size ∧ Tabs X ∧ In64 c) := ⟨bX, fX, mX, Nat.le_trans hB bX.size, hT.next bX, h64⟩
  have HB : Hid ((c.ins.length + 1) * 24 ≤ 140737488355328 ∧ (c.ens.length + 1) * 64 ≤ 140737488355328 ∧ (c.txs.length + 1) * 16 ≤ 140737488355328 ∧ (∀ e ∈ c.ens, (e.sorts.length + 1) * 8 ≤ 140737488355328)) := ⟨hin, hen, htn, hsn⟩
  have hneI : (c.ens.length : Int) ≤ 2199023255551 := by omega
  unfold codeV at cT ⊢
  clear m hin hen htn hsn h64 hT bX mX hB
  obtain ⟨D2, HD2⟩ : ∃ D2, Hid (w.heap.size = D2) := ⟨_, (rfl : w.heap.size = _)⟩
  go_enter Tryd.func6, Tryd.ntmps6
  have x0 := (fX.cell 0 _ rfl).1
  have x1 := (fX.cell 1 _ rfl).1
  have x2 := (fX.cell 2 _ rfl).1
  have x3 := (fX.cell 3 _ rfl).1
  clear fX
  go_wp2_with fail
  refine cT.mono ?_
  rintro z W1 hz
  obtain ⟨gi, ci, ge, ce, gt, ct, Es', rfl, tw⟩ := hz.out
  clear cT hz x0 x1 x2 x3 hX
  go_upto_region 2 with fail
  obtain ⟨W2, hW2⟩ : ∃ W2, W2 = W1.alloc (.cells #[.slice (some ⟨gi, 0, none⟩) c.ins.length ci, .slice (some ⟨ge, 0, none⟩) c.ens.length ce, .slice (some ⟨gt, 0, none⟩) c.txs.length ct, .int .i64 c.main] 26) := ⟨_, rfl⟩
  rw [← hW2]
  have b2 : Below W1.heap.size W1 W2 := by rw [hW2]; exact (Below.refl _ W1).alloc (Nat.le_refl _) _
  have f2 : Full W2 W1.heap.size 26 [.slice (some ⟨gi, 0, none⟩) c.ins.length ci, .slice (some ⟨ge, 0, none⟩) c.ens.length ce, .slice (some ⟨gt, 0, none⟩) c.txs.length ct, .int .i64 c.main] := by rw [hW2]; exact Full.new W1 _ _
  have bl := below2 tw.b b2
  obtain ⟨D, HD⟩ : ∃ D, Hid (W1.heap.size = D) := ⟨_, (rfl : W1.heap.size = _)⟩
  obtain ⟨b1, Hb1⟩ : ∃ b1, Hid (W1.heap.size = b1) := ⟨_, (rfl : W1.heap.size = _)⟩
  have HA : Hid (VcW X W2 D D2 gi ci ge ce gt ct b1 B iq eq tq ia ea ta Es Es' c) := by
    rw [← HD.out, ← Hb1.out, ← HD2.out]
    exact ⟨f2, HX.out.2.1.next bl, tw.code HX.out.2.2.1 b2, HX.out.2.2.1.below bl HX.out.2.2.2.1, b2.size, Nat.le_trans HX.out.2.2.2.1 bl.size, HX.out.2.2.2.2.1.next bl, tw.next b2, tw.cp, HX.out.2.2.2.2.2⟩
  have HF : Hid (Below w.heap.size w W2) := below2 HX.out.1 bl
  have HG : Hid (w.heap.size ≤ gi ∧ 3 ≤ gi ∧ gi < W2.heap.size) := ⟨Nat.le_trans HX.out.1.size (tw.ins.lt gi rfl).1, Nat.le_trans HX.out.2.2.2.2.1.size (tw.ins.lt gi rfl).1, Nat.lt_of_lt_of_le (tw.ins.lt gi rfl).2 b2.size⟩
  have HMX : Hid (CodeM X B iq eq tq Es c) := HX.out.2.2.1
  clear hW2 b2 f2 bl tw HX
  rw [HD.out, HD2.out]
  obtain ⟨⟨e, at_⟩, He⟩ : ∃ p, Hid (chkS c = p) := ⟨_, (rfl : chkS c = _)⟩
  obtain ⟨R, HR⟩ : ∃ R, Hid (surS c = R) := ⟨_, (rfl : surS c = _)⟩
  obtain ⟨st, Hst⟩ : ∃ st, Hid (stE R = st) := ⟨_, (rfl : stE R = _)⟩
  have x0 := (HA.out.x.cell 0 _ rfl).1
  have x1 := (HA.out.x.cell 1 _ rfl).1
  have x2 := (HA.out.x.cell 2 _ rfl).1
  have x3 := (HA.out.x.cell 3 _ rfl).1
  have cc := check_any HA.out.m HA.out.cp ci ce ct HA.out.hm HA.out.ta
  rw [He.out] at cc
  unfold codeV at cc
  go_wp2_with fail
  refine cc.mono ?_
  rintro z W3 ⟨rfl, b3⟩
  have HA3 := VcW.hid HA b3
  have HF3 : Hid (Below w.heap.size w W3 ∧ W2.heap.size ≤ W3.heap.size) := ⟨below2 HF.out b3, b3.size⟩
  clear cc x0 x1 x2 x3 b3 HA HF
  have y0 := (HA3.out.y.cell 0 _ rfl).1
  have y1 := (HA3.out.y.cell 1 _ rfl).1
  have y2 := (HA3.out.y.cell 2 _ rfl).1
  have y3 := (HA3.out.y.cell 3 _ rfl).1
  have cc := rcheck_any HA3.out.n ia ea ta HA3.out.hn HA3.out.i
  rw [He.out] at cc
  unfold codeV at cc
  go_wp2_with fail
  refine cc.mono ?_
  rintro z W4 ⟨rfl, b4⟩
  have HA4 := VcW.hid HA3 b4
  have HF4 : Hid (Below w.heap.size w W4 ∧ W2.heap.size ≤ W4.heap.size) := ⟨below2 HF3.out.1 b4, Nat.le_trans HF3.out.2 b4.size⟩
  clear cc y0 y1 y2 y3 b4 HA3 HF3
  have y0 := (HA4.out.y.cell 0 _ rfl).1
  have y1 := (HA4.out.y.cell 1 _ rfl).1
  have y2 := (HA4.out.y.cell 2 _ rfl).1
  have y3 := (HA4.out.y.cell 3 _ rfl).1
  have cc := rstacks_u HA4.out.n ia ea ta HA4.out.hn HA4.out.i
  rw [HR.out, Hst.out] at cc
  unfold codeV at cc
  go_wp2_with fail
  refine cc.mono ?_
  rintro z W5 ⟨wt, rfl, h5⟩
  have HA5 := VcW.hid HA4 h5.out.1
  have HF5w : Hid (W4.heap.size ≤ W5.heap.size) := h5.out.1.size
  have HF5 : Hid (Below w.heap.size w W5 ∧ LwR W5 W4.heap.size wt R ∧ gi < W4.heap.size) := ⟨below2 HF4.out.1 h5.out.1, h5.out.2, Nat.lt_of_lt_of_le HG.out.2.2 HF4.out.2⟩
  clear cc y0 y1 y2 y3 h5 HA4 HF4
  have x0 := (HA5.out.x.cell 0 _ rfl).1
  have x1 := (HA5.out.x.cell 1 _ rfl).1
  have x2 := (HA5.out.x.cell 2 _ rfl).1
  have x3 := (HA5.out.x.cell 3 _ rfl).1
  have cc := stacks_u HA5.out.m HA5.out.cp ci ce ct HA5.out.hm HA5.out.ta
  rw [HR.out, Hst.out] at cc
  unfold codeV at cc
  go_wp2_with fail
  refine cc.mono ?_
  rintro z W6 ⟨one, rfl, h6⟩
  have HA6 := VcW.hid HA5 h6.out.1
  have HF6 : Hid (Below w.heap.size w W6 ∧ LwR W6 W4.heap.size wt R ∧ gi < W4.heap.size ∧ LwR W6 W5.heap.size one R ∧ gi < W5.heap.size) := ⟨below2 HF5.out.1 h6.out.1, HF5.out.2.1.next h6.out.1, HF5.out.2.2, h6.out.2.lw, Nat.lt_of_lt_of_le HF5.out.2.2 HF5w.out⟩
  clear cc x0 x1 x2 x3 h6 HA5 HF5
  have x0 := (HA6.out.x.cell 0 _ rfl).1
  have x1 := (HA6.out.x.cell 1 _ rfl).1
  have x2 := (HA6.out.x.cell 2 _ rfl).1
  have x3 := (HA6.out.x.cell 3 _ rfl).1
  have cc := stacks_u HA6.out.m HA6.out.cp ci ce ct HA6.out.hm HA6.out.ta
  rw [HR.out, Hst.out] at cc
  unfold codeV at cc
  go_wp2_with fail
  refine cc.mono ?_
  rintro z W7 ⟨two, rfl, h7⟩
  have HA7 := VcW.hid HA6 h7.out.1
  have HL7 : Hid (LsN W7 W6.heap.size W7.heap.size two R ∧ LwR W7 W6.heap.size two R ∧ Below W6.heap.size W6 W7) := ⟨h7.out.2.n, h7.out.2.lw, h7.out.1⟩
  clear cc x0 x1 x2 x3 h7
  have cc := sameR_yes (HF6.out.2.2.2.1.next HL7.out.2.2) (HF6.out.2.1.next HL7.out.2.2)
  go_wp2_with fail
  refine cc.mono ?_
  rintro z W8 ⟨rfl, b8⟩
  have HL8 : Hid (LsN W8 W6.heap.size W7.heap.size two R ∧ LwR W8 W6.heap.size two R ∧ Below W6.heap.size W6 W8 ∧ W7.heap.size ≤ W8.heap.size) := ⟨HL7.out.1.next b8, HL7.out.2.1.next b8, below2 HL7.out.2.2 b8, b8.size⟩
  have HA8 := VcW.hid HA7 b8
  clear cc b8 HL7 HA7
  have cc := sameR_yes HL8.out.2.1 (HF6.out.2.1.next HL8.out.2.2.1)
  go_wp2_with fail
  refine cc.mono ?_
  rintro z W9 ⟨rfl, b9⟩
  have HL9 : Hid (LsN W9 W6.heap.size W7.heap.size two R ∧ Below W6.heap.size W6 W9 ∧ W7.heap.size ≤ W9.heap.size) := ⟨HL8.out.1.next b9, below2 HL8.out.2.2.1 b9, Nat.le_trans HL8.out.2.2.2 b9.size⟩
  have HA9 := VcW.hid HA8 b9
  clear cc b9 HL8 HA8
  go_wp2_with fail
  go_loopw [14] (fun iv wr => ∃ n : Int, -1 ≤ n ∧ n ≤ (c.ens.length : Int) + 1 ∧ iv = .int .i64 n ∧ Hid (Below W9.heap.size W9 wr)) (fun iv _ => ((c.ens.length : Int) + 1 - intOf iv).toNat)
  case atStart => exact ⟨-1, by omega, by omega, rfl, Below.refl _ _⟩
  case round =>
    obtain ⟨n, hn1, hn2, rfl, HQ⟩ := hrel
    have HAq := VcW.hid HA9 HQ.out
    have y1 := (HAq.out.y.cell 1 _ rfl).1
    by_cases hle : n ≤ (c.ens.length : Int)
    · have hw : IntKind.i64.wrap (n + 1) = n + 1 := by rw [IntKind.wrap_i64]; omega
      obtain ⟨⟨hh, hc⟩, Hh⟩ : ∃ p, Hid (highR c n R = p) := ⟨_, (rfl : highR c n R = _)⟩
      have x0 := (HAq.out.x.cell 0 _ rfl).1
      have x1 := (HAq.out.x.cell 1 _ rfl).1
      have x2 := (HAq.out.x.cell 2 _ rfl).1
      have x3 := (HAq.out.x.cell 3 _ rfl).1
      have cc := high_any HAq.out.m HAq.out.cp ci ce ct HAq.out.hm HAq.out.ta n
      rw [HR.out, Hh.out] at cc
      unfold codeV at cc
      go_wp2_with fail
      refine cc.mono ?_
      rintro z V1 ⟨rfl, b8⟩
      have HA8 := VcW.hid HAq b8
      have HQ8 : Hid (Below W9.heap.size W9 V1) := below2 HQ.out b8
      clear cc x0 x1 x2 x3 b8 HAq HQ y1
      have y0 := (HA8.out.y.cell 0 _ rfl).1
      have y1 := (HA8.out.y.cell 1 _ rfl).1
      have y2 := (HA8.out.y.cell 2 _ rfl).1
      have y3 := (HA8.out.y.cell 3 _ rfl).1
      have cc := rhigh_any HA8.out.n ia ea ta HA8.out.hn HA8.out.i n
      rw [HR.out, Hh.out] at cc
      unfold codeV at cc
      go_wp2_with fail
      refine cc.mono ?_
      rintro z V2 ⟨rfl, b9⟩
      have HQ9 : Hid (Below W9.heap.size W9 V2) := below2 HQ8.out b9
      clear cc y0 y1 y2 y3 b9 HA8 HQ8
      go_wp2
      exact ⟨⟨n + 1, by omega, by omega, rfl, HQ9⟩, by simp [intOf]; omega⟩
    · have HL10 : Hid (LsN wr W6.heap.size W7.heap.size two R ∧ Below W6.heap.size W6 wr ∧ W7.heap.size ≤ wr.heap.size) := ⟨HL9.out.1.next HQ.out, below2 HL9.out.2.1 HQ.out, Nat.le_trans HL9.out.2.2 HQ.out.size⟩
      have cP := plain_any wr
      clear HL9 HA9 HQ
      go_wp2_with fail
      clear y1
      refine cP.mono ?_
      rintro z V1 hz
      obtain ⟨pg, pe, rfl, mp, bp⟩ := hz.out
      obtain ⟨Q, HQ2⟩ : ∃ Q, Hid (surS plC = Q) := ⟨_, (rfl : surS plC = _)⟩
      obtain ⟨st2, Hst2⟩ : ∃ st2, Hid (stE Q = st2) := ⟨_, (rfl : stE Q = _)⟩
      have cc := stacks_u mp pl_cp 3 1 0 (Nat.le_refl _) (HAq.out.ta.next bp)
      rw [HQ2.out, Hst2.out] at cc
      have HA1 := VcW.hid HAq bp
      have HL1 : Hid (LsN V1 W6.heap.size W7.heap.size two R ∧ Below W6.heap.size W6 V1 ∧ W7.heap.size ≤ V1.heap.size) := ⟨HL10.out.1.next bp, below2 HL10.out.2.1 bp, Nat.le_trans HL10.out.2.2 bp.size⟩
      clear cP hz mp bp HAq HL10
      go_wp2_with fail
      refine cc.mono ?_
      rintro z V2 ⟨th, rfl, h2⟩
      have HA2 := VcW.hid HA1 h2.out.1
      have HL2 : Hid (LsN V2 W6.heap.size W7.heap.size two R ∧ Below W6.heap.size W6 V2 ∧ W7.heap.size ≤ V1.heap.size ∧ LwR V2 V1.heap.size th Q ∧ W7.heap.size ≤ V2.heap.size) := ⟨HL1.out.1.next h2.out.1, below2 HL1.out.2.1 h2.out.1, HL1.out.2.2, h2.out.2.lw, Nat.le_trans HL1.out.2.2 h2.out.1.size⟩
      clear cc h2 HA1 HL1
      have cP := plain_any V2
      go_wp2_with fail
      refine cP.mono ?_
      rintro z V3 hz
      obtain ⟨pg2, pe2, rfl, mp, bp⟩ := hz.out
      have cc := rstacks_u mp 3 1 0 (Nat.le_refl _) in64_pl
      rw [HQ2.out, Hst2.out] at cc
      have HA3 := VcW.hid HA2 bp
      have HL3 : Hid (LsN V3 W6.heap.size W7.heap.size two R ∧ Below W6.heap.size W6 V3 ∧ W7.heap.size ≤ V1.heap.size ∧ LwR V3 V1.heap.size th Q ∧ W7.heap.size ≤ V3.heap.size) := ⟨HL2.out.1.next bp, below2 HL2.out.2.1 bp, HL2.out.2.2.1, HL2.out.2.2.2.1.next bp, Nat.le_trans HL2.out.2.2.2.2 bp.size⟩
      clear cP hz mp bp HA2 HL2
      go_wp2_with fail
      refine cc.mono ?_
      rintro z V4 ⟨ot, rfl, h4⟩
      have HA4 := VcW.hid HA3 h4.out.1
      have HL4 : Hid (LsN V4 W6.heap.size W7.heap.size two R ∧ Below W6.heap.size W6 V4 ∧ W7.heap.size ≤ V1.heap.size ∧ LwR V4 V1.heap.size th Q ∧ W7.heap.size ≤ V3.heap.size ∧ LwR V4 V3.heap.size ot Q) := ⟨HL3.out.1.next h4.out.1, below2 HL3.out.2.1 h4.out.1, HL3.out.2.2.1, HL3.out.2.2.2.1.next h4.out.1, HL3.out.2.2.2.2, h4.out.2⟩
      clear cc h4 HA3 HL3
      have cc := defacedR_any HL4.out.1 HL4.out.2.1.size
      go_wp2_with fail
      refine cc.mono ?_
      rintro z V5 ⟨rfl, k5⟩
      have b5 : Below W6.heap.size W6 V5 := HL4.out.2.1.trans (k5.below (fun g hg => hg.1) HL4.out.2.1.size)
      have kk : ∀ {b : Nat} {v : Value} {R : Except (Int × Int) Kn}, LwR V4 b v R → W7.heap.size ≤ b → LwR V5 b v R := fun h hb => h.keep fun g t hg _ hbk => k5.block g hbk.lt fun q => by omega
      have HL5 : Hid (Below W6.heap.size W6 V5 ∧ LwR V5 V1.heap.size th Q ∧ LwR V5 V3.heap.size ot Q) := ⟨b5, kk HL4.out.2.2.2.1 HL4.out.2.2.1, kk HL4.out.2.2.2.2.2 HL4.out.2.2.2.2.1⟩
      have HA5 := VcW.hid HA6 b5
      clear cc k5 b5 kk HL4 HA4 HA6
      have cc := sameR_yes (HF6.out.2.2.2.1.next HL5.out.1) (HF6.out.2.1.next HL5.out.1)
      go_wp2_with fail
      refine cc.mono ?_
      rintro z V6 ⟨rfl, b6⟩
      have HA7 := VcW.hid HA5 b6
      have HL6 : Hid (Below W6.heap.size W6 V6 ∧ LwR V6 V1.heap.size th Q ∧ LwR V6 V3.heap.size ot Q) := ⟨below2 HL5.out.1 b6, HL5.out.2.1.next b6, HL5.out.2.2.next b6⟩
      clear cc b6 HA5 HL5
      have cc := sameR_yes HL6.out.2.1 HL6.out.2.2
      go_wp2_with fail
      refine cc.mono ?_
      rintro z V7 ⟨rfl, b7⟩
      have HA8 := VcW.hid HA7 b7
      have HL7 : Hid (Below W6.heap.size W6 V7) := below2 HL6.out.1 b7
      clear cc b7 HA7 HL6
      have cc := sameCode_any HA8.out.t HA8.out.n HA8.out.hn ia ea ta HB.out.1 HB.out.2.1 HB.out.2.2.1 (fun y hy => HB.out.2.2.2 y.1 (by rw [← HA8.out.n.en]; exact List.mem_map_of_mem hy))
      unfold codeV at cc
      have x0 := (HA8.out.x.cell 0 _ rfl).1
      have x1 := (HA8.out.x.cell 1 _ rfl).1
      have x2 := (HA8.out.x.cell 2 _ rfl).1
      have x3 := (HA8.out.x.cell 3 _ rfl).1
      have y0 := (HA8.out.y.cell 0 _ rfl).1
      have y1 := (HA8.out.y.cell 1 _ rfl).1
      have y2 := (HA8.out.y.cell 2 _ rfl).1
      have y3 := (HA8.out.y.cell 3 _ rfl).1
      go_wp2_with fail
      refine cc.mono ?_
      rintro z V8 ⟨rfl, b8⟩
      have HA9 := VcW.hid HA8 b8
      have HL8 : Hid (Below W6.heap.size W6 V8) := below2 HL7.out b8
      clear cc x0 x1 x2 x3 y0 y1 y2 y3 b8 HA8 HL7
      have cc := anew_any HA9.out.t HMX.out HB.out.1 HB.out.2.1 HB.out.2.2.1 HB.out.2.2.2 HA9.out.i HA9.out.ta HG.out.2.1
      unfold codeV at cc
      have x0 := (HA9.out.x.cell 0 _ rfl).1
      have x1 := (HA9.out.x.cell 1 _ rfl).1
      have x2 := (HA9.out.x.cell 2 _ rfl).1
      have x3 := (HA9.out.x.cell 3 _ rfl).1
      go_wp2_with fail
      refine cc.mono ?_
      rintro z V9 ⟨rfl, k9⟩
      have kk : ∀ {b : Nat} {v : Value}, LwR V8 b v R → gi < b → LwR V9 b v R := fun h hb => h.keep fun g t hg _ hbk => k9.block g hbk.lt fun q => by omega
      have HL9 : Hid (LwR V9 W5.heap.size one R ∧ LwR V9 W4.heap.size wt R ∧ Tabs V9 ∧ Below w.heap.size w V9) := ⟨kk (HF6.out.2.2.2.1.next HL8.out) HF6.out.2.2.2.2, kk (HF6.out.2.1.next HL8.out) HF6.out.2.2.1, tabs_kp HA9.out.ta k9 HG.out.2.1, (below2 HF6.out.1 HL8.out).trans (k9.below (fun x hx => by rw [hx]; exact HG.out.1) (below2 HF6.out.1 HL8.out).size)⟩
      clear cc x0 x1 x2 x3 k9 kk HA9 HL8
      have cc := sameR_yes HL9.out.1 HL9.out.2.1
      go_wp2_with fail
      refine cc.mono ?_
      rintro z V10 ⟨rfl, b10⟩
      have cL := lives_any V10 (HL9.out.2.2.1.next b10)
      have HL10 : Hid (Below w.heap.size w V10) := below2 HL9.out.2.2.2 b10
      clear cc b10 HL9
      go_wp2_with fail
      refine cL.mono ?_
      rintro z V11 ⟨rfl, b11⟩
      have HE : Hid (Below w.heap.size w V11) := below2 HL10.out b11
      clear cL b11 HL10
      go_wp2
      go_ret
      exact ⟨rfl, HE.out⟩
end
end Go.Proofs.YtdcaonfnhdjibaaDoor
