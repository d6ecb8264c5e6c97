import Derived.Test.YtcjnejdemfemfaaGreatDoorTW1
namespace Go.Proofs.YtcjnejdemfemfaaGreatDoor
open Go.RowKit

theorem hid_ex (x : World) : ∃ y, Hid (x = y) := ⟨x, (rfl : x = x)⟩
end Go.Proofs.YtcjnejdemfemfaaGreatDoor
namespace Go.Proofs.YtcjnejdemfemfaaGreatDoor
open Go.RowKit

theorem zip_fst : ∀ (L : List En) (Gs : List Nat), Gs.length = L.length → (zipE L Gs).map (·.1) = L
  | [], _, _ => by simp [zipE]
  | e :: L, [], h => by simp at h
  | e :: L, g :: Gs, h => by
    have := zip_fst L Gs (by simpa using h)
    unfold zipE at this ⊢
    rw [List.zipWith_cons_cons, List.map_cons, this]
    rfl
theorem zip_get {L : List En} {Gs : List Nat} {i g : Nat} (h : i < L.length) (hg : Gs[i]? = some g) : (zipE L Gs)[i]? = some (ownE L[i] g) := by
  unfold zipE
  rw [List.getElem?_zipWith, List.getElem?_eq_getElem h, hg]
/-- What is asked of a code's parts beside their memory. -/
structure PartsOk (c : Cd) : Prop where
  es : ∀ e ∈ c.ens, e.name.size ≤ 9223372036854775807 ∧ e.sorts.length ≤ 9223372036854775807
  il : c.ins.length ≤ 9223372036854775807
  el : c.ens.length ≤ 9223372036854775807
  tl : c.txs.length ≤ 9223372036854775807
  ts : ∀ t ∈ c.txs, t.size ≤ 9223372036854775807
theorem TwS.m {W : World} {b gi ge gt : Nat} {Gs : List Nat} {c : Cd} (h : TwS W b gi ge gt Gs c) (hp : PartsOk c) : CodeM W W.heap.size (some ⟨gi, 0, none⟩) (some ⟨ge, 0, none⟩) (some ⟨gt, 0, none⟩) (zipE c.ens Gs) c := by
  refine ⟨zip_fst _ _ h.gl, fun _ => ⟨gi, 0, rfl, h.fi.lt, h.fi.range⟩, fun _ => ⟨ge, 0, rfl, h.fe.lt, h.fe.range⟩, fun _ => ⟨gt, 0, rfl, h.ft.lt, h.ft.range⟩, fun x hx => ?_, hp.il, hp.el, hp.tl, hp.ts⟩
  obtain ⟨i, hi, rfl⟩ := List.getElem_of_mem hx
  have hi' : i < c.ens.length := by rwa [zip_len h.gl] at hi
  obtain ⟨g, h1, h2⟩ := h.fs i hi'
  have e := zip_get hi' h1
  rw [List.getElem?_eq_getElem hi] at e
  rw [Option.some.inj e]
  exact ⟨fun _ => ⟨g, 0, rfl, h2.lt, h2.range⟩, hp.es _ (List.getElem_mem hi')⟩
theorem ArgC.parts {w : World} {iq eq tq : Option Addr} {Es : List Em} {c : Cd} (h : ArgC w iq eq tq Es c) : PartsOk c := by
  refine ⟨fun e he => ?_, h.m.il, h.m.el, h.m.tl, h.m.ts⟩
  rw [← h.m.en] at he
  obtain ⟨x, hx, rfl⟩ := List.mem_map.1 he
  exact (h.m.sr x hx).2
theorem ArgC.in64 {w : World} {iq eq tq : Option Addr} {Es : List Em} {c : Cd} (h : ArgC w iq eq tq Es c) : ∀ x ∈ c.ins, (-9223372036854775808 ≤ x.2.1 ∧ x.2.1 ≤ 9223372036854775807) ∧ (-9223372036854775808 ≤ x.2.2 ∧ x.2.2 ≤ 9223372036854775807) := fun x hx => ⟨(h.is x hx).2.1, (h.is x hx).2.2⟩
theorem last_at {vs : List Value} {v : Value} {d : List Value} : (vs ++ v :: d)[vs.length]? = some v := by rw [List.getElem?_append_right (Nat.le_refl _), Nat.sub_self]; rfl
end Go.Proofs.YtcjnejdemfemfaaGreatDoor
namespace Go.Proofs.YtcjnejdemfemfaaGreatDoor
open Go.RowKit

theorem catE (a b : ByteArray) (h : a.size + b.size ≤ 9223372036854775807) : Op.stringOp .add a b = pure (.string (a ++ b)) := by
  unfold Op.stringOp
  simp only
  have e : IntKind.i64.max = 9223372036854775807 := by decide
  rw [e, if_neg (by omega)]
theorem Full.setAt {W : World} {g : Nat} {t : TypeId} {vs : List Value} (h : Full W g t vs) (j : Nat) (v : Value) : Full (W.setCell ⟨g, j, none⟩ v) g t (vs.set j v) := by
  have := set_blk (j := j) h v
  unfold Full
  rw [this, Array.set!_eq_setIfInBounds, List.setIfInBounds_toArray]
theorem TwS.setT {W : World} {b gi ge gt : Nat} {Gs : List Nat} {c : Cd} (h : TwS W b gi ge gt Gs c) {j : Nat} (hj : j < c.txs.length) (t : ByteArray) : TwS (W.setCell ⟨gt, j, none⟩ (.string t)) b gi ge gt Gs { c with txs := c.txs.set j t } := by
  refine ⟨h.fi.other1 (h.fi.ne h.ft (by decide)), h.fe.other1 (h.fe.ne h.ft (by decide)), ?_, fun i hi => ?_, h.gl, h.nd, h.gb, h.ib, h.eb, h.tb⟩
  · have := h.ft.setAt j (.string t)
    rw [List.set_append_left _ _ (by rw [tv_len]; exact hj)] at this
    have e : tv (c.txs.set j t) = (tv c.txs).set j (.string t) := by unfold tv; rw [List.map_set]
    simp only
    rw [e]
    exact this
  · obtain ⟨g, h1, h2⟩ := h.fs i hi
    exact ⟨g, h1, h2.other1 (h2.ne h.ft (by decide))⟩
/-- One sort of one function is written over. -/
def setS (c : Cd) (k j : Nat) (e : En) : Cd := { c with ens := c.ens.set k { e with sorts := e.sorts.set j 1 } }
theorem nodup_ne {l : List Nat} (h : l.Nodup) {i k a b : Nat} (hi : l[i]? = some a) (hk : l[k]? = some b) (hne : i ≠ k) : a ≠ b := by
  obtain ⟨hi1, rfl⟩ := List.getElem?_eq_some_iff.1 hi
  obtain ⟨hk1, rfl⟩ := List.getElem?_eq_some_iff.1 hk
  intro e
  exact hne ((List.getElem_inj h).1 e)
theorem zip_set (L : List En) (Gs : List Nat) (k : Nat) (e e' : En) (hk : L[k]? = some e) (h : ∀ g, ec (ownE e' g) = ec (ownE e g)) : ((zipE (L.set k e') Gs).flatMap ec) = (zipE L Gs).flatMap ec := by
  induction L generalizing Gs k with
  | nil => rfl
  | cons a L ih =>
    cases Gs with
    | nil => cases k <;> rfl
    | cons g Gs =>
      cases k with
      | zero =>
        obtain rfl : a = e := by simpa using hk
        unfold zipE
        rw [List.set_cons_zero, List.zipWith_cons_cons, List.zipWith_cons_cons, List.flatMap_cons, List.flatMap_cons, h]
      | succ k =>
        have := ih Gs k (by simpa using hk)
        unfold zipE at this ⊢
        rw [List.set_cons_succ, List.zipWith_cons_cons, List.zipWith_cons_cons, List.flatMap_cons, List.flatMap_cons, this]
theorem TwS.setS {W : World} {b gi ge gt : Nat} {Gs : List Nat} {c : Cd} (h : TwS W b gi ge gt Gs c) {k j g : Nat} (hk : k < c.ens.length) (hj : j < c.ens[k].sorts.length) (hg : Gs[k]? = some g) : TwS (W.setCell ⟨g, j, none⟩ (.int .i64 1)) b gi ge gt Gs (YtcjnejdemfemfaaGreatDoor.setS c k j c.ens[k]) := by
  obtain ⟨g', q1, q2⟩ := h.fs k hk
  obtain rfl : g = g' := Option.some.inj (hg.symm.trans q1)
  refine ⟨h.fi.other1 (h.fi.ne q2 (by decide)), ?_, h.ft.other1 (h.ft.ne q2 (by decide)), fun i hi => ?_, by unfold YtcjnejdemfemfaaGreatDoor.setS; simp only; rw [List.length_set]; exact h.gl, h.nd, h.gb, h.ib, h.eb, h.tb⟩
  · have e := zip_set c.ens Gs k c.ens[k] { c.ens[k] with sorts := c.ens[k].sorts.set j 1 } (List.getElem?_eq_getElem hk) (fun g => by simp [ec, ownE])
    unfold YtcjnejdemfemfaaGreatDoor.setS
    simp only
    rw [e]
    exact h.fe.other1 (h.fe.ne q2 (by decide))
  · have hi' : i < c.ens.length := by unfold YtcjnejdemfemfaaGreatDoor.setS at hi; simpa using hi
    by_cases q : i = k
    · subst q
      refine ⟨g, hg, ?_⟩
      have f := q2.setAt j (.int .i64 1)
      rw [List.set_append_left _ _ (by rw [sv_len]; exact hj)] at f
      have e1 : (YtcjnejdemfemfaaGreatDoor.setS c i j c.ens[i]).ens[i]'hi = { c.ens[i] with sorts := c.ens[i].sorts.set j 1 } := List.getElem_set_self (l := c.ens) hi
      rw [e1]
      have e2 : sv (c.ens[i].sorts.set j 1) = (sv c.ens[i].sorts).set j (.int .i64 1) := by unfold sv; rw [List.map_set]
      simp only
      rw [e2]
      exact f
    · obtain ⟨g2, r1, r2⟩ := h.fs i hi'
      have e1 : (YtcjnejdemfemfaaGreatDoor.setS c k j c.ens[k]).ens[i]'hi = c.ens[i] := List.getElem_set_ne (l := c.ens) (fun x => q x.symm) hi
      rw [e1]
      exact ⟨g2, r1, r2.other1 (nodup_ne h.nd r1 hg q)⟩
theorem TwS.setI {W : World} {b gi ge gt : Nat} {Gs : List Nat} {c : Cd} (h : TwS W b gi ge gt Gs c) (hn : 0 < c.ins.length) (x : In) : TwS (W.setCells gi 0 (ic x)) b gi ge gt Gs { c with ins := c.ins.set 0 x } := by
  refine ⟨?_, h.fe.other (h.fe.ne h.fi (by decide)), h.ft.other (h.ft.ne h.fi (by decide)), fun i hi => ?_, h.gl, h.nd, h.gb, h.ib, h.eb, h.tb⟩
  · obtain ⟨y, r, e⟩ := List.exists_cons_of_length_pos hn
    have f := h.fi
    rw [e, List.flatMap_cons, List.append_assoc] at f
    have := Full.put (ic x) (a := []) (b := ic y) f rfl
    simp only
    rw [e, List.set_cons_zero, List.flatMap_cons, List.append_assoc]
    exact this
  · obtain ⟨g, h1, h2⟩ := h.fs i hi
    exact ⟨g, h1, h2.other (h2.ne h.fi (by decide))⟩
/-- A code with all lists as long as those of another. -/
structure Ov (c d : Cd) : Prop where
  i : d.ins.length = c.ins.length
  e : d.ens.length = c.ens.length
  t : d.txs.length = c.txs.length
  m : d.main = c.main
  p : PartsOk d
  n : ∀ x ∈ d.ins, (-9223372036854775808 ≤ x.2.1 ∧ x.2.1 ≤ 9223372036854775807) ∧ (-9223372036854775808 ≤ x.2.2 ∧ x.2.2 ≤ 9223372036854775807)
theorem Ov.setS {c d : Cd} (h : Ov c d) {k j : Nat} (hk : k < d.ens.length) : Ov c (YtcjnejdemfemfaaGreatDoor.setS d k j d.ens[k]) := by
  refine ⟨h.i, by unfold YtcjnejdemfemfaaGreatDoor.setS; simp only; rw [List.length_set]; exact h.e, h.t, h.m, ⟨fun e he => ?_, h.p.il, ?_, h.p.tl, h.p.ts⟩, h.n⟩
  · unfold YtcjnejdemfemfaaGreatDoor.setS at he
    rcases List.mem_or_eq_of_mem_set he with q | q
    · exact h.p.es e q
    · rw [q]
      have := h.p.es _ (List.getElem_mem hk)
      simp only [List.length_set]
      exact this
  · unfold YtcjnejdemfemfaaGreatDoor.setS; simp only; rw [List.length_set]; exact h.p.el
theorem Ov.setT {c d : Cd} (h : Ov c d) (j : Nat) {t : ByteArray} (ht : t.size ≤ 9223372036854775807) : Ov c { d with txs := d.txs.set j t } := by
  refine ⟨h.i, h.e, by simp only; rw [List.length_set]; exact h.t, h.m, ⟨h.p.es, h.p.il, h.p.el, by simp only; rw [List.length_set]; exact h.p.tl, fun x hx => ?_⟩, h.n⟩
  rcases List.mem_or_eq_of_mem_set hx with q | q
  · exact h.p.ts x q
  · rw [q]; exact ht
theorem Ov.setI {c d : Cd} (h : Ov c d) : Ov c { d with ins := d.ins.set 0 (13, 0, 0) } := by
  refine ⟨by simp only; rw [List.length_set]; exact h.i, h.e, h.t, h.m, ⟨h.p.es, by simp only; rw [List.length_set]; exact h.p.il, h.p.el, h.p.tl, h.p.ts⟩, fun x hx => ?_⟩
  rcases List.mem_or_eq_of_mem_set hx with q | q
  · exact h.n x q
  · rw [q]; decide
end Go.Proofs.YtcjnejdemfemfaaGreatDoor

