import Derived.Test.YtcjnejdemfemfaaGreatDoorTW2
import Derived.BigRegion
import Derived.Test.YtcjnejdemfemfaaGreatDoorRV1
namespace Go.Proofs.YtcjnejdemfemfaaGreatDoor
open Go.RowKit

/-- The twin, as it is being written over. -/
structure OvW (w W : World) (b gi ge gt : Nat) (Gs : List Nat) (c d : Cd) : Prop where
  s : TwS W b gi ge gt Gs d
  o : Ov c d
  k : Kp (fun g => g = gi ∨ g = gt ∨ g ∈ Gs) w W
  x : Full W w.heap.size 26 [.slice (some ⟨gi, 0, none⟩) c.ins.length (c.ins.length + 1), .slice (some ⟨ge, 0, none⟩) c.ens.length (c.ens.length + 1), .slice (some ⟨gt, 0, none⟩) c.txs.length (c.txs.length + 1), .int .i64 c.main]
theorem OvW.next {w W W' : World} {b gi ge gt : Nat} {Gs : List Nat} {c d : Cd} (h : OvW w W b gi ge gt Gs c d) (k : Below W.heap.size W W') : OvW w W' b gi ge gt Gs c d := ⟨h.s.next k, h.o, h.k.next k, h.x.next k⟩
theorem OvW.setT {w W : World} {b gi ge gt : Nat} {Gs : List Nat} {c d : Cd} (h : OvW w W b gi ge gt Gs c d) {j : Nat} (hj : j < d.txs.length) {t : ByteArray} (ht : t.size ≤ 9223372036854775807) : OvW w (W.setCell ⟨gt, j, none⟩ (.string t)) b gi ge gt Gs c { d with txs := d.txs.set j t } :=
  ⟨h.s.setT hj t, h.o.setT j ht, h.k.setCell (p := ⟨gt, j, none⟩) (.inl (.inr (.inl rfl))) _, h.x.other1 (h.x.ne h.s.ft (by decide))⟩
theorem OvW.setS {w W : World} {b gi ge gt : Nat} {Gs : List Nat} {c d : Cd} (h : OvW w W b gi ge gt Gs c d) {k j g : Nat} (hk : k < d.ens.length) (hj : j < d.ens[k].sorts.length) (hg : Gs[k]? = some g) : OvW w (W.setCell ⟨g, j, none⟩ (.int .i64 1)) b gi ge gt Gs c (YtcjnejdemfemfaaGreatDoor.setS d k j d.ens[k]) := by
  obtain ⟨g', q1, q2⟩ := h.s.fs k hk
  obtain rfl : g = g' := Option.some.inj (hg.symm.trans q1)
  exact ⟨h.s.setS hk hj hg, h.o.setS hk, h.k.setCell (p := ⟨g, j, none⟩) (.inl (.inr (.inr (List.mem_of_getElem? hg)))) _, h.x.other1 (h.x.ne q2 (by decide))⟩
theorem OvW.setI {w W : World} {b gi ge gt : Nat} {Gs : List Nat} {c d : Cd} (h : OvW w W b gi ge gt Gs c d) (hn : 0 < d.ins.length) : OvW w (W.setCells gi 0 (ic (13, 0, 0))) b gi ge gt Gs c { d with ins := d.ins.set 0 (13, 0, 0) } :=
  ⟨h.s.setI hn _, h.o.setI, Kp.setCells (.inl (.inl rfl)) _ _ h.k, h.x.other (h.x.ne h.s.fi (by decide))⟩
theorem OvW.ent {w W : World} {b gi ge gt : Nat} {Gs : List Nat} {c d : Cd} (h : OvW w W b gi ge gt Gs c d) {j g : Nat} {e : En} (he : d.ens[j]? = some e) (hg : Gs[j]? = some g) : W.cell? ⟨ge, j * 5 + 3, none⟩ = some (.slice (some ⟨g, 0, none⟩) e.sorts.length (e.sorts.length + 1)) := by
  obtain ⟨hj, rfl⟩ := List.getElem?_eq_some_iff.1 he
  have hz' := zip_get hj hg
  have hl : j < (zipE d.ens Gs).length := by rw [zip_len h.s.gl]; exact hj
  refine (h.s.fe.cell (j * 5 + 3) _ ?_).1
  rw [List.getElem?_append_left (by rw [flatL ec 5 (fun _ => rfl), zip_len h.s.gl]; omega), flat_at ec 5 (fun _ => rfl) (zipE d.ens Gs) j 3 hl (by omega)]
  rw [List.getElem?_eq_getElem hl] at hz'
  rw [Option.some.inj hz']
  rfl
theorem OvW.sort {w W : World} {b gi ge gt : Nat} {Gs : List Nat} {c d : Cd} (h : OvW w W b gi ge gt Gs c d) {j g k : Nat} {e : En} (he : d.ens[j]? = some e) (hg : Gs[j]? = some g) (hk : k < e.sorts.length) : ∃ v, W.cell? ⟨g, k, none⟩ = some v ∧ W.frozen? ⟨g, k, none⟩ = false := by
  obtain ⟨hj, rfl⟩ := List.getElem?_eq_some_iff.1 he
  obtain ⟨g', q1, q2⟩ := h.s.fs j hj
  obtain rfl : g = g' := Option.some.inj (hg.symm.trans q1)
  exact ⟨.int .i64 d.ens[j].sorts[k], q2.cell k _ (by rw [List.getElem?_append_left (by rw [sv_len]; exact hk)]; unfold sv; rw [List.getElem?_map, List.getElem?_eq_getElem hk]; rfl)⟩
theorem OvW.insC {w W : World} {b gi ge gt : Nat} {Gs : List Nat} {c d : Cd} (h : OvW w W b gi ge gt Gs c d) (hn : 0 < d.ins.length) (k : Nat) (hk : k < 3) : ∃ v, W.cell? ⟨gi, k, none⟩ = some v ∧ W.frozen? ⟨gi, k, none⟩ = false := by
  have hl : k < (d.ins.flatMap ic ++ ([.int .i64 77, .int .i64 0, .int .i64 0] : List Value)).length := by rw [List.length_append, flatL ic 3 (fun _ => rfl)]; omega
  exact ⟨_, h.s.fi.cell k _ (List.getElem?_eq_getElem hl)⟩
end Go.Proofs.YtcjnejdemfemfaaGreatDoor
namespace Go.Proofs.YtcjnejdemfemfaaGreatDoor
open Go.RowKit

theorem ArgC.next {w W : World} {iq eq tq : Option Addr} {Es : List Em} {c : Cd} (h : ArgC w iq eq tq Es c) (k : Below w.heap.size w W) : ArgC W iq eq tq Es c :=
  ⟨(h.m.below k (Nat.le_refl _)).up k.size, h.li, h.le, h.lt, fun x hx => by obtain ⟨⟨a, b⟩, e⟩ := h.es x hx; exact ⟨⟨(a.below k (Nat.le_refl _)).up k.size, b⟩, e⟩, h.is, h.ts, h.mn⟩
theorem ArgC.ov {w : World} {iq eq tq : Option Addr} {Es : List Em} {c : Cd} (h : ArgC w iq eq tq Es c) : Ov c c := ⟨rfl, rfl, rfl, rfl, h.parts, h.in64⟩
theorem ArgC.ls {w : World} {iq eq tq : Option Addr} {Es : List Em} {c : Cd} (h : ArgC w iq eq tq Es c) : ∀ e ∈ c.ens, e.sorts.length * 8 ≤ 140737488351232 := fun e he => by
  rw [← h.m.en] at he
  obtain ⟨x, hx, rfl⟩ := List.mem_map.1 he
  exact (h.es x hx).1.2
/-- The twin's own words. -/
abbrev aggX (gi ge gt : Nat) (c : Cd) : Value := .agg #[.slice (some ⟨gi, 0, none⟩) c.ins.length (c.ins.length + 1), .slice (some ⟨ge, 0, none⟩) c.ens.length (c.ens.length + 1), .slice (some ⟨gt, 0, none⟩) c.txs.length (c.txs.length + 1), .int .i64 c.main]
/-- The argument's box, and the twin's, p: as they lie behind each call. -/
structure Two2 (w W : World) (p : Nat) (iq eq tq : Option Addr) (ia ea ta : Nat) (Es : List Em) (c : Cd) (b gi ge gt : Nat) (Gs : List Nat) : Prop where
  bel : Below w.heap.size w W
  arg : ArgC W iq eq tq Es c
  tw : TwS W b gi ge gt Gs c
  bc : Full W w.heap.size 26 [.slice iq c.ins.length ia, .slice eq c.ens.length ea, .slice tq c.txs.length ta, .int .i64 c.main]
  bx : Full W p 26 [.slice (some ⟨gi, 0, none⟩) c.ins.length (c.ins.length + 1), .slice (some ⟨ge, 0, none⟩) c.ens.length (c.ens.length + 1), .slice (some ⟨gt, 0, none⟩) c.txs.length (c.txs.length + 1), .int .i64 c.main]
  hb : w.heap.size + 1 ≤ b ∧ b ≤ W.heap.size
theorem Two2.next {w W W' : World} {p : Nat} {iq eq tq : Option Addr} {ia ea ta : Nat} {Es : List Em} {c : Cd} {b gi ge gt : Nat} {Gs : List Nat} (h : Two2 w W p iq eq tq ia ea ta Es c b gi ge gt Gs) (k : Below W.heap.size W W') : Two2 w W' p iq eq tq ia ea ta Es c b gi ge gt Gs :=
  ⟨below2 h.bel k, h.arg.next k, h.tw.next k, h.bc.next k, h.bx.next k, h.hb.1, Nat.le_trans h.hb.2 k.size⟩
/-- Behind over: the twin is another code d. -/
structure Two3 (w W : World) (p : Nat) (c d : Cd) (gi ge gt : Nat) (Gs : List Nat) : Prop where
  bel : Below w.heap.size w W
  cm : CodeM W W.heap.size (some ⟨gi, 0, none⟩) (some ⟨ge, 0, none⟩) (some ⟨gt, 0, none⟩) (zipE d.ens Gs) d
  ov : Ov c d
  bx : Full W p 26 [.slice (some ⟨gi, 0, none⟩) c.ins.length (c.ins.length + 1), .slice (some ⟨ge, 0, none⟩) c.ens.length (c.ens.length + 1), .slice (some ⟨gt, 0, none⟩) c.txs.length (c.txs.length + 1), .int .i64 c.main]
theorem Two3.next {w W W' : World} {p : Nat} {c d : Cd} {gi ge gt : Nat} {Gs : List Nat} (h : Two3 w W p c d gi ge gt Gs) (k : Below W.heap.size W W') : Two3 w W' p c d gi ge gt Gs :=
  ⟨below2 h.bel k, (h.cm.below k (Nat.le_refl _)).up k.size, h.ov, h.bx.next k⟩
theorem Two2.over {w W W' : World} {p : Nat} {iq eq tq : Option Addr} {ia ea ta : Nat} {Es : List Em} {c d : Cd} {b gi ge gt : Nat} {Gs : List Nat} (h : Two2 w W p iq eq tq ia ea ta Es c b gi ge gt Gs) (k : OvW W W' b gi ge gt Gs c d) : Two3 w W' p c d gi ge gt Gs := by
  have hF : ∀ g, (g = gi ∨ g = gt ∨ g ∈ Gs) → b ≤ g := fun g hg => by
    rcases hg with rfl | rfl | hg
    · exact h.tw.ib
    · exact h.tw.tb
    · exact h.tw.gb g hg
  have kb : Below b W W' := k.k.below hF h.hb.2
  refine ⟨h.bel.trans (kb.mono (by have := h.hb.1; omega)), k.s.m k.o.p, k.o, ?_⟩
  refine (k.k.block p h.bx.lt ?_).trans h.bx
  rintro (q | q | q)
  · exact (h.bx.ne h.tw.fi (by decide)) q
  · exact (h.bx.ne h.tw.ft (by decide)) q
  · obtain ⟨i, hi, e⟩ := List.getElem_of_mem q
    obtain ⟨g, q1, q2⟩ := h.tw.fs i (by rw [← h.tw.gl]; exact hi)
    rw [List.getElem?_eq_getElem hi] at q1
    exact (h.bx.ne q2 (by decide)) (e.symm.trans (Option.some.inj q1))
theorem Full.four {W : World} {g : Nat} {t : TypeId} {a b c d : Value} (h : Full W g t [a, b, c, d]) : W.cell? ⟨g, 0, none⟩ = some a ∧ W.cell? ⟨g, 1, none⟩ = some b ∧ W.cell? ⟨g, 2, none⟩ = some c ∧ W.cell? ⟨g, 3, none⟩ = some d :=
  ⟨(h.cell 0 _ rfl).1, (h.cell 1 _ rfl).1, (h.cell 2 _ rfl).1, (h.cell 3 _ rfl).1⟩
/-- The twin is made, and lies in a box. -/
theorem Two2.start {w W2 W3 : World} {iq eq tq : Option Addr} {ia ea ta : Nat} {Es : List Em} {c : Cd} {gi ge gt : Nat} {Gs : List Nat} (h : ArgC w iq eq tq Es c) (W1 : World) (h1 : W1 = w.alloc (.cells #[.slice iq c.ins.length ia, .slice eq c.ens.length ea, .slice tq c.txs.length ta, .int .i64 c.main] 26))
    (t : TwS W2 W1.heap.size gi ge gt Gs c) (k : Below W1.heap.size W1 W2) (h3 : W3 = W2.alloc (.cells #[.slice (some ⟨gi, 0, none⟩) c.ins.length (c.ins.length + 1), .slice (some ⟨ge, 0, none⟩) c.ens.length (c.ens.length + 1), .slice (some ⟨gt, 0, none⟩) c.txs.length (c.txs.length + 1), .int .i64 c.main] 26)) : Two2 w W3 W2.heap.size iq eq tq ia ea ta Es c W1.heap.size gi ge gt Gs := by
  have n1 : Below w.heap.size w W1 := by rw [h1]; exact (Below.refl _ w).alloc (Nat.le_refl _) _
  have z1 : W1.heap.size = w.heap.size + 1 := by rw [h1]; simp
  have f1 : Full W1 w.heap.size 26 [.slice iq c.ins.length ia, .slice eq c.ens.length ea, .slice tq c.txs.length ta, .int .i64 c.main] := by rw [h1]; exact Full.new w _ _
  have n3 : Below W2.heap.size W2 W3 := by rw [h3]; exact (Below.refl _ W2).alloc (Nat.le_refl _) _
  have k3 := below2 k n3
  exact ⟨below2 n1 k3, (h.next n1).next k3, t.next n3, f1.next k3, by rw [h3]; exact Full.new W2 _ _, by omega, k3.size⟩
end Go.Proofs.YtcjnejdemfemfaaGreatDoor

