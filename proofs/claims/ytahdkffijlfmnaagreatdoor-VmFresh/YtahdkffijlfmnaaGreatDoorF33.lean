import Derived.Test.YtahdkffijlfmnaaGreatDoorF32
import Derived.Test.YtahdkffijlfmnaaGreatDoorF30
import Derived.Test.YtahdkffijlfmnaaGreatDoorF28
import Derived.Test.YtahdkffijlfmnaaGreatDoorF31
namespace Go.Proofs.YtahdkffijlfmnaaGreatDoor
open Go.ChangeShapes Go.WideShapes Go.ChangeAt Go.RowKit
open Hp (V vc vcs)

/-! The laws' argument, opened. -/
/-- No list without a place has room. -/
def NoneOk (q : Option Addr) (n cap : Nat) : Prop := q = none → n = 0 ∧ cap = 0
theorem none_of {H : Type} {enc : TypeId × Value → H} {W : World} {base : Nat} {spare : Nat → Bool} {held : Bool} {m : Nat} {t e : TypeId} {q : Option Addr} {n cap : Nat} {z} (ht : Tryz.prog.underlying t = some (.slice e)) (g : DataW.trod enc Tryz.prog W base spare held m t [.slice q n cap] = some z) : NoneOk q n cap := by
  rcases DataW.trod_slice ht g with ⟨h0, _⟩ | ⟨p, len, cap', elems, rest, k, _, h0, _⟩
  · simp only [List.cons.injEq, Value.slice.injEq, and_true] at h0
    exact fun _ => ⟨h0.2.1, h0.2.2⟩
  · simp only [List.cons.injEq, Value.slice.injEq, and_true] at h0
    intro hq
    rw [h0.1] at hq
    cases hq
def CapQ (y : Em) : Prop := NoneOk y.2.1 y.1.sorts.length y.2.2
theorem list2D {α : Type} {xs : List α} (h : xs.length = 2) : ∃ c0 c1, xs = [c0, c1] := by
  match xs, h with
  | [c0, c1], _ => exact ⟨c0, c1, rfl⟩
theorem op_ent_q {H : Type} {enc : TypeId × Value → H} {W : World} {base : Nat} {spare : Nat → Bool} {held : Bool} (n : Nat) (cs : List Value) (y : DataW H × List MemPlace) (hl : cs.length = 5) (h : DataW.trod enc Tryz.prog W base spare held n 71 cs = some y) (hw : Light 71 y.1) : ∃ a : Em, cs = ec a ∧ EmOk W a ∧ CapQ a := by
  obtain ⟨a, rfl, ha⟩ := op_ent n cs y hl h hw
  refine ⟨a, rfl, ha, ?_⟩
  obtain ⟨zs, m2, _, hy, _, hlen2, hgs⟩ := DataW.trod_struct Tryz.underlying71 h
  obtain ⟨z0, z1, z2, z3, z4, rfl⟩ := list5 hlen2
  have g3 : DataW.trod enc Tryz.prog W base spare held m2 68 [.slice a.2.1 a.1.sorts.length a.2.2] = some z3 := by have := hgs 3 _ rfl; simpa [ec, cStr, cNum, cLs] using this
  exact none_of Tryz.underlying68 g3
theorem rds_of {W : World} {b : Nat} {q : Option Addr} {n cap : Nat} {xs : List Value} (h : Row W b q n xs) (hn : NoneOk q n cap) : RdS W q n cap xs := ⟨fun q => (hn q).1, fun h0 => by
  obtain ⟨g, o, e, -, r⟩ := h h0
  exact ⟨g, o, e, r⟩⟩
theorem cLin : Tryz.prog.cellsOf 27 = 1 := by kernel_rfl
theorem cLim : Tryz.prog.cellsOf 29 = 2 := by kernel_rfl
theorem cSet : Tryz.prog.cellsOf 31 = 7 := by kernel_rfl
theorem cRunA : Tryz.prog.cellsOf 33 = 9 := by kernel_rfl
theorem bI64 : Tryz.prog.bytesOf 2 = 8 := by kernel_rfl
theorem op_i64 {H : Type} {enc : TypeId × Value → H} {W : World} {base : Nat} {spare : Nat → Bool} {held : Bool} (n : Nat) (cs : List Value) (y : DataW H × List MemPlace) (hl : cs.length = 1) (h : DataW.trod enc Tryz.prog W base spare held n 2 cs = some y) (_ : Light 2 y.1) : ∃ a : Int, cs = [.int .i64 a] ∧ i64 a := by
  obtain ⟨c0, rfl⟩ := list1 hl
  obtain ⟨a, e, rfl, wf⟩ := DataW.trod_int Tryz.underlying2 h
  simp at e
  exact ⟨a, by rw [e], wf_i64 wf⟩
/-- What a machine is made of, in memory. -/
structure SetR (W : World) (iq eq tq nq : Option Addr) (ia ea ta na : Nat) (Es : List Em) (c : Cd) (inp : List Int) : Prop where
  r : CdR W iq eq tq ia ea ta Es c
  m : CodeM W W.heap.size iq eq tq Es c
  n : RdS W nq inp.length na (sv inp)
  i : ∀ x ∈ inp, I64 x
  l : inp.length ≤ 9223372036854775807
theorem open_codeQ {H : Type} {enc : TypeId × Value → H} {W : World} {base : Nat} {spare : Nat → Bool} {held : Bool} {fuel : Nat} {c0 c1 c2 c3 : Value} {x : DataW H × List MemPlace} (hf : DataW.trod enc Tryz.prog W base spare held fuel 26 [c0, c1, c2, c3] = some x) (hd : Light 26 x.1) :
    ∃ (iq eq tq : Option Addr) (ia ea ta : Nat) (Es : List Em) (c : Cd), (c0 = .slice iq c.ins.length ia ∧ c1 = .slice eq c.ens.length ea ∧ c2 = .slice tq c.txs.length ta ∧ c3 = .int .i64 c.main) ∧ CdR W iq eq tq ia ea ta Es c ∧ CodeM W W.heap.size iq eq tq Es c := by
  obtain ⟨xs, m, _, hx, _, hlen, hfs⟩ := DataW.trod_struct Tryz.underlying26 hf
  obtain ⟨z0, z1, z2, z3, rfl⟩ := list4 hlen
  have g0 : DataW.trod enc Tryz.prog W base spare held m 22 [c0] = some z0 := by have := hfs 0 _ rfl; simpa [Value.cells, cLi] using this
  have g1 : DataW.trod enc Tryz.prog W base spare held m 23 [c1] = some z1 := by have := hfs 1 _ rfl; simpa [Value.cells, cLi, cLe] using this
  have g2 : DataW.trod enc Tryz.prog W base spare held m 24 [c2] = some z2 := by have := hfs 2 _ rfl; simpa [Value.cells, cLi, cLe, cLt] using this
  have g3 : DataW.trod enc Tryz.prog W base spare held m 3 [c3] = some z3 := by have := hfs 3 _ rfl; simpa [Value.cells, cLi, cLe, cLt, cNum] using this
  obtain ⟨x1, x2⟩ := x
  simp only [Prod.mk.injEq] at hx
  have hd0 := hx.1
  subst hd0
  have hz : ∀ (j : Nat) (t : TypeId) (z : DataW H), ([22, 23, 24, 3] : List TypeId)[j]? = some t → ([z0, z1, z2, z3].map (·.1))[j]? = some z → Light t z := fun j t z h1 h2 k hk => hd k (by
    simp only [DataW.weights, Tryz.underlying26]
    exact DataW.weights_mem_each (P := Tryz.prog) (ts := [22, 23, 24, 3]) (ds := [z0, z1, z2, z3].map (·.1)) (j := j) h1 h2 k hk)
  obtain ⟨iq, ia, I, e0, ib, irow, hI⟩ := slice_row (m := 3) (by omega) ic (fun _ => rfl) (fun a : In => i64 a.1 ∧ i64 a.2.1 ∧ i64 a.2.2) Tryz.underlying22 cIns g0 (hz 0 _ _ rfl rfl) op_ins
  obtain ⟨eq, ea, E, e1, eb, erow, hE2⟩ := slice_row (m := 5) (by omega) ec (fun _ => rfl) (fun y => EmOk W y ∧ CapQ y) Tryz.underlying23 cEnt g1 (hz 1 _ _ rfl rfl) op_ent_q
  obtain ⟨tq, ta, T, e2, tb, trow, hT⟩ := slice_row (m := 1) (by omega) (fun a : ByteArray => [Value.string a]) (fun _ => rfl) (fun a : ByteArray => a.size ≤ 140737488351232) Tryz.underlying24 cStr g2 (hz 2 _ _ rfl rfl) op_str
  obtain ⟨mn, e3, -, w3⟩ := DataW.trod_int Tryz.underlying3 g3
  simp at e3
  rw [bIns, reach_eq] at ib
  rw [bEnt, reach_eq] at eb
  rw [bStr, reach_eq] at tb
  rw [flat_one] at trow
  rw [e0] at g0
  rw [e1] at g1
  rw [e2] at g2
  have hE : ∀ x ∈ E, EmOk W x := fun x hx => (hE2 x hx).1
  have hlE : (E.map (·.1)).length = E.length := List.length_map ..
  refine ⟨iq, eq, tq, ia, ea, ta, E, ⟨I, E.map (·.1), T, mn⟩, ?_, ⟨rfl, rds_of irow (none_of Tryz.underlying22 g0), ?_, rds_of trow (none_of Tryz.underlying24 g2), fun x hx => rds_of (hE x hx).1.1 (hE2 x hx).2⟩, ⟨rfl, irow, ?_, trow, fun x hx => ⟨(hE x hx).1.1, ?_, ?_⟩, ?_, ?_, ?_, fun t ht => ?_⟩⟩
  · simp only; rw [hlE]
    exact ⟨e0, e1, e2, e3⟩
  · simp only; rw [hlE]; exact rds_of erow (none_of Tryz.underlying23 g1)
  · simp only; rw [hlE]; exact erow
  · have := (hE x hx).2.1; omega
  · have := (hE x hx).1.2; omega
  · simp only; omega
  · simp only; rw [hlE]; omega
  · simp only; omega
  · have := hT t ht; omega
theorem open_setup {H : Type} {enc : TypeId × Value → H} {W : World} {base : Nat} {spare : Nat → Bool} {held : Bool} {fuel : Nat} {c0 c1 c2 c3 c4 c5 c6 : Value} {x : DataW H × List MemPlace} (hf : DataW.trod enc Tryz.prog W base spare held fuel 31 [c0, c1, c2, c3, c4, c5, c6] = some x) (hd : Light 31 x.1) :
    ∃ (iq eq tq nq : Option Addr) (ia ea ta na : Nat) (Es : List Em) (c : Cd) (inp : List Int) (d l : Int), (c0 = .slice iq c.ins.length ia ∧ c1 = .slice eq c.ens.length ea ∧ c2 = .slice tq c.txs.length ta ∧ c3 = .int .i64 c.main ∧ c4 = .slice nq inp.length na ∧ c5 = .int .i64 d ∧ c6 = .int .i64 l) ∧ SetR W iq eq tq nq ia ea ta na Es c inp ∧ i64 d ∧ i64 l := by
  obtain ⟨xs, m, _, hx, _, hlen, hfs⟩ := DataW.trod_struct Tryz.underlying31 hf
  obtain ⟨z0, z1, z2, rfl⟩ := list3 hlen
  have g0 : DataW.trod enc Tryz.prog W base spare held m 26 [c0, c1, c2, c3] = some z0 := by have := hfs 0 _ rfl; simpa [Value.cells, cCode] using this
  have g1 : DataW.trod enc Tryz.prog W base spare held m 27 [c4] = some z1 := by have := hfs 1 _ rfl; simpa [Value.cells, cCode, cLin] using this
  have g2 : DataW.trod enc Tryz.prog W base spare held m 29 [c5, c6] = some z2 := by have := hfs 2 _ rfl; simpa [Value.cells, cCode, cLin, cLim] using this
  obtain ⟨x1, x2⟩ := x
  simp only [Prod.mk.injEq] at hx
  have hd0 := hx.1
  subst hd0
  have hz : ∀ (j : Nat) (t : TypeId) (z : DataW H), ([26, 27, 29] : List TypeId)[j]? = some t → ([z0, z1, z2].map (·.1))[j]? = some z → Light t z := fun j t z h1 h2 k hk => hd k (by
    simp only [DataW.weights, Tryz.underlying31]
    exact DataW.weights_mem_each (P := Tryz.prog) (ts := [26, 27, 29]) (ds := [z0, z1, z2].map (·.1)) (j := j) h1 h2 k hk)
  obtain ⟨iq, eq, tq, ia, ea, ta, Es, c, e0, hC, hM⟩ := open_codeQ g0 (hz 0 _ _ rfl rfl)
  obtain ⟨nq, na, inp, e1, nb, nrow, hN⟩ := slice_row (m := 1) (by omega) (fun a : Int => [Value.int .i64 a]) (fun _ => rfl) i64 Tryz.underlying27 cI64 g1 (hz 1 _ _ rfl rfl) op_i64
  obtain ⟨ys, m2, _, hy, _, hlen2, hgs⟩ := DataW.trod_struct Tryz.underlying29 g2
  obtain ⟨y0, y1, rfl⟩ := list2D hlen2
  have k0 : DataW.trod enc Tryz.prog W base spare held m2 3 [c5] = some y0 := by have := hgs 0 _ rfl; simpa [cNum] using this
  have k1 : DataW.trod enc Tryz.prog W base spare held m2 3 [c6] = some y1 := by have := hgs 1 _ rfl; simpa [cNum] using this
  obtain ⟨d, e2, -, w2⟩ := DataW.trod_int Tryz.underlying3 k0
  obtain ⟨l, e3, -, w3⟩ := DataW.trod_int Tryz.underlying3 k1
  simp at e2 e3
  rw [bI64, reach_eq] at nb
  rw [flat_one] at nrow
  rw [e1] at g1
  exact ⟨iq, eq, tq, nq, ia, ea, ta, na, Es, c, inp, d, l, ⟨e0.1, e0.2.1, e0.2.2.1, e0.2.2.2, e1, e2, e3⟩, ⟨hC, hM, rds_of nrow (none_of Tryz.underlying27 g1), hN, by omega⟩, wf_i64 w2, wf_i64 w3⟩
set_option maxRecDepth 100000 in
theorem open_run {H : Type} {enc : TypeId × Value → H} {W : World} {base b0 : Nat} {spare : Nat → Bool} {held : Bool} {r : Reach} {v : Value} {d : DataW H} {p : List MemPlace} (hv : Value.okWide Tryz.prog W r b0 33 v) (h : DataW.Trod enc Tryz.prog W base spare held 33 v d p) (hd : Light 33 d) :
    ∃ (iq eq tq nq : Option Addr) (ia ea ta na : Nat) (Es : List Em) (c : Cd) (inp : List Int) (dp l fi th : Int), v = .agg #[.slice iq c.ins.length ia, .slice eq c.ens.length ea, .slice tq c.txs.length ta, .int .i64 c.main, .slice nq inp.length na, .int .i64 dp, .int .i64 l, .int .i64 fi, .int .i64 th] ∧ SetR W iq eq tq nq ia ea ta na Es c inp := by
  obtain ⟨cs, rfl, hsz⟩ := okWide_struct Tryz.underlying33 hv
  obtain ⟨c0, c1, c2, c3, c4, c5, c6, c7, c8, rfl⟩ : ∃ c0 c1 c2 c3 c4 c5 c6 c7 c8, cs = #[c0, c1, c2, c3, c4, c5, c6, c7, c8] := by
    have h1 : cs.size = 9 := hsz.trans cRunA
    obtain ⟨l⟩ := cs
    match l, h1 with
    | [c0, c1, c2, c3, c4, c5, c6, c7, c8], _ => exact ⟨c0, c1, c2, c3, c4, c5, c6, c7, c8, rfl⟩
  obtain ⟨fuel, hf⟩ := h
  obtain ⟨xs, m, _, hx, _, hlen, hfs⟩ := DataW.trod_struct Tryz.underlying33 hf
  obtain ⟨z0, z1, z2, rfl⟩ := list3 hlen
  have g0 : DataW.trod enc Tryz.prog W base spare held m 31 [c0, c1, c2, c3, c4, c5, c6] = some z0 := by have := hfs 0 _ rfl; simpa [Value.cells, cSet] using this
  have g1 : DataW.trod enc Tryz.prog W base spare held m 3 [c7] = some z1 := by have := hfs 1 _ rfl; simpa [Value.cells, cSet, cNum] using this
  have g2 : DataW.trod enc Tryz.prog W base spare held m 3 [c8] = some z2 := by have := hfs 2 _ rfl; simpa [Value.cells, cSet, cNum] using this
  simp only [Prod.mk.injEq] at hx
  have hd0 := hx.1
  subst hd0
  have hz : ∀ (j : Nat) (t : TypeId) (z : DataW H), ([31, 3, 3] : List TypeId)[j]? = some t → ([z0, z1, z2].map (·.1))[j]? = some z → Light t z := fun j t z h1 h2 k hk => hd k (by
    simp only [DataW.weights, Tryz.underlying33]
    exact DataW.weights_mem_each (P := Tryz.prog) (ts := [31, 3, 3]) (ds := [z0, z1, z2].map (·.1)) (j := j) h1 h2 k hk)
  obtain ⟨iq, eq, tq, nq, ia, ea, ta, na, Es, c, inp, dp, l, e0, hS, -, -⟩ := open_setup g0 (hz 0 _ _ rfl rfl)
  obtain ⟨fi, e1, -, -⟩ := DataW.trod_int Tryz.underlying3 g1
  obtain ⟨th, e2, -, -⟩ := DataW.trod_int Tryz.underlying3 g2
  simp at e1 e2
  refine ⟨iq, eq, tq, nq, ia, ea, ta, na, Es, c, inp, dp, l, fi, th, ?_, hS⟩
  obtain ⟨rfl, rfl, rfl, rfl, rfl, rfl, rfl⟩ := e0
  rw [e1, e2]
end Go.Proofs.YtahdkffijlfmnaaGreatDoor

namespace Go.Proofs.YtahdkffijlfmnaaGreatDoor
open Go.RowKit
open Hp (V vc vcs)
theorem SetR.next {W W' : World} {iq eq tq nq : Option Addr} {ia ea ta na : Nat} {Es : List Em} {c : Cd} {inp : List Int} (h : SetR W iq eq tq nq ia ea ta na Es c inp) (k : Below W.heap.size W W') : SetR W' iq eq tq nq ia ea ta na Es c inp := by
  have hEl : Es.length = c.ens.length := h.m.len
  refine ⟨⟨h.r.en, h.r.ir.next (fun q => by rw [ic_len]; omega) k, h.r.er.next (fun q => by rw [ec_len]; omega) k, h.r.tr.next (fun q => by rw [tv_len]; exact q) k, fun x hx => (h.r.sr x hx).next (fun q => by simpa [sv] using q) k⟩, (h.m.below k (Nat.le_refl _)).up k.size, h.n.next (fun q => by simpa [sv] using q) k, h.i, h.l⟩
/-- New of what was handed in. -/
theorem setNew {W W0 : World} {iq eq tq nq : Option Addr} {ia ea ta na : Nat} {Es : List Em} {c : Cd} {inp : List Int} (hS : SetR W0 iq eq tq nq ia ea ta na Es c inp) (hG : Glo W0) (b : Below W0.heap.size W0 W) (d l : Int) (he : newE c inp.length d l = 0) :
    0 ≤ l ∧ Calls Tryz.prog 7 #[.agg #[.slice iq c.ins.length ia, .slice eq c.ens.length ea, .slice tq c.txs.length ta, .int .i64 c.main], .slice nq inp.length na, .agg #[.int .i64 d, .int .i64 l]] W fun z w' => ∃ g, z = .returned (.tuple #[.pointer (some ⟨g, 0, none⟩), .int .i64 0]) ∧ Hid (∃ K, Mz w' (fun b => W.heap.size ≤ b) g K (msN (enAt c.ens c.main.toNat) c.main) ∧ K.c = c ∧ K.inp = inp ∧ K.dep = d ∧ K.lim = l.toNat ∧ Below W.heap.size W w') := by
  have hl : 0 ≤ l := by
    unfold newE at he
    split at he
    · cases he
    · rename_i hm
      simp only [Bool.not_eq_false] at hm
      unfold mayRunS at hm
      simp only [Bool.and_eq_true, decide_eq_true_eq] at hm
      exact hm.2.2.2.1
  refine ⟨hl, ?_⟩
  have hSX := hS.next b
  have hGX := hG.next b
  refine (new_any hSX.r hSX.m hSX.n hSX.i hSX.l d l hGX.tabs).mono fun z w' q => ?_
  rw [if_pos he] at q
  obtain ⟨g, rfl, hq⟩ := q
  obtain ⟨K, k1, k2, k3, k4, k5⟩ := newM_mz hq.out.1 (hGX.next hq.out.2) (by have := hGX.tabs.size; omega)
  exact ⟨g, rfl, K, k1, k2, k3, k4, k5, hq.out.2⟩
theorem setNew_no {W W0 : World} {iq eq tq nq : Option Addr} {ia ea ta na : Nat} {Es : List Em} {c : Cd} {inp : List Int} (hS : SetR W0 iq eq tq nq ia ea ta na Es c inp) (hG : Glo W0) (b : Below W0.heap.size W0 W) (d l : Int) (he : newE c inp.length d l ≠ 0) :
    Calls Tryz.prog 7 #[.agg #[.slice iq c.ins.length ia, .slice eq c.ens.length ea, .slice tq c.txs.length ta, .int .i64 c.main], .slice nq inp.length na, .agg #[.int .i64 d, .int .i64 l]] W fun z w' => z = .returned (.tuple #[.pointer none, .int .i64 (newE c inp.length d l)]) ∧ Below W.heap.size W w' := by
  have hSX := hS.next b
  have hGX := hG.next b
  refine (new_any hSX.r hSX.m hSX.n hSX.i hSX.l d l hGX.tabs).mono fun z w' q => ?_
  rw [if_neg he] at q
  exact q
/-- The law's argument lies in a block. -/
theorem runX {W : World} {iq eq tq nq : Option Addr} {i ia e ea t ta n na : Nat} {mn d l fi th : Int} (X : World) (hX : W.alloc (.cells #[.slice iq i ia, .slice eq e ea, .slice tq t ta, .int .i64 mn, .slice nq n na, .int .i64 d, .int .i64 l, .int .i64 fi, .int .i64 th] 33) = X) :
    Below W.heap.size W X ∧ X.heap.size = W.heap.size + 1 ∧ Full X W.heap.size 33 [.slice iq i ia, .slice eq e ea, .slice tq t ta, .int .i64 mn, .slice nq n na, .int .i64 d, .int .i64 l, .int .i64 fi, .int .i64 th] := by
  subst hX
  exact ⟨(Below.refl _ W).alloc (Nat.le_refl _) _, by simp, Full.new W _ _⟩
theorem fewK (fi : Int) : ∃ k : Nat, (if fi < 0 then 0 else fi % 5000) = (k : Int) ∧ k < 5000 := by
  by_cases h : fi < 0
  · exact ⟨0, by rw [if_pos h]; rfl, by decide⟩
  · refine ⟨(fi % 5000).toNat, ?_, ?_⟩
    · rw [if_neg h]; omega
    · omega
end Go.Proofs.YtahdkffijlfmnaaGreatDoor

namespace Go.Proofs.YtahdkffijlfmnaaGreatDoor
open Go.RowKit
open Hp (V vc vcs)
/-- Two machines, apart from one another and from what is the law's own. -/
structure Tw2 (W wr : World) (ga gb : Nat) (K K' : Cg) (Sa Sb : Ms) (A B P : Nat → Prop) : Prop where
  a : Mz wr A ga K Sa
  b : Mz wr B gb K' Sb
  l : Alk K K'
  n : ∀ x, A x → ¬ B x
  np : ∀ x, A x ∨ B x → ¬ P x
  pl : ∀ x, P x → x < wr.heap.size
  lo : ∀ x, A x ∨ B x → W.heap.size ≤ x
  lt : ∀ x, A x ∨ B x → x < wr.heap.size
  bl : Below W.heap.size W wr
  g8 : 8 ≤ W.heap.size
theorem Tw2.more {W wr w1 : World} {ga gb : Nat} {K K' : Cg} {Sa Sb : Ms} {A B P P' : Nat → Prop} (h : Tw2 W wr ga gb K K' Sa Sb A B P) (k : Below wr.heap.size wr w1) (hP : ∀ x, P' x → P x ∨ (wr.heap.size ≤ x ∧ x < w1.heap.size)) : Tw2 W w1 ga gb K K' Sa Sb A B P' :=
  ⟨h.a.next k, h.b.next k, h.l, h.n, fun x hx hp => by
    rcases hP x hp with q | q
    · exact h.np x hx q
    · have := h.lt x hx; omega, fun x hp => by
    rcases hP x hp with q | q
    · exact Nat.lt_of_lt_of_le (h.pl x q) k.size
    · exact q.2, h.lo, fun x hx => Nat.lt_of_lt_of_le (h.lt x hx) k.size, below2 h.bl k, h.g8⟩
theorem Tw2.next {W wr w1 : World} {ga gb : Nat} {K K' : Cg} {Sa Sb : Ms} {A B P : Nat → Prop} (h : Tw2 W wr ga gb K K' Sa Sb A B P) (k : Below wr.heap.size wr w1) : Tw2 W w1 ga gb K K' Sa Sb A B P := h.more k fun _ q => .inl q
theorem Tw2.went {W wr w1 : World} {ga gb : Nat} {K K' : Cg} {Sa Sb S' : Ms} {A B P : Nat → Prop} (h : Tw2 W wr ga gb K K' Sa Sb A B P) (hm : Mz w1 (fun x => A x ∨ wr.heap.size ≤ x) ga K S') (k : Kp A wr w1) : ∃ A', Tw2 W w1 ga gb K K' S' Sb A' B P := by
  have hs := h.bl.size
  have hg := h.g8
  refine ⟨fun x => (A x ∨ wr.heap.size ≤ x) ∧ x < w1.heap.size, hm.lt, h.b.kept k fun x hx => ⟨h.n x hx, by have := h.lo x (.inl hx); omega⟩, h.l, fun x hx hb => ?_, fun x hx hp => ?_, fun x hp => Nat.lt_of_lt_of_le (h.pl x hp) k.size, fun x hx => ?_, fun x hx => ?_, h.bl.trans (k.below (fun x hx => h.lo x (.inl hx)) hs), hg⟩
  · rcases hx.1 with q | q
    · exact h.n x q hb
    · have := h.lt x (.inr hb); omega
  · rcases hx with hx | hx
    · rcases hx.1 with q | q
      · exact h.np x (.inl q) hp
      · have := h.pl x hp; omega
    · exact h.np x (.inr hx) hp
  · rcases hx with hx | hx
    · rcases hx.1 with q | q
      · exact h.lo x (.inl q)
      · omega
    · exact h.lo x (.inr hx)
  · rcases hx with hx | hx
    · exact hx.2
    · exact Nat.lt_of_lt_of_le (h.lt x (.inr hx)) k.size
theorem Alk.symm {K K' : Cg} (h : Alk K K') : Alk K' K := ⟨h.c.symm, h.i.symm, h.d.symm, h.l.symm⟩
theorem Tw2.symm {W wr : World} {ga gb : Nat} {K K' : Cg} {Sa Sb : Ms} {A B P : Nat → Prop} (h : Tw2 W wr ga gb K K' Sa Sb A B P) : Tw2 W wr gb ga K' K Sb Sa B A P :=
  ⟨h.b, h.a, h.l.symm, fun x hx hy => h.n x hy hx, fun x hx => h.np x hx.symm, h.pl, fun x hx => h.lo x hx.symm, fun x hx => h.lt x hx.symm, h.bl, h.g8⟩
theorem Tw2.wentB {W wr w1 : World} {ga gb : Nat} {K K' : Cg} {Sa Sb S' : Ms} {A B P : Nat → Prop} (h : Tw2 W wr ga gb K K' Sa Sb A B P) (hm : Mz w1 (fun x => B x ∨ wr.heap.size ≤ x) gb K' S') (k : Kp B wr w1) : ∃ B', Tw2 W w1 ga gb K K' Sa S' A B' P := by
  obtain ⟨B', q⟩ := h.symm.went hm k
  exact ⟨B', q.symm⟩
/-- What the law writes. -/
theorem Tw2.sets {W wr w1 : World} {ga gb : Nat} {K K' : Cg} {Sa Sb : Ms} {A B P : Nat → Prop} (h : Tw2 W wr ga gb K K' Sa Sb A B P) {b : Nat} (hb : P b) (hw : W.heap.size ≤ b) (k : Kp (fun x => x = b) wr w1) : Tw2 W w1 ga gb K K' Sa Sb A B P := by
  have hg := h.g8
  refine ⟨h.a.kept k fun x hx => ?_, h.b.kept k fun x hx => ?_, h.l, h.n, h.np, fun x hp => Nat.lt_of_lt_of_le (h.pl x hp) k.size, h.lo, fun x hx => Nat.lt_of_lt_of_le (h.lt x hx) k.size, h.bl.trans (k.below (fun x hx => by have hx : x = b := hx; omega) h.bl.size), hg⟩
  · have hx : x = b := hx
    subst hx
    exact ⟨fun q => h.np x (.inl q) hb, by omega⟩
  · have hx : x = b := hx
    subst hx
    exact ⟨fun q => h.np x (.inr q) hb, by omega⟩
/-- How far the second machine has come on the first one's way. -/
def RuR (K : Cg) (k : Nat) (S : Ms) (i : Nat) (Sb : Ms) (yes : Bool) (z : Yd) : Prop :=
  (yes = true ∧ mrunS K k S = (Sb, z, true)) ∨ (yes = false ∧ z = yd0 ∧ ((Sb.ph = 0 ∧ mrunS K (k - i) Sb = mrunS K k S) ∨ (Sb.ph ≠ 0 ∧ mrunS K k S = (Sb, yd0, false))))
theorem run_still (K : Cg) (k : Nat) {S : Ms} (h : S.ph ≠ 0) : mrunS K k S = (S, yd0, false) := by
  have e : mstepS K S = (S, yd0, false) := by unfold mstepS; rw [if_neg (fun q => h q.1)]
  cases k with
  | zero => rfl
  | succ k =>
    show (if (mstepS K S).2.2 = true ∨ (mstepS K S).1.ph ≠ 0 then mstepS K S else mrunS K k (mstepS K S).1) = _
    rw [e, if_pos (.inr h)]
theorem RuR.start (K : Cg) (k : Nat) (S : Ms) : RuR K k S 0 S false yd0 := by
  by_cases h : S.ph = 0
  · exact .inr ⟨rfl, rfl, .inl ⟨h, rfl⟩⟩
  · exact .inr ⟨rfl, rfl, .inr ⟨h, run_still K k h⟩⟩
theorem RuR.step {K : Cg} {k i : Nat} {S Sb : Ms} {z : Yd} (hK : KOk K) (hS : StOk K Sb) (h : RuR K k S i Sb false z) (hp : Sb.ph = 0) (hi : i < k) : RuR K k S (i + 1) (mstepS K Sb).1 (mstepS K Sb).2.2 (mstepS K Sb).2.1 := by
  rcases h with ⟨e, -⟩ | ⟨-, -, ⟨-, h⟩ | ⟨h, -⟩⟩
  · cases e
  · have e : mrunS K (k - i) Sb = if (mstepS K Sb).2.2 = true ∨ (mstepS K Sb).1.ph ≠ 0 then mstepS K Sb else mrunS K (k - (i + 1)) (mstepS K Sb).1 := by
      rw [show k - i = (k - (i + 1)) + 1 by omega]
      rfl
    rw [h] at e
    cases hy : (mstepS K Sb).2.2 with
    | true =>
      rw [if_pos (.inl hy)] at e
      refine .inl ⟨rfl, ?_⟩
      rw [e, ← hy]
    | false =>
      have hz := step_no hK hS hy
      refine .inr ⟨rfl, hz, ?_⟩
      by_cases hq : (mstepS K Sb).1.ph = 0
      · rw [if_neg (by rw [hy]; simp [hq])] at e
        exact .inl ⟨hq, e.symm⟩
      · rw [if_pos (.inr hq)] at e
        refine .inr ⟨hq, ?_⟩
        rw [e, ← hz, ← hy]
  · exact absurd hp h
theorem RuR.done {K : Cg} {k i : Nat} {S Sb : Ms} {yes : Bool} {z : Yd} (h : RuR K k S i Sb yes z) (hd : k ≤ i ∨ yes = true ∨ Sb.ph ≠ 0) : mrunS K k S = (Sb, z, yes) := by
  rcases h with ⟨e, h⟩ | ⟨e, e2, ⟨h1, h⟩ | ⟨h1, h⟩⟩
  · rw [e]; exact h
  · rw [e, e2]
    rcases hd with q | q | q
    · rw [← h, show k - i = 0 by omega]
      rfl
    · rw [e] at q; cases q
    · exact absurd h1 q
  · rw [e, e2]; exact h
theorem op_hp {K : Cg} {S : Ms} {n : Nat} {f : Fr} {i : Nat} {hi : i < K.Es.length} {a b : Int} {o : Nat} {r : Ms × Yd} (e : opS K S n f i hi a b o = .ok r) : lens r.1.hp = lens S.hp ∨ ∃ kind m, r.1.hp = (Hp.makeH S.hp K.lim kind m).1 := by
  obtain ⟨S', y⟩ := r
  have cut : ∀ (f : Fr) (xs : List V), Fl S (S.cut n f xs) := fun f xs => Fl.setF ..
  have cut2 : ∀ (f f' : Fr) (xs ys : List V), Fl S ((S.cut n f xs).cut n f' ys) := fun f f' xs ys => (Fl.setF ..).trans (Fl.setF ..)
  have fl : ∀ {T : Ms}, Fl S T → lens T.hp = lens S.hp ∨ ∃ kind m, T.hp = (Hp.makeH S.hp K.lim kind m).1 := fun h => .inl (congrArg lens h.hp)
  unfold opS at e
  split at e
  case h_14 =>
    have e := plain_ok e
    unfold doNewS at e
    split at e
    · exact .inr ⟨_, _, (Fl.pushOr e).hp⟩
    · cases e
  case h_16 =>
    have e := plain_ok e
    unfold doPutS at e
    split at e
    · split at e
      · cases e; exact .inl (lens_put ..)
      · cases e
    · cases e
  case h_1 => exact fl (Fl.push (plain_ok e))
  case h_2 => exact fl (Fl.push (plain_ok e))
  case h_3 =>
    have e := plain_ok e
    unfold doTextS at e
    split at e
    · exact fl (Fl.push e)
    · cases e
  case h_4 =>
    have e := plain_ok e
    unfold doLoadS at e
    split at e
    · exact fl (Fl.push e)
    · cases e
  case h_5 =>
    have e := plain_ok e
    unfold doStoreS at e
    split at e
    · cases e; exact .inl rfl
    · cases e
  case h_6 => cases e; exact .inl rfl
  case h_7 => exact fl ((cut _ _).trans (Fl.pushOr (plain_ok e)))
  case h_8 => exact fl ((cut2 _ _ _ _).trans (Fl.pushOr (plain_ok e)))
  case h_9 =>
    have e := plain_ok e
    unfold doJumpS at e
    split at e
    · cases e; exact .inl rfl
    · cases e
  case h_10 =>
    have e := plain_ok e
    unfold doFalseS doJumpS at e
    split at e
    · split at e
      · split at e
        · cases e; exact .inl rfl
        · cases e
      · cases e; exact .inl rfl
    · cases e
  case h_11 =>
    have e := plain_ok e
    unfold doCallS at e
    split at e
    · split at e
      · cases e
      · split at e
        · cases e
        · split at e
          · cases e
          · cases e; exact .inl rfl
    · cases e
  case h_12 =>
    have e := plain_ok e
    unfold doRetS at e
    split at e
    · cases e
    · split at e
      · cases e
      · split at e
        · cases e
        · cases e; exact .inl rfl
  case h_13 =>
    have e := plain_ok e
    unfold doDoneS at e
    split at e
    · injection e with e
      have e : _ = S' := e
      rw [← e]
      split <;> exact .inl rfl
    · cases e
  case h_15 =>
    have e := plain_ok e
    unfold doGetS at e
    split at e
    · exact fl ((cut2 _ _ _ _).trans (Fl.pushOr e))
    · split at e
      · exact fl ((cut2 _ _ _ _).trans (Fl.pushOr e))
      · cases e
  case h_17 =>
    have e := plain_ok e
    unfold doLenS at e
    split at e
    · exact fl ((cut _ _).trans (Fl.push e))
    · exact fl ((cut _ _).trans (Fl.pushOr e))
  case h_18 =>
    have e := plain_ok e
    unfold doStrS at e
    split at e
    · exact fl ((cut _ _).trans (Fl.push e))
    · cases e
  case h_19 =>
    have e := plain_ok e
    unfold doPrintS at e
    split at e
    · cases e
    · split at e
      · cases e
      · cases e; exact .inl rfl
  case h_20 =>
    have e := plain_ok e
    unfold doReadS at e
    split at e
    · cases hp : doPush S n f (1, K.inp[S.rd], Hp.e0) with
      | error q => rw [hp] at e; cases e
      | ok q =>
        rw [hp] at e
        cases e
        exact fl (T := q) (Fl.push hp)
    · cases e
  case h_22 =>
    split at e
    · cases e; exact .inl rfl
    · cases e
  all_goals (cases e; exact .inl rfl)
theorem used_lens {A B : Hp.Hp} (h : lens A = lens B) : Hp.usedS A = Hp.usedS B := Hp.used_congr h
theorem make_used (A : Hp.Hp) (lim : Nat) (kind n : Int) (h : Hp.usedS A ≤ lim) : Hp.usedS (Hp.makeH A lim kind n).1 ≤ lim := by
  unfold Hp.makeH
  split
  · exact h
  · split
    · exact h
    · split
      · exact h
      · rename_i h1 h2 h3
        rw [Hp.used_app]
        simp [Hp.usedS]
        omega
set_option maxRecDepth 100000 in
theorem step_used {K : Cg} {S : Ms} (h : Hp.usedS S.hp ≤ K.lim) : Hp.usedS (mstepS K S).1.hp ≤ K.lim := by
  unfold mstepS
  split
  · cases hR : mnextS K { S with steps := min (S.steps + 1) 4611686018427387904 } with
    | error t => exact h
    | ok r =>
      simp only
      unfold mnextS at hR
      split at hR
      · cases hR
      · split at hR
        · split at hR
          · split at hR
            · cases hR
            · rcases op_hp hR with q | ⟨kind, m, q⟩
              · rw [used_lens q]; exact h
              · rw [q]; exact make_used _ _ _ _ h
          · cases hR
        · cases hR
  · exact h
set_option maxRecDepth 100000 in
theorem run_out {K : Cg} (hK : KOk K) : ∀ (k : Nat) {S : Ms}, StOk K S → Hp.usedS S.hp ≤ K.lim → (mrunS K k S).1.out.length ≤ S.out.length + 4200 * k
  | 0, S, _, _ => Nat.le_refl _
  | k + 1, S, h, hu => by
    have hl := hK.lim
    obtain ⟨h1, l, h2, h3⟩ := step_ok hK h (by omega)
    show (if (mstepS K S).2.2 = true ∨ (mstepS K S).1.ph ≠ 0 then mstepS K S else mrunS K k (mstepS K S).1).1.out.length ≤ _
    have e : (mstepS K S).1.out.length ≤ S.out.length + 4200 := by rw [h2, List.length_append]; omega
    split
    · omega
    · have := run_out hK k h1 (step_used hu)
      omega
end Go.Proofs.YtahdkffijlfmnaaGreatDoor

namespace Go.Proofs.YtahdkffijlfmnaaGreatDoor
open Go.RowKit
open Hp (V vc vcs)
def rcs (S : Ms) (ga : Nat) : List Value := [.int .i64 S.ph, .int .i64 S.tr, .string ⟨S.out.toArray⟩, .int .i64 (S.rd : Int), .int .i64 S.steps, .slice none 0 0, .slice (some ⟨ga, 0, none⟩) (S.hp.length + 1) (S.hp.length + 1)]
def AnsS (w : World) (ga : Nat) (S : Ms) : Prop := ∃ vs, Hp.Ans w ga (Hp.lsA S.hp) (.slice (some ⟨ga, 0, none⟩) (S.hp.length + 1) (S.hp.length + 1)) vs
theorem AnsS.next {w w' : World} {ga : Nat} {S : Ms} (h : AnsS w ga S) (k : Below w.heap.size w w') : AnsS w' ga S := by
  obtain ⟨vs, q⟩ := h
  exact ⟨vs, q.next k⟩
theorem AnsS.kept {w w' : World} {ga : Nat} {S : Ms} {U : Nat → Prop} (h : AnsS w ga S) (k : Kp U w w') (hU : ∀ b, U b → b < ga) : AnsS w' ga S := by
  obtain ⟨vs, q⟩ := h
  exact ⟨vs, q.same fun b hb hl => k.block b hl fun u => by have := hU b u; omega⟩
theorem AnsS.lists {w : World} {ga : Nat} {S : Ms} (h : AnsS w ga S) : Hp.ListsAt w ga (Hp.lsA S.hp) := by
  obtain ⟨vs, q⟩ := h
  rw [← Hp.lsA_len S.hp] at q
  exact q.lists
/-- VmGrows, between two rounds. -/
structure GrI (W wr : World) (g : Nat) (K : Cg) (Br : Nat) (xs : List Value) (S : Ms) (n : Nat) (U : Nat → Prop) (ga : Nat) : Prop where
  m : Mz wr U g K S
  u : ∀ b, U b → W.heap.size < b ∧ b ≠ Br ∧ b < ga
  a : AnsS wr ga S
  r : Full wr Br 46 (rcs S ga)
  x : Full wr W.heap.size 33 xs
  b : Below W.heap.size W wr
  br : W.heap.size < Br
  o : S.out.length ≤ 4200 * n
  st : S.steps ≤ n
  z : S.ph = 0 → S.tr = 0 ∧ S.fs ≠ []
  g8 : 8 ≤ W.heap.size
theorem GrI.next {W wr w1 : World} {g : Nat} {K : Cg} {Br : Nat} {xs : List Value} {S : Ms} {n : Nat} {U : Nat → Prop} {ga : Nat} (h : GrI W wr g K Br xs S n U ga) (k : Below wr.heap.size wr w1) : GrI W w1 g K Br xs S n U ga :=
  ⟨h.m.next k, h.u, h.a.next k, h.r.next k, h.x.next k, below2 h.b k, h.br, h.o, h.st, h.z, h.g8⟩
theorem full_lt {w : World} {b : Nat} {t : TypeId} {vs : List Value} (h : Full w b t vs) : b < w.heap.size := by
  by_cases q : b < w.heap.size
  · exact q
  · unfold Full at h
    rw [Array.getElem?_eq_none (by omega)] at h
    cases h
theorem full_kept {w w' : World} {U : Nat → Prop} {b : Nat} {t : TypeId} {vs : List Value} (h : Full w b t vs) (k : Kp U w w') (hU : ¬ U b) : Full w' b t vs := (k.block b (full_lt h) hU).trans h
/-- VmGrows, behind a step. -/
structure GrJ (W wr : World) (g : Nat) (K : Cg) (Br : Nat) (xs : List Value) (S S' : Ms) (ga T : Nat) : Prop where
  m : ∃ U, Mz wr U g K S' ∧ ∀ b, U b → W.heap.size < b ∧ b ≠ Br ∧ b < T
  a : AnsS wr ga S
  r : Full wr Br 46 (rcs S ga)
  x : Full wr W.heap.size 33 xs
  b : Below W.heap.size W wr
  t : T ≤ wr.heap.size
  bt : Br < T
theorem GrJ.next {W wr w1 : World} {g : Nat} {K : Cg} {Br : Nat} {xs : List Value} {S S' : Ms} {ga T : Nat} (h : GrJ W wr g K Br xs S S' ga T) (k : Below wr.heap.size wr w1) : GrJ W w1 g K Br xs S S' ga T := by
  obtain ⟨U, h1, h2⟩ := h.m
  exact ⟨⟨U, h1.next k, h2⟩, h.a.next k, h.r.next k, h.x.next k, below2 h.b k, Nat.le_trans h.t k.size, h.bt⟩
theorem GrI.step {W wr w2 : World} {g : Nat} {K : Cg} {Br : Nat} {xs : List Value} {S S' : Ms} {n : Nat} {U : Nat → Prop} {ga : Nat} (h : GrI W wr g K Br xs S n U ga) (hm : Mz w2 (fun b => U b ∨ wr.heap.size ≤ b) g K S') (k : Kp U wr w2) : GrJ W w2 g K Br xs S S' ga w2.heap.size := by
  have hBr := full_lt h.r
  have hW := full_lt h.x
  have hga : ∀ b, U b → W.heap.size < b := fun b hb => (h.u b hb).1
  refine ⟨⟨_, hm.lt, fun b hb => ⟨?_, ?_, hb.2⟩⟩, h.a.kept k fun b hb => (h.u b hb).2.2, full_kept h.r k fun q => (h.u _ q).2.1 rfl, full_kept h.x k fun q => Nat.lt_irrefl _ (h.u _ q).1, h.b.trans (k.below (fun b hb => Nat.le_of_lt (hga b hb)) h.b.size), Nat.le_refl _, Nat.lt_of_lt_of_le hBr k.size⟩
  · rcases hb.1 with q | q
    · exact hga b q
    · omega
  · rcases hb.1 with q | q
    · exact (h.u b q).2.1
    · omega
theorem GrJ.result {W wr : World} {g : Nat} {K : Cg} {Br : Nat} {xs : List Value} {S S' : Ms} {ga T : Nat} (h : GrJ W wr g K Br xs S S' ga T) {z : Nat} (hz : wr.heap.size = z) :
    Calls Tryz.prog 9 #[.pointer (some ⟨g, 0, none⟩)] wr fun e w' => e = .returned (.agg #[.int .i64 S'.ph, .int .i64 S'.tr, .string ⟨S'.out.toArray⟩, .int .i64 (S'.rd : Int), .int .i64 S'.steps, .slice none 0 0, .slice (some ⟨z + 1, 0, none⟩) (S'.hp.length + 1) (S'.hp.length + 1)]) ∧ Hid (AnsS w' (z + 1) S' ∧ GrJ W w' g K Br xs S S' ga T ∧ Below wr.heap.size wr w') := by
  subst hz
  obtain ⟨U, h1, h2⟩ := id h.m
  exact h1.result.mono fun e w' q => ⟨q.1, q.2.1.out, h.next q.2.2, q.2.2⟩
theorem GrJ.depth {W wr : World} {g : Nat} {K : Cg} {Br : Nat} {xs : List Value} {S S' : Ms} {ga T : Nat} (h : GrJ W wr g K Br xs S S' ga T) :
    Calls Tryz.prog 10 #[.pointer (some ⟨g, 0, none⟩)] wr fun e w' => e = .returned (.int .i64 (S'.fs.length : Int)) ∧ Below wr.heap.size wr w' := by
  obtain ⟨U, h1, h2⟩ := h.m
  exact h1.depth
theorem GrJ.glo {W wr : World} {g : Nat} {K : Cg} {Br : Nat} {xs : List Value} {S S' : Ms} {ga T : Nat} (h : GrJ W wr g K Br xs S S' ga T) : Glo wr := by
  obtain ⟨U, h1, h2⟩ := h.m
  exact h1.kok.2.2.2
theorem GrJ.used {W wr : World} {g : Nat} {K : Cg} {Br : Nat} {xs : List Value} {S S' : Ms} {ga T : Nat} (h : GrJ W wr g K Br xs S S' ga T) : Hp.usedS S'.hp ≤ K.lim := by
  obtain ⟨U, h1, h2⟩ := h.m
  exact h1.kok.2.2.1
/-- The next round's. -/
theorem GrJ.done {W wr wz : World} {g : Nat} {K : Cg} {Br : Nat} {xs : List Value} {S S' : Ms} {ga ga2 T n : Nat} (h : GrJ W wr g K Br xs S S' ga T) (ha : AnsS wr ga2 S') (hT : T ≤ ga2) (hr : Full wz Br 46 (rcs S' ga2)) (k : Kp (fun b => b = Br) wr wz) (hbr : W.heap.size < Br) (ho : S'.out.length ≤ 4200 * (n + 1)) (hst : S'.steps ≤ ((n + 1 : Nat) : Int)) (hz : S'.ph = 0 → S'.tr = 0 ∧ S'.fs ≠ []) (g8 : 8 ≤ W.heap.size) :
    ∃ U, GrI W wz g K Br xs S' (n + 1) U ga2 := by
  obtain ⟨U, h1, h2⟩ := h.m
  refine ⟨U, h1.kept k fun b hb => ?_, fun b hb => ⟨(h2 b hb).1, (h2 b hb).2.1, Nat.lt_of_lt_of_le (h2 b hb).2.2 hT⟩, ha.kept k fun b hb => ?_, hr, full_kept h.x k fun q => by have q : W.heap.size = Br := q; omega, h.b.trans (k.below (fun b hb => by have hb : b = Br := hb; omega) h.b.size), hbr, ho, hst, hz, g8⟩
  · have hb : b = Br := hb
    subst hb
    exact ⟨fun q => (h2 _ q).2.1 rfl, by omega⟩
  · have hb : b = Br := hb
    have := h.bt
    omega
/-- VmGrows, behind a step and its Result. -/
structure GrK (W w : World) (g : Nat) (K : Cg) (Br : Nat) (xs : List Value) (S S' : Ms) (ga ga2 T sB yB : Nat) (ys : List Value) : Prop where
  j : GrJ W w g K Br xs S S' ga T
  a : AnsS w ga2 S'
  s : Full w sB 46 (rcs S' ga2)
  y : Full w yB 54 ys
  t : T ≤ ga2
theorem GrK.next {W w w' : World} {g : Nat} {K : Cg} {Br : Nat} {xs : List Value} {S S' : Ms} {ga ga2 T sB yB : Nat} {ys : List Value} (h : GrK W w g K Br xs S S' ga ga2 T sB yB ys) (k : Below w.heap.size w w') : GrK W w' g K Br xs S S' ga ga2 T sB yB ys := ⟨h.j.next k, h.a.next k, h.s.next k, h.y.next k, h.t⟩
theorem GrK.mk6 {W w5 w6 : World} {g : Nat} {K : Cg} {Br : Nat} {xs : List Value} {S S' : Ms} {ga : Nat} {y0 y1 y2 y3 y4 : Value} (h : AnsS w6 (w5.heap.size + 1 + 1) S' ∧ GrJ W w6 g K Br xs S S' ga w5.heap.size ∧ Below (w5.alloc (.cells #[y0, y1, y2, y3, y4] 54)).heap.size (w5.alloc (.cells #[y0, y1, y2, y3, y4] 54)) w6) :
    GrK W (w6.alloc (.cells #[.int .i64 S'.ph, .int .i64 S'.tr, .string ⟨S'.out.toArray⟩, .int .i64 (S'.rd : Int), .int .i64 S'.steps, .slice none 0 0, .slice (some ⟨w5.heap.size + 1 + 1, 0, none⟩) (S'.hp.length + 1) (S'.hp.length + 1)] 46)) g K Br xs S S' ga (w5.heap.size + 1 + 1) w5.heap.size w6.heap.size w5.heap.size [y0, y1, y2, y3, y4] := by
  have b6 : Below w6.heap.size w6 (w6.alloc (.cells #[.int .i64 S'.ph, .int .i64 S'.tr, .string ⟨S'.out.toArray⟩, .int .i64 (S'.rd : Int), .int .i64 S'.steps, .slice none 0 0, .slice (some ⟨w5.heap.size + 1 + 1, 0, none⟩) (S'.hp.length + 1) (S'.hp.length + 1)] 46)) := (Below.refl _ w6).alloc (Nat.le_refl _) _
  exact ⟨h.2.1.next b6, h.1.next b6, Full.new w6 _ _, ((Full.new w5 _ _).next h.2.2).next b6, by omega⟩
theorem sameRun_S {w : World} {S : Ms} {ga gb : Nat} (h1 : AnsS w ga S) (h2 : AnsS w gb S) (hu : Hp.usedS S.hp ≤ 100000) :
    Calls Tryz.prog 13 #[.agg #[.int .i64 S.ph, .int .i64 S.tr, .string ⟨S.out.toArray⟩, .int .i64 (S.rd : Int), .int .i64 S.steps, .slice none 0 0, .slice (some ⟨ga, 0, none⟩) (S.hp.length + 1) (S.hp.length + 1)], .agg #[.int .i64 S.ph, .int .i64 S.tr, .string ⟨S.out.toArray⟩, .int .i64 (S.rd : Int), .int .i64 S.steps, .slice none 0 0, .slice (some ⟨gb, 0, none⟩) (S.hp.length + 1) (S.hp.length + 1)]] w fun z w' => z = .returned (.bool true) ∧ Below w.heap.size w w' := by
  have q := sameRun_any (S := S) (c1 := S.hp.length + 1) (c2 := S.hp.length + 1) h1.lists h2.lists (lsA_le hu) (lsA_el hu)
  rw [Hp.lsA_len] at q
  exact q
theorem went_S {w : World} {K : Cg} {S S' : Ms} (hw : Wt K S S') (hc : Hp.usedS S'.hp ≤ K.lim) (hcS : Hp.usedS S.hp ≤ K.lim) (hK : KOk K) (hs0 : 0 ≤ S.steps) (hs1 : S.steps ≤ 4611686018427387904) {ga gb : Nat} (h1 : AnsS w ga S) (h2 : AnsS w gb S') {inp : List Int} {d l : Int} (ei : K.inp = inp) (ed : K.dep = d) (el : (K.lim : Int) = l) (iq eq tq nq : Option Addr) (i ia e ea t ta na : Nat) (mn : Int) :
    Calls Tryz.prog 14 #[.agg #[.slice iq i ia, .slice eq e ea, .slice tq t ta, .int .i64 mn, .slice nq inp.length na, .int .i64 d, .int .i64 l], .agg #[.int .i64 S.ph, .int .i64 S.tr, .string ⟨S.out.toArray⟩, .int .i64 (S.rd : Int), .int .i64 S.steps, .slice none 0 0, .slice (some ⟨ga, 0, none⟩) (S.hp.length + 1) (S.hp.length + 1)], .agg #[.int .i64 S'.ph, .int .i64 S'.tr, .string ⟨S'.out.toArray⟩, .int .i64 (S'.rd : Int), .int .i64 S'.steps, .slice none 0 0, .slice (some ⟨gb, 0, none⟩) (S'.hp.length + 1) (S'.hp.length + 1)], .int .i64 (S.fs.length : Int), .int .i64 (S'.fs.length : Int)] w fun z w' => z = .returned (.bool true) ∧ Below w.heap.size w w' := by
  subst ei ed el
  exact went_any hw hc hcS hK.lim hK.inp hK.d2 hs0 hs1 h1.lists h2.lists iq eq tq nq i ia e ea t ta na mn
theorem res0 {w : World} {U : Nat → Prop} {g : Nat} {K : Cg} {E : En} {mn : Int} (h : Mz w U g K (msN E mn)) :
    Calls Tryz.prog 9 #[.pointer (some ⟨g, 0, none⟩)] w fun z w' => z = .returned (.agg #[.int .i64 0, .int .i64 0, .string ⟨#[]⟩, .int .i64 0, .int .i64 0, .slice none 0 0, .slice (some ⟨w.heap.size + 1, 0, none⟩) 1 1]) ∧ Hid (AnsS w' (w.heap.size + 1) (msN E mn)) ∧ Below w.heap.size w w' := h.result
theorem dep0 {w : World} {U : Nat → Prop} {g : Nat} {K : Cg} {E : En} {mn : Int} (h : Mz w U g K (msN E mn)) :
    Calls Tryz.prog 10 #[.pointer (some ⟨g, 0, none⟩)] w fun z w' => z = .returned (.int .i64 1) ∧ Below w.heap.size w w' := h.depth
end Go.Proofs.YtahdkffijlfmnaaGreatDoor

namespace Go.Proofs.YtahdkffijlfmnaaGreatDoor
open Go.RowKit
open Hp (V vc vcs)
structure On1 (W wr : World) (g : Nat) (K : Cg) (S : Ms) (xs : List Value) : Prop where
  m : ∃ U, Mz wr U g K S ∧ ∀ x, U x → W.heap.size < x
  x : Full wr W.heap.size 33 xs
  bl : Below W.heap.size W wr
  g8 : 8 ≤ W.heap.size
theorem On1.next {W wr w1 : World} {g : Nat} {K : Cg} {S : Ms} {xs : List Value} (h : On1 W wr g K S xs) (k : Below wr.heap.size wr w1) : On1 W w1 g K S xs := by
  obtain ⟨U, h1, h2⟩ := h.m
  exact ⟨⟨U, h1.next k, h2⟩, h.x.next k, below2 h.bl k, h.g8⟩
theorem On1.run {W wr : World} {g : Nat} {K : Cg} {S : Ms} {xs : List Value} (h : On1 W wr g K S xs) (n : Nat) (hn : n ≤ 100000) (ho : S.out.length + 4200 * n ≤ 900000000) :
    Calls Tryz.prog 15 #[.pointer (some ⟨g, 0, none⟩), .int .i64 (n : Int)] wr fun z w' => z = .returned (.tuple #[ydV (mrunS K n S).2.1, .bool (mrunS K n S).2.2]) ∧ Hid (On1 W w' g K (mrunS K n S).1 xs) := by
  obtain ⟨U, h1, h2⟩ := h.m
  have hx := full_lt h.x
  refine (h1.run n hn ho).mono fun z w' q => ⟨q.1, ⟨_, q.2.out.1, fun x hx2 => ?_⟩, full_kept h.x q.2.out.2 fun e => Nat.lt_irrefl _ (h2 _ e), h.bl.trans (q.2.out.2.below (fun x hx => Nat.le_of_lt (h2 x hx)) h.bl.size), h.g8⟩
  rcases hx2 with r | r
  · exact h2 x r
  · omega
/-- What is the law's own stays. -/
def KP (P : Nat → Prop) (w w' : World) : Prop := ∀ b t vs, P b → Full w b t vs → Full w' b t vs
theorem On1.clone {W wr : World} {g : Nat} {K : Cg} {S : Ms} {xs : List Value} (h : On1 W wr g K S xs) (ho : S.out.length ≤ 900000000) :
    Calls Tryz.prog 16 #[.pointer (some ⟨g, 0, none⟩)] wr fun z w' => z = .returned (.pointer (some ⟨wr.heap.size, 0, none⟩)) ∧ Hid (∃ K' A B, Tw2 W w' g wr.heap.size K K' S S A B (fun x => x = W.heap.size) ∧ Full w' W.heap.size 33 xs) := by
  obtain ⟨U, h1, h2⟩ := h.m
  have hx := full_lt h.x
  refine (h1.clone ho).mono fun z w' q => ⟨q.1, ?_⟩
  obtain ⟨⟨K', hb, ha⟩, hB⟩ := q.2.out
  refine ⟨K', _, _, ⟨h1.lt.next hB, hb.lt, ha, fun x hx1 hx2 => ?_, fun x hx1 e => ?_, fun x e => ?_, fun x hx1 => ?_, fun x hx1 => ?_, below2 h.bl hB, h.g8⟩, h.x.next hB⟩
  · have := hx1.2; have := hx2.1; omega
  · have e : x = W.heap.size := e
    rcases hx1 with r | r
    · have := h2 x r.1; omega
    · have := r.1; omega
  · have e : x = W.heap.size := e
    have := hB.size
    omega
  · rcases hx1 with r | r
    · exact Nat.le_of_lt (h2 x r.1)
    · have := r.1; omega
  · rcases hx1 with r | r
    · exact Nat.lt_of_lt_of_le r.2 hB.size
    · exact r.2
theorem Tw2.kp {W wr w' : World} {ga gb : Nat} {K K' : Cg} {Sa Sb : Ms} {A B P : Nat → Prop} (h : Tw2 W wr ga gb K K' Sa Sb A B P) (k : Kp A wr w') : KP P wr w' := fun b _ _ hb hf => full_kept hf k fun q => h.np b (.inl q) hb
theorem Tw2.run {W wr : World} {ga gb : Nat} {K K' : Cg} {Sa Sb : Ms} {A B P : Nat → Prop} (h : Tw2 W wr ga gb K K' Sa Sb A B P) (n : Nat) (hn : n ≤ 100000) (ho : Sa.out.length + 4200 * n ≤ 900000000) :
    Calls Tryz.prog 15 #[.pointer (some ⟨ga, 0, none⟩), .int .i64 (n : Int)] wr fun z w' => z = .returned (.tuple #[ydV (mrunS K n Sa).2.1, .bool (mrunS K n Sa).2.2]) ∧ Hid ((∃ A', Tw2 W w' ga gb K K' (mrunS K n Sa).1 Sb A' B P) ∧ KP P wr w') :=
  (h.a.run n hn ho).mono fun _ _ q => ⟨q.1, h.went q.2.out.1 q.2.out.2, h.kp q.2.out.2⟩
theorem Tw2.stepB {W wr : World} {ga gb : Nat} {K K' : Cg} {Sa Sb : Ms} {A B P : Nat → Prop} (h : Tw2 W wr ga gb K K' Sa Sb A B P) (ho : Sb.out.length ≤ 900000000) :
    Calls Tryz.prog 12 #[.pointer (some ⟨gb, 0, none⟩)] wr fun z w' => z = .returned (.tuple #[ydV (mstepS K Sb).2.1, .bool (mstepS K Sb).2.2]) ∧ Hid ((∃ B', Tw2 W w' ga gb K K' Sa (mstepS K Sb).1 A B' P) ∧ KP P wr w') := by
  have q := h.b.step ho
  rw [← h.l.step h.a.kok.1 h.b.kok.1] at q
  exact q.mono fun _ _ q => ⟨q.1, h.wentB q.2.out.1 q.2.out.2, h.symm.kp q.2.out.2⟩
/-- VmRuns, in its loop. -/
structure RuI (W wr : World) (ga gb : Nat) (K K' : Cg) (k : Nat) (S : Ms) (i : Nat) (Sb : Ms) (yes : Bool) (z : Yd) (By Bz : Nat) (A B : Nat → Prop) : Prop where
  t : Tw2 W wr ga gb K K' (mrunS K k S).1 Sb A B (fun x => x = By ∨ x = Bz)
  fy : Full wr By 54 [.int .i64 (mrunS K k S).2.1.1, .bool (mrunS K k S).2.1.2.1, .int .i64 (mrunS K k S).2.1.2.2.1, .int .i64 (mrunS K k S).2.1.2.2.2.1, .string (mrunS K k S).2.1.2.2.2.2]
  fz : Full wr Bz 54 [.int .i64 z.1, .bool z.2.1, .int .i64 z.2.2.1, .int .i64 z.2.2.2.1, .string z.2.2.2.2]
  r : RuR K k S i Sb yes z
  o : Sb.out.length ≤ 21000000 + 4200 * i
  ne : By ≠ Bz
  lo : W.heap.size ≤ Bz
theorem RuI.next {W wr w1 : World} {ga gb : Nat} {K K' : Cg} {k : Nat} {S : Ms} {i : Nat} {Sb : Ms} {yes : Bool} {z : Yd} {By Bz : Nat} {A B : Nat → Prop} (h : RuI W wr ga gb K K' k S i Sb yes z By Bz A B) (b : Below wr.heap.size wr w1) : RuI W w1 ga gb K K' k S i Sb yes z By Bz A B := ⟨h.t.next b, h.fy.next b, h.fz.next b, h.r, h.o, h.ne, h.lo⟩
set_option maxRecDepth 100000 in
theorem RuI.step {W wr : World} {ga gb : Nat} {K K' : Cg} {k : Nat} {S : Ms} {i : Nat} {Sb : Ms} {z : Yd} {By Bz : Nat} {A B : Nat → Prop} (h : RuI W wr ga gb K K' k S i Sb false z By Bz A B) (hp : Sb.ph = 0) (hi : i < k) (hk : k < 5000) :
    Calls Tryz.prog 12 #[.pointer (some ⟨gb, 0, none⟩)] wr fun e w' => e = .returned (.tuple #[ydV (mstepS K Sb).2.1, .bool (mstepS K Sb).2.2]) ∧ Hid (Full w' Bz 54 [.int .i64 z.1, .bool z.2.1, .int .i64 z.2.2.1, .int .i64 z.2.2.2.1, .string z.2.2.2.2] ∧ ∃ B', RuI W (w'.setCells Bz 0 [.int .i64 (mstepS K Sb).2.1.1, .bool (mstepS K Sb).2.1.2.1, .int .i64 (mstepS K Sb).2.1.2.2.1, .int .i64 (mstepS K Sb).2.1.2.2.2.1, .string (mstepS K Sb).2.1.2.2.2.2]) ga gb K K' k S (i + 1) (mstepS K Sb).1 (mstepS K Sb).2.2 (mstepS K Sb).2.1 By Bz A B') := by
  have hko := h.t.a.kok.1
  have hst : StOk K Sb := h.t.b.kok.2.1.alk h.t.l.symm h.t.b.kok.1 hko
  refine (h.t.stepB (by have := h.o; omega)).mono fun e w' q => ⟨q.1, ?_⟩
  obtain ⟨⟨B', hT⟩, hP⟩ := q.2.out
  have hz' := hP Bz _ _ (.inr rfl) h.fz
  have hy' := hP By _ _ (.inl rfl) h.fy
  refine ⟨hz', B', ?_⟩
  have kp : Kp (fun x => x = Bz) w' (w'.setCells Bz 0 [.int .i64 (mstepS K Sb).2.1.1, .bool (mstepS K Sb).2.1.2.1, .int .i64 (mstepS K Sb).2.1.2.2.1, .int .i64 (mstepS K Sb).2.1.2.2.2.1, .string (mstepS K Sb).2.1.2.2.2.2]) := Kp.setCells (F := fun x => x = Bz) (.inl rfl) _ 0 (Kp.refl _ _)
  have hput := Full.put (g := Bz) (t := 54) [.int .i64 (mstepS K Sb).2.1.1, .bool (mstepS K Sb).2.1.2.1, .int .i64 (mstepS K Sb).2.1.2.2.1, .int .i64 (mstepS K Sb).2.1.2.2.2.1, .string (mstepS K Sb).2.1.2.2.2.2] (a := []) (b := [.int .i64 z.1, .bool z.2.1, .int .i64 z.2.2.1, .int .i64 z.2.2.2.1, .string z.2.2.2.2]) (d := []) hz' rfl
  have hou := h.t.b.out
  rw [← h.t.l.step hko h.t.b.kok.1] at hou
  have ho := h.o
  exact ⟨hT.sets (.inr rfl) h.lo kp, full_kept hy' kp fun e => h.ne e, hput, h.r.step hko hst hp hi, by omega, h.ne, h.lo⟩
theorem RuI.start {W w6 : World} {ga gb : Nat} {K K' : Cg} {k : Nat} {S : Ms} {A B P : Nat → Prop} (h : Tw2 W w6 ga gb K K' (mrunS K k S).1 S A B P) (ho : S.out.length ≤ 21000000) :
    RuI W ((w6.alloc (.cells #[.int .i64 (mrunS K k S).2.1.1, .bool (mrunS K k S).2.1.2.1, .int .i64 (mrunS K k S).2.1.2.2.1, .int .i64 (mrunS K k S).2.1.2.2.2.1, .string (mrunS K k S).2.1.2.2.2.2] 54)).alloc (.cells #[.int .i64 0, .bool false, .int .i64 0, .int .i64 0, .string ⟨#[]⟩] 54)) ga gb K K' k S 0 S false yd0 w6.heap.size (w6.heap.size + 1) A B := by
  have b1 : Below w6.heap.size w6 (w6.alloc (.cells #[.int .i64 (mrunS K k S).2.1.1, .bool (mrunS K k S).2.1.2.1, .int .i64 (mrunS K k S).2.1.2.2.1, .int .i64 (mrunS K k S).2.1.2.2.2.1, .string (mrunS K k S).2.1.2.2.2.2] 54)) := (Below.refl _ w6).alloc (Nat.le_refl _) _
  have f1 := Full.new w6 #[.int .i64 (mrunS K k S).2.1.1, .bool (mrunS K k S).2.1.2.1, .int .i64 (mrunS K k S).2.1.2.2.1, .int .i64 (mrunS K k S).2.1.2.2.2.1, .string (mrunS K k S).2.1.2.2.2.2] 54
  have z1 : (w6.alloc (.cells #[.int .i64 (mrunS K k S).2.1.1, .bool (mrunS K k S).2.1.2.1, .int .i64 (mrunS K k S).2.1.2.2.1, .int .i64 (mrunS K k S).2.1.2.2.2.1, .string (mrunS K k S).2.1.2.2.2.2] 54)).heap.size = w6.heap.size + 1 := by simp
  generalize w6.alloc (.cells #[.int .i64 (mrunS K k S).2.1.1, .bool (mrunS K k S).2.1.2.1, .int .i64 (mrunS K k S).2.1.2.2.1, .int .i64 (mrunS K k S).2.1.2.2.2.1, .string (mrunS K k S).2.1.2.2.2.2] 54) = X1 at b1 f1 z1 ⊢
  have b2 : Below X1.heap.size X1 (X1.alloc (.cells #[.int .i64 0, .bool false, .int .i64 0, .int .i64 0, .string ⟨#[]⟩] 54)) := (Below.refl _ X1).alloc (Nat.le_refl _) _
  have f2 := Full.new X1 #[.int .i64 0, .bool false, .int .i64 0, .int .i64 0, .string ⟨#[]⟩] 54
  have z2 : (X1.alloc (.cells #[.int .i64 0, .bool false, .int .i64 0, .int .i64 0, .string ⟨#[]⟩] 54)).heap.size = X1.heap.size + 1 := by simp
  rw [z1] at f2
  have hs := h.bl.size
  exact ⟨h.more (below2 b1 b2) fun x hx => .inr (by rcases hx with r | r <;> omega), f1.next b2, f2, RuR.start K k S, by omega, by omega, by omega⟩
end Go.Proofs.YtahdkffijlfmnaaGreatDoor
