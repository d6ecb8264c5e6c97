import Derived.Test.YtahdkffijlfmnaaGreatDoorT34
import Derived.Test.YtahdkffijlfmnaaGreatDoorT30
import Derived.Test.YtahdkffijlfmnaaGreatDoorT33
import Derived.Test.YtahdkffijlfmnaaGreatDoorT27
import Derived.Test.YtahdkffijlfmnaaGreatDoorT31
import Derived.Test.YtahdkffijlfmnaaGreatDoorT32
namespace Go.Proofs.YtahdkffijlfmnaaGreatDoor
open Go.ChangeShapes Go.WideShapes Go.ChangeAt Go.RowKit
open Hp (V vc vcs)
def NoneOk (q : Option Addr) (n cap : Nat) : Prop := q = none → n = 0 ∧ cap = 0
theorem none_of {H : Type} {enc : TypeId × Value → H} {W : World} {base : Nat} {spare : Nat → Bool} {held : Bool} {m : Nat} {t e : TypeId} {q : Option Addr} {n cap : Nat} {z} (ht : Tryz.prog.underlying t = some (.slice e)) (g : DataW.trod enc Tryz.prog W base spare held m t [.slice q n cap] = some z) : NoneOk q n cap := by
  rcases DataW.trod_slice ht g with ⟨h0, _⟩ | ⟨p, len, cap', elems, rest, k, _, h0, _⟩
  · simp only [List.cons.injEq, Value.slice.injEq, and_true] at h0
    exact fun _ => ⟨h0.2.1, h0.2.2⟩
  · simp only [List.cons.injEq, Value.slice.injEq, and_true] at h0
    intro hq
    rw [h0.1] at hq
    cases hq
def CapQ (y : Em) : Prop := NoneOk y.2.1 y.1.sorts.length y.2.2
theorem list2D {α : Type} {xs : List α} (h : xs.length = 2) : ∃ c0 c1, xs = [c0, c1] := by
  match xs, h with
  | [c0, c1], _ => exact ⟨c0, c1, rfl⟩
theorem op_ent_q {H : Type} {enc : TypeId × Value → H} {W : World} {base : Nat} {spare : Nat → Bool} {held : Bool} (n : Nat) (cs : List Value) (y : DataW H × List MemPlace) (hl : cs.length = 5) (h : DataW.trod enc Tryz.prog W base spare held n 71 cs = some y) (hw : Light 71 y.1) : ∃ a : Em, cs = ec a ∧ EmOk W a ∧ CapQ a := by
  obtain ⟨a, rfl, ha⟩ := op_ent n cs y hl h hw
  refine ⟨a, rfl, ha, ?_⟩
  obtain ⟨zs, m2, _, hy, _, hlen2, hgs⟩ := DataW.trod_struct Tryz.underlying71 h
  obtain ⟨z0, z1, z2, z3, z4, rfl⟩ := list5 hlen2
  have g3 : DataW.trod enc Tryz.prog W base spare held m2 68 [.slice a.2.1 a.1.sorts.length a.2.2] = some z3 := by have := hgs 3 _ rfl; simpa [ec, cStr, cNum, cLs] using this
  exact none_of Tryz.underlying68 g3
theorem rds_of {W : World} {b : Nat} {q : Option Addr} {n cap : Nat} {xs : List Value} (h : Row W b q n xs) (hn : NoneOk q n cap) : RdS W q n cap xs := ⟨fun q => (hn q).1, fun h0 => by
  obtain ⟨g, o, e, -, r⟩ := h h0
  exact ⟨g, o, e, r⟩⟩
theorem cLin : Tryz.prog.cellsOf 27 = 1 := by kernel_rfl
theorem cLim : Tryz.prog.cellsOf 29 = 2 := by kernel_rfl
theorem cSet : Tryz.prog.cellsOf 31 = 7 := by kernel_rfl
theorem cRunA : Tryz.prog.cellsOf 33 = 9 := by kernel_rfl
theorem bI64 : Tryz.prog.bytesOf 2 = 8 := by kernel_rfl
theorem op_i64 {H : Type} {enc : TypeId × Value → H} {W : World} {base : Nat} {spare : Nat → Bool} {held : Bool} (n : Nat) (cs : List Value) (y : DataW H × List MemPlace) (hl : cs.length = 1) (h : DataW.trod enc Tryz.prog W base spare held n 2 cs = some y) (_ : Light 2 y.1) : ∃ a : Int, cs = [.int .i64 a] ∧ i64 a := by
  obtain ⟨c0, rfl⟩ := list1 hl
  obtain ⟨a, e, rfl, wf⟩ := DataW.trod_int Tryz.underlying2 h
  simp at e
  exact ⟨a, by rw [e], wf_i64 wf⟩
structure SetR (W : World) (iq eq tq nq : Option Addr) (ia ea ta na : Nat) (Es : List Em) (c : Cd) (inp : List Int) : Prop where
  r : CdR W iq eq tq ia ea ta Es c
  m : CodeM W W.heap.size iq eq tq Es c
  n : RdS W nq inp.length na (sv inp)
  i : ∀ x ∈ inp, I64 x
  l : inp.length ≤ 9223372036854775807
theorem open_codeQ {H : Type} {enc : TypeId × Value → H} {W : World} {base : Nat} {spare : Nat → Bool} {held : Bool} {fuel : Nat} {c0 c1 c2 c3 : Value} {x : DataW H × List MemPlace} (hf : DataW.trod enc Tryz.prog W base spare held fuel 26 [c0, c1, c2, c3] = some x) (hd : Light 26 x.1) :
    ∃ (iq eq tq : Option Addr) (ia ea ta : Nat) (Es : List Em) (c : Cd), (c0 = .slice iq c.ins.length ia ∧ c1 = .slice eq c.ens.length ea ∧ c2 = .slice tq c.txs.length ta ∧ c3 = .int .i64 c.main) ∧ CdR W iq eq tq ia ea ta Es c ∧ CodeM W W.heap.size iq eq tq Es c := by
  obtain ⟨xs, m, _, hx, _, hlen, hfs⟩ := DataW.trod_struct Tryz.underlying26 hf
  obtain ⟨z0, z1, z2, z3, rfl⟩ := list4 hlen
  have g0 : DataW.trod enc Tryz.prog W base spare held m 22 [c0] = some z0 := by have := hfs 0 _ rfl; simpa [Value.cells, cLi] using this
  have g1 : DataW.trod enc Tryz.prog W base spare held m 23 [c1] = some z1 := by have := hfs 1 _ rfl; simpa [Value.cells, cLi, cLe] using this
  have g2 : DataW.trod enc Tryz.prog W base spare held m 24 [c2] = some z2 := by have := hfs 2 _ rfl; simpa [Value.cells, cLi, cLe, cLt] using this
  have g3 : DataW.trod enc Tryz.prog W base spare held m 3 [c3] = some z3 := by have := hfs 3 _ rfl; simpa [Value.cells, cLi, cLe, cLt, cNum] using this
  obtain ⟨x1, x2⟩ := x
  simp only [Prod.mk.injEq] at hx
  have hd0 := hx.1
  subst hd0
  have hz : ∀ (j : Nat) (t : TypeId) (z : DataW H), ([22, 23, 24, 3] : List TypeId)[j]? = some t → ([z0, z1, z2, z3].map (·.1))[j]? = some z → Light t z := fun j t z h1 h2 k hk => hd k (by
    simp only [DataW.weights, Tryz.underlying26]
    exact DataW.weights_mem_each (P := Tryz.prog) (ts := [22, 23, 24, 3]) (ds := [z0, z1, z2, z3].map (·.1)) (j := j) h1 h2 k hk)
  obtain ⟨iq, ia, I, e0, ib, irow, hI⟩ := slice_row (m := 3) (by omega) ic (fun _ => rfl) (fun a : In => i64 a.1 ∧ i64 a.2.1 ∧ i64 a.2.2) Tryz.underlying22 cIns g0 (hz 0 _ _ rfl rfl) op_ins
  obtain ⟨eq, ea, E, e1, eb, erow, hE2⟩ := slice_row (m := 5) (by omega) ec (fun _ => rfl) (fun y => EmOk W y ∧ CapQ y) Tryz.underlying23 cEnt g1 (hz 1 _ _ rfl rfl) op_ent_q
  obtain ⟨tq, ta, T, e2, tb, trow, hT⟩ := slice_row (m := 1) (by omega) (fun a : ByteArray => [Value.string a]) (fun _ => rfl) (fun a : ByteArray => a.size ≤ 140737488351232) Tryz.underlying24 cStr g2 (hz 2 _ _ rfl rfl) op_str
  obtain ⟨mn, e3, -, w3⟩ := DataW.trod_int Tryz.underlying3 g3
  simp at e3
  rw [bIns, reach_eq] at ib
  rw [bEnt, reach_eq] at eb
  rw [bStr, reach_eq] at tb
  rw [flat_one] at trow
  rw [e0] at g0
  rw [e1] at g1
  rw [e2] at g2
  have hE : ∀ x ∈ E, EmOk W x := fun x hx => (hE2 x hx).1
  have hlE : (E.map (·.1)).length = E.length := List.length_map ..
  refine ⟨iq, eq, tq, ia, ea, ta, E, ⟨I, E.map (·.1), T, mn⟩, ?_, ⟨rfl, rds_of irow (none_of Tryz.underlying22 g0), ?_, rds_of trow (none_of Tryz.underlying24 g2), fun x hx => rds_of (hE x hx).1.1 (hE2 x hx).2⟩, ⟨rfl, irow, ?_, trow, fun x hx => ⟨(hE x hx).1.1, ?_, ?_⟩, ?_, ?_, ?_, fun t ht => ?_⟩⟩
  · simp only; rw [hlE]
    exact ⟨e0, e1, e2, e3⟩
  · simp only; rw [hlE]; exact rds_of erow (none_of Tryz.underlying23 g1)
  · simp only; rw [hlE]; exact erow
  · have := (hE x hx).2.1; omega
  · have := (hE x hx).1.2; omega
  · simp only; omega
  · simp only; rw [hlE]; omega
  · simp only; omega
  · have := hT t ht; omega
theorem open_setup {H : Type} {enc : TypeId × Value → H} {W : World} {base : Nat} {spare : Nat → Bool} {held : Bool} {fuel : Nat} {c0 c1 c2 c3 c4 c5 c6 : Value} {x : DataW H × List MemPlace} (hf : DataW.trod enc Tryz.prog W base spare held fuel 31 [c0, c1, c2, c3, c4, c5, c6] = some x) (hd : Light 31 x.1) :
    ∃ (iq eq tq nq : Option Addr) (ia ea ta na : Nat) (Es : List Em) (c : Cd) (inp : List Int) (d l : Int), (c0 = .slice iq c.ins.length ia ∧ c1 = .slice eq c.ens.length ea ∧ c2 = .slice tq c.txs.length ta ∧ c3 = .int .i64 c.main ∧ c4 = .slice nq inp.length na ∧ c5 = .int .i64 d ∧ c6 = .int .i64 l) ∧ SetR W iq eq tq nq ia ea ta na Es c inp ∧ i64 d ∧ i64 l := by
  obtain ⟨xs, m, _, hx, _, hlen, hfs⟩ := DataW.trod_struct Tryz.underlying31 hf
  obtain ⟨z0, z1, z2, rfl⟩ := list3 hlen
  have g0 : DataW.trod enc Tryz.prog W base spare held m 26 [c0, c1, c2, c3] = some z0 := by have := hfs 0 _ rfl; simpa [Value.cells, cCode] using this
  have g1 : DataW.trod enc Tryz.prog W base spare held m 27 [c4] = some z1 := by have := hfs 1 _ rfl; simpa [Value.cells, cCode, cLin] using this
  have g2 : DataW.trod enc Tryz.prog W base spare held m 29 [c5, c6] = some z2 := by have := hfs 2 _ rfl; simpa [Value.cells, cCode, cLin, cLim] using this
  obtain ⟨x1, x2⟩ := x
  simp only [Prod.mk.injEq] at hx
  have hd0 := hx.1
  subst hd0
  have hz : ∀ (j : Nat) (t : TypeId) (z : DataW H), ([26, 27, 29] : List TypeId)[j]? = some t → ([z0, z1, z2].map (·.1))[j]? = some z → Light t z := fun j t z h1 h2 k hk => hd k (by
    simp only [DataW.weights, Tryz.underlying31]
    exact DataW.weights_mem_each (P := Tryz.prog) (ts := [26, 27, 29]) (ds := [z0, z1, z2].map (·.1)) (j := j) h1 h2 k hk)
  obtain ⟨iq, eq, tq, ia, ea, ta, Es, c, e0, hC, hM⟩ := open_codeQ g0 (hz 0 _ _ rfl rfl)
  obtain ⟨nq, na, inp, e1, nb, nrow, hN⟩ := slice_row (m := 1) (by omega) (fun a : Int => [Value.int .i64 a]) (fun _ => rfl) i64 Tryz.underlying27 cI64 g1 (hz 1 _ _ rfl rfl) op_i64
  obtain ⟨ys, m2, _, hy, _, hlen2, hgs⟩ := DataW.trod_struct Tryz.underlying29 g2
  obtain ⟨y0, y1, rfl⟩ := list2D hlen2
  have k0 : DataW.trod enc Tryz.prog W base spare held m2 3 [c5] = some y0 := by have := hgs 0 _ rfl; simpa [cNum] using this
  have k1 : DataW.trod enc Tryz.prog W base spare held m2 3 [c6] = some y1 := by have := hgs 1 _ rfl; simpa [cNum] using this
  obtain ⟨d, e2, -, w2⟩ := DataW.trod_int Tryz.underlying3 k0
  obtain ⟨l, e3, -, w3⟩ := DataW.trod_int Tryz.underlying3 k1
  simp at e2 e3
  rw [bI64, reach_eq] at nb
  rw [flat_one] at nrow
  rw [e1] at g1
  exact ⟨iq, eq, tq, nq, ia, ea, ta, na, Es, c, inp, d, l, ⟨e0.1, e0.2.1, e0.2.2.1, e0.2.2.2, e1, e2, e3⟩, ⟨hC, hM, rds_of nrow (none_of Tryz.underlying27 g1), hN, by omega⟩, wf_i64 w2, wf_i64 w3⟩
set_option maxRecDepth 100000 in
theorem open_run {H : Type} {enc : TypeId × Value → H} {W : World} {base b0 : Nat} {spare : Nat → Bool} {held : Bool} {r : Reach} {v : Value} {d : DataW H} {p : List MemPlace} (hv : Value.okWide Tryz.prog W r b0 33 v) (h : DataW.Trod enc Tryz.prog W base spare held 33 v d p) (hd : Light 33 d) :
    ∃ (iq eq tq nq : Option Addr) (ia ea ta na : Nat) (Es : List Em) (c : Cd) (inp : List Int) (dp l fi th : Int), v = .agg #[.slice iq c.ins.length ia, .slice eq c.ens.length ea, .slice tq c.txs.length ta, .int .i64 c.main, .slice nq inp.length na, .int .i64 dp, .int .i64 l, .int .i64 fi, .int .i64 th] ∧ SetR W iq eq tq nq ia ea ta na Es c inp := by
  obtain ⟨cs, rfl, hsz⟩ := okWide_struct Tryz.underlying33 hv
  obtain ⟨c0, c1, c2, c3, c4, c5, c6, c7, c8, rfl⟩ : ∃ c0 c1 c2 c3 c4 c5 c6 c7 c8, cs = #[c0, c1, c2, c3, c4, c5, c6, c7, c8] := by
    have h1 : cs.size = 9 := hsz.trans cRunA
    obtain ⟨l⟩ := cs
    match l, h1 with
    | [c0, c1, c2, c3, c4, c5, c6, c7, c8], _ => exact ⟨c0, c1, c2, c3, c4, c5, c6, c7, c8, rfl⟩
  obtain ⟨fuel, hf⟩ := h
  obtain ⟨xs, m, _, hx, _, hlen, hfs⟩ := DataW.trod_struct Tryz.underlying33 hf
  obtain ⟨z0, z1, z2, rfl⟩ := list3 hlen
  have g0 : DataW.trod enc Tryz.prog W base spare held m 31 [c0, c1, c2, c3, c4, c5, c6] = some z0 := by have := hfs 0 _ rfl; simpa [Value.cells, cSet] using this
  have g1 : DataW.trod enc Tryz.prog W base spare held m 3 [c7] = some z1 := by have := hfs 1 _ rfl; simpa [Value.cells, cSet, cNum] using this
  have g2 : DataW.trod enc Tryz.prog W base spare held m 3 [c8] = some z2 := by have := hfs 2 _ rfl; simpa [Value.cells, cSet, cNum] using this
  simp only [Prod.mk.injEq] at hx
  have hd0 := hx.1
  subst hd0
  have hz : ∀ (j : Nat) (t : TypeId) (z : DataW H), ([31, 3, 3] : List TypeId)[j]? = some t → ([z0, z1, z2].map (·.1))[j]? = some z → Light t z := fun j t z h1 h2 k hk => hd k (by
    simp only [DataW.weights, Tryz.underlying33]
    exact DataW.weights_mem_each (P := Tryz.prog) (ts := [31, 3, 3]) (ds := [z0, z1, z2].map (·.1)) (j := j) h1 h2 k hk)
  obtain ⟨iq, eq, tq, nq, ia, ea, ta, na, Es, c, inp, dp, l, e0, hS, -, -⟩ := open_setup g0 (hz 0 _ _ rfl rfl)
  obtain ⟨fi, e1, -, -⟩ := DataW.trod_int Tryz.underlying3 g1
  obtain ⟨th, e2, -, -⟩ := DataW.trod_int Tryz.underlying3 g2
  simp at e1 e2
  refine ⟨iq, eq, tq, nq, ia, ea, ta, na, Es, c, inp, dp, l, fi, th, ?_, hS⟩
  obtain ⟨rfl, rfl, rfl, rfl, rfl, rfl, rfl⟩ := e0
  rw [e1, e2]
end Go.Proofs.YtahdkffijlfmnaaGreatDoor

namespace Go.Proofs.YtahdkffijlfmnaaGreatDoor
open Go.RowKit
open Hp (V vc vcs)
theorem SetR.next {W W' : World} {iq eq tq nq : Option Addr} {ia ea ta na : Nat} {Es : List Em} {c : Cd} {inp : List Int} (h : SetR W iq eq tq nq ia ea ta na Es c inp) (k : Below W.heap.size W W') : SetR W' iq eq tq nq ia ea ta na Es c inp := by
  have hEl : Es.length = c.ens.length := h.m.len
  refine ⟨⟨h.r.en, h.r.ir.next (fun q => by rw [ic_len]; omega) k, h.r.er.next (fun q => by rw [ec_len]; omega) k, h.r.tr.next (fun q => by rw [tv_len]; exact q) k, fun x hx => (h.r.sr x hx).next (fun q => by simpa [sv] using q) k⟩, (h.m.below k (Nat.le_refl _)).up k.size, h.n.next (fun q => by simpa [sv] using q) k, h.i, h.l⟩
theorem setNew {W W0 : World} {iq eq tq nq : Option Addr} {ia ea ta na : Nat} {Es : List Em} {c : Cd} {inp : List Int} (hS : SetR W0 iq eq tq nq ia ea ta na Es c inp) (hG : Glo W0) (b : Below W0.heap.size W0 W) (d l : Int) (he : newE c inp.length d l = 0) :
    0 ≤ l ∧ Calls Tryz.prog 7 #[.agg #[.slice iq c.ins.length ia, .slice eq c.ens.length ea, .slice tq c.txs.length ta, .int .i64 c.main], .slice nq inp.length na, .agg #[.int .i64 d, .int .i64 l]] W fun z w' => ∃ g, z = .returned (.tuple #[.pointer (some ⟨g, 0, none⟩), .int .i64 0]) ∧ Hid (∃ K, Mz w' (fun b => W.heap.size ≤ b) g K (msN (enAt c.ens c.main.toNat) c.main) ∧ K.c = c ∧ K.inp = inp ∧ K.dep = d ∧ K.lim = l.toNat ∧ Below W.heap.size W w') := by
  have hl : 0 ≤ l := by
    unfold newE at he
    split at he
    · cases he
    · rename_i hm
      simp only [Bool.not_eq_false] at hm
      unfold mayRunS at hm
      simp only [Bool.and_eq_true, decide_eq_true_eq] at hm
      exact hm.2.2.2.1
  refine ⟨hl, ?_⟩
  have hSX := hS.next b
  have hGX := hG.next b
  refine (new_any hSX.r hSX.m hSX.n hSX.i hSX.l d l hGX.tabs).mono fun z w' q => ?_
  rw [if_pos he] at q
  obtain ⟨g, rfl, hq⟩ := q
  obtain ⟨K, k1, k2, k3, k4, k5⟩ := newM_mz hq.out.1 (hGX.next hq.out.2) (by have := hGX.tabs.size; omega)
  exact ⟨g, rfl, K, k1, k2, k3, k4, k5, hq.out.2⟩
theorem setNew_no {W W0 : World} {iq eq tq nq : Option Addr} {ia ea ta na : Nat} {Es : List Em} {c : Cd} {inp : List Int} (hS : SetR W0 iq eq tq nq ia ea ta na Es c inp) (hG : Glo W0) (b : Below W0.heap.size W0 W) (d l : Int) (he : newE c inp.length d l ≠ 0) :
    Calls Tryz.prog 7 #[.agg #[.slice iq c.ins.length ia, .slice eq c.ens.length ea, .slice tq c.txs.length ta, .int .i64 c.main], .slice nq inp.length na, .agg #[.int .i64 d, .int .i64 l]] W fun z w' => z = .returned (.tuple #[.pointer none, .int .i64 (newE c inp.length d l)]) ∧ Below W.heap.size W w' := by
  have hSX := hS.next b
  have hGX := hG.next b
  refine (new_any hSX.r hSX.m hSX.n hSX.i hSX.l d l hGX.tabs).mono fun z w' q => ?_
  rw [if_neg he] at q
  exact q
theorem runX {W : World} {iq eq tq nq : Option Addr} {i ia e ea t ta n na : Nat} {mn d l fi th : Int} (X : World) (hX : W.alloc (.cells #[.slice iq i ia, .slice eq e ea, .slice tq t ta, .int .i64 mn, .slice nq n na, .int .i64 d, .int .i64 l, .int .i64 fi, .int .i64 th] 33) = X) :
    Below W.heap.size W X ∧ X.heap.size = W.heap.size + 1 ∧ Full X W.heap.size 33 [.slice iq i ia, .slice eq e ea, .slice tq t ta, .int .i64 mn, .slice nq n na, .int .i64 d, .int .i64 l, .int .i64 fi, .int .i64 th] := by
  subst hX
  exact ⟨(Below.refl _ W).alloc (Nat.le_refl _) _, by simp, Full.new W _ _⟩
theorem fewK (fi : Int) : ∃ k : Nat, (if fi < 0 then 0 else fi % 5000) = (k : Int) ∧ k < 5000 := by
  by_cases h : fi < 0
  · exact ⟨0, by rw [if_pos h]; rfl, by decide⟩
  · refine ⟨(fi % 5000).toNat, ?_, ?_⟩
    · rw [if_neg h]; omega
    · omega
end Go.Proofs.YtahdkffijlfmnaaGreatDoor

namespace Go.Proofs.YtahdkffijlfmnaaGreatDoor
open Go.RowKit
open Hp (V vc vcs vaB)
theorem frB_app (f : Fr) (b : List UInt8) : frB f ++ b = frC f b := by
  have e : Hp.numB f.fn 1 = [Hp.byteOf f.fn] := by simp [Hp.numB]
  unfold frB frC
  rw [e]
  simp only [List.append_assoc]
theorem frs_app : ∀ (l : List Fr) (b : List UInt8), l.flatMap frB ++ b = l.foldr frC b
  | [], b => rfl
  | f :: l, b => by rw [List.flatMap_cons, List.append_assoc, frs_app l b, frB_app]; rfl
theorem svB_rs (S : Ms) : svB S = rsB S [] := by
  have e : ∀ x : Int, Hp.numB x 1 = [Hp.byteOf x] := fun x => by simp [Hp.numB]
  have e86 : Hp.byteOf 86 = 86 := by decide
  unfold svB svH rsB rsT
  rw [← frs_app]
  simp only [e, e86, List.append_assoc, List.cons_append, List.nil_append, List.append_nil]
theorem es_at {K K' : Cg} (ha : Alk K K') (a : KOk K) (b : KOk K') {i : Nat} (hi : i < K.Es.length) : ∃ h : i < K'.Es.length, K.Es[i].1 = K'.Es[i].1 := by
  have e : K.Es.map (·.1) = K'.Es.map (·.1) := by rw [a.en, b.en, ha.c]
  have hl : K.Es.length = K'.Es.length := by have := congrArg List.length e; simpa using this
  refine ⟨by omega, ?_⟩
  have e2 := congrArg (·[i]?) e
  simpa only [List.getElem?_map, List.getElem?_eq_getElem hi, List.getElem?_eq_getElem (show i < K'.Es.length by omega), Option.map_some, Option.some.injEq] using e2
theorem end_alk {K K' : Cg} (ha : Alk K K') (a : KOk K) (b : KOk K') (i : Nat) : endM K i = endM K' i := by
  unfold endM
  split
  · rename_i h
    obtain ⟨h', e⟩ := es_at ha a b h
    rw [dif_pos h', e]
  · rename_i h
    rw [dif_neg (by rw [a.len, ha.c, ← b.len] at h; exact h), ha.c]
theorem FrG.alk {K K' : Cg} {n : Nat} {f : Fr} (h : FrG K n f) (ha : Alk K K') (a : KOk K) (b : KOk K') : FrG K' n f := by
  obtain ⟨i, hi, hil, h1, h2, h3⟩ := h.kd
  obtain ⟨h', e⟩ := es_at ha a b hil
  exact ⟨h.st, h.sl, i, hi, h', by rw [← e]; exact h1, by rw [← e]; exact h2, by rw [← end_alk ha a b]; exact h3⟩
theorem StG.alk {K K' : Cg} {S : Ms} (h : StG K S) (ha : Alk K K') (a : KOk K) (b : KOk K') : StG K' S := ⟨⟨fun f hf => (h.b.fr f hf).alk ha a b, h.b.hp, fun f hf => by rw [← ha.c]; exact h.b.mn f hf⟩, h.ph⟩
theorem end_max {K : Cg} (hK : KOk K) (i : Nat) : endM K i ≤ 60000 := by
  have := hK.c.il
  unfold endM
  split
  · rename_i h
    have := (hK.start (i + 1) h).2
    omega
  · omega
theorem rsOk_of {K : Cg} {S : Ms} (hK : KOk K) (hO : StOk K S) (hG : StG K S) : RsOk K S := by
  refine ⟨?_, ?_, ?_, ?_, hO.s0, hO.s1, hO.rd, hK.inp, hO.dp, hK.d2, by rw [hK.len]; exact hK.c.el, fun f hf => ?_⟩
  · rcases hG.ph with ⟨q, -⟩ | ⟨q, -⟩ | ⟨q, -⟩ <;> omega
  · rcases hG.ph with ⟨q, -⟩ | ⟨q, -⟩ | ⟨q, -⟩ <;> omega
  · rcases hG.ph with ⟨-, q, -⟩ | ⟨-, q, -⟩ | ⟨-, q, -⟩
    · omega
    · omega
    · have := q.1; omega
  · rcases hG.ph with ⟨-, q, -⟩ | ⟨-, q, -⟩ | ⟨-, q, -⟩
    · omega
    · omega
    · exact q.2
  · have q := hG.b.fr f hf
    have o := hO.fr f hf
    obtain ⟨i, hi, hil, h1, h2, h3⟩ := q.kd
    have hl : f.sl.length = K.Es[i].1.sorts.length := by have := congrArg List.length h1; simpa using this
    have h0 := (hK.start i hil).1
    have hm := end_max hK i
    exact ⟨i, hil, hi, hl, frOk_len hK o, o.ln, fun v hv => ⟨(q.sl v hv).1, (q.sl v hv).2.1, (o.sl v hv).2.1, (o.sl v hv).2.2⟩, fun v hv => ⟨(q.st v hv).1, (q.st v hv).2.1, (o.st v hv).2.1, (o.st v hv).2.2⟩, by omega, h2, h3, by omega⟩
theorem okH_of {K : Cg} {S : Ms} (hO : StOk K S) (hG : StG K S) : Hp.okH S.hp S.hp.length := fun a ha => ⟨(hG.b.hp a ha).1, fun v hv => by
  obtain ⟨h1, h2⟩ := (hG.b.hp a ha).2 v hv
  have := hv_may h1
  rw [h2] at this
  exact ⟨this, (hO.hp a ha v hv).2.1, (hO.hp a ha v hv).2.2⟩⟩
theorem svB_len {K : Cg} {S : Ms} (hK : KOk K) (hO : StOk K S) (hu : Hp.usedS S.hp ≤ 100000) (ho : S.out.length ≤ 100000000) : (svB S).length ≤ 900000000 := by
  have h1 := frs_len hK S.fs hO.fr
  have h2 := saveS_len hO.hp hu
  have h3 := hO.dp
  have h4 := hK.d2
  unfold svB svH
  simp only [List.length_append, Hp.numB_len, List.length_cons, List.length_nil]
  omega
end Go.Proofs.YtahdkffijlfmnaaGreatDoor

namespace Go.Proofs.YtahdkffijlfmnaaGreatDoor
open Go.RowKit
open Hp (V vc vcs vaB)
set_option maxHeartbeats 1000000 in
theorem ld_start {w1 : World} {g : Nat} {K : Cg} {S0 S : Ms} {L : List Fm} {fv ov : Value} {F Q : Nat → Prop} (h : MachM w1 g K S0 L fv ov F Q) (hl : (svB S).length ≤ 900000000) :
    ∃ h1 h2 h3, RsI (w1.alloc (.cells #[.string ⟨(svB S).toArray⟩, .bool false] 104)) (w1.alloc (.cells #[.string ⟨(svB S).toArray⟩, .bool false] 104)) g w1.heap.size K Q (twc K S0 fv (.int .i64 (K.lim : Int)) h1 h2 h3 ov) (rsB S []) := by
  obtain ⟨hb, hF, -⟩ := h.heap.blk
  have hb : Blk w1 g 82 17 := hb
  have hF : F g := hF
  obtain ⟨u, r, a, -, -, hcl⟩ := h.full
  have nb : Below w1.heap.size w1 (w1.alloc (.cells #[.string ⟨(svB S).toArray⟩, .bool false] 104)) := (Below.refl _ w1).alloc (Nat.le_refl _) _
  have bx := Hp.Box2.new w1 (.string ⟨(svB S).toArray⟩) (.bool false) 104
  have hg := hb.lt
  refine ⟨_, r, a, ⟨hb.next nb, fun j v hv => hcl _ nb j v hv⟩, (h.next nb).code, ?_, Kp.refl _ _, ⟨by omega, fun q => (h.nq g q).1 hF, fun q => Nat.lt_irrefl _ (h.code.lt _ q), by simp; omega, by simp⟩, by rw [← svB_rs]; exact hl⟩
  rw [← svB_rs]
  exact bx
set_option maxRecDepth 100000 in
set_option maxHeartbeats 2000000 in
theorem setLoad {W W0 : World} {iq eq tq nq : Option Addr} {ia ea ta na : Nat} {Es : List Em} {c : Cd} {inp : List Int} (hS : SetR W0 iq eq tq nq ia ea ta na Es c inp) (hG : Glo W0) (b : Below W0.heap.size W0 W) (d l : Int) (he : newE c inp.length d l = 0)
    {K : Cg} {S : Ms} (hK : KOk K) (hc : K.c = c) (hi : K.inp = inp) (hd : K.dep = d) (hl : K.lim = l.toNat) (hO : StOk K S) (hGt : StG K S) (hu : Hp.usedS S.hp ≤ K.lim) (ho : S.out.length ≤ 100000000) :
    Calls Tryz.prog 20 #[.agg #[.slice iq c.ins.length ia, .slice eq c.ens.length ea, .slice tq c.txs.length ta, .int .i64 c.main], .slice nq inp.length na, .agg #[.int .i64 d, .int .i64 l], .string ⟨(svB S).toArray⟩] W fun z w' => ∃ g, z = .returned (.tuple #[.pointer (some ⟨g, 0, none⟩), .int .i64 0]) ∧ Hid (∃ K', Mz w' (fun b => W.heap.size ≤ b) g K' S ∧ Alk K K' ∧ Below W.heap.size W w') := by
  obtain ⟨V, hV⟩ : ∃ V, (W.alloc (.cells #[.slice iq c.ins.length ia, .slice eq c.ens.length ea, .slice tq c.txs.length ta, .int .i64 c.main] 26)).alloc (.cells #[.int .i64 d, .int .i64 l] 29) = V := ⟨_, rfl⟩
  have bW : Below W.heap.size W V := by rw [← hV]; exact ((Below.refl _ W).alloc (Nat.le_refl _) _).alloc (by simp) _
  have fC : Full V W.heap.size 26 [.slice iq c.ins.length ia, .slice eq c.ens.length ea, .slice tq c.txs.length ta, .int .i64 c.main] := by
    rw [← hV]
    exact (Full.new W _ _).next ((Below.refl _ _).alloc (Nat.le_refl _) _)
  have fL : Full V (W.heap.size + 1) 29 [.int .i64 d, .int .i64 l] := by
    have q := Full.new (W.alloc (.cells #[.slice iq c.ins.length ia, .slice eq c.ens.length ea, .slice tq c.txs.length ta, .int .i64 c.main] 26)) #[.int .i64 d, .int .i64 l] 29
    rw [World.size_alloc, hV] at q
    exact q
  have bV : Below W0.heap.size W0 V := below2 b bW
  have dN := (setNew hS hG bV d l he).2
  have k0 := (fC.cell 0 _ rfl).1
  have k1 := (fC.cell 1 _ rfl).1
  have k2 := (fC.cell 2 _ rfl).1
  have k3 := (fC.cell 3 _ rfl).1
  have m0 := (fL.cell 0 _ rfl).1
  have m1 := (fL.cell 1 _ rfl).1
  have HBW : Hid (Below W.heap.size W V) := bW
  have h8 : 8 ≤ V.heap.size := by have := hG.tabs.size; have := bV.size; omega
  have HLN : Hid ((svB S).length ≤ 900000000) := svB_len hK hO (by have := hK.lim; omega) ho
  have HRS : Hid (∀ (w1 : World) (g : Nat) (K1 : Cg), Mz w1 (fun b => V.heap.size ≤ b) g K1 (msN (enAt c.ens c.main.toNat) c.main) → K1.c = c → K1.inp = inp → K1.dep = d → K1.lim = l.toNat → Below V.heap.size V w1 → Calls Tryz.prog 41 #[.pointer (some ⟨g, 0, none⟩), .pointer (some ⟨w1.heap.size, 0, none⟩)] (w1.alloc (.cells #[.string ⟨(svB S).toArray⟩, .bool false] 104)) fun e w' => (∃ u, e = .returned u) ∧ ((w'.cell? ⟨w1.heap.size, 0, none⟩ = some (.string Hp.e0) ∧ w'.cell? ⟨w1.heap.size, 1, none⟩ = some (.bool false)) ∧ (∀ W2, Below w'.heap.size w' W2 → W2.cell? ⟨w1.heap.size, 0, none⟩ = some (.string Hp.e0) ∧ W2.cell? ⟨w1.heap.size, 1, none⟩ = some (.bool false)) ∧ Calls Tryz.prog 42 #[.pointer (some ⟨g, 0, none⟩)] w' (fun z w'' => z = .returned (.bool true) ∧ Below w'.heap.size w' w'') ∧ Hid (∃ K', Mz w' (fun b => V.heap.size ≤ b) g K' S ∧ Alk K K' ∧ Below V.heap.size V w'))) := fun w1 g K1 hz e1 e2 e3 e4 bl => by
    obtain ⟨L, fv, ov, F, Q, hL, hU⟩ := hz
    have ha : Alk K K1 := ⟨hc.trans e1.symm, hi.trans e2.symm, hd.trans e3.symm, hl.trans e4.symm⟩
    have hK1 := hL.k
    have hO1 := hO.alk ha hK hK1
    have hG1 := hGt.alk ha hK hK1
    obtain ⟨h1, h2, h3, hI⟩ := ld_start (S := S) hL.m HLN.out
    obtain ⟨n1, n2, n3, n4, n5⟩ := hI.n
    have nb : Below w1.heap.size w1 (w1.alloc (.cells #[.string ⟨(svB S).toArray⟩, .bool false] 104)) := (Below.refl _ w1).alloc (Nat.le_refl _) _
    have hgU : V.heap.size ≤ g := hU g (.inl (.inl hL.m.heap.blk.2.1))
    have hs := bl.size
    have hBW : Below V.heap.size V (w1.alloc (.cells #[.string ⟨(svB S).toArray⟩, .bool false] 104)) := below2 bl nb
    have z1 : g ≠ 4 := by omega
    have z2 : w1.heap.size ≠ 4 := by omega
    refine (restore_any hI (rsOk_of hK1 hO1 hG1) (fun b hb => Nat.lt_of_lt_of_le (hL.m.code.lt b hb) nb.size) ho (hL.g.1.next nb).zt ⟨z1, z2⟩ (by rw [← ha.l]; exact hu) hK1.lim (okH_of hO1 hG1)).mono fun e w' q => ⟨q.1, ?_⟩
    obtain ⟨⟨L', fv', ov', F', hM, hF'⟩, lz, hz'⟩ := q.2.out
    have r0 : w'.cell? ⟨w1.heap.size, 0, none⟩ = some (.string Hp.e0) := hz'.r.1.1
    have r1 : w'.cell? ⟨w1.heap.size, 1, none⟩ = some (.bool false) := hz'.r.2.1
    have hBw : Below V.heap.size V w' := hBW.trans (hz'.k.below (fun x hx => by rcases hx with hx | hx <;> omega) hBW.size)
    refine ⟨⟨r0, r1⟩, fun W2 k => ⟨(k.cell (p := ⟨w1.heap.size, 0, none⟩) (block_lt_of_cell r0)).trans r0, (k.cell (p := ⟨w1.heap.size, 1, none⟩) (block_lt_of_cell r1)).trans r1⟩, mayStand_any hM hK1 hO1 hG1, K1, ⟨L', fv', ov', F', Q, ⟨hM, ⟨(hG.next bV).next hBw, fun x hx hf => ?_⟩, hK1, hO1⟩, fun x hx => ?_⟩, ha, hBw⟩
    · have hz := hBW.size
      rcases hF' x hf with r | r <;> omega
    · have hz := hBW.size
      rcases hx with hx | hx
      · rcases hF' x hx with r | r <;> omega
      · exact hU x (.inr hx)
  clear hS hG b hK hc hi hd hl hO hGt hu ho he fC fL bV bW
  go_enter Tryz.func20, Tryz.ntmps20
  go_wp2_with (first
    | (go_at_call 7; refine dN.mono ?_; rintro z1 w1 ⟨g, rfl, H1⟩; obtain ⟨K1, q1, q2, q3, q4, q5, q6⟩ := H1.out; have dR := HRS.out w1 g K1 q1 q2 q3 q4 q5 q6; clear dN H1 q1 q2 q3 q4 q5 q6 k0 k1 k2 k3 m0 m1)
    | (go_at_call 41; (with_reducible refine dR.mono ?_); rintro z2 w2 ⟨⟨u2, rfl⟩, ⟨r0, r1⟩, hr2, dS, HF⟩; clear dR hr2)
    | (go_at_call 42; (with_reducible refine dS.mono ?_); rintro z3 w3 ⟨rfl, hb3⟩; have HB3 : Hid (Below w2.heap.size w2 w3) := hb3; clear dS hb3)
    | fail)
  exact bodyPost_ret (v := .tuple #[.pointer (some ⟨g, 0, none⟩), .int .i64 0]) (by simp [results, Tryz.results20, go_sem]) rfl ⟨g, rfl, by
    obtain ⟨K', a1, a2, a3⟩ := HF.out
    exact ⟨K', (a1.next HB3.out).mono (fun x hx _ => Nat.le_trans HBW.out.size hx), a2, below2 (below2 HBW.out a3) HB3.out⟩⟩
end Go.Proofs.YtahdkffijlfmnaaGreatDoor

namespace Go.Proofs.YtahdkffijlfmnaaGreatDoor
open Go.RowKit
open Hp (V vc vcs)
end Go.Proofs.YtahdkffijlfmnaaGreatDoor

namespace Go.Proofs.YtahdkffijlfmnaaGreatDoor
open Go.RowKit
open Hp (V vc vcs)
def AnsS (w : World) (ga : Nat) (S : Ms) : Prop := ∃ vs, Hp.Ans w ga (Hp.lsA S.hp) (.slice (some ⟨ga, 0, none⟩) (S.hp.length + 1) (S.hp.length + 1)) vs
theorem AnsS.next {w w' : World} {ga : Nat} {S : Ms} (h : AnsS w ga S) (k : Below w.heap.size w w') : AnsS w' ga S := by
  obtain ⟨vs, q⟩ := h
  exact ⟨vs, q.next k⟩
theorem AnsS.lists {w : World} {ga : Nat} {S : Ms} (h : AnsS w ga S) : Hp.ListsAt w ga (Hp.lsA S.hp) := by
  obtain ⟨vs, q⟩ := h
  rw [← Hp.lsA_len S.hp] at q
  exact q.lists
theorem full_lt {w : World} {b : Nat} {t : TypeId} {vs : List Value} (h : Full w b t vs) : b < w.heap.size := by
  by_cases q : b < w.heap.size
  · exact q
  · unfold Full at h
    rw [Array.getElem?_eq_none (by omega)] at h
    cases h
theorem full_kept {w w' : World} {U : Nat → Prop} {b : Nat} {t : TypeId} {vs : List Value} (h : Full w b t vs) (k : Kp U w w') (hU : ¬ U b) : Full w' b t vs := (k.block b (full_lt h) hU).trans h
theorem sameRun_S {w : World} {S : Ms} {ga gb : Nat} (h1 : AnsS w ga S) (h2 : AnsS w gb S) (hu : Hp.usedS S.hp ≤ 100000) :
    Calls Tryz.prog 13 #[.agg #[.int .i64 S.ph, .int .i64 S.tr, .string ⟨S.out.toArray⟩, .int .i64 (S.rd : Int), .int .i64 S.steps, .slice none 0 0, .slice (some ⟨ga, 0, none⟩) (S.hp.length + 1) (S.hp.length + 1)], .agg #[.int .i64 S.ph, .int .i64 S.tr, .string ⟨S.out.toArray⟩, .int .i64 (S.rd : Int), .int .i64 S.steps, .slice none 0 0, .slice (some ⟨gb, 0, none⟩) (S.hp.length + 1) (S.hp.length + 1)]] w fun z w' => z = .returned (.bool true) ∧ Below w.heap.size w w' := by
  have q := sameRun_any (S := S) (c1 := S.hp.length + 1) (c2 := S.hp.length + 1) h1.lists h2.lists (lsA_le hu) (lsA_el hu)
  rw [Hp.lsA_len] at q
  exact q
end Go.Proofs.YtahdkffijlfmnaaGreatDoor

namespace Go.Proofs.YtahdkffijlfmnaaGreatDoor
open Go.RowKit
open Hp (V vc vcs)
def KP (P : Nat → Prop) (w w' : World) : Prop := ∀ b t vs, P b → Full w b t vs → Full w' b t vs
end Go.Proofs.YtahdkffijlfmnaaGreatDoor

namespace Go.Proofs.YtahdkffijlfmnaaGreatDoor
open Go.RowKit
open Hp (V vc vcs)
abbrev Mq := Nat × Cg × Ms × (Nat → Prop)
structure Mqs (W wr : World) (P : Nat → Prop) (l : List Mq) : Prop where
  z : ∀ x ∈ l, Mz wr x.2.2.2 x.1 x.2.1 x.2.2.1
  sp : l.Pairwise fun x y => ∀ b, x.2.2.2 b → ¬ y.2.2.2 b
  lo : ∀ x ∈ l, ∀ b, x.2.2.2 b → W.heap.size ≤ b ∧ b < wr.heap.size ∧ ¬ P b
  pl : ∀ b, P b → b < wr.heap.size
  bl : Below W.heap.size W wr
  g8 : 8 ≤ W.heap.size
theorem Mqs.more {W wr w1 : World} {P P' : Nat → Prop} {l : List Mq} (h : Mqs W wr P l) (k : Below wr.heap.size wr w1) (hP : ∀ b, P' b → P b ∨ (wr.heap.size ≤ b ∧ b < w1.heap.size)) : Mqs W w1 P' l :=
  ⟨fun x hx => (h.z x hx).next k, h.sp, fun x hx b hb => ⟨(h.lo x hx b hb).1, Nat.lt_of_lt_of_le (h.lo x hx b hb).2.1 k.size, fun q => by
    rcases hP b q with r | r
    · exact (h.lo x hx b hb).2.2 r
    · have := (h.lo x hx b hb).2.1; omega⟩, fun b hb => by
    rcases hP b hb with r | r
    · exact Nat.lt_of_lt_of_le (h.pl b r) k.size
    · exact r.2, below2 h.bl k, h.g8⟩
theorem Mqs.next {W wr w1 : World} {P : Nat → Prop} {l : List Mq} (h : Mqs W wr P l) (k : Below wr.heap.size wr w1) : Mqs W w1 P l := h.more k fun _ q => .inl q
theorem Mqs.went {W wr w1 : World} {P : Nat → Prop} {l1 l2 : List Mq} {g : Nat} {K : Cg} {S S' : Ms} {A : Nat → Prop} (h : Mqs W wr P (l1 ++ (g, K, S, A) :: l2)) (hm : Mz w1 (fun b => A b ∨ wr.heap.size ≤ b) g K S') (k : Kp A wr w1) : (∃ A', Mqs W w1 P (l1 ++ (g, K, S', A') :: l2)) ∧ KP P wr w1 := by
  have hx : (g, K, S, A) ∈ l1 ++ (g, K, S, A) :: l2 := List.mem_append_right _ List.mem_cons_self
  have hlx := h.lo _ hx
  have hg := h.g8
  have hs := h.bl.size
  obtain ⟨p1, p2, p3⟩ := List.pairwise_append.1 h.sp
  obtain ⟨p4, p5⟩ := List.pairwise_cons.1 p2
  have oth : ∀ y ∈ l1 ++ (g, K, S, A) :: l2, (∀ b, A b → ¬ y.2.2.2 b) → Mz w1 y.2.2.2 y.1 y.2.1 y.2.2.1 := fun y hy hn => (h.z y hy).kept k fun b hb => ⟨hn b hb, by have := (hlx b hb).1; omega⟩
  refine ⟨⟨fun b => (A b ∨ wr.heap.size ≤ b) ∧ b < w1.heap.size, fun y hy => ?_, ?_, fun y hy b hb => ?_, fun b hb => Nat.lt_of_lt_of_le (h.pl b hb) k.size, h.bl.trans (k.below (fun b hb => (hlx b hb).1) hs), hg⟩, fun b _ _ hb hf => full_kept hf k fun q => (hlx b q).2.2 hb⟩
  · rcases List.mem_append.1 hy with q | q
    · exact oth y (List.mem_append_left _ q) fun b hb hb2 => p3 y q _ List.mem_cons_self b hb2 hb
    · rcases List.mem_cons.1 q with q | q
      · rw [q]; exact hm.lt
      · exact oth y (List.mem_append_right _ (List.mem_cons_of_mem _ q)) fun b hb => p4 y q b hb
  · refine List.pairwise_append.2 ⟨p1, List.pairwise_cons.2 ⟨fun y hy b hb hb2 => ?_, p5⟩, fun x hx' y hy b hb hb2 => ?_⟩
    · rcases hb.1 with r | r
      · exact p4 y hy b r hb2
      · have := (h.lo y (List.mem_append_right _ (List.mem_cons_of_mem _ hy)) b hb2).2.1; omega
    · rcases List.mem_cons.1 hy with q | q
      · rw [q] at hb2
        rcases hb2.1 with r | r
        · exact p3 x hx' _ List.mem_cons_self b hb r
        · have := (h.lo x (List.mem_append_left _ hx') b hb).2.1; omega
      · exact p3 x hx' y (List.mem_cons_of_mem _ q) b hb hb2
  · have keep : ∀ y ∈ l1 ++ (g, K, S, A) :: l2, y.2.2.2 b → W.heap.size ≤ b ∧ b < w1.heap.size ∧ ¬ P b := fun y hy hb => ⟨(h.lo y hy b hb).1, Nat.lt_of_lt_of_le (h.lo y hy b hb).2.1 k.size, (h.lo y hy b hb).2.2⟩
    rcases List.mem_append.1 hy with q | q
    · exact keep y (List.mem_append_left _ q) hb
    · rcases List.mem_cons.1 q with q | q
      · rw [q] at hb
        refine ⟨?_, hb.2, fun hp => ?_⟩
        · rcases hb.1 with r | r
          · exact (hlx b r).1
          · omega
        · rcases hb.1 with r | r
          · exact (hlx b r).2.2 hp
          · have := h.pl b hp; omega
      · exact keep y (List.mem_append_right _ (List.mem_cons_of_mem _ q)) hb
theorem Mqs.add {W wr w1 : World} {P : Nat → Prop} {l : List Mq} {g : Nat} {K : Cg} {S : Ms} (h : Mqs W wr P l) (k : Below wr.heap.size wr w1) (hm : Mz w1 (fun b => wr.heap.size ≤ b) g K S) : ∃ A, Mqs W w1 P (l ++ [(g, K, S, A)]) := by
  have h1 := h.next k
  have hs := h.bl.size
  refine ⟨fun b => wr.heap.size ≤ b ∧ b < w1.heap.size, fun x hx => ?_, List.pairwise_append.2 ⟨h.sp, List.pairwise_singleton _ _, fun x hx y hy b hb hb2 => ?_⟩, fun x hx b hb => ?_, h1.pl, h1.bl, h1.g8⟩
  · rcases List.mem_append.1 hx with q | q
    · exact h1.z x q
    · rw [List.mem_singleton.1 q]; exact hm.lt
  · rw [List.mem_singleton.1 hy] at hb2
    have := (h.lo x hx b hb).2.1
    have := hb2.1
    omega
  · rcases List.mem_append.1 hx with q | q
    · exact h1.lo x q b hb
    · rw [List.mem_singleton.1 q] at hb
      have := hb.1
      exact ⟨by omega, hb.2, fun hp => by have := h.pl b hp; omega⟩
theorem Mqs.step {W wr : World} {P : Nat → Prop} {l1 l2 : List Mq} {g : Nat} {K : Cg} {S : Ms} {A : Nat → Prop} (h : Mqs W wr P (l1 ++ (g, K, S, A) :: l2)) (ho : S.out.length ≤ 900000000) :
    Calls Tryz.prog 12 #[.pointer (some ⟨g, 0, none⟩)] wr fun z w' => z = .returned (.tuple #[ydV (mstepS K S).2.1, .bool (mstepS K S).2.2]) ∧ Hid ((∃ A', Mqs W w' P (l1 ++ (g, K, (mstepS K S).1, A') :: l2)) ∧ KP P wr w') :=
  ((h.z (g, K, S, A) (List.mem_append_right _ List.mem_cons_self)).step ho).mono fun _ _ q => ⟨q.1, h.went q.2.out.1 q.2.out.2⟩
theorem Mqs.at_ {W wr : World} {P : Nat → Prop} {l1 l2 : List Mq} {g : Nat} {K : Cg} {S : Ms} {A : Nat → Prop} (h : Mqs W wr P (l1 ++ (g, K, S, A) :: l2)) : Mz wr A g K S := h.z (g, K, S, A) (List.mem_append_right _ List.mem_cons_self)
theorem Mqs.result {W wr : World} {P : Nat → Prop} {l : List Mq} {g : Nat} {K : Cg} {S : Ms} {A : Nat → Prop} (h : Mqs W wr P l) (hm : Mz wr A g K S) :
    Calls Tryz.prog 9 #[.pointer (some ⟨g, 0, none⟩)] wr fun e w' => ∃ x, e = .returned (.agg #[.int .i64 S.ph, .int .i64 S.tr, .string ⟨S.out.toArray⟩, .int .i64 (S.rd : Int), .int .i64 S.steps, .slice none 0 0, .slice (some ⟨x, 0, none⟩) (S.hp.length + 1) (S.hp.length + 1)]) ∧ Hid (AnsS w' x S ∧ Mqs W w' P l ∧ Below wr.heap.size wr w') :=
  hm.result.mono fun _ _ q => ⟨wr.heap.size + 1, q.1, q.2.1.out, h.next q.2.2, q.2.2⟩
theorem Mqs.clone {W wr : World} {P : Nat → Prop} {l : List Mq} {g : Nat} {K : Cg} {S : Ms} {A : Nat → Prop} (h : Mqs W wr P l) (hm : Mz wr A g K S) (ho : S.out.length ≤ 900000000) :
    Calls Tryz.prog 16 #[.pointer (some ⟨g, 0, none⟩)] wr fun z w' => ∃ gc, z = .returned (.pointer (some ⟨gc, 0, none⟩)) ∧ Hid (∃ K' C, Alk K K' ∧ Mqs W w' P (l ++ [(gc, K', S, C)]) ∧ Below wr.heap.size wr w') :=
  (hm.clone ho).mono fun z w' q => ⟨wr.heap.size, q.1, by
    obtain ⟨⟨K', a1, a2⟩, a3⟩ := q.2.out
    obtain ⟨C, a4⟩ := h.add a3 a1
    exact ⟨K', C, a2, a4, a3⟩⟩
end Go.Proofs.YtahdkffijlfmnaaGreatDoor

namespace Go.Proofs.YtahdkffijlfmnaaGreatDoor
open Go.RowKit
open Hp (V vc vcs)
def Ys (wr : World) (P : Nat → Prop) (cs : List Value) (bs : List Nat) : Prop := ∀ b ∈ bs, P b ∧ Full wr b 54 cs
theorem Ys.next {wr w1 : World} {P P' : Nat → Prop} {cs : List Value} {bs : List Nat} (h : Ys wr P cs bs) (k : Below wr.heap.size wr w1) (hP : ∀ b, P b → P' b) : Ys w1 P' cs bs := fun b hb => ⟨hP b (h b hb).1, (h b hb).2.next k⟩
theorem Ys.kp {wr w1 : World} {P : Nat → Prop} {cs : List Value} {bs : List Nat} (h : Ys wr P cs bs) (k : KP P wr w1) : Ys w1 P cs bs := fun b hb => ⟨(h b hb).1, k b _ _ (h b hb).1 (h b hb).2⟩
theorem Mqs.stepR {W wr : World} {P : Nat → Prop} {l1 l2 : List Mq} {g : Nat} {K : Cg} {S S' : Ms} {A : Nat → Prop} {zh zk zn : Int} {zb ok : Bool} {zs : ByteArray} {xs : List Value} {bs : List Nat} (h : Mqs W wr P (l1 ++ (g, K, S, A) :: l2)) (ho : S.out.length ≤ 900000000) (e : mstepS K S = (S', (zh, zb, zk, zn, zs), ok)) (hx : P W.heap.size ∧ Full wr W.heap.size 33 xs) (hy : Ys wr P [.int .i64 zh, .bool zb, .int .i64 zk, .int .i64 zn, .string zs] bs) :
    Calls Tryz.prog 12 #[.pointer (some ⟨g, 0, none⟩)] wr fun z w' => z = .returned (.tuple #[.agg #[.int .i64 zh, .bool zb, .int .i64 zk, .int .i64 zn, .string zs], .bool ok]) ∧ Hid (∃ A', Mqs W (w'.alloc (.cells #[.int .i64 zh, .bool zb, .int .i64 zk, .int .i64 zn, .string zs] 54)) (fun b => P b ∨ b = w'.heap.size) (l1 ++ (g, K, S', A') :: l2) ∧ ((P W.heap.size ∨ W.heap.size = w'.heap.size) ∧ Full (w'.alloc (.cells #[.int .i64 zh, .bool zb, .int .i64 zk, .int .i64 zn, .string zs] 54)) W.heap.size 33 xs) ∧ Ys (w'.alloc (.cells #[.int .i64 zh, .bool zb, .int .i64 zk, .int .i64 zn, .string zs] 54)) (fun b => P b ∨ b = w'.heap.size) [.int .i64 zh, .bool zb, .int .i64 zk, .int .i64 zn, .string zs] (bs ++ [w'.heap.size])) := by
  refine (h.step ho).mono fun z w' q => ?_
  rw [e] at q
  refine ⟨q.1, ?_⟩
  obtain ⟨⟨A', hq⟩, hk⟩ := q.2.out
  have nb : Below w'.heap.size w' (w'.alloc (.cells #[.int .i64 zh, .bool zb, .int .i64 zk, .int .i64 zn, .string zs] 54)) := (Below.refl _ w').alloc (Nat.le_refl _) _
  refine ⟨A', hq.more nb (fun b hb => ?_), ⟨.inl hx.1, (hk _ _ _ hx.1 hx.2).next nb⟩, fun b hb => ?_⟩
  · rcases hb with r | r
    · exact .inl r
    · exact .inr ⟨by omega, by rw [r]; simp⟩
  · rcases List.mem_append.1 hb with r | r
    · exact (Ys.next (P' := fun b => P b ∨ b = w'.heap.size) (hy.kp hk) nb fun _ q => .inl q) b r
    · rw [List.mem_singleton.1 r]
      exact ⟨.inr rfl, Full.new w' _ _⟩
structure Tn (W wr : World) (xs : List Value) (ga gb : Nat) (Ka Kb : Cg) (S : Ms) (n : Nat) (A B : Nat → Prop) : Prop where
  q : Mqs W wr (fun b => b = W.heap.size) [(ga, Ka, S, A), (gb, Kb, S, B)]
  x : Full wr W.heap.size 33 xs
  al : Alk Ka Kb
  sg : StG Ka S
  o : S.out.length ≤ 4200 * n
theorem Tn.next {W wr w1 : World} {xs : List Value} {ga gb : Nat} {Ka Kb : Cg} {S : Ms} {n : Nat} {A B : Nat → Prop} (h : Tn W wr xs ga gb Ka Kb S n A B) (k : Below wr.heap.size wr w1) : Tn W w1 xs ga gb Ka Kb S n A B := ⟨h.q.next k, h.x.next k, h.al, h.sg, h.o⟩
theorem Tn.kok {W wr : World} {xs : List Value} {ga gb : Nat} {Ka Kb : Cg} {S : Ms} {n : Nat} {A B : Nat → Prop} (h : Tn W wr xs ga gb Ka Kb S n A B) : KOk Ka ∧ StOk Ka S ∧ Hp.usedS S.hp ≤ Ka.lim ∧ KOk Kb ∧ Glo wr := by
  have q1 := (h.q.at_ (l1 := []) (l2 := [(gb, Kb, S, B)])).kok
  have q2 := (h.q.at_ (l1 := [(ga, Ka, S, A)]) (l2 := [])).kok
  exact ⟨q1.1, q1.2.1, q1.2.2.1, q2.1, q1.2.2.2⟩
theorem Tn.stepA {W wr : World} {xs : List Value} {ga gb : Nat} {Ka Kb : Cg} {S : Ms} {n : Nat} {A B : Nat → Prop} (h : Tn W wr xs ga gb Ka Kb S n A B) (hn : n ≤ 5000) :
    Calls Tryz.prog 12 #[.pointer (some ⟨ga, 0, none⟩)] wr fun z w' => (∃ v, z = .returned v) ∧ Hid (∃ A', Mqs W w' (fun b => b = W.heap.size) [(ga, Ka, (mstepS Ka S).1, A'), (gb, Kb, S, B)] ∧ Full w' W.heap.size 33 xs) :=
  (h.q.step (l1 := []) (l2 := [(gb, Kb, S, B)]) (by have := h.o; omega)).mono fun _ _ q => ⟨⟨_, q.1⟩, by
    obtain ⟨⟨A', a1⟩, a2⟩ := q.2.out
    exact ⟨A', a1, a2 _ _ _ rfl h.x⟩⟩
theorem Tn.stepB {W wr w1 : World} {xs : List Value} {ga gb : Nat} {Ka Kb : Cg} {S : Ms} {n : Nat} {A B A' : Nat → Prop} (h : Tn W wr xs ga gb Ka Kb S n A B) (hn : n ≤ 5000) (hq : Mqs W w1 (fun b => b = W.heap.size) [(ga, Ka, (mstepS Ka S).1, A'), (gb, Kb, S, B)]) (hx : Full w1 W.heap.size 33 xs) :
    Calls Tryz.prog 12 #[.pointer (some ⟨gb, 0, none⟩)] w1 fun z w' => (∃ v, z = .returned v) ∧ Hid (∃ S' A B, Tn W w' xs ga gb Ka Kb S' (n + 1) A B) :=
  (hq.step (l1 := [(ga, Ka, (mstepS Ka S).1, A')]) (l2 := []) (by have := h.o; omega)).mono fun _ _ q => ⟨⟨_, q.1⟩, by
    obtain ⟨⟨B', a1⟩, a2⟩ := q.2.out
    obtain ⟨k1, k2, k3, k4, -⟩ := h.kok
    rw [← h.al.step k1 k4 S] at a1
    have ho := (h.q.at_ (l1 := []) (l2 := [(gb, Kb, S, B)])).out
    exact ⟨_, A', B', a1, a2 _ _ _ rfl hx, h.al, step_g k1 k2 h.sg, by have := h.o; omega⟩⟩
structure T5 (W wr : World) (xs : List Value) (ga gb gc gd gl : Nat) (Ka Kb Kc Kd Kl : Cg) (S0 S : Ms) (n : Nat) (A B C D E : Nat → Prop) : Prop where
  q : Mqs W wr (fun b => b = W.heap.size) [(ga, Ka, S, A), (gb, Kb, S, B), (gc, Kc, S, C), (gd, Kd, S0, D), (gl, Kl, S, E)]
  x : Full wr W.heap.size 33 xs
  o : S.out.length ≤ 4200 * (5000 + n)
  o0 : S0.out.length ≤ 4200 * 5000
theorem T5.next {W wr w1 : World} {xs : List Value} {ga gb gc gd gl : Nat} {Ka Kb Kc Kd Kl : Cg} {S0 S : Ms} {n : Nat} {A B C D E : Nat → Prop} (h : T5 W wr xs ga gb gc gd gl Ka Kb Kc Kd Kl S0 S n A B C D E) (k : Below wr.heap.size wr w1) : T5 W w1 xs ga gb gc gd gl Ka Kb Kc Kd Kl S0 S n A B C D E := ⟨h.q.next k, h.x.next k, h.o, h.o0⟩
theorem T5.za {W wr : World} {xs : List Value} {ga gb gc gd gl : Nat} {Ka Kb Kc Kd Kl : Cg} {S0 S : Ms} {n : Nat} {A B C D E : Nat → Prop} (h : T5 W wr xs ga gb gc gd gl Ka Kb Kc Kd Kl S0 S n A B C D E) : Mz wr A ga Ka S := h.q.at_ (l1 := []) (l2 := [(gb, Kb, S, B), (gc, Kc, S, C), (gd, Kd, S0, D), (gl, Kl, S, E)])
theorem T5.zb {W wr : World} {xs : List Value} {ga gb gc gd gl : Nat} {Ka Kb Kc Kd Kl : Cg} {S0 S : Ms} {n : Nat} {A B C D E : Nat → Prop} (h : T5 W wr xs ga gb gc gd gl Ka Kb Kc Kd Kl S0 S n A B C D E) : Mz wr B gb Kb S := h.q.at_ (l1 := [(ga, Ka, S, A)]) (l2 := [(gc, Kc, S, C), (gd, Kd, S0, D), (gl, Kl, S, E)])
theorem T5.zc {W wr : World} {xs : List Value} {ga gb gc gd gl : Nat} {Ka Kb Kc Kd Kl : Cg} {S0 S : Ms} {n : Nat} {A B C D E : Nat → Prop} (h : T5 W wr xs ga gb gc gd gl Ka Kb Kc Kd Kl S0 S n A B C D E) : Mz wr C gc Kc S := h.q.at_ (l1 := [(ga, Ka, S, A), (gb, Kb, S, B)]) (l2 := [(gd, Kd, S0, D), (gl, Kl, S, E)])
theorem T5.zd {W wr : World} {xs : List Value} {ga gb gc gd gl : Nat} {Ka Kb Kc Kd Kl : Cg} {S0 S : Ms} {n : Nat} {A B C D E : Nat → Prop} (h : T5 W wr xs ga gb gc gd gl Ka Kb Kc Kd Kl S0 S n A B C D E) : Mz wr D gd Kd S0 := h.q.at_ (l1 := [(ga, Ka, S, A), (gb, Kb, S, B), (gc, Kc, S, C)]) (l2 := [(gl, Kl, S, E)])
theorem T5.zl {W wr : World} {xs : List Value} {ga gb gc gd gl : Nat} {Ka Kb Kc Kd Kl : Cg} {S0 S : Ms} {n : Nat} {A B C D E : Nat → Prop} (h : T5 W wr xs ga gb gc gd gl Ka Kb Kc Kd Kl S0 S n A B C D E) : Mz wr E gl Kl S := h.q.at_ (l1 := [(ga, Ka, S, A), (gb, Kb, S, B), (gc, Kc, S, C), (gd, Kd, S0, D)]) (l2 := [])
end Go.Proofs.YtahdkffijlfmnaaGreatDoor
