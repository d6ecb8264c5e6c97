import Derived.Test.YtahdkffijlfmnaaGreatDoorQ30
import Derived.Test.YtahdkffijlfmnaaGreatDoorQ29
import Derived.Test.YtahdkffijlfmnaaGreatDoorQ27
namespace Go.Proofs.YtahdkffijlfmnaaGreatDoor
open Go.ChangeShapes Go.WideShapes Go.ChangeAt Go.RowKit
open Hp (V vc vcs)

/-! The laws' argument, opened. -/
/-- No list without a place has room. -/
def NoneOk (q : Option Addr) (n cap : Nat) : Prop := q = none → n = 0 ∧ cap = 0
theorem none_of {H : Type} {enc : TypeId × Value → H} {W : World} {base : Nat} {spare : Nat → Bool} {held : Bool} {m : Nat} {t e : TypeId} {q : Option Addr} {n cap : Nat} {z} (ht : Tryz.prog.underlying t = some (.slice e)) (g : DataW.trod enc Tryz.prog W base spare held m t [.slice q n cap] = some z) : NoneOk q n cap := by
  rcases DataW.trod_slice ht g with ⟨h0, _⟩ | ⟨p, len, cap', elems, rest, k, _, h0, _⟩
  · simp only [List.cons.injEq, Value.slice.injEq, and_true] at h0
    exact fun _ => ⟨h0.2.1, h0.2.2⟩
  · simp only [List.cons.injEq, Value.slice.injEq, and_true] at h0
    intro hq
    rw [h0.1] at hq
    cases hq
def CapQ (y : Em) : Prop := NoneOk y.2.1 y.1.sorts.length y.2.2
theorem list2D {α : Type} {xs : List α} (h : xs.length = 2) : ∃ c0 c1, xs = [c0, c1] := by
  match xs, h with
  | [c0, c1], _ => exact ⟨c0, c1, rfl⟩
theorem op_ent_q {H : Type} {enc : TypeId × Value → H} {W : World} {base : Nat} {spare : Nat → Bool} {held : Bool} (n : Nat) (cs : List Value) (y : DataW H × List MemPlace) (hl : cs.length = 5) (h : DataW.trod enc Tryz.prog W base spare held n 71 cs = some y) (hw : Light 71 y.1) : ∃ a : Em, cs = ec a ∧ EmOk W a ∧ CapQ a := by
  obtain ⟨a, rfl, ha⟩ := op_ent n cs y hl h hw
  refine ⟨a, rfl, ha, ?_⟩
  obtain ⟨zs, m2, _, hy, _, hlen2, hgs⟩ := DataW.trod_struct Tryz.underlying71 h
  obtain ⟨z0, z1, z2, z3, z4, rfl⟩ := list5 hlen2
  have g3 : DataW.trod enc Tryz.prog W base spare held m2 68 [.slice a.2.1 a.1.sorts.length a.2.2] = some z3 := by have := hgs 3 _ rfl; simpa [ec, cStr, cNum, cLs] using this
  exact none_of Tryz.underlying68 g3
theorem rds_of {W : World} {b : Nat} {q : Option Addr} {n cap : Nat} {xs : List Value} (h : Row W b q n xs) (hn : NoneOk q n cap) : RdS W q n cap xs := ⟨hn, fun h0 => by
  obtain ⟨g, o, e, -, r⟩ := h h0
  exact ⟨g, o, e, r⟩⟩
theorem cLin : Tryz.prog.cellsOf 27 = 1 := by kernel_rfl
theorem cLim : Tryz.prog.cellsOf 29 = 2 := by kernel_rfl
theorem cSet : Tryz.prog.cellsOf 31 = 7 := by kernel_rfl
theorem cRunA : Tryz.prog.cellsOf 33 = 9 := by kernel_rfl
theorem bI64 : Tryz.prog.bytesOf 2 = 8 := by kernel_rfl
theorem op_i64 {H : Type} {enc : TypeId × Value → H} {W : World} {base : Nat} {spare : Nat → Bool} {held : Bool} (n : Nat) (cs : List Value) (y : DataW H × List MemPlace) (hl : cs.length = 1) (h : DataW.trod enc Tryz.prog W base spare held n 2 cs = some y) (_ : Light 2 y.1) : ∃ a : Int, cs = [.int .i64 a] ∧ i64 a := by
  obtain ⟨c0, rfl⟩ := list1 hl
  obtain ⟨a, e, rfl, wf⟩ := DataW.trod_int Tryz.underlying2 h
  simp at e
  exact ⟨a, by rw [e], wf_i64 wf⟩
/-- What a machine is made of, in memory. -/
structure SetR (W : World) (iq eq tq nq : Option Addr) (ia ea ta na : Nat) (Es : List Em) (c : Cd) (inp : List Int) : Prop where
  r : CdR W iq eq tq ia ea ta Es c
  m : CodeM W W.heap.size iq eq tq Es c
  n : RdS W nq inp.length na (sv inp)
  i : ∀ x ∈ inp, I64 x
  l : inp.length ≤ 9223372036854775807
theorem open_codeQ {H : Type} {enc : TypeId × Value → H} {W : World} {base : Nat} {spare : Nat → Bool} {held : Bool} {fuel : Nat} {c0 c1 c2 c3 : Value} {x : DataW H × List MemPlace} (hf : DataW.trod enc Tryz.prog W base spare held fuel 26 [c0, c1, c2, c3] = some x) (hd : Light 26 x.1) :
    ∃ (iq eq tq : Option Addr) (ia ea ta : Nat) (Es : List Em) (c : Cd), (c0 = .slice iq c.ins.length ia ∧ c1 = .slice eq c.ens.length ea ∧ c2 = .slice tq c.txs.length ta ∧ c3 = .int .i64 c.main) ∧ CdR W iq eq tq ia ea ta Es c ∧ CodeM W W.heap.size iq eq tq Es c := by
  obtain ⟨xs, m, _, hx, _, hlen, hfs⟩ := DataW.trod_struct Tryz.underlying26 hf
  obtain ⟨z0, z1, z2, z3, rfl⟩ := list4 hlen
  have g0 : DataW.trod enc Tryz.prog W base spare held m 22 [c0] = some z0 := by have := hfs 0 _ rfl; simpa [Value.cells, cLi] using this
  have g1 : DataW.trod enc Tryz.prog W base spare held m 23 [c1] = some z1 := by have := hfs 1 _ rfl; simpa [Value.cells, cLi, cLe] using this
  have g2 : DataW.trod enc Tryz.prog W base spare held m 24 [c2] = some z2 := by have := hfs 2 _ rfl; simpa [Value.cells, cLi, cLe, cLt] using this
  have g3 : DataW.trod enc Tryz.prog W base spare held m 3 [c3] = some z3 := by have := hfs 3 _ rfl; simpa [Value.cells, cLi, cLe, cLt, cNum] using this
  obtain ⟨x1, x2⟩ := x
  simp only [Prod.mk.injEq] at hx
  have hd0 := hx.1
  subst hd0
  have hz : ∀ (j : Nat) (t : TypeId) (z : DataW H), ([22, 23, 24, 3] : List TypeId)[j]? = some t → ([z0, z1, z2, z3].map (·.1))[j]? = some z → Light t z := fun j t z h1 h2 k hk => hd k (by
    simp only [DataW.weights, Tryz.underlying26]
    exact DataW.weights_mem_each (P := Tryz.prog) (ts := [22, 23, 24, 3]) (ds := [z0, z1, z2, z3].map (·.1)) (j := j) h1 h2 k hk)
  obtain ⟨iq, ia, I, e0, ib, irow, hI⟩ := slice_row (m := 3) (by omega) ic (fun _ => rfl) (fun a : In => i64 a.1 ∧ i64 a.2.1 ∧ i64 a.2.2) Tryz.underlying22 cIns g0 (hz 0 _ _ rfl rfl) op_ins
  obtain ⟨eq, ea, E, e1, eb, erow, hE2⟩ := slice_row (m := 5) (by omega) ec (fun _ => rfl) (fun y => EmOk W y ∧ CapQ y) Tryz.underlying23 cEnt g1 (hz 1 _ _ rfl rfl) op_ent_q
  obtain ⟨tq, ta, T, e2, tb, trow, hT⟩ := slice_row (m := 1) (by omega) (fun a : ByteArray => [Value.string a]) (fun _ => rfl) (fun a : ByteArray => a.size ≤ 140737488351232) Tryz.underlying24 cStr g2 (hz 2 _ _ rfl rfl) op_str
  obtain ⟨mn, e3, -, w3⟩ := DataW.trod_int Tryz.underlying3 g3
  simp at e3
  rw [bIns, reach_eq] at ib
  rw [bEnt, reach_eq] at eb
  rw [bStr, reach_eq] at tb
  rw [flat_one] at trow
  rw [e0] at g0
  rw [e1] at g1
  rw [e2] at g2
  have hE : ∀ x ∈ E, EmOk W x := fun x hx => (hE2 x hx).1
  have hlE : (E.map (·.1)).length = E.length := List.length_map ..
  refine ⟨iq, eq, tq, ia, ea, ta, E, ⟨I, E.map (·.1), T, mn⟩, ?_, ⟨rfl, rds_of irow (none_of Tryz.underlying22 g0), ?_, rds_of trow (none_of Tryz.underlying24 g2), fun x hx => rds_of (hE x hx).1.1 (hE2 x hx).2⟩, ⟨rfl, irow, ?_, trow, fun x hx => ⟨(hE x hx).1.1, ?_, ?_⟩, ?_, ?_, ?_, fun t ht => ?_⟩⟩
  · simp only; rw [hlE]
    exact ⟨e0, e1, e2, e3⟩
  · simp only; rw [hlE]; exact rds_of erow (none_of Tryz.underlying23 g1)
  · simp only; rw [hlE]; exact erow
  · have := (hE x hx).2.1; omega
  · have := (hE x hx).1.2; omega
  · simp only; omega
  · simp only; rw [hlE]; omega
  · simp only; omega
  · have := hT t ht; omega
theorem open_setup {H : Type} {enc : TypeId × Value → H} {W : World} {base : Nat} {spare : Nat → Bool} {held : Bool} {fuel : Nat} {c0 c1 c2 c3 c4 c5 c6 : Value} {x : DataW H × List MemPlace} (hf : DataW.trod enc Tryz.prog W base spare held fuel 31 [c0, c1, c2, c3, c4, c5, c6] = some x) (hd : Light 31 x.1) :
    ∃ (iq eq tq nq : Option Addr) (ia ea ta na : Nat) (Es : List Em) (c : Cd) (inp : List Int) (d l : Int), (c0 = .slice iq c.ins.length ia ∧ c1 = .slice eq c.ens.length ea ∧ c2 = .slice tq c.txs.length ta ∧ c3 = .int .i64 c.main ∧ c4 = .slice nq inp.length na ∧ c5 = .int .i64 d ∧ c6 = .int .i64 l) ∧ SetR W iq eq tq nq ia ea ta na Es c inp ∧ i64 d ∧ i64 l := by
  obtain ⟨xs, m, _, hx, _, hlen, hfs⟩ := DataW.trod_struct Tryz.underlying31 hf
  obtain ⟨z0, z1, z2, rfl⟩ := list3 hlen
  have g0 : DataW.trod enc Tryz.prog W base spare held m 26 [c0, c1, c2, c3] = some z0 := by have := hfs 0 _ rfl; simpa [Value.cells, cCode] using this
  have g1 : DataW.trod enc Tryz.prog W base spare held m 27 [c4] = some z1 := by have := hfs 1 _ rfl; simpa [Value.cells, cCode, cLin] using this
  have g2 : DataW.trod enc Tryz.prog W base spare held m 29 [c5, c6] = some z2 := by have := hfs 2 _ rfl; simpa [Value.cells, cCode, cLin, cLim] using this
  obtain ⟨x1, x2⟩ := x
  simp only [Prod.mk.injEq] at hx
  have hd0 := hx.1
  subst hd0
  have hz : ∀ (j : Nat) (t : TypeId) (z : DataW H), ([26, 27, 29] : List TypeId)[j]? = some t → ([z0, z1, z2].map (·.1))[j]? = some z → Light t z := fun j t z h1 h2 k hk => hd k (by
    simp only [DataW.weights, Tryz.underlying31]
    exact DataW.weights_mem_each (P := Tryz.prog) (ts := [26, 27, 29]) (ds := [z0, z1, z2].map (·.1)) (j := j) h1 h2 k hk)
  obtain ⟨iq, eq, tq, ia, ea, ta, Es, c, e0, hC, hM⟩ := open_codeQ g0 (hz 0 _ _ rfl rfl)
  obtain ⟨nq, na, inp, e1, nb, nrow, hN⟩ := slice_row (m := 1) (by omega) (fun a : Int => [Value.int .i64 a]) (fun _ => rfl) i64 Tryz.underlying27 cI64 g1 (hz 1 _ _ rfl rfl) op_i64
  obtain ⟨ys, m2, _, hy, _, hlen2, hgs⟩ := DataW.trod_struct Tryz.underlying29 g2
  obtain ⟨y0, y1, rfl⟩ := list2D hlen2
  have k0 : DataW.trod enc Tryz.prog W base spare held m2 3 [c5] = some y0 := by have := hgs 0 _ rfl; simpa [cNum] using this
  have k1 : DataW.trod enc Tryz.prog W base spare held m2 3 [c6] = some y1 := by have := hgs 1 _ rfl; simpa [cNum] using this
  obtain ⟨d, e2, -, w2⟩ := DataW.trod_int Tryz.underlying3 k0
  obtain ⟨l, e3, -, w3⟩ := DataW.trod_int Tryz.underlying3 k1
  simp at e2 e3
  rw [bI64, reach_eq] at nb
  rw [flat_one] at nrow
  rw [e1] at g1
  exact ⟨iq, eq, tq, nq, ia, ea, ta, na, Es, c, inp, d, l, ⟨e0.1, e0.2.1, e0.2.2.1, e0.2.2.2, e1, e2, e3⟩, ⟨hC, hM, rds_of nrow (none_of Tryz.underlying27 g1), hN, by omega⟩, wf_i64 w2, wf_i64 w3⟩
set_option maxRecDepth 100000 in
theorem open_run {H : Type} {enc : TypeId × Value → H} {W : World} {base b0 : Nat} {spare : Nat → Bool} {held : Bool} {r : Reach} {v : Value} {d : DataW H} {p : List MemPlace} (hv : Value.okWide Tryz.prog W r b0 33 v) (h : DataW.Trod enc Tryz.prog W base spare held 33 v d p) (hd : Light 33 d) :
    ∃ (iq eq tq nq : Option Addr) (ia ea ta na : Nat) (Es : List Em) (c : Cd) (inp : List Int) (dp l fi th : Int), v = .agg #[.slice iq c.ins.length ia, .slice eq c.ens.length ea, .slice tq c.txs.length ta, .int .i64 c.main, .slice nq inp.length na, .int .i64 dp, .int .i64 l, .int .i64 fi, .int .i64 th] ∧ SetR W iq eq tq nq ia ea ta na Es c inp := by
  obtain ⟨cs, rfl, hsz⟩ := okWide_struct Tryz.underlying33 hv
  obtain ⟨c0, c1, c2, c3, c4, c5, c6, c7, c8, rfl⟩ : ∃ c0 c1 c2 c3 c4 c5 c6 c7 c8, cs = #[c0, c1, c2, c3, c4, c5, c6, c7, c8] := by
    have h1 : cs.size = 9 := hsz.trans cRunA
    obtain ⟨l⟩ := cs
    match l, h1 with
    | [c0, c1, c2, c3, c4, c5, c6, c7, c8], _ => exact ⟨c0, c1, c2, c3, c4, c5, c6, c7, c8, rfl⟩
  obtain ⟨fuel, hf⟩ := h
  obtain ⟨xs, m, _, hx, _, hlen, hfs⟩ := DataW.trod_struct Tryz.underlying33 hf
  obtain ⟨z0, z1, z2, rfl⟩ := list3 hlen
  have g0 : DataW.trod enc Tryz.prog W base spare held m 31 [c0, c1, c2, c3, c4, c5, c6] = some z0 := by have := hfs 0 _ rfl; simpa [Value.cells, cSet] using this
  have g1 : DataW.trod enc Tryz.prog W base spare held m 3 [c7] = some z1 := by have := hfs 1 _ rfl; simpa [Value.cells, cSet, cNum] using this
  have g2 : DataW.trod enc Tryz.prog W base spare held m 3 [c8] = some z2 := by have := hfs 2 _ rfl; simpa [Value.cells, cSet, cNum] using this
  simp only [Prod.mk.injEq] at hx
  have hd0 := hx.1
  subst hd0
  have hz : ∀ (j : Nat) (t : TypeId) (z : DataW H), ([31, 3, 3] : List TypeId)[j]? = some t → ([z0, z1, z2].map (·.1))[j]? = some z → Light t z := fun j t z h1 h2 k hk => hd k (by
    simp only [DataW.weights, Tryz.underlying33]
    exact DataW.weights_mem_each (P := Tryz.prog) (ts := [31, 3, 3]) (ds := [z0, z1, z2].map (·.1)) (j := j) h1 h2 k hk)
  obtain ⟨iq, eq, tq, nq, ia, ea, ta, na, Es, c, inp, dp, l, e0, hS, -, -⟩ := open_setup g0 (hz 0 _ _ rfl rfl)
  obtain ⟨fi, e1, -, -⟩ := DataW.trod_int Tryz.underlying3 g1
  obtain ⟨th, e2, -, -⟩ := DataW.trod_int Tryz.underlying3 g2
  simp at e1 e2
  refine ⟨iq, eq, tq, nq, ia, ea, ta, na, Es, c, inp, dp, l, fi, th, ?_, hS⟩
  obtain ⟨rfl, rfl, rfl, rfl, rfl, rfl, rfl⟩ := e0
  rw [e1, e2]
end Go.Proofs.YtahdkffijlfmnaaGreatDoor

namespace Go.Proofs.YtahdkffijlfmnaaGreatDoor
open Go.RowKit
open Hp (V vc vcs)
theorem SetR.next {W W' : World} {iq eq tq nq : Option Addr} {ia ea ta na : Nat} {Es : List Em} {c : Cd} {inp : List Int} (h : SetR W iq eq tq nq ia ea ta na Es c inp) (k : Below W.heap.size W W') : SetR W' iq eq tq nq ia ea ta na Es c inp := by
  have hEl : Es.length = c.ens.length := h.m.len
  refine ⟨⟨h.r.en, h.r.ir.next (fun q => by rw [ic_len]; omega) k, h.r.er.next (fun q => by rw [ec_len]; omega) k, h.r.tr.next (fun q => by rw [tv_len]; exact q) k, fun x hx => (h.r.sr x hx).next (fun q => by simpa [sv] using q) k⟩, (h.m.below k (Nat.le_refl _)).up k.size, h.n.next (fun q => by simpa [sv] using q) k, h.i, h.l⟩
/-- New of what was handed in. -/
theorem setNew {W W0 : World} {iq eq tq nq : Option Addr} {ia ea ta na : Nat} {Es : List Em} {c : Cd} {inp : List Int} (hS : SetR W0 iq eq tq nq ia ea ta na Es c inp) (hG : Glo W0) (b : Below W0.heap.size W0 W) (d l : Int) (he : newE c inp.length d l = 0) :
    0 ≤ l ∧ Calls Tryz.prog 7 #[.agg #[.slice iq c.ins.length ia, .slice eq c.ens.length ea, .slice tq c.txs.length ta, .int .i64 c.main], .slice nq inp.length na, .agg #[.int .i64 d, .int .i64 l]] W fun z w' => ∃ g, z = .returned (.tuple #[.pointer (some ⟨g, 0, none⟩), .int .i64 0]) ∧ Hid (∃ K, Mz w' (fun b => W.heap.size ≤ b) g K (msN (enAt c.ens c.main.toNat) c.main) ∧ K.c = c ∧ K.inp = inp ∧ K.dep = d ∧ K.lim = l.toNat ∧ Below W.heap.size W w') := by
  have hl : 0 ≤ l := by
    unfold newE at he
    split at he
    · cases he
    · rename_i hm
      simp only [Bool.not_eq_false] at hm
      unfold mayRunS at hm
      simp only [Bool.and_eq_true, decide_eq_true_eq] at hm
      exact hm.2.2.2.1
  refine ⟨hl, ?_⟩
  have hSX := hS.next b
  have hGX := hG.next b
  refine (new_any hSX.r hSX.m hSX.n hSX.i hSX.l d l hGX.tabs).mono fun z w' q => ?_
  rw [if_pos he] at q
  obtain ⟨g, rfl, hq⟩ := q
  obtain ⟨K, k1, k2, k3, k4, k5⟩ := newM_mz hq.out.1 (hGX.next hq.out.2) (by have := hGX.tabs.size; omega)
  exact ⟨g, rfl, K, k1, k2, k3, k4, k5, hq.out.2⟩
theorem setNew_no {W W0 : World} {iq eq tq nq : Option Addr} {ia ea ta na : Nat} {Es : List Em} {c : Cd} {inp : List Int} (hS : SetR W0 iq eq tq nq ia ea ta na Es c inp) (hG : Glo W0) (b : Below W0.heap.size W0 W) (d l : Int) (he : newE c inp.length d l ≠ 0) :
    Calls Tryz.prog 7 #[.agg #[.slice iq c.ins.length ia, .slice eq c.ens.length ea, .slice tq c.txs.length ta, .int .i64 c.main], .slice nq inp.length na, .agg #[.int .i64 d, .int .i64 l]] W fun z w' => z = .returned (.tuple #[.pointer none, .int .i64 (newE c inp.length d l)]) ∧ Below W.heap.size W w' := by
  have hSX := hS.next b
  have hGX := hG.next b
  refine (new_any hSX.r hSX.m hSX.n hSX.i hSX.l d l hGX.tabs).mono fun z w' q => ?_
  rw [if_neg he] at q
  exact q
/-- The law's argument lies in a block. -/
theorem runX {W : World} {iq eq tq nq : Option Addr} {i ia e ea t ta n na : Nat} {mn d l fi th : Int} (X : World) (hX : W.alloc (.cells #[.slice iq i ia, .slice eq e ea, .slice tq t ta, .int .i64 mn, .slice nq n na, .int .i64 d, .int .i64 l, .int .i64 fi, .int .i64 th] 33) = X) :
    Below W.heap.size W X ∧ X.heap.size = W.heap.size + 1 ∧ Full X W.heap.size 33 [.slice iq i ia, .slice eq e ea, .slice tq t ta, .int .i64 mn, .slice nq n na, .int .i64 d, .int .i64 l, .int .i64 fi, .int .i64 th] := by
  subst hX
  exact ⟨(Below.refl _ W).alloc (Nat.le_refl _) _, by simp, Full.new W _ _⟩
theorem fewK (fi : Int) : ∃ k : Nat, (if fi < 0 then 0 else fi % 5000) = (k : Int) ∧ k < 5000 := by
  by_cases h : fi < 0
  · exact ⟨0, by rw [if_pos h]; rfl, by decide⟩
  · refine ⟨(fi % 5000).toNat, ?_, ?_⟩
    · rw [if_neg h]; omega
    · omega
end Go.Proofs.YtahdkffijlfmnaaGreatDoor

namespace Go.Proofs.YtahdkffijlfmnaaGreatDoor
open Go.RowKit
open Hp (V vc vcs)
def rcs (S : Ms) (ga : Nat) : List Value := [.int .i64 S.ph, .int .i64 S.tr, .string ⟨S.out.toArray⟩, .int .i64 (S.rd : Int), .int .i64 S.steps, .slice none 0 0, .slice (some ⟨ga, 0, none⟩) (S.hp.length + 1) (S.hp.length + 1)]
def AnsS (w : World) (ga : Nat) (S : Ms) : Prop := ∃ vs, Hp.Ans w ga (Hp.lsA S.hp) (.slice (some ⟨ga, 0, none⟩) (S.hp.length + 1) (S.hp.length + 1)) vs
theorem AnsS.next {w w' : World} {ga : Nat} {S : Ms} (h : AnsS w ga S) (k : Below w.heap.size w w') : AnsS w' ga S := by
  obtain ⟨vs, q⟩ := h
  exact ⟨vs, q.next k⟩
theorem AnsS.kept {w w' : World} {ga : Nat} {S : Ms} {U : Nat → Prop} (h : AnsS w ga S) (k : Kp U w w') (hU : ∀ b, U b → b < ga) : AnsS w' ga S := by
  obtain ⟨vs, q⟩ := h
  exact ⟨vs, q.same fun b hb hl => k.block b hl fun u => by have := hU b u; omega⟩
theorem AnsS.lists {w : World} {ga : Nat} {S : Ms} (h : AnsS w ga S) : Hp.ListsAt w ga (Hp.lsA S.hp) := by
  obtain ⟨vs, q⟩ := h
  rw [← Hp.lsA_len S.hp] at q
  exact q.lists
/-- VmGrows, between two rounds. -/
structure GrI (W wr : World) (g : Nat) (K : Cg) (Br : Nat) (xs : List Value) (S : Ms) (n : Nat) (U : Nat → Prop) (ga : Nat) : Prop where
  m : Mz wr U g K S
  u : ∀ b, U b → W.heap.size < b ∧ b ≠ Br ∧ b < ga
  a : AnsS wr ga S
  r : Full wr Br 46 (rcs S ga)
  x : Full wr W.heap.size 33 xs
  b : Below W.heap.size W wr
  br : W.heap.size < Br
  o : S.out.length ≤ 4200 * n
  st : S.steps ≤ n
  z : S.ph = 0 → S.tr = 0 ∧ S.fs ≠ []
  g8 : 8 ≤ W.heap.size
theorem GrI.next {W wr w1 : World} {g : Nat} {K : Cg} {Br : Nat} {xs : List Value} {S : Ms} {n : Nat} {U : Nat → Prop} {ga : Nat} (h : GrI W wr g K Br xs S n U ga) (k : Below wr.heap.size wr w1) : GrI W w1 g K Br xs S n U ga :=
  ⟨h.m.next k, h.u, h.a.next k, h.r.next k, h.x.next k, below2 h.b k, h.br, h.o, h.st, h.z, h.g8⟩
theorem full_lt {w : World} {b : Nat} {t : TypeId} {vs : List Value} (h : Full w b t vs) : b < w.heap.size := by
  by_cases q : b < w.heap.size
  · exact q
  · unfold Full at h
    rw [Array.getElem?_eq_none (by omega)] at h
    cases h
theorem full_kept {w w' : World} {U : Nat → Prop} {b : Nat} {t : TypeId} {vs : List Value} (h : Full w b t vs) (k : Kp U w w') (hU : ¬ U b) : Full w' b t vs := (k.block b (full_lt h) hU).trans h
/-- VmGrows, behind a step. -/
structure GrJ (W wr : World) (g : Nat) (K : Cg) (Br : Nat) (xs : List Value) (S S' : Ms) (ga T : Nat) : Prop where
  m : ∃ U, Mz wr U g K S' ∧ ∀ b, U b → W.heap.size < b ∧ b ≠ Br ∧ b < T
  a : AnsS wr ga S
  r : Full wr Br 46 (rcs S ga)
  x : Full wr W.heap.size 33 xs
  b : Below W.heap.size W wr
  t : T ≤ wr.heap.size
  bt : Br < T
theorem GrJ.next {W wr w1 : World} {g : Nat} {K : Cg} {Br : Nat} {xs : List Value} {S S' : Ms} {ga T : Nat} (h : GrJ W wr g K Br xs S S' ga T) (k : Below wr.heap.size wr w1) : GrJ W w1 g K Br xs S S' ga T := by
  obtain ⟨U, h1, h2⟩ := h.m
  exact ⟨⟨U, h1.next k, h2⟩, h.a.next k, h.r.next k, h.x.next k, below2 h.b k, Nat.le_trans h.t k.size, h.bt⟩
theorem GrI.step {W wr w2 : World} {g : Nat} {K : Cg} {Br : Nat} {xs : List Value} {S S' : Ms} {n : Nat} {U : Nat → Prop} {ga : Nat} (h : GrI W wr g K Br xs S n U ga) (hm : Mz w2 (fun b => U b ∨ wr.heap.size ≤ b) g K S') (k : Kp U wr w2) : GrJ W w2 g K Br xs S S' ga w2.heap.size := by
  have hBr := full_lt h.r
  have hW := full_lt h.x
  have hga : ∀ b, U b → W.heap.size < b := fun b hb => (h.u b hb).1
  refine ⟨⟨_, hm.lt, fun b hb => ⟨?_, ?_, hb.2⟩⟩, h.a.kept k fun b hb => (h.u b hb).2.2, full_kept h.r k fun q => (h.u _ q).2.1 rfl, full_kept h.x k fun q => Nat.lt_irrefl _ (h.u _ q).1, h.b.trans (k.below (fun b hb => Nat.le_of_lt (hga b hb)) h.b.size), Nat.le_refl _, Nat.lt_of_lt_of_le hBr k.size⟩
  · rcases hb.1 with q | q
    · exact hga b q
    · omega
  · rcases hb.1 with q | q
    · exact (h.u b q).2.1
    · omega
theorem GrJ.result {W wr : World} {g : Nat} {K : Cg} {Br : Nat} {xs : List Value} {S S' : Ms} {ga T : Nat} (h : GrJ W wr g K Br xs S S' ga T) {z : Nat} (hz : wr.heap.size = z) :
    Calls Tryz.prog 9 #[.pointer (some ⟨g, 0, none⟩)] wr fun e w' => e = .returned (.agg #[.int .i64 S'.ph, .int .i64 S'.tr, .string ⟨S'.out.toArray⟩, .int .i64 (S'.rd : Int), .int .i64 S'.steps, .slice none 0 0, .slice (some ⟨z + 1, 0, none⟩) (S'.hp.length + 1) (S'.hp.length + 1)]) ∧ Hid (AnsS w' (z + 1) S' ∧ GrJ W w' g K Br xs S S' ga T ∧ Below wr.heap.size wr w') := by
  subst hz
  obtain ⟨U, h1, h2⟩ := id h.m
  exact h1.result.mono fun e w' q => ⟨q.1, q.2.1.out, h.next q.2.2, q.2.2⟩
theorem GrJ.depth {W wr : World} {g : Nat} {K : Cg} {Br : Nat} {xs : List Value} {S S' : Ms} {ga T : Nat} (h : GrJ W wr g K Br xs S S' ga T) :
    Calls Tryz.prog 10 #[.pointer (some ⟨g, 0, none⟩)] wr fun e w' => e = .returned (.int .i64 (S'.fs.length : Int)) ∧ Below wr.heap.size wr w' := by
  obtain ⟨U, h1, h2⟩ := h.m
  exact h1.depth
theorem GrJ.glo {W wr : World} {g : Nat} {K : Cg} {Br : Nat} {xs : List Value} {S S' : Ms} {ga T : Nat} (h : GrJ W wr g K Br xs S S' ga T) : Glo wr := by
  obtain ⟨U, h1, h2⟩ := h.m
  exact h1.kok.2.2.2
theorem GrJ.used {W wr : World} {g : Nat} {K : Cg} {Br : Nat} {xs : List Value} {S S' : Ms} {ga T : Nat} (h : GrJ W wr g K Br xs S S' ga T) : Hp.usedS S'.hp ≤ K.lim := by
  obtain ⟨U, h1, h2⟩ := h.m
  exact h1.kok.2.2.1
/-- The next round's. -/
theorem GrJ.done {W wr wz : World} {g : Nat} {K : Cg} {Br : Nat} {xs : List Value} {S S' : Ms} {ga ga2 T n : Nat} (h : GrJ W wr g K Br xs S S' ga T) (ha : AnsS wr ga2 S') (hT : T ≤ ga2) (hr : Full wz Br 46 (rcs S' ga2)) (k : Kp (fun b => b = Br) wr wz) (hbr : W.heap.size < Br) (ho : S'.out.length ≤ 4200 * (n + 1)) (hst : S'.steps ≤ ((n + 1 : Nat) : Int)) (hz : S'.ph = 0 → S'.tr = 0 ∧ S'.fs ≠ []) (g8 : 8 ≤ W.heap.size) :
    ∃ U, GrI W wz g K Br xs S' (n + 1) U ga2 := by
  obtain ⟨U, h1, h2⟩ := h.m
  refine ⟨U, h1.kept k fun b hb => ?_, fun b hb => ⟨(h2 b hb).1, (h2 b hb).2.1, Nat.lt_of_lt_of_le (h2 b hb).2.2 hT⟩, ha.kept k fun b hb => ?_, hr, full_kept h.x k fun q => by have q : W.heap.size = Br := q; omega, h.b.trans (k.below (fun b hb => by have hb : b = Br := hb; omega) h.b.size), hbr, ho, hst, hz, g8⟩
  · have hb : b = Br := hb
    subst hb
    exact ⟨fun q => (h2 _ q).2.1 rfl, by omega⟩
  · have hb : b = Br := hb
    have := h.bt
    omega
/-- VmGrows, behind a step and its Result. -/
structure GrK (W w : World) (g : Nat) (K : Cg) (Br : Nat) (xs : List Value) (S S' : Ms) (ga ga2 T sB yB : Nat) (ys : List Value) : Prop where
  j : GrJ W w g K Br xs S S' ga T
  a : AnsS w ga2 S'
  s : Full w sB 46 (rcs S' ga2)
  y : Full w yB 54 ys
  t : T ≤ ga2
theorem GrK.next {W w w' : World} {g : Nat} {K : Cg} {Br : Nat} {xs : List Value} {S S' : Ms} {ga ga2 T sB yB : Nat} {ys : List Value} (h : GrK W w g K Br xs S S' ga ga2 T sB yB ys) (k : Below w.heap.size w w') : GrK W w' g K Br xs S S' ga ga2 T sB yB ys := ⟨h.j.next k, h.a.next k, h.s.next k, h.y.next k, h.t⟩
theorem GrK.mk6 {W w5 w6 : World} {g : Nat} {K : Cg} {Br : Nat} {xs : List Value} {S S' : Ms} {ga : Nat} {y0 y1 y2 y3 y4 : Value} (h : AnsS w6 (w5.heap.size + 1 + 1) S' ∧ GrJ W w6 g K Br xs S S' ga w5.heap.size ∧ Below (w5.alloc (.cells #[y0, y1, y2, y3, y4] 54)).heap.size (w5.alloc (.cells #[y0, y1, y2, y3, y4] 54)) w6) :
    GrK W (w6.alloc (.cells #[.int .i64 S'.ph, .int .i64 S'.tr, .string ⟨S'.out.toArray⟩, .int .i64 (S'.rd : Int), .int .i64 S'.steps, .slice none 0 0, .slice (some ⟨w5.heap.size + 1 + 1, 0, none⟩) (S'.hp.length + 1) (S'.hp.length + 1)] 46)) g K Br xs S S' ga (w5.heap.size + 1 + 1) w5.heap.size w6.heap.size w5.heap.size [y0, y1, y2, y3, y4] := by
  have b6 : Below w6.heap.size w6 (w6.alloc (.cells #[.int .i64 S'.ph, .int .i64 S'.tr, .string ⟨S'.out.toArray⟩, .int .i64 (S'.rd : Int), .int .i64 S'.steps, .slice none 0 0, .slice (some ⟨w5.heap.size + 1 + 1, 0, none⟩) (S'.hp.length + 1) (S'.hp.length + 1)] 46)) := (Below.refl _ w6).alloc (Nat.le_refl _) _
  exact ⟨h.2.1.next b6, h.1.next b6, Full.new w6 _ _, ((Full.new w5 _ _).next h.2.2).next b6, by omega⟩
theorem sameRun_S {w : World} {S : Ms} {ga gb : Nat} (h1 : AnsS w ga S) (h2 : AnsS w gb S) (hu : Hp.usedS S.hp ≤ 100000) :
    Calls Tryz.prog 13 #[.agg #[.int .i64 S.ph, .int .i64 S.tr, .string ⟨S.out.toArray⟩, .int .i64 (S.rd : Int), .int .i64 S.steps, .slice none 0 0, .slice (some ⟨ga, 0, none⟩) (S.hp.length + 1) (S.hp.length + 1)], .agg #[.int .i64 S.ph, .int .i64 S.tr, .string ⟨S.out.toArray⟩, .int .i64 (S.rd : Int), .int .i64 S.steps, .slice none 0 0, .slice (some ⟨gb, 0, none⟩) (S.hp.length + 1) (S.hp.length + 1)]] w fun z w' => z = .returned (.bool true) ∧ Below w.heap.size w w' := by
  have q := sameRun_any (S := S) (c1 := S.hp.length + 1) (c2 := S.hp.length + 1) h1.lists h2.lists (lsA_le hu) (lsA_el hu)
  rw [Hp.lsA_len] at q
  exact q
theorem went_S {w : World} {K : Cg} {S S' : Ms} (hw : Wt K S S') (hc : Hp.usedS S'.hp ≤ K.lim) (hcS : Hp.usedS S.hp ≤ K.lim) (hK : KOk K) (hs0 : 0 ≤ S.steps) (hs1 : S.steps ≤ 4611686018427387904) {ga gb : Nat} (h1 : AnsS w ga S) (h2 : AnsS w gb S') {inp : List Int} {d l : Int} (ei : K.inp = inp) (ed : K.dep = d) (el : (K.lim : Int) = l) (iq eq tq nq : Option Addr) (i ia e ea t ta na : Nat) (mn : Int) :
    Calls Tryz.prog 14 #[.agg #[.slice iq i ia, .slice eq e ea, .slice tq t ta, .int .i64 mn, .slice nq inp.length na, .int .i64 d, .int .i64 l], .agg #[.int .i64 S.ph, .int .i64 S.tr, .string ⟨S.out.toArray⟩, .int .i64 (S.rd : Int), .int .i64 S.steps, .slice none 0 0, .slice (some ⟨ga, 0, none⟩) (S.hp.length + 1) (S.hp.length + 1)], .agg #[.int .i64 S'.ph, .int .i64 S'.tr, .string ⟨S'.out.toArray⟩, .int .i64 (S'.rd : Int), .int .i64 S'.steps, .slice none 0 0, .slice (some ⟨gb, 0, none⟩) (S'.hp.length + 1) (S'.hp.length + 1)], .int .i64 (S.fs.length : Int), .int .i64 (S'.fs.length : Int)] w fun z w' => z = .returned (.bool true) ∧ Below w.heap.size w w' := by
  subst ei ed el
  exact went_any hw hc hcS hK.lim hK.inp hK.d2 hs0 hs1 h1.lists h2.lists iq eq tq nq i ia e ea t ta na mn
theorem res0 {w : World} {U : Nat → Prop} {g : Nat} {K : Cg} {E : En} {mn : Int} (h : Mz w U g K (msN E mn)) :
    Calls Tryz.prog 9 #[.pointer (some ⟨g, 0, none⟩)] w fun z w' => z = .returned (.agg #[.int .i64 0, .int .i64 0, .string ⟨#[]⟩, .int .i64 0, .int .i64 0, .slice none 0 0, .slice (some ⟨w.heap.size + 1, 0, none⟩) 1 1]) ∧ Hid (AnsS w' (w.heap.size + 1) (msN E mn)) ∧ Below w.heap.size w w' := h.result
theorem dep0 {w : World} {U : Nat → Prop} {g : Nat} {K : Cg} {E : En} {mn : Int} (h : Mz w U g K (msN E mn)) :
    Calls Tryz.prog 10 #[.pointer (some ⟨g, 0, none⟩)] w fun z w' => z = .returned (.int .i64 1) ∧ Below w.heap.size w w' := h.depth
end Go.Proofs.YtahdkffijlfmnaaGreatDoor

namespace Go.Proofs.YtahdkffijlfmnaaGreatDoor
open Go.RowKit
open Hp (V vc vcs)
set_option maxRecDepth 100000 in
set_option maxHeartbeats 12000000 in
theorem vmGrows_any {W : World} {iq eq tq nq : Option Addr} {ia ea ta na : Nat} {Es : List Em} {c : Cd} {inp : List Int} (hS : SetR W iq eq tq nq ia ea ta na Es c inp) (dp l fi th : Int) (hG : Glo W) :
    Calls Tryz.prog 3 #[.agg #[.slice iq c.ins.length ia, .slice eq c.ens.length ea, .slice tq c.txs.length ta, .int .i64 c.main, .slice nq inp.length na, .int .i64 dp, .int .i64 l, .int .i64 fi, .int .i64 th]] W fun z w' => z = .returned (.bool true) ∧ Below W.heap.size W w' := by
  have HGL : Hid (Glo W) := hG
  obtain ⟨bX, hXs, fX⟩ := @runX W iq eq tq nq c.ins.length ia c.ens.length ea c.txs.length ta inp.length na c.main dp l fi th _ rfl
  by_cases he : newE c inp.length dp l = 0
  case neg =>
    have he' : (newE c inp.length dp l != 0) = true := by simpa using he
    have dN := setNew_no hS hG bX dp l he
    have HBX : Hid _ := bX
    clear hS hG bX fX hXs
    go_enter Tryz.func3, Tryz.ntmps3
    go_wp2_with (first
      | (go_at_call 7; refine dN.mono ?_; rintro z1 w1 ⟨rfl, hb1⟩; have HB1 : Hid (Below W.heap.size W w1) := below2 HBX.out hb1; clear hb1)
      | (go_at_call 8; refine (least_any (HGL.out.next HB1.out)).mono ?_; rintro z2 w2 ⟨rfl, hb2⟩; have HB2 : Hid (Below W.heap.size W w2) := below2 HB1.out hb2; clear hb2)
      | fail)
    go_ret
    exact ⟨rfl, HB2.out⟩
  obtain ⟨hl0, dN⟩ := setNew hS hG bX dp l he
  have HXs : Hid _ := hXs
  have HFX : Hid _ := fX
  have HBX : Hid _ := bX
  clear hS hG bX fX hXs
  go_enter Tryz.func3, Tryz.ntmps3
  go_wp2_with (first
    | (go_at_call 7; refine dN.mono ?_; rintro z1 w1 ⟨g, rfl, H1⟩; obtain ⟨K, hM1, hKc, hKi, hKd, hKl, hb1⟩ := H1.out; have HM1 : Hid (Mz w1 (fun b => (W.alloc (.cells #[.slice iq c.ins.length ia, .slice eq c.ens.length ea, .slice tq c.txs.length ta, .int .i64 c.main, .slice nq inp.length na, .int .i64 dp, .int .i64 l, .int .i64 fi, .int .i64 th] 33)).heap.size ≤ b) g K (msN (enAt c.ens c.main.toNat) c.main)) := hM1; have HB1 : Hid (Below W.heap.size W w1) := below2 HBX.out hb1; have HFX1 := Full.next HFX.out hb1; clear hb1 hM1 H1)
    | (go_at_call 9; refine (res0 HM1.out).mono ?_; rintro z2 w2 ⟨rfl, HA2, hb2⟩; have HB2 : Hid (Below w1.heap.size w1 (w2.alloc (.cells #[.int .i64 0, .int .i64 0, .string ⟨#[]⟩, .int .i64 0, .int .i64 0, .slice none 0 0, .slice (some ⟨w1.heap.size + 1, 0, none⟩) 1 1] 46))) := hb2.alloc hb2.size _; have HFR := Full.new w2 #[.int .i64 0, .int .i64 0, .string ⟨#[]⟩, .int .i64 0, .int .i64 0, .slice none 0 0, .slice (some ⟨w1.heap.size + 1, 0, none⟩) 1 1] 46)
    | (go_at_call 10; refine (dep0 (Mz.next HM1.out HB2.out)).mono ?_; rintro z3 w3 ⟨rfl, hb3⟩; have hF3 := HFR.next hb3; obtain ⟨c0, e0⟩ := hF3.cell 0 _ rfl; obtain ⟨c1, e1⟩ := hF3.cell 1 _ rfl; obtain ⟨c2, e2⟩ := hF3.cell 2 _ rfl; obtain ⟨c3, e3⟩ := hF3.cell 3 _ rfl; obtain ⟨c4, e4⟩ := hF3.cell 4 _ rfl; obtain ⟨c6, e6⟩ := hF3.cell 6 _ rfl)
    | fail)
  have hsz := HXs.out
  have hI0 : GrI W w3 g K w2.heap.size [.slice iq c.ins.length ia, .slice eq c.ens.length ea, .slice tq c.txs.length ta, .int .i64 c.main, .slice nq inp.length na, .int .i64 dp, .int .i64 l, .int .i64 fi, .int .i64 th] (msN (enAt c.ens c.main.toNat) c.main) 0 (fun b => (W.alloc (.cells #[.slice iq c.ins.length ia, .slice eq c.ens.length ea, .slice tq c.txs.length ta, .int .i64 c.main, .slice nq inp.length na, .int .i64 dp, .int .i64 l, .int .i64 fi, .int .i64 th] 33)).heap.size ≤ b ∧ b < w1.heap.size) (w1.heap.size + 1) := by
    have hb2s := hb2.size
    have hw1 := HB1.out.size
    have hx1 := full_lt HFX1
    exact ⟨((Mz.lt HM1.out).next HB2.out).next hb3, fun b hb => ⟨by have := hb.1; omega, by have := hb.2; omega, by have := hb.2; omega⟩, (HA2.out.next ((Below.refl _ w2).alloc (Nat.le_refl _) _)).next hb3, hF3, (HFX1.next HB2.out).next hb3, below2 (below2 HB1.out HB2.out) hb3, by omega, Nat.zero_le _, by show (0 : Int) ≤ 0; decide, fun _ => ⟨rfl, by simp [msN]⟩, by have := HGL.out.tabs.size; omega⟩
  have hKO := (Mz.kok HM1.out).1
  have hKl2 : (K.lim : Int) = l := by omega
  generalize hBr : w2.heap.size = Br at hI0 ⊢
  generalize hs0 : msN (enAt c.ens c.main.toNat) c.main = S0 at hI0
  have hsl : S0.fs.length = 1 := by rw [← hs0]; rfl
  have HI0 : Hid (∃ (S : Ms) (U : Nat → Prop) (ga : Nat), S.fs.length = 1 ∧ GrI W w3 g K Br [.slice iq c.ins.length ia, .slice eq c.ens.length ea, .slice tq c.txs.length ta, .int .i64 c.main, .slice nq inp.length na, .int .i64 dp, .int .i64 l, .int .i64 fi, .int .i64 th] S 0 U ga) := ⟨S0, _, _, hsl, hI0⟩
  obtain ⟨k, hk, hk5⟩ := fewK fi
  have dF : ∀ w, Calls Tryz.prog 11 #[.int .i64 fi] w fun z w' => z = .returned (.int .i64 (k : Int)) ∧ Below w.heap.size w w' := fun w => by rw [← hk]; exact few_any fi w
  have HKO : Hid (KOk K) := hKO
  clear hI0 hs0 hsl S0 hKO hk c0 c1 c2 c3 c4 c6 e0 e1 e2 e3 e4 e6 hF3 HFR HFX1 HB2 HB1 HA2 HM1 dN hBr hb3 hb2 hsz HXs HFX HBX he
  go_loopw [6, 7] (fun vd vi wr => ∃ (n : Nat) (S : Ms) (U : Nat → Prop) (ga : Nat), n ≤ k ∧ vd = .int .i64 (S.fs.length : Int) ∧ vi = .int .i64 (n : Int) ∧ Hid (GrI W wr g K Br [.slice iq c.ins.length ia, .slice eq c.ens.length ea, .slice tq c.txs.length ta, .int .i64 c.main, .slice nq inp.length na, .int .i64 dp, .int .i64 l, .int .i64 fi, .int .i64 th] S n U ga)) (fun _ vi _ => k - (intOf vi).toNat)
  case atStart =>
    obtain ⟨S, U, ga, h1, h2⟩ := HI0.out
    exact ⟨0, S, U, ga, Nat.zero_le _, by rw [h1]; rfl, rfl, h2⟩
  case round =>
    clear HI0
    obtain ⟨n, S, U, ga, hn, rfl, rfl, hI⟩ := hrel
    have n0 : (0 : Int) ≤ (n : Int) := Int.natCast_nonneg _
    obtain ⟨x7, -⟩ := hI.out.x.cell 7 _ rfl
    by_cases hlt : n < k
    case neg =>
      obtain rfl : n = k := by omega
      go_wp2_with (first
        | (go_at_call 11; refine (dF _).mono ?_; rintro z4 w4 ⟨rfl, hb4⟩; have HI4 := hI.out.next hb4; clear hb4)
        | (go_at_call 8; refine (least_any (Mz.kok HI4.m).2.2.2).mono ?_; rintro z5 w5 ⟨rfl, hb5⟩; have HB5 : Hid (Below W.heap.size W w5) := below2 HI4.b hb5; clear hb5)
        | fail)
      go_ret
      exact ⟨rfl, HB5.out⟩
    have i1 : (n : Int) < (k : Int) := Int.ofNat_lt.2 hlt
    have hw : IntKind.i64.wrap ((n : Int) + 1) = ((n + 1 : Nat) : Int) := by rw [IntKind.wrap_i64]; omega
    have hout : S.out.length ≤ 900000000 := by have := hI.out.o; omega
    by_cases hph : S.ph = 0
    case neg =>
      have hR : mstepS K S = (S, yd0, false) := by unfold mstepS; rw [if_neg (fun q => hph q.1)]
      have hph' : (S.ph != 0) = true := by simpa using hph
      have dS : ∀ w4, GrI W w4 g K Br [.slice iq c.ins.length ia, .slice eq c.ens.length ea, .slice tq c.txs.length ta, .int .i64 c.main, .slice nq inp.length na, .int .i64 dp, .int .i64 l, .int .i64 fi, .int .i64 th] S n U ga → Calls Tryz.prog 12 #[.pointer (some ⟨g, 0, none⟩)] w4 fun z w' => z = .returned (.tuple #[.agg #[.int .i64 0, .bool false, .int .i64 0, .int .i64 0, .string Hp.e0], .bool false]) ∧ Hid (GrJ W w' g K Br [.slice iq c.ins.length ia, .slice eq c.ens.length ea, .slice tq c.txs.length ta, .int .i64 c.main, .slice nq inp.length na, .int .i64 dp, .int .i64 l, .int .i64 fi, .int .i64 th] S S ga w'.heap.size) := fun w4 h4 => by
        have q := h4.m.step hout
        rw [hR] at q
        exact q.mono fun z w' q => ⟨q.1, h4.step q.2.out.1 q.2.out.2⟩
      clear hR
      have hu : Hp.usedS S.hp ≤ 100000 := by have := (Mz.kok hI.out.m).2.2.1; have := HKO.out.lim; omega
      have HU : Hid (Hp.usedS S.hp ≤ 100000) := hu
      clear hu hph
      go_wp2_with (first
        | (go_at_call 11; refine (dF _).mono ?_; rintro z4 w4 ⟨rfl, hb4⟩; have HI4 := hI.out.next hb4; clear hb4)
        | (go_at_call 12; refine (dS _ HI4).mono ?_; rintro z5 w5 ⟨rfl, H5⟩; have HJ : Hid (GrJ W (w5.alloc (.cells #[.int .i64 0, .bool false, .int .i64 0, .int .i64 0, .string Hp.e0] 54)) g K Br [.slice iq c.ins.length ia, .slice eq c.ens.length ea, .slice tq c.txs.length ta, .int .i64 c.main, .slice nq inp.length na, .int .i64 dp, .int .i64 l, .int .i64 fi, .int .i64 th] S S ga w5.heap.size) := H5.out.next ((Below.refl _ w5).alloc (Nat.le_refl _) _); have HY5 := Full.new w5 #[.int .i64 0, .bool false, .int .i64 0, .int .i64 0, .string Hp.e0] 54)
        | (go_at_call 9; refine (GrJ.result HJ.out (z := w5.heap.size + 1) (by simp)).mono ?_; rintro z6 w6 ⟨rfl, H6⟩; have HK := GrK.mk6 H6.out; have HK6 : Hid _ := HK; clear HK H6)
        | (go_at_call 10; refine (GrJ.depth HK6.out.j).mono ?_; rintro z7 w7 ⟨rfl, hb7⟩; have H7 := HK6.out.next hb7; obtain ⟨r0, -⟩ := H7.j.r.cell 0 _ rfl; obtain ⟨s0, -⟩ := H7.s.cell 0 _ rfl; obtain ⟨r1, -⟩ := H7.j.r.cell 1 _ rfl; obtain ⟨s1, -⟩ := H7.s.cell 1 _ rfl; obtain ⟨r2, -⟩ := H7.j.r.cell 2 _ rfl; obtain ⟨s2, -⟩ := H7.s.cell 2 _ rfl; obtain ⟨r3, -⟩ := H7.j.r.cell 3 _ rfl; obtain ⟨s3, -⟩ := H7.s.cell 3 _ rfl; obtain ⟨r4, -⟩ := H7.j.r.cell 4 _ rfl; obtain ⟨s4, -⟩ := H7.s.cell 4 _ rfl; obtain ⟨r5, -⟩ := H7.j.r.cell 5 _ rfl; obtain ⟨s5, -⟩ := H7.s.cell 5 _ rfl; obtain ⟨r6, -⟩ := H7.j.r.cell 6 _ rfl; obtain ⟨s6, -⟩ := H7.s.cell 6 _ rfl; obtain ⟨y0, -⟩ := H7.y.cell 0 _ rfl; obtain ⟨y1, -⟩ := H7.y.cell 1 _ rfl; obtain ⟨y2, -⟩ := H7.y.cell 2 _ rfl; obtain ⟨y3, -⟩ := H7.y.cell 3 _ rfl; obtain ⟨y4, -⟩ := H7.y.cell 4 _ rfl; have HK7 : Hid _ := H7; clear H7 hb7 HK6 HJ HY5)
        | (go_at_call 13; refine (sameRun_S HK7.out.j.a HK7.out.a HU.out).mono ?_; rintro z8 w8 ⟨rfl, hb8⟩; have HK8 : Hid _ := HK7.out.next hb8; clear hb8)
        | (go_at_call 8; refine (least_any (HK8.out.j.glo)).mono ?_; rintro z9 w9 ⟨rfl, hb9⟩; have HB9 : Hid (Below W.heap.size W w9) := below2 HK8.out.j.b hb9; clear hb9)
        | fail)
      go_ret
      exact ⟨rfl, HB9.out⟩
    obtain ⟨hz1, hz2⟩ := hI.out.z hph
    have hu : Hp.usedS S.hp ≤ K.lim := (Mz.kok hI.out.m).2.2.1
    have hsk := (Mz.kok hI.out.m).2.1
    obtain ⟨hwt, hyd⟩ := step_wt HKO.out hsk (by have := HKO.out.lim; omega) hph hz1 hz2 (by have := hI.out.st; omega)
    have HU : Hid _ := hu
    have HS0 : Hid (0 ≤ S.steps ∧ S.steps ≤ 4611686018427387904) := ⟨hsk.s0, hsk.s1⟩
    obtain ⟨R, hR⟩ : ∃ R, mstepS K S = R := ⟨_, rfl⟩
    rw [hR] at hwt hyd
    obtain ⟨S2, ⟨yh, yb, yv⟩, ok⟩ := R
    have HWT : Hid (Wt K S S2) := hwt
    have HEN : Hid (S2.out.length ≤ 4200 * (n + 1) ∧ S2.steps ≤ ((n + 1 : Nat) : Int) ∧ (S2.ph = 0 → S2.tr = 0 ∧ S2.fs ≠ [])) := by
      obtain ⟨lo, l1, l2⟩ := hwt.out
      have l1 : S2.out = S.out ++ lo := l1
      have h1 := hI.out.o
      have h2 := hI.out.st
      have h3 : S2.steps = S.steps + 1 := hwt.st
      refine ⟨by rw [l1, List.length_append]; omega, by omega, fun q => ⟨hwt.tr (by show S2.ph ≠ 2; omega), fun e => ?_⟩⟩
      have e1 : S2.fs.length = 0 := by rw [e]; rfl
      have e2 : S2.ph = 1 := hwt.pe.1 e1
      omega
    have hph' : (S.ph != 0) = false := by simpa using hph
    clear hz1 hz2 hu hsk hwt hph
    rcases hyd with ⟨ho1, ho2⟩ | ⟨ho1, ho2, ho3⟩
    · have ho1 : ok = false := ho1
      have ho2 : ((yh, yb, yv) : Yd) = yd0 := ho2
      subst ho1
      unfold yd0 at ho2
      simp only [Prod.mk.injEq] at ho2
      obtain ⟨rfl, rfl, rfl⟩ := ho2
      have dS : ∀ w4, GrI W w4 g K Br [.slice iq c.ins.length ia, .slice eq c.ens.length ea, .slice tq c.txs.length ta, .int .i64 c.main, .slice nq inp.length na, .int .i64 dp, .int .i64 l, .int .i64 fi, .int .i64 th] S n U ga → Calls Tryz.prog 12 #[.pointer (some ⟨g, 0, none⟩)] w4 fun z w' => z = .returned (.tuple #[.agg #[.int .i64 0, .bool false, .int .i64 0, .int .i64 0, .string Hp.e0], .bool false]) ∧ Hid (GrJ W w' g K Br [.slice iq c.ins.length ia, .slice eq c.ens.length ea, .slice tq c.txs.length ta, .int .i64 c.main, .slice nq inp.length na, .int .i64 dp, .int .i64 l, .int .i64 fi, .int .i64 th] S S2 ga w'.heap.size) := fun w4 h4 => by
        have q := h4.m.step hout
        rw [hR] at q
        exact q.mono fun z w' q => ⟨q.1, h4.step q.2.out.1 q.2.out.2⟩
      clear hR
      go_wp2_with (first
        | (go_at_call 11; refine (dF _).mono ?_; rintro z4 w4 ⟨rfl, hb4⟩; have HI4 := hI.out.next hb4; clear hb4)
        | (go_at_call 12; refine (dS _ HI4).mono ?_; rintro z5 w5 ⟨rfl, H5⟩; have HJ : Hid (GrJ W (w5.alloc (.cells #[.int .i64 0, .bool false, .int .i64 0, .int .i64 0, .string Hp.e0] 54)) g K Br [.slice iq c.ins.length ia, .slice eq c.ens.length ea, .slice tq c.txs.length ta, .int .i64 c.main, .slice nq inp.length na, .int .i64 dp, .int .i64 l, .int .i64 fi, .int .i64 th] S S2 ga w5.heap.size) := H5.out.next ((Below.refl _ w5).alloc (Nat.le_refl _) _))
        | (go_at_call 9; refine (GrJ.result HJ.out (z := w5.heap.size + 1) (by simp)).mono ?_; rintro z6 w6 ⟨rfl, H6⟩; have HK := GrK.mk6 H6.out; have HK6 : Hid _ := HK; clear HK H6)
        | (go_at_call 10; refine (GrJ.depth HK6.out.j).mono ?_; rintro z7 w7 ⟨rfl, hb7⟩; have H7 := HK6.out.next hb7; obtain ⟨r0, -⟩ := H7.j.r.cell 0 _ rfl; obtain ⟨s0, -⟩ := H7.s.cell 0 _ rfl; obtain ⟨r1, -⟩ := H7.j.r.cell 1 _ rfl; obtain ⟨s1, -⟩ := H7.s.cell 1 _ rfl; obtain ⟨r2, -⟩ := H7.j.r.cell 2 _ rfl; obtain ⟨s2, -⟩ := H7.s.cell 2 _ rfl; obtain ⟨r3, -⟩ := H7.j.r.cell 3 _ rfl; obtain ⟨s3, -⟩ := H7.s.cell 3 _ rfl; obtain ⟨r4, -⟩ := H7.j.r.cell 4 _ rfl; obtain ⟨s4, -⟩ := H7.s.cell 4 _ rfl; obtain ⟨r5, -⟩ := H7.j.r.cell 5 _ rfl; obtain ⟨s5, -⟩ := H7.s.cell 5 _ rfl; obtain ⟨r6, -⟩ := H7.j.r.cell 6 _ rfl; obtain ⟨s6, -⟩ := H7.s.cell 6 _ rfl; obtain ⟨y0, -⟩ := H7.y.cell 0 _ rfl; obtain ⟨y1, -⟩ := H7.y.cell 1 _ rfl; obtain ⟨y2, -⟩ := H7.y.cell 2 _ rfl; obtain ⟨y3, -⟩ := H7.y.cell 3 _ rfl; obtain ⟨y4, -⟩ := H7.y.cell 4 _ rfl; obtain ⟨x0, -⟩ := H7.j.x.cell 0 _ rfl; obtain ⟨x1, -⟩ := H7.j.x.cell 1 _ rfl; obtain ⟨x2, -⟩ := H7.j.x.cell 2 _ rfl; obtain ⟨x3, -⟩ := H7.j.x.cell 3 _ rfl; obtain ⟨x4, -⟩ := H7.j.x.cell 4 _ rfl; obtain ⟨x5, -⟩ := H7.j.x.cell 5 _ rfl; obtain ⟨x6, -⟩ := H7.j.x.cell 6 _ rfl; have HK7 : Hid _ := H7; clear H7 hb7 HK6 HJ)
        | (go_at_call 14; refine (went_S HWT.out HK7.out.j.used HU.out HKO.out HS0.out.1 HS0.out.2 HK7.out.j.a HK7.out.a hKi hKd hKl2 iq eq tq nq _ ia _ ea _ ta na c.main).mono ?_; rintro z8 w8 ⟨rfl, hb8⟩; have H8 := HK7.out.next hb8; clear r0 r1 r2 r3 r4 r5 r6 s0 s1 s2 s3 s4 s5 s6 y0 y1 y2 y3 y4 x0 x1 x2 x3 x4 x5 x6; obtain ⟨r0, f0⟩ := H8.j.r.cell 0 _ rfl; obtain ⟨s0, -⟩ := H8.s.cell 0 _ rfl; obtain ⟨r1, f1⟩ := H8.j.r.cell 1 _ rfl; obtain ⟨s1, -⟩ := H8.s.cell 1 _ rfl; obtain ⟨r2, f2⟩ := H8.j.r.cell 2 _ rfl; obtain ⟨s2, -⟩ := H8.s.cell 2 _ rfl; obtain ⟨r3, f3⟩ := H8.j.r.cell 3 _ rfl; obtain ⟨s3, -⟩ := H8.s.cell 3 _ rfl; obtain ⟨r4, f4⟩ := H8.j.r.cell 4 _ rfl; obtain ⟨s4, -⟩ := H8.s.cell 4 _ rfl; obtain ⟨r5, f5⟩ := H8.j.r.cell 5 _ rfl; obtain ⟨s5, -⟩ := H8.s.cell 5 _ rfl; obtain ⟨r6, f6⟩ := H8.j.r.cell 6 _ rfl; obtain ⟨s6, -⟩ := H8.s.cell 6 _ rfl; obtain ⟨y0, -⟩ := H8.y.cell 0 _ rfl; obtain ⟨y1, -⟩ := H8.y.cell 1 _ rfl; obtain ⟨y2, -⟩ := H8.y.cell 2 _ rfl; obtain ⟨y3, -⟩ := H8.y.cell 3 _ rfl; obtain ⟨y4, -⟩ := H8.y.cell 4 _ rfl; have HK8 : Hid _ := H8; clear H8 hb8 HK7)
        | fail)
      have hr := Full.put (g := Br) (t := 46) (rcs S2 (w5.heap.size + 1 + 1)) (a := []) (b := rcs S ga) (d := []) HK8.out.j.r rfl
      have hk : Kp (fun b => b = Br) w8 (w8.setCells Br 0 (rcs S2 (w5.heap.size + 1 + 1))) := Kp.setCells (F := fun b => b = Br) (B := Br) (.inl rfl) _ 0 (Kp.refl _ _)
      obtain ⟨U', hU'⟩ := GrJ.done (n := n) HK8.out.j HK8.out.a HK8.out.t hr hk hI.out.br HEN.out.1 HEN.out.2.1 HEN.out.2.2 hI.out.g8
      refine ⟨⟨n + 1, S2, U', _, by omega, rfl, by push_cast; rfl, hU'⟩, ?_⟩
      show k - ((n : Int) + 1).toNat < k - ((n : Int)).toNat
      omega
    · have ho1 : ok = true := ho1
      have ho2 : 1 ≤ yh := ho2
      have hp2 : (S2.ph != 0) = false := by
        have ho3 : S2.ph = 0 := ho3
        simpa using ho3
      clear ho3
      subst ho1
      obtain ⟨yk, yn, ys⟩ := yv
      have hy1 : ¬ (yh < 1) := by omega
      have dS : ∀ w4, GrI W w4 g K Br [.slice iq c.ins.length ia, .slice eq c.ens.length ea, .slice tq c.txs.length ta, .int .i64 c.main, .slice nq inp.length na, .int .i64 dp, .int .i64 l, .int .i64 fi, .int .i64 th] S n U ga → Calls Tryz.prog 12 #[.pointer (some ⟨g, 0, none⟩)] w4 fun z w' => z = .returned (.tuple #[.agg #[.int .i64 yh, .bool yb, .int .i64 yk, .int .i64 yn, .string ys], .bool true]) ∧ Hid (GrJ W w' g K Br [.slice iq c.ins.length ia, .slice eq c.ens.length ea, .slice tq c.txs.length ta, .int .i64 c.main, .slice nq inp.length na, .int .i64 dp, .int .i64 l, .int .i64 fi, .int .i64 th] S S2 ga w'.heap.size) := fun w4 h4 => by
        have q := h4.m.step hout
        rw [hR] at q
        exact q.mono fun z w' q => ⟨q.1, h4.step q.2.out.1 q.2.out.2⟩
      clear hR
      go_wp2_with (first
        | (go_at_call 11; refine (dF _).mono ?_; rintro z4 w4 ⟨rfl, hb4⟩; have HI4 := hI.out.next hb4; clear hb4)
        | (go_at_call 12; refine (dS _ HI4).mono ?_; rintro z5 w5 ⟨rfl, H5⟩; have HJ : Hid (GrJ W (w5.alloc (.cells #[.int .i64 yh, .bool yb, .int .i64 yk, .int .i64 yn, .string ys] 54)) g K Br [.slice iq c.ins.length ia, .slice eq c.ens.length ea, .slice tq c.txs.length ta, .int .i64 c.main, .slice nq inp.length na, .int .i64 dp, .int .i64 l, .int .i64 fi, .int .i64 th] S S2 ga w5.heap.size) := H5.out.next ((Below.refl _ w5).alloc (Nat.le_refl _) _))
        | (go_at_call 9; refine (GrJ.result HJ.out (z := w5.heap.size + 1) (by simp)).mono ?_; rintro z6 w6 ⟨rfl, H6⟩; have HK := GrK.mk6 H6.out; have HK6 : Hid _ := HK; clear HK H6)
        | (go_at_call 10; refine (GrJ.depth HK6.out.j).mono ?_; rintro z7 w7 ⟨rfl, hb7⟩; have H7 := HK6.out.next hb7; obtain ⟨r0, -⟩ := H7.j.r.cell 0 _ rfl; obtain ⟨s0, -⟩ := H7.s.cell 0 _ rfl; obtain ⟨r1, -⟩ := H7.j.r.cell 1 _ rfl; obtain ⟨s1, -⟩ := H7.s.cell 1 _ rfl; obtain ⟨r2, -⟩ := H7.j.r.cell 2 _ rfl; obtain ⟨s2, -⟩ := H7.s.cell 2 _ rfl; obtain ⟨r3, -⟩ := H7.j.r.cell 3 _ rfl; obtain ⟨s3, -⟩ := H7.s.cell 3 _ rfl; obtain ⟨r4, -⟩ := H7.j.r.cell 4 _ rfl; obtain ⟨s4, -⟩ := H7.s.cell 4 _ rfl; obtain ⟨r5, -⟩ := H7.j.r.cell 5 _ rfl; obtain ⟨s5, -⟩ := H7.s.cell 5 _ rfl; obtain ⟨r6, -⟩ := H7.j.r.cell 6 _ rfl; obtain ⟨s6, -⟩ := H7.s.cell 6 _ rfl; obtain ⟨y0, -⟩ := H7.y.cell 0 _ rfl; obtain ⟨y1, -⟩ := H7.y.cell 1 _ rfl; obtain ⟨y2, -⟩ := H7.y.cell 2 _ rfl; obtain ⟨y3, -⟩ := H7.y.cell 3 _ rfl; obtain ⟨y4, -⟩ := H7.y.cell 4 _ rfl; obtain ⟨x0, -⟩ := H7.j.x.cell 0 _ rfl; obtain ⟨x1, -⟩ := H7.j.x.cell 1 _ rfl; obtain ⟨x2, -⟩ := H7.j.x.cell 2 _ rfl; obtain ⟨x3, -⟩ := H7.j.x.cell 3 _ rfl; obtain ⟨x4, -⟩ := H7.j.x.cell 4 _ rfl; obtain ⟨x5, -⟩ := H7.j.x.cell 5 _ rfl; obtain ⟨x6, -⟩ := H7.j.x.cell 6 _ rfl; have HK7 : Hid _ := H7; clear H7 hb7 HK6 HJ)
        | (go_at_call 14; refine (went_S HWT.out HK7.out.j.used HU.out HKO.out HS0.out.1 HS0.out.2 HK7.out.j.a HK7.out.a hKi hKd hKl2 iq eq tq nq _ ia _ ea _ ta na c.main).mono ?_; rintro z8 w8 ⟨rfl, hb8⟩; have H8 := HK7.out.next hb8; clear r0 r1 r2 r3 r4 r5 r6 s0 s1 s2 s3 s4 s5 s6 y0 y1 y2 y3 y4 x0 x1 x2 x3 x4 x5 x6; obtain ⟨r0, f0⟩ := H8.j.r.cell 0 _ rfl; obtain ⟨s0, -⟩ := H8.s.cell 0 _ rfl; obtain ⟨r1, f1⟩ := H8.j.r.cell 1 _ rfl; obtain ⟨s1, -⟩ := H8.s.cell 1 _ rfl; obtain ⟨r2, f2⟩ := H8.j.r.cell 2 _ rfl; obtain ⟨s2, -⟩ := H8.s.cell 2 _ rfl; obtain ⟨r3, f3⟩ := H8.j.r.cell 3 _ rfl; obtain ⟨s3, -⟩ := H8.s.cell 3 _ rfl; obtain ⟨r4, f4⟩ := H8.j.r.cell 4 _ rfl; obtain ⟨s4, -⟩ := H8.s.cell 4 _ rfl; obtain ⟨r5, f5⟩ := H8.j.r.cell 5 _ rfl; obtain ⟨s5, -⟩ := H8.s.cell 5 _ rfl; obtain ⟨r6, f6⟩ := H8.j.r.cell 6 _ rfl; obtain ⟨s6, -⟩ := H8.s.cell 6 _ rfl; obtain ⟨y0, -⟩ := H8.y.cell 0 _ rfl; obtain ⟨y1, -⟩ := H8.y.cell 1 _ rfl; obtain ⟨y2, -⟩ := H8.y.cell 2 _ rfl; obtain ⟨y3, -⟩ := H8.y.cell 3 _ rfl; obtain ⟨y4, -⟩ := H8.y.cell 4 _ rfl; have HK8 : Hid _ := H8; clear H8 hb8 HK7)
        | fail)
      have hr := Full.put (g := Br) (t := 46) (rcs S2 (w5.heap.size + 1 + 1)) (a := []) (b := rcs S ga) (d := []) HK8.out.j.r rfl
      have hk : Kp (fun b => b = Br) w8 (w8.setCells Br 0 (rcs S2 (w5.heap.size + 1 + 1))) := Kp.setCells (F := fun b => b = Br) (B := Br) (.inl rfl) _ 0 (Kp.refl _ _)
      obtain ⟨U', hU'⟩ := GrJ.done (n := n) HK8.out.j HK8.out.a HK8.out.t hr hk hI.out.br HEN.out.1 HEN.out.2.1 HEN.out.2.2 hI.out.g8
      refine ⟨⟨n + 1, S2, U', _, by omega, rfl, by push_cast; rfl, hU'⟩, ?_⟩
      show k - ((n : Int) + 1).toNat < k - ((n : Int)).toNat
      omega
end Go.Proofs.YtahdkffijlfmnaaGreatDoor
