import Derived.Sort.Walk0
import Derived.RowKit
import Derived.Lib.Strings
namespace Go.Proofs.YtahdkffijlfmnaaGreatDoor
open Go.RowKit
abbrev e0 : ByteArray := ⟨#[]⟩
abbrev In := Int × Int × Int
structure En where
  name : ByteArray
  start : Int
  params : Int
  sorts : List Int
  result : Int
structure Cd where
  ins : List In
  ens : List En
  txs : List ByteArray
  main : Int
def wdT : List ByteArray := [⟨#[110, 111, 112]⟩, ⟨#[105, 110, 116]⟩, ⟨#[98, 111, 111, 108]⟩, ⟨#[116, 101, 120, 116]⟩, ⟨#[108, 111, 97, 100]⟩, ⟨#[115, 116, 111, 114, 101]⟩, ⟨#[112, 111, 112]⟩, ⟨#[117, 110]⟩, ⟨#[98, 105, 110]⟩, ⟨#[106, 117, 109, 112]⟩, ⟨#[102, 97, 108, 115, 101]⟩, ⟨#[99, 97, 108, 108]⟩, ⟨#[114, 101, 116]⟩, ⟨#[100, 111, 110, 101]⟩, ⟨#[110, 101, 119]⟩, ⟨#[103, 101, 116]⟩, ⟨#[112, 117, 116]⟩, ⟨#[108, 101, 110]⟩, ⟨#[115, 116, 114]⟩, ⟨#[112, 114, 105, 110, 116]⟩, ⟨#[114, 101, 97, 100]⟩, ⟨#[101, 109, 105, 116]⟩, ⟨#[115, 104, 111, 119]⟩, ⟨#[116, 101, 108, 108]⟩]
def opA : List Nat := [0, 1, 2, 3, 4, 4, 0, 5, 6, 7, 7, 8, 0, 0, 9, 0, 0, 0, 0, 10, 0, 11, 11, 11]
def opB : List Nat := [0, 0, 0, 0, 0, 0, 0, 0, 0, 0, 0, 0, 0, 0, 0, 0, 0, 0, 0, 0, 0, 0, 4, 0]
def shLo : List Int := [0, -9223372036854775808, 0, 0, 0, 1, 3, 0, 0, 1, 1, 1, 0]
def shHi : List Int := [0, 9223372036854775807, 1, 3999, 249, 2, 13, 59999, 59, 15, 16, 40000, 8]
def shWd : List Nat := [0, 8, 1, 2, 1, 1, 1, 4, 1, 1, 1, 2, 1]
def tyT : List ByteArray := [⟨#[]⟩, ⟨#[105, 110, 116]⟩, ⟨#[98, 111, 111, 108]⟩, ⟨#[116, 101, 120, 116]⟩, ⟨#[]⟩, ⟨#[91, 105, 110, 116, 93]⟩, ⟨#[91, 98, 111, 111, 108, 93]⟩, ⟨#[91, 116, 101, 120, 116, 93]⟩, ⟨#[]⟩, ⟨#[91, 91, 105, 110, 116, 93, 93]⟩, ⟨#[91, 91, 98, 111, 111, 108, 93, 93]⟩, ⟨#[91, 91, 116, 101, 120, 116, 93, 93]⟩, ⟨#[]⟩, ⟨#[91, 91, 91, 105, 110, 116, 93, 93, 93]⟩, ⟨#[91, 91, 91, 98, 111, 111, 108, 93, 93, 93]⟩, ⟨#[91, 91, 91, 116, 101, 120, 116, 93, 93, 93]⟩, ⟨#[]⟩, ⟨#[91, 91, 91, 91, 105, 110, 116, 93, 93, 93, 93]⟩, ⟨#[91, 91, 91, 91, 98, 111, 111, 108, 93, 93, 93, 93]⟩, ⟨#[91, 91, 91, 91, 116, 101, 120, 116, 93, 93, 93, 93]⟩]
def sortS (n : Int) : Bool := decide (0 < n) && (decide (n < 20) && !(tyT.getD n.toNat e0).data.toList.isEmpty)
def mayS (o : Nat) (n : Int) : Bool := decide (shLo.getD o 0 ≤ n) && (decide (n ≤ shHi.getD o 0) && (o != 9 || sortS n))
def insS (x : In) : Bool := decide (0 ≤ x.1) && (decide (x.1 < 24) && (mayS (opA.getD x.1.toNat 0) x.2.1 && mayS (opB.getD x.1.toNat 0) x.2.2))
def letB (b : UInt8) : Bool := (decide (97 ≤ b.toNat) && decide (b.toNat ≤ 122)) || (decide (65 ≤ b.toNat) && decide (b.toNat ≤ 90))
def digB (b : UInt8) : Bool := decide (48 ≤ b.toNat) && decide (b.toNat ≤ 57)
def nmB (b : UInt8) : Bool := letB b || digB b || b == 95
def nameS (l : List UInt8) : Bool := match l with
  | [] => false
  | c :: r => decide (r.length < 24) && (letB c && (c :: r).all nmB)
def entS (e : En) : Bool := nameS e.name.data.toList && decide (e.sorts.length ≤ 250) && decide (0 ≤ e.params) && decide (e.params ≤ 8) && decide (e.params ≤ (e.sorts.length : Int)) && (e.result == 0 || sortS e.result) && e.sorts.all sortS
def enAt (L : List En) (i : Nat) : En := L.getD i ⟨e0, 0, 0, [], 0⟩
def stAt (L : List En) (n i : Nat) : Bool := decide ((enAt L i).start < (n : Int)) && (i == 0 || decide ((enAt L (i - 1)).start < (enAt L i).start))
def stsS (L : List En) (n : Nat) : Bool := (enAt L 0).start == 0 && (List.range L.length).all (stAt L n)
def mayC (c : Cd) : Bool := decide (0 ≤ c.main) && decide (c.main < (c.ens.length : Int)) && stsS c.ens c.ins.length && c.ens.all entS && c.ins.all insS && c.txs.all (fun t => decide (t.size ≤ 200))
def bigC (c : Cd) : Bool := decide (60 < c.ens.length) || decide (60000 < c.ins.length) || decide (4000 < c.txs.length)
def validS (c : Cd) : Int := if bigC c then 2 else if mayC c then 0 else 130
end Go.Proofs.YtahdkffijlfmnaaGreatDoor
namespace Go.Proofs.YtahdkffijlfmnaaGreatDoor
open Go.RowKit
end Go.Proofs.YtahdkffijlfmnaaGreatDoor
namespace Go.Proofs.YtahdkffijlfmnaaGreatDoor
open Go.RowKit
theorem name_len {l : List UInt8} (h : nameS l = true) : 0 < l.length ∧ l.length ≤ 24 := by
  cases l with
  | nil => cases h
  | cons c r =>
    simp only [nameS, Bool.and_eq_true, decide_eq_true_eq] at h
    simp only [List.length_cons]
    omega
structure EntOk (e : En) : Prop where
  nm : nameS e.name.data.toList = true
  sl : e.sorts.length ≤ 250
  p0 : 0 ≤ e.params
  p8 : e.params ≤ 8
  pl : e.params ≤ (e.sorts.length : Int)
  rs : e.result = 0 ∨ sortS e.result = true
  ss : ∀ x ∈ e.sorts, sortS x = true
theorem ent_ok {e : En} : entS e = true ↔ EntOk e := by
  unfold entS
  simp only [Bool.and_eq_true, decide_eq_true_eq, Bool.or_eq_true, beq_iff_eq, List.all_eq_true]
  exact ⟨fun ⟨⟨⟨⟨⟨⟨a, b⟩, c⟩, d⟩, f⟩, g⟩, h⟩ => ⟨a, b, c, d, f, g, h⟩, fun ⟨a, b, c, d, f, g, h⟩ => ⟨⟨⟨⟨⟨⟨a, b⟩, c⟩, d⟩, f⟩, g⟩, h⟩⟩
theorem opA_lt (k : Nat) : opA.getD k 0 < 13 := by
  by_cases h : k < 24
  · exact (by decide : ∀ k : Fin 24, opA.getD k.1 0 < 13) ⟨k, h⟩
  · rw [List.getD_eq_getElem?_getD, List.getElem?_eq_none (by simp [opA]; omega)]; decide
theorem opB_lt (k : Nat) : opB.getD k 0 < 13 := by
  by_cases h : k < 24
  · exact (by decide : ∀ k : Fin 24, opB.getD k.1 0 < 13) ⟨k, h⟩
  · rw [List.getD_eq_getElem?_getD, List.getElem?_eq_none (by simp [opB]; omega)]; decide
structure CodeOk (c : Cd) : Prop where
  el : c.ens.length ≤ 60
  il : c.ins.length ≤ 60000
  tl : c.txs.length ≤ 4000
  m0 : 0 ≤ c.main
  ml : c.main < (c.ens.length : Int)
  st : stsS c.ens c.ins.length = true
  es : ∀ e ∈ c.ens, entS e = true
  is : ∀ x ∈ c.ins, insS x = true
  ts : ∀ t ∈ c.txs, t.size ≤ 200
theorem code_ok {c : Cd} : validS c = 0 ↔ CodeOk c := by
  unfold validS
  have hb : bigC c = true ↔ ¬ (c.ens.length ≤ 60 ∧ c.ins.length ≤ 60000 ∧ c.txs.length ≤ 4000) := by
    unfold bigC
    simp only [Bool.or_eq_true, decide_eq_true_eq]
    omega
  have hm : mayC c = true ↔ (0 ≤ c.main ∧ c.main < (c.ens.length : Int) ∧ stsS c.ens c.ins.length = true ∧ (∀ e ∈ c.ens, entS e = true) ∧ (∀ x ∈ c.ins, insS x = true) ∧ (∀ t ∈ c.txs, t.size ≤ 200)) := by
    unfold mayC
    simp only [Bool.and_eq_true, decide_eq_true_eq, List.all_eq_true]
    exact ⟨fun ⟨⟨⟨⟨⟨a, b⟩, c⟩, d⟩, f⟩, g⟩ => ⟨a, b, c, d, f, g⟩, fun ⟨a, b, c, d, f, g⟩ => ⟨⟨⟨⟨⟨a, b⟩, c⟩, d⟩, f⟩, g⟩⟩
  constructor
  · intro h
    by_cases h1 : bigC c = true
    · rw [if_pos h1] at h; cases h
    · rw [if_neg h1] at h
      by_cases h2 : mayC c = true
      · rw [hb, Decidable.not_not] at h1
        obtain ⟨a, b, d, f, g, i⟩ := hm.1 h2
        exact ⟨h1.1, h1.2.1, h1.2.2, a, b, d, f, g, i⟩
      · rw [if_neg h2] at h; cases h
  · intro h
    rw [if_neg (by rw [hb, Decidable.not_not]; exact ⟨h.el, h.il, h.tl⟩), if_pos (hm.2 ⟨h.m0, h.ml, h.st, h.es, h.is, h.ts⟩)]
theorem st_get {L : List En} {n : Nat} (h : stsS L n = true) : (enAt L 0).start = 0 ∧ ∀ i, i < L.length → (enAt L i).start < (n : Int) ∧ (0 < i → (enAt L (i - 1)).start < (enAt L i).start) := by
  unfold stsS at h
  simp only [Bool.and_eq_true, beq_iff_eq, List.all_eq_true, List.mem_range] at h
  refine ⟨h.1, fun i hi => ?_⟩
  have h2 := h.2 i hi
  unfold stAt at h2
  simp only [Bool.and_eq_true, decide_eq_true_eq, Bool.or_eq_true, beq_iff_eq] at h2
  exact ⟨h2.1, fun h0 => by rcases h2.2 with q | q; omega; exact q⟩
theorem st_pos {L : List En} {n : Nat} (h : stsS L n = true) : ∀ i, i < L.length → 0 ≤ (enAt L i).start
  | 0, _ => by have := (st_get h).1; omega
  | i + 1, hi => by
    have h1 := st_pos h i (by omega)
    have h2 := ((st_get h).2 (i + 1) hi).2 (by omega)
    rw [Nat.add_sub_cancel] at h2
    omega
end Go.Proofs.YtahdkffijlfmnaaGreatDoor

namespace Go.Proofs.YtahdkffijlfmnaaGreatDoor.Hp
open Go.RowKit
abbrev VT := Int × Int × ByteArray × Int
abbrev e0 : ByteArray := ⟨#[]⟩
def stuckS : VT := (0, 0, e0, 7)
def numS (n : Int) : VT := (1, n, e0, 0)
def bit (b : Bool) : Int := if b = true then 1 else 0
def truS (b : Bool) : VT := (2, bit b, e0, 0)
def cmpI (a b : Int) : Int := if a < b then -1 else if a = b then 0 else 1
def cmpT (a b : ByteArray) : Int := if Op.bytesLess a.toList b.toList = true then -1 else if a.toList = b.toList then 0 else 1
def cmpS (op o : Int) : VT :=
  if op = 8 then truS (o == 0) else if op = 9 then truS (o != 0) else if op = 10 then truS (decide (o < 0)) else if op = 11 then truS (decide (o ≤ 0))
  else if op = 12 then truS (decide (0 < o)) else if op = 13 then truS (decide (0 ≤ o)) else stuckS
def intsS (op a b : Int) : VT :=
  if op = 3 then numS (wrap64 (a + b)) else if op = 4 then numS (wrap64 (a - b)) else if op = 5 then numS (wrap64 (a * b))
  else if op = 6 then (if b = 0 then (0, 0, e0, 1) else numS (wrap64 (a.tdiv b))) else if op = 7 then (if b = 0 then (0, 0, e0, 1) else numS (a.tmod b))
  else cmpS op (cmpI a b)
def textsS (op : Int) (a b : ByteArray) : VT :=
  if op = 3 then (if 256 < a.size + b.size then (0, 0, e0, 6) else (3, 0, a ++ b, 0)) else cmpS op (cmpT a b)
def namesS (op a b : Int) : VT := if op = 8 ∨ op = 9 then cmpS op (cmpI a b) else stuckS
def okV (k n : Int) (s : ByteArray) : Bool :=
  if k = 0 then n == 0 && s.toList == [] else if k = 1 then s.toList == [] else if k = 2 then (n == 0 || n == 1) && s.toList == []
  else if k = 3 then n == 0 && decide (s.size ≤ 256) else if k = 4 then decide (0 ≤ n) && s.toList == [] else false
def binS (op k n : Int) (s : ByteArray) (k' n' : Int) (s' : ByteArray) : VT :=
  if okV k n s = true ∧ k' = k ∧ okV k' n' s' = true then
    (if k = 1 then intsS op n n' else if k = 3 then textsS op s s' else if k = 2 ∨ k = 4 then namesS op n n' else stuckS)
  else stuckS
def unS (op k n : Int) (s : ByteArray) : VT :=
  if op = 1 ∧ k = 1 ∧ okV k n s = true then numS (wrap64 (-n)) else if op = 2 ∧ k = 2 ∧ okV k n s = true then truS (n == 0) else stuckS
def atS (k n : Int) (s : ByteArray) (k' n' : Int) (s' : ByteArray) : VT :=
  if k = 3 ∧ okV k n s = true ∧ k' = 1 ∧ okV k' n' s' = true then (if n' < 0 ∨ (s.size : Int) ≤ n' then (0, 0, e0, 2) else numS ((s.data.toList.getD n'.toNat 0).toNat : Int)) else stuckS
theorem wrap_in {x : Int} (h : -9223372036854775808 ≤ x ∧ x ≤ 9223372036854775807) : wrap64 x = x := by unfold wrap64; omega
theorem wrap_rng (x : Int) : -9223372036854775808 ≤ wrap64 x ∧ wrap64 x ≤ 9223372036854775807 := by unfold wrap64; omega
theorem e0_list : e0.toList = [] := by simp [e0, ByteArray.toList_eq]
theorem eq_e0 {s : ByteArray} (h : s.toList = []) : s = e0 := by
  rw [ByteArray.toList_eq] at h
  obtain ⟨⟨l⟩⟩ := s
  simp only at h
  subst h
  rfl
end Go.Proofs.YtahdkffijlfmnaaGreatDoor.Hp
