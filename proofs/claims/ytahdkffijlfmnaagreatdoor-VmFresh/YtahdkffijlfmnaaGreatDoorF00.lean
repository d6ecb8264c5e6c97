import Derived.Sort.Walk0
import Derived.RowKit
import Derived.Lib.Strings
namespace Go.Proofs.YtahdkffijlfmnaaGreatDoor
open Go.RowKit

abbrev e0 : ByteArray := ⟨#[]⟩
/-- An instruction: its number, A, B. -/
abbrev In := Int × Int × Int
/-- A function. -/
structure En where
  name : ByteArray
  start : Int
  params : Int
  sorts : List Int
  result : Int
/-- A code. -/
structure Cd where
  ins : List In
  ens : List En
  txs : List ByteArray
  main : Int

/-! The tables. -/
def wdT : List ByteArray := [⟨#[110, 111, 112]⟩, ⟨#[105, 110, 116]⟩, ⟨#[98, 111, 111, 108]⟩, ⟨#[116, 101, 120, 116]⟩, ⟨#[108, 111, 97, 100]⟩, ⟨#[115, 116, 111, 114, 101]⟩, ⟨#[112, 111, 112]⟩, ⟨#[117, 110]⟩, ⟨#[98, 105, 110]⟩, ⟨#[106, 117, 109, 112]⟩, ⟨#[102, 97, 108, 115, 101]⟩, ⟨#[99, 97, 108, 108]⟩, ⟨#[114, 101, 116]⟩, ⟨#[100, 111, 110, 101]⟩, ⟨#[110, 101, 119]⟩, ⟨#[103, 101, 116]⟩, ⟨#[112, 117, 116]⟩, ⟨#[108, 101, 110]⟩, ⟨#[115, 116, 114]⟩, ⟨#[112, 114, 105, 110, 116]⟩, ⟨#[114, 101, 97, 100]⟩, ⟨#[101, 109, 105, 116]⟩, ⟨#[115, 104, 111, 119]⟩, ⟨#[116, 101, 108, 108]⟩]
def opA : List Nat := [0, 1, 2, 3, 4, 4, 0, 5, 6, 7, 7, 8, 0, 0, 9, 0, 0, 0, 0, 10, 0, 11, 11, 11]
def opB : List Nat := [0, 0, 0, 0, 0, 0, 0, 0, 0, 0, 0, 0, 0, 0, 0, 0, 0, 0, 0, 0, 0, 0, 4, 0]
def shLo : List Int := [0, -9223372036854775808, 0, 0, 0, 1, 3, 0, 0, 1, 1, 1, 0]
def shHi : List Int := [0, 9223372036854775807, 1, 3999, 249, 2, 13, 59999, 59, 15, 16, 40000, 8]
def shWd : List Nat := [0, 8, 1, 2, 1, 1, 1, 4, 1, 1, 1, 2, 1]
def sgT : List ByteArray := [⟨#[]⟩, ⟨#[45]⟩, ⟨#[33]⟩, ⟨#[43]⟩, ⟨#[45]⟩, ⟨#[42]⟩, ⟨#[47]⟩, ⟨#[37]⟩, ⟨#[61, 61]⟩, ⟨#[33, 61]⟩, ⟨#[60]⟩, ⟨#[60, 61]⟩, ⟨#[62]⟩, ⟨#[62, 61]⟩]
def tyT : List ByteArray := [⟨#[]⟩, ⟨#[105, 110, 116]⟩, ⟨#[98, 111, 111, 108]⟩, ⟨#[116, 101, 120, 116]⟩, ⟨#[]⟩, ⟨#[91, 105, 110, 116, 93]⟩, ⟨#[91, 98, 111, 111, 108, 93]⟩, ⟨#[91, 116, 101, 120, 116, 93]⟩, ⟨#[]⟩, ⟨#[91, 91, 105, 110, 116, 93, 93]⟩, ⟨#[91, 91, 98, 111, 111, 108, 93, 93]⟩, ⟨#[91, 91, 116, 101, 120, 116, 93, 93]⟩, ⟨#[]⟩, ⟨#[91, 91, 91, 105, 110, 116, 93, 93, 93]⟩, ⟨#[91, 91, 91, 98, 111, 111, 108, 93, 93, 93]⟩, ⟨#[91, 91, 91, 116, 101, 120, 116, 93, 93, 93]⟩, ⟨#[]⟩, ⟨#[91, 91, 91, 91, 105, 110, 116, 93, 93, 93, 93]⟩, ⟨#[91, 91, 91, 91, 98, 111, 111, 108, 93, 93, 93, 93]⟩, ⟨#[91, 91, 91, 91, 116, 101, 120, 116, 93, 93, 93, 93]⟩]

/-! Which codes may be. -/
def sortS (n : Int) : Bool := decide (0 < n) && (decide (n < 20) && !(tyT.getD n.toNat e0).data.toList.isEmpty)
def mayS (o : Nat) (n : Int) : Bool := decide (shLo.getD o 0 ≤ n) && (decide (n ≤ shHi.getD o 0) && (o != 9 || sortS n))
def insS (x : In) : Bool := decide (0 ≤ x.1) && (decide (x.1 < 24) && (mayS (opA.getD x.1.toNat 0) x.2.1 && mayS (opB.getD x.1.toNat 0) x.2.2))
def letB (b : UInt8) : Bool := (decide (97 ≤ b.toNat) && decide (b.toNat ≤ 122)) || (decide (65 ≤ b.toNat) && decide (b.toNat ≤ 90))
def digB (b : UInt8) : Bool := decide (48 ≤ b.toNat) && decide (b.toNat ≤ 57)
def nmB (b : UInt8) : Bool := letB b || digB b || b == 95
def nameS (l : List UInt8) : Bool := match l with
  | [] => false
  | c :: r => decide (r.length < 24) && (letB c && (c :: r).all nmB)
def entS (e : En) : Bool := nameS e.name.data.toList && decide (e.sorts.length ≤ 250) && decide (0 ≤ e.params) && decide (e.params ≤ 8) && decide (e.params ≤ (e.sorts.length : Int)) && (e.result == 0 || sortS e.result) && e.sorts.all sortS
def enAt (L : List En) (i : Nat) : En := L.getD i ⟨e0, 0, 0, [], 0⟩
def stAt (L : List En) (n i : Nat) : Bool := decide ((enAt L i).start < (n : Int)) && (i == 0 || decide ((enAt L (i - 1)).start < (enAt L i).start))
def stsS (L : List En) (n : Nat) : Bool := (enAt L 0).start == 0 && (List.range L.length).all (stAt L n)
def mayC (c : Cd) : Bool := decide (0 ≤ c.main) && decide (c.main < (c.ens.length : Int)) && stsS c.ens c.ins.length && c.ens.all entS && c.ins.all insS && c.txs.all (fun t => decide (t.size ≤ 200))
def bigC (c : Cd) : Bool := decide (60 < c.ens.length) || decide (60000 < c.ins.length) || decide (4000 < c.txs.length)
def validS (c : Cd) : Int := if bigC c then 2 else if mayC c then 0 else 130
end Go.Proofs.YtahdkffijlfmnaaGreatDoor
namespace Go.Proofs.YtahdkffijlfmnaaGreatDoor
open Go.RowKit

/-- The lowest byte of a number. -/
def byteOf (n : Int) : UInt8 := UInt8.ofNat (n % 256).toNat
theorem byteOf_nat (n : Int) : ((byteOf n).toNat : Int) = n % 256 := by
  unfold byteOf
  rw [UInt8.toNat_ofNat']
  omega
/-- A number's lowest bytes, the highest of them first. -/
def numB (n : Int) : Nat → List UInt8
  | 0 => []
  | k + 1 => byteOf (n / 2 ^ (8 * k)) :: numB n k
theorem numB_len (n : Int) : ∀ k, (numB n k).length = k
  | 0 => rfl
  | k + 1 => by rw [numB, List.length_cons, numB_len n k]
def txB (t : ByteArray) : List UInt8 := byteOf (t.size : Int) :: t.data.toList
def entB (e : En) : List UInt8 := txB e.name ++ (numB e.start 4 ++ (byteOf e.params :: byteOf (e.sorts.length : Int) :: (e.sorts.map byteOf ++ [byteOf e.result])))
def insB (x : In) : List UInt8 := byteOf x.1 :: (numB x.2.1 (shWd.getD (opA.getD x.1.toNat 0) 0) ++ numB x.2.2 (shWd.getD (opB.getD x.1.toNat 0) 0))
/-- The bytes of a code. -/
def encS (c : Cd) : List UInt8 := 67 :: byteOf c.main :: byteOf (c.ens.length : Int) :: (c.ens.flatMap entB ++ (numB (c.txs.length : Int) 2 ++ (c.txs.flatMap txB ++ (numB (c.ins.length : Int) 4 ++ c.ins.flatMap insB))))

/-! The reader, over lists: what is left, and whether something was not there. -/
def numV (l : List UInt8) : Int := l.foldl (fun n b => wrap64 (n * 256) + (b.toNat : Int)) 0
abbrev Rs := List UInt8 × Bool
def rdB (n : Nat) (s : Rs) : List UInt8 × Rs := if s.2 || decide (s.1.length < n) then ([], (s.1, true)) else (s.1.take n, (s.1.drop n, s.2))
def rdN (n : Nat) (s : Rs) : Int × Rs := (numV (rdB n s).1, (rdB n s).2)
def rdC (n m : Nat) (s : Rs) : Nat × Rs := if (m : Int) < (rdN n s).1 then (0, ((rdN n s).2.1, true)) else ((rdN n s).1.toNat, (rdN n s).2)
def rdT (s : Rs) : List UInt8 × Rs := rdB (rdN 1 s).1.toNat (rdN 1 s).2
/-- So many in a row. -/
def rep {α : Type} (f : Rs → α × Rs) : Nat → Rs → List α × Rs
  | 0, s => ([], s)
  | k + 1, s => ((f s).1 :: (rep f k (f s).2).1, (rep f k (f s).2).2)
def bk (l : List UInt8) : ByteArray := ⟨l.toArray⟩
def rdE (s : Rs) : En × Rs :=
  let t := rdT s
  let a := rdN 4 t.2
  let p := rdN 1 a.2
  let k := rdC 1 250 p.2
  let l := rep (rdN 1) k.1 k.2
  let r := rdN 1 l.2
  (⟨bk t.1, a.1, p.1, l.1, r.1⟩, r.2)
def rdI (s : Rs) : In × Rs :=
  let o := rdN 1 s
  if 24 ≤ o.1 then ((0, 0, 0), (o.2.1, true)) else
  let a := rdN (shWd.getD (opA.getD o.1.toNat 0) 0) o.2
  let b := rdN (shWd.getD (opB.getD o.1.toNat 0) 0) a.2
  ((o.1, a.1, b.1), b.2)
def rdCode (s : Rs) : Cd × Rs :=
  let m := rdN 1 s
  let k := rdC 1 60 m.2
  let e := rep rdE k.1 k.2
  let kt := rdC 2 4000 e.2
  let t := rep rdT kt.1 kt.2
  let ki := rdC 4 60000 t.2
  let i := rep rdI ki.1 ki.2
  (⟨i.1, e.1, t.1.map bk, m.1⟩, i.2)
/-- What Decode answers. -/
def decS (b : List UInt8) : Option Cd :=
  let m := rdN 1 (b, false)
  let c := rdCode m.2
  if m.1 ≠ 67 ∨ c.2.2 = true ∨ c.2.1 ≠ [] ∨ validS c.1 ≠ 0 then none else some c.1
end Go.Proofs.YtahdkffijlfmnaaGreatDoor
namespace Go.Proofs.YtahdkffijlfmnaaGreatDoor
open Go.RowKit

theorem numV_snoc (l : List UInt8) (b : UInt8) : numV (l ++ [b]) = wrap64 (numV l * 256) + (b.toNat : Int) := by
  unfold numV
  rw [List.foldl_append]
  rfl
theorem numB_snoc (n : Int) : ∀ k, numB n (k + 1) = numB (n / 256) k ++ [byteOf n]
  | 0 => by simp [numB]
  | k + 1 => by
    rw [numB, numB_snoc n k, numB, List.cons_append]
    congr 2
    rw [show 8 * (k + 1) = 8 + 8 * k by omega, Int.pow_add, Int.ediv_ediv, if_neg (by rintro ⟨h, _⟩; omega), Int.sub_zero, show (2 : Int) ^ 8 = 256 by decide]
theorem nv1 (m : Int) : numV (numB m 1) = m % 256 := by
  rw [numB_snoc, numV_snoc, byteOf_nat]
  show wrap64 (0 * 256) + _ = _
  unfold wrap64
  omega
theorem nv2 (m : Int) : numV (numB m 2) = m % 65536 := by
  rw [numB_snoc, numV_snoc, byteOf_nat, nv1]
  unfold wrap64
  omega
theorem nv3 (m : Int) : numV (numB m 3) = m % 16777216 := by
  rw [numB_snoc, numV_snoc, byteOf_nat, nv2]
  unfold wrap64
  omega
theorem nv4 (m : Int) : numV (numB m 4) = m % 4294967296 := by
  rw [numB_snoc, numV_snoc, byteOf_nat, nv3]
  unfold wrap64
  omega
theorem nv5 (m : Int) : numV (numB m 5) = m % 1099511627776 := by
  rw [numB_snoc, numV_snoc, byteOf_nat, nv4]
  unfold wrap64
  omega
theorem nv6 (m : Int) : numV (numB m 6) = m % 281474976710656 := by
  rw [numB_snoc, numV_snoc, byteOf_nat, nv5]
  unfold wrap64
  omega
theorem nv7 (m : Int) : numV (numB m 7) = m % 72057594037927936 := by
  rw [numB_snoc, numV_snoc, byteOf_nat, nv6]
  unfold wrap64
  omega
theorem num8 (n : Int) (h0 : -9223372036854775808 ≤ n) (h1 : n ≤ 9223372036854775807) : numV (numB n 8) = n := by
  rw [numB_snoc, numV_snoc, byteOf_nat, nv7]
  unfold wrap64
  omega
theorem byteOf_low {n m : Int} (e : n % 72057594037927936 = m % 72057594037927936) {a : Int} (h : a = 1 ∨ a = 256 ∨ a = 65536 ∨ a = 16777216 ∨ a = 4294967296 ∨ a = 1099511627776 ∨ a = 281474976710656) : byteOf (n / a) = byteOf (m / a) := by
  unfold byteOf
  rcases h with rfl | rfl | rfl | rfl | rfl | rfl | rfl <;> congr 2 <;> omega
theorem numB_low {n m : Int} (e : n % 72057594037927936 = m % 72057594037927936) : ∀ k, k ≤ 7 → numB n k = numB m k
  | 0, _ => rfl
  | k + 1, h => by
    rw [numB, numB, numB_low e k (by omega)]
    congr 1
    refine byteOf_low e ?_
    match k, h with
    | 0, _ => decide
    | 1, _ => decide
    | 2, _ => decide
    | 3, _ => decide
    | 4, _ => decide
    | 5, _ => decide
    | 6, _ => decide
theorem byteOf_of (x : Int) (b : UInt8) (h : x % 256 = (b.toNat : Int)) : byteOf x = b := by
  apply UInt8.toNat_inj.1
  have := byteOf_nat x
  omega
/-- What was read is written as it was. -/
theorem numB_numV : ∀ k (l : List UInt8), l.length = k → k ≤ 8 → numB (numV l) k = l
  | 0, l, h, _ => by rw [List.length_eq_zero_iff.1 h]; rfl
  | k + 1, l, h, hk => by
    obtain ⟨i, b, rfl⟩ : ∃ i b, l = i ++ [b] := ⟨l.dropLast, l.getLast (by intro e; simp [e] at h), (List.dropLast_concat_getLast _).symm⟩
    have hi : i.length = k := by simpa using h
    have ih := numB_numV k i hi (by omega)
    have hb := b.toNat_lt
    rw [numB_snoc, numV_snoc]
    have e1 : byteOf (wrap64 (numV i * 256) + (b.toNat : Int)) = b := byteOf_of _ _ (by unfold wrap64; omega)
    rw [e1]
    congr 1
    refine Eq.trans (numB_low (m := numV i) ?_ k (by omega)) ih
    unfold wrap64
    omega

theorem numV_rg : ∀ (k : Nat) (l : List UInt8), l.length = k → k ≤ 7 → 0 ≤ numV l ∧ numV l < 256 ^ k
  | 0, l, h, _ => by rw [List.length_eq_zero_iff.1 h]; exact ⟨by decide, by decide⟩
  | k + 1, l, h, hk => by
    obtain ⟨i, b, rfl⟩ : ∃ i b, l = i ++ [b] := ⟨l.dropLast, l.getLast (by intro e; simp [e] at h), (List.dropLast_concat_getLast _).symm⟩
    have hi : i.length = k := by simpa using h
    obtain ⟨h0, h1⟩ := numV_rg k i hi (by omega)
    rw [numV_snoc]
    have hb := b.toNat_lt
    have h2 : (256 : Int) ^ k ≤ 281474976710656 := by
      have : k = 0 ∨ k = 1 ∨ k = 2 ∨ k = 3 ∨ k = 4 ∨ k = 5 ∨ k = 6 := by omega
      rcases this with e | e | e | e | e | e | e <;> rw [e] <;> decide
    have e : wrap64 (numV i * 256) = numV i * 256 := by unfold wrap64; omega
    rw [e, Int.pow_succ]
    omega
theorem numV_range (l : List UInt8) (h : l.length ≤ 7) : 0 ≤ numV l ∧ numV l < 256 ^ l.length := numV_rg _ l rfl h

/-! What was written is read. -/
theorem rdB_app (a b : List UInt8) : rdB a.length (a ++ b, false) = (a, (b, false)) := by
  unfold rdB
  rw [if_neg (by simp)]
  simp
theorem rdN_app (n : Int) (k : Nat) (b : List UInt8) : rdN k (numB n k ++ b, false) = (numV (numB n k), (b, false)) := by
  unfold rdN
  have := rdB_app (numB n k) b
  rw [numB_len] at this
  rw [this]
theorem rd1 {n : Int} (h0 : 0 ≤ n) (h1 : n < 256) (b : List UInt8) : rdN 1 (byteOf n :: b, false) = (n, (b, false)) := by
  have := rdN_app n 1 b
  rw [nv1] at this
  have e : numB n 1 = [byteOf n] := by simp [numB]
  rw [e] at this
  rw [show byteOf n :: b = [byteOf n] ++ b from rfl, this, Int.emod_eq_of_lt h0 h1]
theorem rd2 {n : Int} (h0 : 0 ≤ n) (h1 : n < 65536) (b : List UInt8) : rdN 2 (numB n 2 ++ b, false) = (n, (b, false)) := by
  rw [rdN_app, nv2, Int.emod_eq_of_lt h0 h1]
theorem rd4 {n : Int} (h0 : 0 ≤ n) (h1 : n < 4294967296) (b : List UInt8) : rdN 4 (numB n 4 ++ b, false) = (n, (b, false)) := by
  rw [rdN_app, nv4, Int.emod_eq_of_lt h0 h1]
theorem rd0 (b : List UInt8) : rdN 0 (b, false) = (0, (b, false)) := by
  have := rdN_app 0 0 b
  exact this
theorem rdT_app {t : ByteArray} (h : t.size < 256) (b : List UInt8) : rdT (txB t ++ b, false) = (t.data.toList, (b, false)) := by
  unfold rdT txB
  rw [List.cons_append, rd1 (by omega) (by omega)]
  have := rdB_app t.data.toList b
  rw [← Lib.size_eq] at this
  simpa using this
theorem rep_app {α : Type} (f : Rs → α × Rs) (g : α → List UInt8) : ∀ (l : List α) (b : List UInt8), (∀ x ∈ l, ∀ b, f (g x ++ b, false) = (x, (b, false))) → rep f l.length (l.flatMap g ++ b, false) = (l, (b, false))
  | [], b, _ => rfl
  | x :: l, b, h => by
    rw [List.flatMap_cons, List.append_assoc, List.length_cons, rep, h x (List.mem_cons_self ..), rep_app f g l b (fun y hy => h y (List.mem_cons_of_mem _ hy))]
theorem rdC_app {n : Nat} {m k : Nat} {l b : List UInt8} (h : rdN k (l, false) = ((n : Int), (b, false))) (hm : n ≤ m) : rdC k m (l, false) = (n, (b, false)) := by
  unfold rdC
  rw [h]
  simp only
  rw [if_neg (by omega)]
  simp
theorem sort_rng {n : Int} (h : sortS n = true) : 0 < n ∧ n < 20 := by
  unfold sortS at h
  simp only [Bool.and_eq_true, decide_eq_true_eq] at h
  exact ⟨h.1, h.2.1⟩
theorem bk_all (t : ByteArray) : bk t.data.toList = t := by simp [bk]
theorem bk_data (l : List UInt8) : (bk l).data.toList = l := by simp [bk]
theorem bk_size (l : List UInt8) : (bk l).size = l.length := by simp [bk, ByteArray.size]
theorem name_len {l : List UInt8} (h : nameS l = true) : 0 < l.length ∧ l.length ≤ 24 := by
  cases l with
  | nil => cases h
  | cons c r =>
    simp only [nameS, Bool.and_eq_true, decide_eq_true_eq] at h
    simp only [List.length_cons]
    omega
structure EntOk (e : En) : Prop where
  nm : nameS e.name.data.toList = true
  sl : e.sorts.length ≤ 250
  p0 : 0 ≤ e.params
  p8 : e.params ≤ 8
  pl : e.params ≤ (e.sorts.length : Int)
  rs : e.result = 0 ∨ sortS e.result = true
  ss : ∀ x ∈ e.sorts, sortS x = true
theorem ent_ok {e : En} : entS e = true ↔ EntOk e := by
  unfold entS
  simp only [Bool.and_eq_true, decide_eq_true_eq, Bool.or_eq_true, beq_iff_eq, List.all_eq_true]
  exact ⟨fun ⟨⟨⟨⟨⟨⟨a, b⟩, c⟩, d⟩, f⟩, g⟩, h⟩ => ⟨a, b, c, d, f, g, h⟩, fun ⟨a, b, c, d, f, g, h⟩ => ⟨⟨⟨⟨⟨⟨a, b⟩, c⟩, d⟩, f⟩, g⟩, h⟩⟩
theorem rep_num : ∀ (l : List Int) (b : List UInt8), (∀ x ∈ l, 0 ≤ x ∧ x < 256) → rep (rdN 1) l.length (l.map byteOf ++ b, false) = (l, (b, false))
  | [], b, _ => rfl
  | x :: l, b, h => by
    have hx := h x (List.mem_cons_self ..)
    rw [List.map_cons, List.cons_append, List.length_cons, rep, rd1 hx.1 hx.2, rep_num l b (fun y hy => h y (List.mem_cons_of_mem _ hy))]
theorem rdE_app {e : En} (h : entS e = true) (h0 : 0 ≤ e.start) (h1 : e.start < 60000) (b : List UInt8) : rdE (entB e ++ b, false) = (e, (b, false)) := by
  have k := ent_ok.1 h
  have hn := name_len k.nm
  have hsz : e.name.size < 256 := by rw [Lib.size_eq]; omega
  have hr : 0 ≤ e.result ∧ e.result < 256 := by
    rcases k.rs with q | q
    · omega
    · have := sort_rng q; omega
  have h8 := k.p8
  unfold rdE entB
  simp only [List.append_assoc, List.cons_append, rdT_app hsz, rd4 h0 (by omega : e.start < 4294967296), rd1 k.p0 (by omega : e.params < 256)]
  rw [rdC_app (rd1 (by omega) (by have := k.sl; omega) _) k.sl]
  simp only
  rw [rep_num _ _ (fun x hx => by have := sort_rng (k.ss x hx); omega)]
  simp only [List.nil_append]
  rw [rd1 hr.1 hr.2, bk_all]
theorem wd_may {o : Nat} {n : Int} (ho : o < 13) (h : mayS o n = true) (b : List UInt8) : rdN (shWd.getD o 0) (numB n (shWd.getD o 0) ++ b, false) = (n, (b, false)) := by
  unfold mayS at h
  simp only [Bool.and_eq_true, decide_eq_true_eq] at h
  obtain ⟨h1, h2, -⟩ := h
  rw [rdN_app]
  have : o = 0 ∨ o = 1 ∨ o = 2 ∨ o = 3 ∨ o = 4 ∨ o = 5 ∨ o = 6 ∨ o = 7 ∨ o = 8 ∨ o = 9 ∨ o = 10 ∨ o = 11 ∨ o = 12 := by omega
  congr 1
  rcases this with rfl | rfl | rfl | rfl | rfl | rfl | rfl | rfl | rfl | rfl | rfl | rfl | rfl
  case inl =>
    have e1 : shLo.getD 0 0 = 0 := rfl
    have e2 : shHi.getD 0 0 = 0 := rfl
    show numV [] = n
    have : numV [] = 0 := rfl
    omega
  case inr.inl =>
    have e1 : shLo.getD 1 0 = -9223372036854775808 := rfl
    have e2 : shHi.getD 1 0 = 9223372036854775807 := rfl
    exact num8 n (by omega) (by omega)
  all_goals
    simp only [shLo, shHi, List.getD_cons_succ, List.getD_cons_zero] at h1 h2
    simp only [shWd, List.getD_cons_succ, List.getD_cons_zero]
    first | rw [nv1] | rw [nv2] | rw [nv4]
    omega
theorem opA_lt (k : Nat) : opA.getD k 0 < 13 := by
  by_cases h : k < 24
  · exact (by decide : ∀ k : Fin 24, opA.getD k.1 0 < 13) ⟨k, h⟩
  · rw [List.getD_eq_getElem?_getD, List.getElem?_eq_none (by simp [opA]; omega)]; decide
theorem opB_lt (k : Nat) : opB.getD k 0 < 13 := by
  by_cases h : k < 24
  · exact (by decide : ∀ k : Fin 24, opB.getD k.1 0 < 13) ⟨k, h⟩
  · rw [List.getD_eq_getElem?_getD, List.getElem?_eq_none (by simp [opB]; omega)]; decide
theorem rdI_app {x : In} (h : insS x = true) (b : List UInt8) : rdI (insB x ++ b, false) = (x, (b, false)) := by
  unfold insS at h
  simp only [Bool.and_eq_true, decide_eq_true_eq] at h
  obtain ⟨h1, h2, h3, h4⟩ := h
  unfold rdI insB
  simp only [List.cons_append, List.append_assoc, rd1 h1 (by omega : x.1 < 256)]
  rw [if_neg (by omega), wd_may (opA_lt _) h3]
  simp only
  rw [wd_may (opB_lt _) h4]
structure CodeOk (c : Cd) : Prop where
  el : c.ens.length ≤ 60
  il : c.ins.length ≤ 60000
  tl : c.txs.length ≤ 4000
  m0 : 0 ≤ c.main
  ml : c.main < (c.ens.length : Int)
  st : stsS c.ens c.ins.length = true
  es : ∀ e ∈ c.ens, entS e = true
  is : ∀ x ∈ c.ins, insS x = true
  ts : ∀ t ∈ c.txs, t.size ≤ 200
theorem code_ok {c : Cd} : validS c = 0 ↔ CodeOk c := by
  unfold validS
  have hb : bigC c = true ↔ ¬ (c.ens.length ≤ 60 ∧ c.ins.length ≤ 60000 ∧ c.txs.length ≤ 4000) := by
    unfold bigC
    simp only [Bool.or_eq_true, decide_eq_true_eq]
    omega
  have hm : mayC c = true ↔ (0 ≤ c.main ∧ c.main < (c.ens.length : Int) ∧ stsS c.ens c.ins.length = true ∧ (∀ e ∈ c.ens, entS e = true) ∧ (∀ x ∈ c.ins, insS x = true) ∧ (∀ t ∈ c.txs, t.size ≤ 200)) := by
    unfold mayC
    simp only [Bool.and_eq_true, decide_eq_true_eq, List.all_eq_true]
    exact ⟨fun ⟨⟨⟨⟨⟨a, b⟩, c⟩, d⟩, f⟩, g⟩ => ⟨a, b, c, d, f, g⟩, fun ⟨a, b, c, d, f, g⟩ => ⟨⟨⟨⟨⟨a, b⟩, c⟩, d⟩, f⟩, g⟩⟩
  constructor
  · intro h
    by_cases h1 : bigC c = true
    · rw [if_pos h1] at h; cases h
    · rw [if_neg h1] at h
      by_cases h2 : mayC c = true
      · rw [hb, Decidable.not_not] at h1
        obtain ⟨a, b, d, f, g, i⟩ := hm.1 h2
        exact ⟨h1.1, h1.2.1, h1.2.2, a, b, d, f, g, i⟩
      · rw [if_neg h2] at h; cases h
  · intro h
    rw [if_neg (by rw [hb, Decidable.not_not]; exact ⟨h.el, h.il, h.tl⟩), if_pos (hm.2 ⟨h.m0, h.ml, h.st, h.es, h.is, h.ts⟩)]
theorem st_get {L : List En} {n : Nat} (h : stsS L n = true) : (enAt L 0).start = 0 ∧ ∀ i, i < L.length → (enAt L i).start < (n : Int) ∧ (0 < i → (enAt L (i - 1)).start < (enAt L i).start) := by
  unfold stsS at h
  simp only [Bool.and_eq_true, beq_iff_eq, List.all_eq_true, List.mem_range] at h
  refine ⟨h.1, fun i hi => ?_⟩
  have h2 := h.2 i hi
  unfold stAt at h2
  simp only [Bool.and_eq_true, decide_eq_true_eq, Bool.or_eq_true, beq_iff_eq] at h2
  exact ⟨h2.1, fun h0 => by rcases h2.2 with q | q; omega; exact q⟩
theorem st_pos {L : List En} {n : Nat} (h : stsS L n = true) : ∀ i, i < L.length → 0 ≤ (enAt L i).start
  | 0, _ => by have := (st_get h).1; omega
  | i + 1, hi => by
    have h1 := st_pos h i (by omega)
    have h2 := ((st_get h).2 (i + 1) hi).2 (by omega)
    rw [Nat.add_sub_cancel] at h2
    omega
theorem st_mem {L : List En} {n : Nat} (h : stsS L n = true) {e : En} (he : e ∈ L) : 0 ≤ e.start ∧ e.start < (n : Int) := by
  obtain ⟨i, hi, rfl⟩ := List.getElem_of_mem he
  have e1 : enAt L i = L[i] := by unfold enAt; rw [List.getD_eq_getElem?_getD, List.getElem?_eq_getElem hi]; rfl
  have h1 := st_pos h i hi
  have h2 := ((st_get h).2 i hi).1
  rw [e1] at h1 h2
  exact ⟨h1, h2⟩
theorem rep_tx : ∀ (l : List ByteArray) (b : List UInt8), (∀ t ∈ l, t.size ≤ 200) → rep rdT l.length (l.flatMap txB ++ b, false) = (l.map (fun t => t.data.toList), (b, false))
  | [], b, _ => rfl
  | x :: l, b, h => by
    have hx := h x (List.mem_cons_self ..)
    rw [List.flatMap_cons, List.append_assoc, List.length_cons, rep, rdT_app (by omega), rep_tx l b (fun y hy => h y (List.mem_cons_of_mem _ hy))]
    rfl
/-- A code that may be is read from its bytes. -/
theorem dec_enc {c : Cd} (h : validS c = 0) : decS (encS c) = some c := by
  have k := code_ok.1 h
  have hel := k.el
  have hil := k.il
  have htl := k.tl
  have hml := k.ml
  have e1 : rdN 1 (encS c, false) = (67, ((encS c).drop 1, false)) := by
    have := rd1 (n := 67) (by decide) (by decide) ((encS c).drop 1)
    exact this
  have e2 : rdCode ((encS c).drop 1, false) = (c, ([], false)) := by
    show rdCode (byteOf c.main :: byteOf (c.ens.length : Int) :: _, false) = _
    unfold rdCode
    simp only [rd1 k.m0 (by omega : c.main < 256)]
    rw [rdC_app (rd1 (by omega) (by omega) _) hel]
    simp only
    rw [rep_app rdE entB c.ens _ (fun e he b => rdE_app (k.es e he) (st_mem k.st he).1 (by have := (st_mem k.st he).2; omega) b)]
    simp only
    rw [rdC_app (rd2 (by omega) (by omega) _) htl]
    simp only
    rw [rep_tx c.txs _ k.ts]
    simp only
    rw [rdC_app (rd4 (by omega) (by omega) _) hil]
    simp only
    have := rep_app rdI insB c.ins [] (fun x hx b => rdI_app (k.is x hx) b)
    rw [List.append_nil] at this
    rw [this]
    simp only [List.map_map]
    have e : (bk ∘ fun t : ByteArray => t.data.toList) = id := funext fun t => bk_all t
    rw [e, List.map_id]
  unfold decS
  simp only [e1, e2]
  rw [if_neg (by rintro (q | q | q | q); exact q rfl; cases q; exact q rfl; exact q h)]

/-! What was read was written so. -/
theorem rdB_only {n : Nat} {s : Rs} (h : (rdB n s).2.2 = false) : s.2 = false ∧ s.1 = (rdB n s).1 ++ (rdB n s).2.1 ∧ (rdB n s).1.length = n := by
  unfold rdB at h ⊢
  by_cases hc : (s.2 || decide (s.1.length < n)) = true
  · rw [if_pos hc] at h; cases h
  · rw [if_neg hc] at h ⊢
    simp only [Bool.or_eq_true, decide_eq_true_eq, not_or, Bool.not_eq_true] at hc
    exact ⟨hc.1, (List.take_append_drop _ _).symm, by simp only [List.length_take]; omega⟩
theorem rdN_only {n : Nat} (hn : n ≤ 8) {s : Rs} (h : (rdN n s).2.2 = false) : s.2 = false ∧ s.1 = numB (rdN n s).1 n ++ (rdN n s).2.1 := by
  obtain ⟨h1, h2, h3⟩ := rdB_only (s := s) (n := n) h
  refine ⟨h1, ?_⟩
  show s.1 = numB (numV (rdB n s).1) n ++ (rdB n s).2.1
  rw [numB_numV n _ h3 hn]
  exact h2
theorem numV_one (l : List UInt8) (h : l.length ≤ 1) : 0 ≤ numV l ∧ numV l < 256 := by
  have := numV_range l (by omega)
  refine ⟨this.1, ?_⟩
  have : l.length = 0 ∨ l.length = 1 := by omega
  rcases this with e | e
  · rw [List.length_eq_zero_iff.1 e]; decide
  · have h2 := (numV_range l (by omega)).2
    rw [e] at h2
    exact h2
theorem rdB_len (n : Nat) (s : Rs) : (rdB n s).1.length ≤ n := by
  unfold rdB
  split
  · exact Nat.zero_le _
  · simp only [List.length_take]; omega
theorem rdN_rng (n : Nat) (hn : n ≤ 7) (s : Rs) : 0 ≤ (rdN n s).1 := (numV_range _ (by have := rdB_len n s; omega)).1
theorem rd1_only {s : Rs} (h : (rdN 1 s).2.2 = false) : s.2 = false ∧ s.1 = byteOf (rdN 1 s).1 :: (rdN 1 s).2.1 := by
  obtain ⟨h1, h2⟩ := rdN_only (n := 1) (by decide) h
  refine ⟨h1, ?_⟩
  rw [h2]
  simp [numB]
theorem rdC_only {n m : Nat} (hn : n ≤ 7) {s : Rs} (h : (rdC n m s).2.2 = false) : s.2 = false ∧ s.1 = numB ((rdC n m s).1 : Int) n ++ (rdC n m s).2.1 := by
  unfold rdC at h ⊢
  by_cases hc : (m : Int) < (rdN n s).1
  · rw [if_pos hc] at h; cases h
  · rw [if_neg hc] at h ⊢
    obtain ⟨h1, h2⟩ := rdN_only (by omega) h
    refine ⟨h1, ?_⟩
    simp only [Int.toNat_of_nonneg (rdN_rng n hn s)]
    exact h2
theorem rdT_only {s : Rs} (h : (rdT s).2.2 = false) : s.2 = false ∧ s.1 = txB (bk (rdT s).1) ++ (rdT s).2.1 := by
  unfold rdT at h ⊢
  obtain ⟨h1, h2, h3⟩ := rdB_only h
  obtain ⟨h4, h5⟩ := rd1_only h1
  refine ⟨h4, ?_⟩
  unfold txB
  rw [bk_size, bk_data, h3, Int.toNat_of_nonneg (rdN_rng 1 (by decide) s), List.cons_append, ← h2]
  exact h5
theorem rep_only {α : Type} (f : Rs → α × Rs) (g : α → List UInt8) (hf : ∀ s, (f s).2.2 = false → s.2 = false ∧ s.1 = g (f s).1 ++ (f s).2.1) : ∀ (k : Nat) (s : Rs), (rep f k s).2.2 = false → s.2 = false ∧ s.1 = (rep f k s).1.flatMap g ++ (rep f k s).2.1
  | 0, s, h => ⟨h, rfl⟩
  | k + 1, s, h => by
    rw [rep] at h ⊢
    obtain ⟨h1, h2⟩ := rep_only f g hf k _ h
    obtain ⟨h3, h4⟩ := hf s h1
    refine ⟨h3, ?_⟩
    simp only [List.flatMap_cons, List.append_assoc]
    rw [← h2]
    exact h4
theorem rep_len {α : Type} (f : Rs → α × Rs) : ∀ (k : Nat) (s : Rs), (rep f k s).1.length = k
  | 0, s => rfl
  | k + 1, s => by rw [rep, List.length_cons, rep_len f k]
theorem rdE_only {s : Rs} (h : (rdE s).2.2 = false) : s.2 = false ∧ s.1 = entB (rdE s).1 ++ (rdE s).2.1 := by
  unfold rdE at h ⊢
  simp only at h ⊢
  obtain ⟨a1, a2⟩ := rd1_only h
  obtain ⟨b1, b2⟩ := rep_only (rdN 1) (fun n => [byteOf n]) (fun s q => rd1_only q) _ _ a1
  obtain ⟨c1, c2⟩ := rdC_only (by decide) b1
  obtain ⟨d1, d2⟩ := rd1_only c1
  obtain ⟨f1, f2⟩ := rdN_only (by decide) d1
  obtain ⟨g1, g2⟩ := rdT_only f1
  refine ⟨g1, ?_⟩
  rw [g2, f2, d2, c2, b2, a2]
  unfold entB
  simp only [rep_len, List.append_assoc, List.cons_append, List.nil_append]
  congr 4
  simp [numB, List.map_eq_flatMap]
theorem rdI_only {s : Rs} (h : (rdI s).2.2 = false) : s.2 = false ∧ s.1 = insB (rdI s).1 ++ (rdI s).2.1 := by
  unfold rdI at h ⊢
  simp only at h ⊢
  by_cases hc : 24 ≤ (rdN 1 s).1
  · rw [if_pos hc] at h; cases h
  · rw [if_neg hc] at h ⊢
    have w8 : ∀ o, shWd.getD o 0 ≤ 8 := fun o => by
      by_cases ho : o < 13
      · exact (by decide : ∀ k : Fin 13, shWd.getD k.1 0 ≤ 8) ⟨o, ho⟩
      · rw [List.getD_eq_getElem?_getD, List.getElem?_eq_none (by simp [shWd]; omega)]; decide
    obtain ⟨a1, a2⟩ := rdN_only (w8 _) h
    obtain ⟨b1, b2⟩ := rdN_only (w8 _) a1
    obtain ⟨c1, c2⟩ := rd1_only b1
    refine ⟨c1, ?_⟩
    rw [c2, b2, a2]
    unfold insB
    simp only [List.append_assoc, List.cons_append]
theorem rdCode_only {s : Rs} (h : (rdCode s).2.2 = false) : s.2 = false ∧ 67 :: s.1 = encS (rdCode s).1 ++ (rdCode s).2.1 := by
  unfold rdCode at h ⊢
  simp only at h ⊢
  obtain ⟨a1, a2⟩ := rep_only rdI insB (fun s q => rdI_only q) _ _ h
  obtain ⟨b1, b2⟩ := rdC_only (by decide) a1
  obtain ⟨c1, c2⟩ := rep_only rdT (fun t => txB (bk t)) (fun s q => rdT_only q) _ _ b1
  obtain ⟨d1, d2⟩ := rdC_only (by decide) c1
  obtain ⟨f1, f2⟩ := rep_only rdE entB (fun s q => rdE_only q) _ _ d1
  obtain ⟨g1, g2⟩ := rdC_only (by decide) f1
  obtain ⟨k1, k2⟩ := rd1_only g1
  refine ⟨k1, ?_⟩
  rw [k2, g2, f2, d2, c2, b2, a2]
  unfold encS
  simp only [rep_len, List.length_map, List.append_assoc, List.cons_append, List.flatMap_map]
  simp [numB]
/-- What is read has these bytes. -/
theorem enc_dec {b : List UInt8} {c : Cd} (h : decS b = some c) : encS c = b ∧ validS c = 0 := by
  unfold decS at h
  simp only at h
  split at h
  · cases h
  · rename_i hc
    simp only [not_or, ne_eq, Decidable.not_not, Bool.not_eq_true] at hc
    obtain ⟨h1, h2, h3, h4⟩ := hc
    cases h
    refine ⟨?_, h4⟩
    obtain ⟨a1, a2⟩ := rdCode_only h2
    rw [h3, List.append_nil] at a2
    obtain ⟨b1, b2⟩ := rd1_only a1
    simp only at b2
    rw [h1] at b2
    rw [← a2, b2]
    rfl
end Go.Proofs.YtahdkffijlfmnaaGreatDoor

namespace Go.Proofs.YtahdkffijlfmnaaGreatDoor.Hp
open Go.RowKit

/-- A value and a trap: kind, int, text, trap. -/
abbrev VT := Int × Int × ByteArray × Int
abbrev e0 : ByteArray := ⟨#[]⟩
def stuckS : VT := (0, 0, e0, 7)
def numS (n : Int) : VT := (1, n, e0, 0)
def bit (b : Bool) : Int := if b = true then 1 else 0
def truS (b : Bool) : VT := (2, bit b, e0, 0)
/-- The order of two ints. -/
def cmpI (a b : Int) : Int := if a < b then -1 else if a = b then 0 else 1
/-- The order of two texts. -/
def cmpT (a b : ByteArray) : Int := if Op.bytesLess a.toList b.toList = true then -1 else if a.toList = b.toList then 0 else 1
/-- A comparison, from the order. -/
def cmpS (op o : Int) : VT :=
  if op = 8 then truS (o == 0) else if op = 9 then truS (o != 0) else if op = 10 then truS (decide (o < 0)) else if op = 11 then truS (decide (o ≤ 0))
  else if op = 12 then truS (decide (0 < o)) else if op = 13 then truS (decide (0 ≤ o)) else stuckS
/-- Of two ints. -/
def intsS (op a b : Int) : VT :=
  if op = 3 then numS (wrap64 (a + b)) else if op = 4 then numS (wrap64 (a - b)) else if op = 5 then numS (wrap64 (a * b))
  else if op = 6 then (if b = 0 then (0, 0, e0, 1) else numS (wrap64 (a.tdiv b))) else if op = 7 then (if b = 0 then (0, 0, e0, 1) else numS (a.tmod b))
  else cmpS op (cmpI a b)
/-- Of two texts. -/
def textsS (op : Int) (a b : ByteArray) : VT :=
  if op = 3 then (if 256 < a.size + b.size then (0, 0, e0, 6) else (3, 0, a ++ b, 0)) else cmpS op (cmpT a b)
/-- Of two bools or references. -/
def namesS (op a b : Int) : VT := if op = 8 ∨ op = 9 then cmpS op (cmpI a b) else stuckS
/-- May it be? -/
def okV (k n : Int) (s : ByteArray) : Bool :=
  if k = 0 then n == 0 && s.toList == [] else if k = 1 then s.toList == [] else if k = 2 then (n == 0 || n == 1) && s.toList == []
  else if k = 3 then n == 0 && decide (s.size ≤ 256) else if k = 4 then decide (0 ≤ n) && s.toList == [] else false
/-- What Binary answers. -/
def binS (op k n : Int) (s : ByteArray) (k' n' : Int) (s' : ByteArray) : VT :=
  if okV k n s = true ∧ k' = k ∧ okV k' n' s' = true then
    (if k = 1 then intsS op n n' else if k = 3 then textsS op s s' else if k = 2 ∨ k = 4 then namesS op n n' else stuckS)
  else stuckS
def unS (op k n : Int) (s : ByteArray) : VT :=
  if op = 1 ∧ k = 1 ∧ okV k n s = true then numS (wrap64 (-n)) else if op = 2 ∧ k = 2 ∧ okV k n s = true then truS (n == 0) else stuckS
def atS (k n : Int) (s : ByteArray) (k' n' : Int) (s' : ByteArray) : VT :=
  if k = 3 ∧ okV k n s = true ∧ k' = 1 ∧ okV k' n' s' = true then (if n' < 0 ∨ (s.size : Int) ≤ n' then (0, 0, e0, 2) else numS ((s.data.toList.getD n'.toNat 0).toNat : Int)) else stuckS

theorem wrap_mod (x : Int) : wrap64 x % 18446744073709551616 = x % 18446744073709551616 := by unfold wrap64; omega
theorem wrap_eq {x y : Int} (h : x % 18446744073709551616 = y % 18446744073709551616) : wrap64 x = wrap64 y := by unfold wrap64; omega
theorem wrap_in {x : Int} (h : -9223372036854775808 ≤ x ∧ x ≤ 9223372036854775807) : wrap64 x = x := by unfold wrap64; omega
theorem wrap_rng (x : Int) : -9223372036854775808 ≤ wrap64 x ∧ wrap64 x ≤ 9223372036854775807 := by unfold wrap64; omega
theorem wrap_wrap (x : Int) : wrap64 (wrap64 x) = wrap64 x := wrap_in (wrap_rng x)
theorem wrap_add_l (x y : Int) : wrap64 (wrap64 x + y) = wrap64 (x + y) := wrap_eq (by rw [Int.add_emod, wrap_mod, ← Int.add_emod])
theorem wrap_add_r (x y : Int) : wrap64 (x + wrap64 y) = wrap64 (x + y) := wrap_eq (by rw [Int.add_emod, wrap_mod, ← Int.add_emod])
theorem wrap_mul_l (x y : Int) : wrap64 (wrap64 x * y) = wrap64 (x * y) := wrap_eq (by rw [Int.mul_emod, wrap_mod, ← Int.mul_emod])
theorem wrap_mul_r (x y : Int) : wrap64 (x * wrap64 y) = wrap64 (x * y) := wrap_eq (by rw [Int.mul_emod, wrap_mod, ← Int.mul_emod])

theorem e0_list : e0.toList = [] := by simp [e0, ByteArray.toList_eq]
theorem eq_e0 {s : ByteArray} (h : s.toList = []) : s = e0 := by
  rw [ByteArray.toList_eq] at h
  obtain ⟨⟨l⟩⟩ := s
  simp only at h
  subst h
  rfl
end Go.Proofs.YtahdkffijlfmnaaGreatDoor.Hp
