import Derived.Lib.ParseIntBTie
import Derived.Lib.ItoaMem
import Derived.Test.YtahdkffijlfmnaaGreatDoorF00
namespace Go.Proofs.YtahdkffijlfmnaaGreatDoor
open Go.RowKit

abbrev Bs := List UInt8
/-! The text of a code. -/
def opW (o : Nat) (n : Int) : Bs :=
  if o = 2 then (if n = 1 then [116, 114, 117, 101] else [102, 97, 108, 115, 101]) else if o = 5 ∨ o = 6 then (sgT.getD n.toNat e0).data.toList else if o = 9 then (tyT.getD n.toNat e0).data.toList else Lib.itoa n
def joinW : List Bs → Bs
  | [] => []
  | [w] => w
  | w :: r => w ++ (32 :: joinW r)
def lnS (ws : List Bs) : Bs := joinW ws ++ [10]
def hexD (n : Nat) : UInt8 := if n < 10 then UInt8.ofNat (48 + n) else UInt8.ofNat (87 + n)
def pcS (b : UInt8) : Bs :=
  if b = 10 then [92, 110] else if b = 34 ∨ b = 92 then [92, b] else if 32 ≤ b.toNat ∧ b.toNat ≤ 126 then [b] else [92, 120, hexD (b.toNat / 16), hexD (b.toNat % 16)]
def qtS (t : Bs) : Bs := 34 :: (t.flatMap pcS ++ [34])
def tyW (n : Int) : Bs := (tyT.getD n.toNat e0).data.toList
def entW (e : En) : List Bs := [[102, 110], e.name.data.toList, Lib.itoa e.params, if e.result = 0 then [45] else tyW e.result] ++ e.sorts.map tyW
def insW (x : In) : List Bs := [(wdT.getD x.1.toNat e0).data.toList] ++ ((if opA.getD x.1.toNat 0 = 0 then [] else [opW (opA.getD x.1.toNat 0) x.2.1]) ++ (if opB.getD x.1.toNat 0 = 0 then [] else [opW (opB.getD x.1.toNat 0) x.2.2]))
def atE (L : List En) (k n : Nat) : Bool := decide (k < L.length) && (enAt L k).start == (n : Int)
def bodyS (L : List En) : Nat → Nat → List In → Bs
  | _, _, [] => []
  | k, n, x :: r => (if atE L k n then lnS (entW (enAt L k)) else []) ++ ([32, 32] ++ (lnS (insW x) ++ bodyS L (if atE L k n then k + 1 else k) (n + 1) r))
def mainW (n : Int) : Bs := lnS [[109, 97, 105, 110], Lib.itoa n]
def poolW (t : ByteArray) : Bs := lnS [[112, 111, 111, 108], qtS t.data.toList]
def printS (c : Cd) : Bs := mainW c.main ++ (c.txs.flatMap poolW ++ bodyS c.ens 0 0 c.ins)

/-! A text as a code. -/
def isSep (c : UInt8) : Bool := c == 32 || c == 9 || c == 35
/-- How far quotes go, behind the one that begins them. -/
def qeS : Bs → Nat
  | [] => 0
  | c :: r => if c = 34 then 1 else if c = 92 then (match r with | [] => 1 | _ :: r' => 2 + qeS r') else 1 + qeS r
def qlS (l : Bs) : Nat := match l with | [] => 0 | c :: r => if c = 34 then 1 + qeS r else 0
def wdLen (l : Bs) : Nat := qlS l + ((l.drop (qlS l)).takeWhile (fun c => !isSep c)).length
def wdsF : Nat → Nat → Bs → List Bs
  | 0, _, _ => []
  | _ + 1, _, [] => []
  | f + 1, k, c :: r => if 254 < k then [] else if c = 32 ∨ c = 9 then wdsF f k r else if c = 35 then [] else (c :: r).take (wdLen (c :: r)) :: wdsF f (k + 1) ((c :: r).drop (wdLen (c :: r)))
/-- The words of a line. -/
def wdsS (l : Bs) : List Bs := wdsF (l.length + 1) 0 l
/-- A number, written as numbers are. -/
def numS (w : Bs) : Option Int := match Lib.parseIntB 64 w with | .ok v => if Lib.itoa v = w then some v else none | _ => none
def tabO (o : Nat) : Bool := o == 2 || o == 5 || o == 6 || o == 9
/-- The first number from n on, among so many, that is told so. -/
def seekO (o : Nat) (w : Bs) : Nat → Int → Option Int
  | 0, _ => none
  | k + 1, n => if mayS o n && opW o n == w then some n else seekO o w k (n + 1)
def readO (o : Nat) (w : Bs) : Option Int := if tabO o then seekO o w (shHi.getD o 0 - shLo.getD o 0 + 1).toNat (shLo.getD o 0) else match numS w with | some n => if mayS o n then some n else none | none => none
def nib (c : UInt8) : Option Nat := if 48 ≤ c.toNat ∧ c.toNat ≤ 57 then some (c.toNat - 48) else if 97 ≤ c.toNat ∧ c.toNat ≤ 102 then some (c.toNat - 87) else none
/-- The piece at the beginning. -/
def fpS (l : Bs) : Option (UInt8 × Nat) := match l with
  | [] => none
  | c :: r => if c ≠ 92 then (if 32 ≤ c.toNat ∧ c.toNat ≤ 126 then some (c, 1) else none) else match r with
    | [] => none
    | d :: q => if d = 110 then some (10, 2) else if d = 34 ∨ d = 92 then some (d, 2) else if d = 120 then (match q with
      | x :: y :: _ => (match nib x, nib y with | some h, some l => some (UInt8.ofNat (16 * h + l), 4) | _, _ => none)
      | _ => none) else none
def qdF : Nat → Bs → Bs → Option Bs
  | 0, _, _ => none
  | f + 1, acc, l => match l with
    | [] => none
    | c :: r => if c = 34 then (if r = [] then some acc else none) else match fpS (c :: r) with
      | some (b, n) => if acc.length = 200 then none else qdF f (acc ++ [b]) ((c :: r).drop n)
      | none => none
def qdS (w : Bs) : Option Bs := match w with | [] => none | c :: r => if c = 34 then qdF (r.length + 1) [] r else none
def seekT (w : Bs) : Nat → Nat → Int
  | 0, _ => 0
  | k + 1, n => if (tyT.getD n e0).data.toList = w then (n : Int) else seekT w k (n + 1)
def rdSort (w : Bs) : Int := seekT w 20 0
def wAt (l : List Bs) (i : Nat) : Bs := l.getD i []
def rdEnt (ws : List Bs) : Option En := if ws.length < 4 then none else match readO 12 (wAt ws 2) with
  | none => none
  | some p => if wAt ws 3 ≠ [45] ∧ rdSort (wAt ws 3) = 0 then none else
    let e : En := ⟨bk (wAt ws 1), 0, p, (ws.drop 4).map rdSort, if wAt ws 3 = [45] then 0 else rdSort (wAt ws 3)⟩
    if entS e then some e else none
def nextO (o : Nat) (ws : List Bs) : Option (Int × List Bs) := if o = 0 then some (0, ws) else match ws with
  | [] => none
  | w :: r => match readO o w with | some n => some (n, r) | none => none
def seekI (w : Bs) : Nat → Nat → Option Nat
  | 0, _ => none
  | k + 1, n => if (wdT.getD n e0).data.toList = w then some n else seekI w k (n + 1)
def rdIns (ws : List Bs) : Option In := match seekI (wAt ws 0) 24 0 with
  | none => none
  | some op => match nextO (opA.getD op 0) (ws.drop 1) with
    | none => none
    | some (a, r) => match nextO (opB.getD op 0) r with
      | none => none
      | some (b, r') => if r' = [] then some ((op : Int), a, b) else none
structure St where
  c : Cd
  begun : Bool
def bareS (c : Cd) : Bool := decide (0 < c.ens.length) && (enAt c.ens (c.ens.length - 1)).start == (c.ins.length : Int)
def takeMain (s : St) (ws : List Bs) : Option St := if wAt ws 0 = [109, 97, 105, 110] ∧ ws.length = 2 then (readO 8 (wAt ws 1)).map fun m => ⟨{ s.c with main := m }, true⟩ else none
def takePool (s : St) (ws : List Bs) : Option St := if ws.length = 2 ∧ s.c.ens.length = 0 ∧ s.c.txs.length ≠ 4000 then (qdS (wAt ws 1)).map fun t => ⟨{ s.c with txs := s.c.txs ++ [bk t] }, s.begun⟩ else none
def takeEnt (s : St) (ws : List Bs) : Option St := if s.c.ens.length ≠ 60 ∧ s.c.ins.length ≠ 60000 ∧ bareS s.c = false then (rdEnt ws).map fun e => ⟨{ s.c with ens := s.c.ens ++ [{ e with start := (s.c.ins.length : Int) }] }, s.begun⟩ else none
def takeIns (s : St) (ws : List Bs) : Option St := if s.c.ens.length ≠ 0 ∧ s.c.ins.length ≠ 60000 then (rdIns ws).map fun x => ⟨{ s.c with ins := s.c.ins ++ [x] }, s.begun⟩ else none
def takeS (s : St) (ws : List Bs) : Option St := if s.begun = false then takeMain s ws else if wAt ws 0 = [112, 111, 111, 108] then takePool s ws else if wAt ws 0 = [102, 110] then takeEnt s ws else takeIns s ws
def lackS (s : St) : Bool := !s.begun || decide ((s.c.ens.length : Int) ≤ s.c.main) || bareS s.c
/-- A line and what is behind its line feed. -/
def lineOf (l : Bs) : Bs := l.takeWhile (fun c => c != 10)
def restOf (l : Bs) : Bs := (l.dropWhile (fun c => c != 10)).drop 1
def stepS (s : St) (line : Bs) : Option St := if wdsS line = [] then some s else takeS s (wdsS line)
/-- The state behind all lines, or the number of the first that is wrong. -/
def asmF : Nat → Nat → St → Bs → St ⊕ Nat
  | 0, _, s, _ => .inl s
  | f + 1, n, s, l => if l = [] then .inl s else match stepS s (lineOf l) with
    | none => .inr n
    | some s' => asmF f (n + 1) s' (restOf l)
def st0 : St := ⟨⟨[], [], [], 0⟩, false⟩
def asmS (l : Bs) : Cd ⊕ Nat := match asmF (l.length + 1) 1 st0 l with
  | .inr n => .inr n
  | .inl s => if lackS s then .inr (l.count 10 + 2) else .inl s.c
end Go.Proofs.YtahdkffijlfmnaaGreatDoor
