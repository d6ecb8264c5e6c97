import Derived.Test.YtichbejmelkjeaaDoorcMath
import Derived.Test.YtichbejmelkjeaaDoorLxScan
namespace Go.Proofs.YtichbejmelkjeaaDoor
open Go.RowKit

/-- The commands' rows: the word, what stands behind it. -/
def rws : List (List UInt8 × Nat) := [([], 0), ([98, 114, 101, 97, 107], 2), ([119, 97, 116, 99, 104], 3), ([100, 101, 108, 101, 116, 101], 4), ([101, 110, 97, 98, 108, 101], 4), ([100, 105, 115, 97, 98, 108, 101], 4), ([112, 111, 105, 110, 116, 115], 1), ([115, 116, 101, 112], 1), ([110, 101, 120, 116], 1), ([102, 105, 110, 105, 115, 104], 1), ([99, 111, 110, 116, 105, 110, 117, 101], 1), ([98, 97, 99, 107], 1), ([114, 110, 101, 120, 116], 1), ([114, 102, 105, 110, 105, 115, 104], 1), ([114, 99, 111, 110, 116, 105, 110, 117, 101], 1), ([103, 111, 116, 111], 5), ([112, 114, 105, 110, 116], 6), ([108, 111, 99, 97, 108, 115], 1), ([115, 116, 97, 99, 107], 1), ([119, 104, 101, 114, 101], 1), ([108, 105, 115, 116], 1), ([111, 117, 116, 112, 117, 116], 1), ([101, 118, 101, 110, 116], 1)]
def knd (w : List UInt8) : Nat := (rws.findIdx? (fun r => r.1 == w)).getD 0
def tks (k : Nat) : Nat := (rws.getD k ([], 0)).2
def ifw : List UInt8 := [105, 102]

/-- A command. -/
structure Cm where
  kind : Int
  pk : Int
  line : Int
  name : List UInt8
  cond : List UInt8
  off : Bool
  n : Int
  text : List UInt8
  deriving DecidableEq
def cm0 : Cm := ⟨0, 0, 0, [], [], false, 0, []⟩
def cmL (c : Cm) : List Value := [.int .i64 c.kind, .int .i64 c.pk, .int .i64 c.line, .string ⟨c.name.toArray⟩, .string ⟨c.cond.toArray⟩, .bool c.off, .int .i64 c.n, .string ⟨c.text.toArray⟩]
def ptL (c : Cm) : List Value := [.int .i64 c.pk, .int .i64 c.line, .string ⟨c.name.toArray⟩, .string ⟨c.cond.toArray⟩, .bool c.off]

/-- The token that is all of a word. -/
def tk0 : Lx.Tk := ⟨0, 0, [], 0⟩
def whl (w : List UInt8) : Lx.Tk := match Lx.scanS (w.length + 1) 0 w with
  | .inr ((k, x) :: _) => if k = 0 ∧ x.len = w.length then x else tk0
  | _ => tk0
def numO (w : List UInt8) : Int × Bool := ((whl w).int, (whl w).kind == 2)
def posO (w : List UInt8) : Int × Bool := match w with
  | 45 :: r => (IntKind.i64.wrap (-(numO r).1), (numO r).2 && decide (1 ≤ (numO r).1))
  | _ => numO w
/-- What is broken at (t = 2) or watched (t = 3). -/
def pntO (t : Nat) (w e : List UInt8) : Option Cm :=
  if (whl w).kind = 1 ∧ t = 3 then some { cm0 with pk := 3, name := (whl w).text, cond := e }
  else if (whl w).kind = 1 then some { cm0 with pk := 2, name := (whl w).text, cond := e }
  else if (whl w).kind = 2 ∧ 1 ≤ (whl w).int ∧ t = 2 then some { cm0 with pk := 1, line := (whl w).int, cond := e }
  else none

/-- The words that are taken, and the rest. -/
def tkn : Nat → List (List UInt8) → List UInt8 → List (List UInt8) × List UInt8
  | 0, ws, r => (ws, r)
  | f + 1, ws, r => if r = [] then (ws, []) else
    if ((ws ++ [wrd r]).length = 1 ∧ tks (knd (wrd r)) = 6) ∨ ((ws ++ [wrd r]).length = 3 ∧ wrd r = ifw) then (ws ++ [wrd r], nxt r) else tkn f (ws ++ [wrd r]) (nxt r)

/-- The command of words and the rest. -/
def cmdP (ws : List (List UInt8)) (e : List UInt8) : Option Cm :=
  match ws with
  | [] => none
  | w0 :: t =>
    let k := knd w0
    if tks k = 1 then (if t = [] then some { cm0 with kind := k } else none)
    else if tks k = 2 ∨ tks k = 3 then
      (match t with
       | [w1] => (pntO (tks k) w1 e).map fun c => { c with kind := k }
       | [w1, _] => if e = [] then none else (pntO (tks k) w1 e).map fun c => { c with kind := k }
       | _ => none)
    else if tks k = 4 then (match t with | [w1] => if (numO w1).2 then some { cm0 with kind := k, n := (numO w1).1 } else none | _ => none)
    else if tks k = 5 then (match t with | [w1] => if (posO w1).2 then some { cm0 with kind := k, n := (posO w1).1 } else none | _ => none)
    else if tks k = 6 then (if e = [] then none else some { cm0 with kind := k, text := e })
    else none
def parP (l : List UInt8) : Option Cm := if 300 < l.length ∨ 10 ∈ l then none else (fun x => cmdP x.1 x.2) (tkn (l.length + 1) [] (trm l))

/-- By the rests of a line. -/
def cmdS (R : List (List UInt8)) : Option Cm :=
  match R with
  | [] => none
  | r0 :: t =>
    let k := knd (wrd r0)
    if tks k = 1 then (if t = [] then some { cm0 with kind := k } else none)
    else if tks k = 2 ∨ tks k = 3 then
      (match t with
       | [r1] => (pntO (tks k) (wrd r1) []).map fun c => { c with kind := k }
       | r1 :: r2 :: r3 :: _ => if wrd r2 = ifw then (pntO (tks k) (wrd r1) r3).map fun c => { c with kind := k } else none
       | _ => none)
    else if tks k = 4 then (match t with | [r1] => if (numO (wrd r1)).2 then some { cm0 with kind := k, n := (numO (wrd r1)).1 } else none | _ => none)
    else if tks k = 5 then (match t with | [r1] => if (posO (wrd r1)).2 then some { cm0 with kind := k, n := (posO (wrd r1)).1 } else none | _ => none)
    else if tks k = 6 then (match t with | [] => none | r1 :: _ => some { cm0 with kind := k, text := r1 })
    else none
end Go.Proofs.YtichbejmelkjeaaDoor
