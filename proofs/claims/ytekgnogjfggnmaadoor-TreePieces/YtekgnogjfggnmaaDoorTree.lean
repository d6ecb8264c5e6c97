namespace Go.Proofs.YtekgnogjfggnmaaDoor

/-! Trees, over lists: which lists of nodes are trees. -/

structure Nd where
  kind : Int
  pos : Int
  name : ByteArray
  label : ByteArray
  typ : ByteArray
  op : Int
  int : Int
  text : ByteArray
  size : Int
deriving DecidableEq

instance : Inhabited Nd := ⟨⟨0, 0, ⟨#[]⟩, ⟨#[]⟩, ⟨#[]⟩, 0, 0, ⟨#[]⟩, 0⟩⟩

structure Shp where
  label : Int
  name : Int
  typ : Int
  leastInt : Int
  mostInt : Int
  firstOp : Int
  lastOp : Int
  longest : Int
  fewest : Int
  most : Int

def nilShp : Shp := ⟨0, 0, 0, 0, 0, 0, 0, 0, 0, 0⟩

/-- What a kind's fields and kids may be. -/
def shp (k : Int) : Shp × Bool :=
  if k = 1 ∨ k = 4 then ({ nilShp with most := 9223372036854775807 }, true)
  else if k = 2 then ({ nilShp with name := 2, typ := 1, fewest := 1, most := 9 }, true)
  else if k = 3 then ({ nilShp with name := 2, typ := 2 }, true)
  else if k = 5 then ({ nilShp with name := 2, typ := 2, fewest := 1, most := 1 }, true)
  else if k = 6 ∨ k = 24 then ({ nilShp with fewest := 2, most := 2 }, true)
  else if k = 7 then ({ nilShp with fewest := 2, most := 3 }, true)
  else if k = 8 then ({ nilShp with label := 1, fewest := 2, most := 2 }, true)
  else if k = 9 then ({ nilShp with label := 1, name := 2, fewest := 3, most := 3 }, true)
  else if k = 10 ∨ k = 11 then ({ nilShp with label := 1 }, true)
  else if k = 12 then ({ nilShp with mostInt := 40000, most := 1 }, true)
  else if k = 13 then ({ nilShp with fewest := 1, most := 16 }, true)
  else if k = 14 ∨ k = 15 ∨ k = 29 ∨ k = 30 then ({ nilShp with fewest := 1, most := 1 }, true)
  else if k = 16 then ({ nilShp with leastInt := 1, mostInt := 40000, name := 1 }, true)
  else if k = 20 then ({ nilShp with mostInt := 9223372036854775807 }, true)
  else if k = 21 then ({ nilShp with mostInt := 1 }, true)
  else if k = 22 then ({ nilShp with longest := 200 }, true)
  else if k = 23 then ({ nilShp with name := 2 }, true)
  else if k = 25 then ({ nilShp with name := 2, most := 9223372036854775807 }, true)
  else if k = 26 then ({ nilShp with firstOp := 1, lastOp := 2, fewest := 1, most := 1 }, true)
  else if k = 27 then ({ nilShp with firstOp := 3, lastOp := 15, fewest := 2, most := 2 }, true)
  else if k = 28 then ({ nilShp with typ := 2, fewest := 1, most := 1 }, true)
  else (nilShp, false)

abbrev nd (L : List Nd) (k : Nat) : Nd := L.getD k default
abbrev sz (L : List Nd) (k : Nat) : Int := (nd L k).size

def isExpr (k : Int) : Bool := decide (20 ≤ k) && decide (k ≤ 30)
def isStmt (k : Int) : Bool := k == 4 || (decide (5 ≤ k) && decide (k ≤ 16))

/-- Is there a name behind the run of index nodes at n? -/
def plc : List Nd → Bool
  | [] => false
  | x :: r => if x.kind = 24 then plc r else x.kind == 23
def place (L : List Nd) (n : Nat) : Bool := plc (L.drop n)

/-- May k be the kid of n with so many ahead? -/
def may (L : List Nd) (n k c : Nat) : Bool :=
  let q := (nd L k).kind
  let p := (nd L n).kind
  if p = 1 then q == 2
  else if p = 2 then (if (k : Int) + sz L k < (n : Int) + sz L n then q == 3 else q == 4)
  else if p = 4 then isStmt q
  else if p = 6 ∧ c = 0 then place L k
  else if p = 14 then place L k
  else if p = 15 then q == 25
  else if p = 7 ∧ 0 < c then q == 4 || (c == 2 && q == 7)
  else if p = 8 ∧ c = 1 then q == 4
  else if p = 9 ∧ c = 2 then q == 4
  else isExpr q

/-- The kids of n from k on, c ahead of them, n's subtree ending at e: how many there are in all, if all may be. -/
def kidw (L : List Nd) (n e : Nat) : Nat → Nat → Nat → Option Nat
  | 0, _, c => some c
  | f + 1, k, c =>
    if e ≤ k then some c
    else if sz L k < 1 ∨ (e : Int) - k < sz L k ∨ may L n k c = false then none
    else kidw L n e f (k + (sz L k).toNat) (c + 1)

end Go.Proofs.YtekgnogjfggnmaaDoor
