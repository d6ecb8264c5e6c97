import Derived.Sort.Walk0
import Derived.RowKit
import Derived.Lib.Strings
namespace Go.Proofs.YtichbejmelkjeaaGreatDoor.Vs
open Go.RowKit

/-- A value and a trap: kind, int, text, trap. -/
abbrev VT := Int × Int × ByteArray × Int
abbrev e0 : ByteArray := ⟨#[]⟩
def stuckS : VT := (0, 0, e0, 7)
def numS (n : Int) : VT := (1, n, e0, 0)
def bit (b : Bool) : Int := if b = true then 1 else 0
def truS (b : Bool) : VT := (2, bit b, e0, 0)
/-- The order of two ints. -/
def cmpI (a b : Int) : Int := if a < b then -1 else if a = b then 0 else 1
/-- The order of two texts. -/
def cmpT (a b : ByteArray) : Int := if Op.bytesLess a.toList b.toList = true then -1 else if a.toList = b.toList then 0 else 1
/-- A comparison, from the order. -/
def cmpS (op o : Int) : VT :=
  if op = 8 then truS (o == 0) else if op = 9 then truS (o != 0) else if op = 10 then truS (decide (o < 0)) else if op = 11 then truS (decide (o ≤ 0))
  else if op = 12 then truS (decide (0 < o)) else if op = 13 then truS (decide (0 ≤ o)) else stuckS
/-- Of two ints. -/
def intsS (op a b : Int) : VT :=
  if op = 3 then numS (wrap64 (a + b)) else if op = 4 then numS (wrap64 (a - b)) else if op = 5 then numS (wrap64 (a * b))
  else if op = 6 then (if b = 0 then (0, 0, e0, 1) else numS (wrap64 (a.tdiv b))) else if op = 7 then (if b = 0 then (0, 0, e0, 1) else numS (a.tmod b))
  else cmpS op (cmpI a b)
/-- Of two texts. -/
def textsS (op : Int) (a b : ByteArray) : VT :=
  if op = 3 then (if 256 < a.size + b.size then (0, 0, e0, 6) else (3, 0, a ++ b, 0)) else cmpS op (cmpT a b)
/-- Of two bools or references. -/
def namesS (op a b : Int) : VT := if op = 8 ∨ op = 9 then cmpS op (cmpI a b) else stuckS
/-- May it be? -/
def okV (k n : Int) (s : ByteArray) : Bool :=
  if k = 0 then n == 0 && s.toList == [] else if k = 1 then s.toList == [] else if k = 2 then (n == 0 || n == 1) && s.toList == []
  else if k = 3 then n == 0 && decide (s.size ≤ 256) else if k = 4 then decide (0 ≤ n) && s.toList == [] else false
/-- What Binary answers. -/
def binS (op k n : Int) (s : ByteArray) (k' n' : Int) (s' : ByteArray) : VT :=
  if okV k n s = true ∧ k' = k ∧ okV k' n' s' = true then
    (if k = 1 then intsS op n n' else if k = 3 then textsS op s s' else if k = 2 ∨ k = 4 then namesS op n n' else stuckS)
  else stuckS
def unS (op k n : Int) (s : ByteArray) : VT :=
  if op = 1 ∧ k = 1 ∧ okV k n s = true then numS (wrap64 (-n)) else if op = 2 ∧ k = 2 ∧ okV k n s = true then truS (n == 0) else stuckS
def atS (k n : Int) (s : ByteArray) (k' n' : Int) (s' : ByteArray) : VT :=
  if k = 3 ∧ okV k n s = true ∧ k' = 1 ∧ okV k' n' s' = true then (if n' < 0 ∨ (s.size : Int) ≤ n' then (0, 0, e0, 2) else numS ((s.data.toList.getD n'.toNat 0).toNat : Int)) else stuckS

theorem wrap_mod (x : Int) : wrap64 x % 18446744073709551616 = x % 18446744073709551616 := by unfold wrap64; omega
theorem wrap_eq {x y : Int} (h : x % 18446744073709551616 = y % 18446744073709551616) : wrap64 x = wrap64 y := by unfold wrap64; omega
theorem wrap_in {x : Int} (h : -9223372036854775808 ≤ x ∧ x ≤ 9223372036854775807) : wrap64 x = x := by unfold wrap64; omega
theorem wrap_rng (x : Int) : -9223372036854775808 ≤ wrap64 x ∧ wrap64 x ≤ 9223372036854775807 := by unfold wrap64; omega
theorem wrap_wrap (x : Int) : wrap64 (wrap64 x) = wrap64 x := wrap_in (wrap_rng x)
theorem wrap_add_l (x y : Int) : wrap64 (wrap64 x + y) = wrap64 (x + y) := wrap_eq (by rw [Int.add_emod, wrap_mod, ← Int.add_emod])
theorem wrap_add_r (x y : Int) : wrap64 (x + wrap64 y) = wrap64 (x + y) := wrap_eq (by rw [Int.add_emod, wrap_mod, ← Int.add_emod])
theorem wrap_mul_l (x y : Int) : wrap64 (wrap64 x * y) = wrap64 (x * y) := wrap_eq (by rw [Int.mul_emod, wrap_mod, ← Int.mul_emod])
theorem wrap_mul_r (x y : Int) : wrap64 (x * wrap64 y) = wrap64 (x * y) := wrap_eq (by rw [Int.mul_emod, wrap_mod, ← Int.mul_emod])

theorem e0_list : e0.toList = [] := by simp [e0, ByteArray.toList_eq]
theorem eq_e0 {s : ByteArray} (h : s.toList = []) : s = e0 := by
  rw [ByteArray.toList_eq] at h
  obtain ⟨⟨l⟩⟩ := s
  simp only at h
  subst h
  rfl
end Go.Proofs.YtichbejmelkjeaaGreatDoor.Vs
