import Derived.Lib.ConvBytes
import Derived.WalkKit
namespace Go.Proofs.YtdmiciblfbkndaaDoor.Lx
open Go.RowKit

/-- The keywords. -/
def kws : List ByteArray := [⟨#[102, 110]⟩, ⟨#[118, 97, 114]⟩, ⟨#[105, 102]⟩, ⟨#[101, 108, 115, 101]⟩, ⟨#[119, 104, 105, 108, 101]⟩, ⟨#[102, 111, 114]⟩, ⟨#[116, 111]⟩, ⟨#[98, 114, 101, 97, 107]⟩, ⟨#[99, 111, 110, 116, 105, 110, 117, 101]⟩, ⟨#[114, 101, 116, 117, 114, 110]⟩, ⟨#[112, 114, 105, 110, 116]⟩, ⟨#[114, 101, 97, 100]⟩, ⟨#[116, 114, 117, 101]⟩, ⟨#[102, 97, 108, 115, 101]⟩, ⟨#[105, 110, 116]⟩, ⟨#[98, 111, 111, 108]⟩, ⟨#[116, 101, 120, 116]⟩, ⟨#[110, 101, 119]⟩, ⟨#[108, 101, 110]⟩, ⟨#[115, 116, 114]⟩]
def kw (s : ByteArray) : Bool := kws.any fun k => k.data.toList == s.data.toList

/-- The digits of a byte's number. -/
def hexs : ByteArray := ⟨#[48, 49, 50, 51, 52, 53, 54, 55, 56, 57, 97, 98, 99, 100, 101, 102]⟩
def hx (n : Nat) : UInt8 := hexs.data.toList.getD n 0
/-- A byte's piece. -/
def pc (c : UInt8) : List UInt8 := if c = 10 then [92, 110] else if c = 34 ∨ c = 92 then [92, c] else if 32 ≤ c.toNat ∧ c.toNat ≤ 126 then [c] else [92, 120, hx (c.toNat / 16), hx (c.toNat % 16)]
def pcs (l : List UInt8) : List UInt8 := l.flatMap pc
def qt (l : List UInt8) : List UInt8 := 34 :: (pcs l ++ [34])
theorem pc_len (c : UInt8) : (pc c).length ≤ 4 := by unfold pc; split; · simp
                                                     split; · simp
                                                     split <;> simp
theorem pcs_len (l : List UInt8) : (pcs l).length ≤ 4 * l.length := by
  induction l with
  | nil => simp [pcs]
  | cons c l ih => have := pc_len c; unfold pcs at *; rw [List.flatMap_cons, List.length_append, List.length_cons]; omega
theorem pcs_step (l : List UInt8) (k : Nat) (h : k < l.length) : pcs (l.take (k + 1)) = pcs (l.take k) ++ pc (l[k]) := by
  unfold pcs
  rw [List.take_succ_eq_append_getElem h, List.flatMap_append]
  simp

def bv (l : List UInt8) : List Value := l.map fun c => Value.int .u8 (c.toNat : Int)
theorem bv_app (a b : List UInt8) : bv (a ++ b) = bv a ++ bv b := List.map_append
theorem bv_len (a : List UInt8) : (bv a).length = a.length := List.length_map ..
end Go.Proofs.YtdmiciblfbkndaaDoor.Lx
