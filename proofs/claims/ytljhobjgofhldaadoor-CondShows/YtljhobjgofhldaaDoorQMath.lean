import Derived.Lib.ConvBytes
import Derived.WalkKit
namespace Go.Proofs.YtljhobjgofhldaaDoor.Lx
open Go.RowKit

/-- The digits of a byte's number. -/
def hexs : ByteArray := ⟨#[48, 49, 50, 51, 52, 53, 54, 55, 56, 57, 97, 98, 99, 100, 101, 102]⟩
def hx (n : Nat) : UInt8 := hexs.data.toList.getD n 0
/-- A byte's piece. -/
def pc (c : UInt8) : List UInt8 := if c = 10 then [92, 110] else if c = 34 ∨ c = 92 then [92, c] else if 32 ≤ c.toNat ∧ c.toNat ≤ 126 then [c] else [92, 120, hx (c.toNat / 16), hx (c.toNat % 16)]
def pcs (l : List UInt8) : List UInt8 := l.flatMap pc
def qt (l : List UInt8) : List UInt8 := 34 :: (pcs l ++ [34])
theorem pc_len (c : UInt8) : (pc c).length ≤ 4 := by unfold pc; split; · simp
                                                     split; · simp
                                                     split <;> simp
theorem pcs_len (l : List UInt8) : (pcs l).length ≤ 4 * l.length := by
  induction l with
  | nil => simp [pcs]
  | cons c l ih => have := pc_len c; unfold pcs at *; rw [List.flatMap_cons, List.length_append, List.length_cons]; omega
theorem pcs_step (l : List UInt8) (k : Nat) (h : k < l.length) : pcs (l.take (k + 1)) = pcs (l.take k) ++ pc (l[k]) := by
  unfold pcs
  rw [List.take_succ_eq_append_getElem h, List.flatMap_append]
  simp

def bv (l : List UInt8) : List Value := l.map fun c => Value.int .u8 (c.toNat : Int)
theorem bv_app (a b : List UInt8) : bv (a ++ b) = bv a ++ bv b := List.map_append
theorem bv_len (a : List UInt8) : (bv a).length = a.length := List.length_map ..
def hv (a : UInt8) : Nat := hexs.data.toList.findIdx (fun c => c == a)
theorem hv_all : ∀ n : Fin 16, hv (hx n.val) = n.val ∧ 32 ≤ (hx n.val).toNat ∧ (hx n.val).toNat ≤ 126 := by decide +kernel
/-- The byte of a piece. -/
def unp : List UInt8 → UInt8
  | [] => 0
  | c :: r => if c ≠ 92 then c else match r with
    | [] => 0
    | d :: r => if d = 110 then 10 else if d = 34 ∨ d = 92 then d else match r with
      | a :: b :: _ => UInt8.ofNat (16 * hv a + hv b)
      | _ => 0
theorem unp_pc (c : UInt8) (rest : List UInt8) : unp (pc c ++ rest) = c := by
  have hc := UInt8.toNat_lt c
  unfold pc
  by_cases h1 : c = 10
  · rw [if_pos h1]; subst h1; simp [unp]
  · rw [if_neg h1]
    by_cases h2 : c = 34 ∨ c = 92
    · rw [if_pos h2]
      have h3 : c ≠ 110 := by rcases h2 with rfl | rfl <;> decide
      simp only [List.cons_append, List.nil_append, unp]
      rw [if_neg (by simp), if_neg h3, if_pos h2]
    · rw [if_neg h2]
      by_cases h3 : 32 ≤ c.toNat ∧ c.toNat ≤ 126
      · rw [if_pos h3]
        simp only [List.cons_append, List.nil_append, unp]
        rw [if_pos (fun e => h2 (Or.inr e))]
      · rw [if_neg h3]
        simp only [List.cons_append, List.nil_append, unp]
        rw [if_neg (by simp), if_neg (by decide), if_neg (by decide)]
        have g1 := (hv_all ⟨c.toNat / 16, by omega⟩).1
        have g2 := (hv_all ⟨c.toNat % 16, by omega⟩).1
        simp only at g1 g2
        rw [g1, g2]
        apply UInt8.toNat_inj.1
        rw [UInt8.toNat_ofNat_of_lt' (by show _ < 256; omega)]
        omega
theorem pc_head (c : UInt8) : ∃ d r, pc c = d :: r ∧ d ≠ 34 := by
  unfold pc
  by_cases h1 : c = 10
  · rw [if_pos h1]; exact ⟨_, _, rfl, by decide⟩
  · rw [if_neg h1]
    by_cases h2 : c = 34 ∨ c = 92
    · rw [if_pos h2]; exact ⟨_, _, rfl, by decide⟩
    · rw [if_neg h2]
      by_cases h3 : 32 ≤ c.toNat ∧ c.toNat ≤ 126
      · rw [if_pos h3]; exact ⟨_, _, rfl, fun e => h2 (Or.inl e)⟩
      · rw [if_neg h3]; exact ⟨_, _, rfl, by decide⟩
theorem pc_bytes (c : UInt8) : ∀ d ∈ pc c, 32 ≤ d.toNat ∧ d.toNat ≤ 126 := by
  have hc := UInt8.toNat_lt c
  unfold pc
  by_cases h1 : c = 10
  · rw [if_pos h1]; decide
  · rw [if_neg h1]
    by_cases h2 : c = 34 ∨ c = 92
    · rw [if_pos h2]; rcases h2 with rfl | rfl <;> decide
    · rw [if_neg h2]
      by_cases h3 : 32 ≤ c.toNat ∧ c.toNat ≤ 126
      · rw [if_pos h3]; intro d hd; rw [List.mem_singleton.1 hd]; exact h3
      · rw [if_neg h3]
        intro d hd
        simp only [List.mem_cons, List.not_mem_nil, or_false] at hd
        rcases hd with rfl | rfl | rfl | rfl
        · decide
        · decide
        · exact (hv_all ⟨c.toNat / 16, by omega⟩).2
        · exact (hv_all ⟨c.toNat % 16, by omega⟩).2
theorem pcs_cons (c : UInt8) (l : List UInt8) : pcs (c :: l) = pc c ++ pcs l := List.flatMap_cons
theorem qt_bytes (l : List UInt8) : ∀ d ∈ qt l, 32 ≤ d.toNat ∧ d.toNat ≤ 126 := by
  intro d hd
  unfold qt at hd
  rcases List.mem_cons.1 hd with rfl | hd
  · decide
  · rcases List.mem_append.1 hd with hd | hd
    · unfold pcs at hd
      obtain ⟨c, _, hc⟩ := List.mem_flatMap.1 hd
      exact pc_bytes c d hc
    · rw [List.mem_singleton.1 hd]; decide
theorem pcs_inj : ∀ (a b : List UInt8), pcs a ++ [34] = pcs b ++ [34] → a = b
  | [], [], _ => rfl
  | [], d :: b, h => by
    obtain ⟨x, r, e, hx⟩ := pc_head d
    rw [pcs_cons, e] at h
    simp [pcs] at h
  | c :: a, [], h => by
    obtain ⟨x, r, e, hx⟩ := pc_head c
    rw [pcs_cons, e] at h
    simp [pcs] at h
  | c :: a, d :: b, h => by
    rw [pcs_cons, pcs_cons, List.append_assoc, List.append_assoc] at h
    have h1 := unp_pc c (pcs a ++ [34])
    rw [h, unp_pc d] at h1
    subst h1
    rw [pcs_inj a b (List.append_cancel_left h)]
theorem qt_inj (a b : List UInt8) (h : qt a = qt b) : a = b := by
  unfold qt at h
  rw [List.cons.injEq] at h
  exact pcs_inj a b h.2
end Go.Proofs.YtljhobjgofhldaaDoor.Lx
