import Derived.Test.YtgncoeihlfcaiaaRefLine
import Derived.Lib.AppendStr
namespace Go.Proofs.Ytgncoeihlfcaiaa
open Go.RowKit

/-- Lines, each with a byte 10 ahead of it. -/
def jt : List (List UInt8) → List UInt8
  | [] => []
  | l :: r => 10 :: (l ++ jt r)
/-- Lines, with a byte 10 between each two. -/
def jn : List (List UInt8) → List UInt8
  | [] => []
  | l :: r => l ++ jt r

theorem jt_append : ∀ a b : List (List UInt8), jt (a ++ b) = jt a ++ jt b
  | [], _ => rfl
  | l :: r, b => by simp [jt, jt_append r b]
theorem jn_append {a : List (List UInt8)} (b : List (List UInt8)) (h : a ≠ []) : jn (a ++ b) = jn a ++ jt b := by
  cases a with
  | nil => exact absurd rfl h
  | cons l r => simp [jn, jt_append]

theorem jn_lns (l : List UInt8) : jn (Src.lns l) = l := by
  refine Src.lineInd (P := fun l => jn (Src.lns l) = l) ?_ ?_ l.length l (Nat.le_refl _)
  · intro l h
    rw [Src.lns_none h]
    simp [jn, jt]
  · intro a b h ih
    rw [Src.lns_cut b h]
    show a ++ jt (Src.lns b) = _
    have e : jt (Src.lns b) = 10 :: jn (Src.lns b) := by
      cases hb : Src.lns b with
      | nil => exact absurd hb (Src.lns_ne b)
      | cons x r => rfl
    rw [e, ih]

theorem jn_one {ls : List (List UInt8)} (h : 0 < ls.length) : jn (ls.take 1) = ls[0] := by
  cases ls with
  | nil => simp at h
  | cons l r => simp [jn, jt]
theorem jn_succ {ls : List (List UInt8)} {k : Nat} (h0 : 0 < k) (h : k < ls.length) : jn (ls.take (k + 1)) = (jn (ls.take k) ++ [10]) ++ ls[k] := by
  have hne : ls.take k ≠ [] := by
    intro e
    have := congrArg List.length e
    rw [List.length_take] at this
    simp only [List.length_nil] at this
    omega
  rw [List.take_succ_eq_append_getElem h, jn_append _ hne]
  simp [jt]

theorem jn_prefix (ls : List (List UInt8)) (k : Nat) : jn (ls.take k) <+: jn ls := by
  by_cases h : ls.take k = []
  · rw [h]; exact ⟨jn ls, rfl⟩
  · refine ⟨jt (ls.drop k), ?_⟩
    rw [← jn_append _ h, List.take_append_drop]

theorem lns_clean (l : List UInt8) : ∀ x ∈ Src.lns l, ∀ c ∈ x, c ≠ 10 := by
  refine Src.lineInd (P := fun l => ∀ x ∈ Src.lns l, ∀ c ∈ x, c ≠ 10) ?_ ?_ l.length l (Nat.le_refl _)
  · intro l h x hx
    rw [Src.lns_none h] at hx
    rw [List.mem_singleton.1 hx]
    exact h
  · intro a b h ih x hx
    rw [Src.lns_cut b h] at hx
    rcases List.mem_cons.1 hx with rfl | hx
    · exact h
    · exact ih x hx

theorem lineL_at : ∀ (ls : List (List UInt8)) (k0 k : Nat) (h : k < ls.length), lineL ((k0 + k : Nat) : Int) (Src.rows k0 ls) = (⟨(ls[k]).toArray⟩, 0)
  | l :: r, k0, 0, _ => by
    show (if (k0 : Int) = ((k0 + 0 : Nat) : Int) then _ else _) = _
    rw [if_pos (by omega)]
    rfl
  | l :: r, k0, k + 1, h => by
    show (if (k0 : Int) = ((k0 + (k + 1) : Nat) : Int) then _ else lineL _ (Src.rows (k0 + 1) r)) = _
    rw [if_neg (by omega), show k0 + (k + 1) = (k0 + 1) + k from by omega]
    exact lineL_at r (k0 + 1) k (by simpa using h)
  | [], _, _, h => by simp at h

theorem lineL_out (n : Int) : ∀ (ls : List (List UInt8)) (k0 : Nat), (n < k0 ∨ (k0 : Int) + ls.length ≤ n) → lineL n (Src.rows k0 ls) = (⟨#[]⟩, 10)
  | [], _, _ => rfl
  | l :: r, k0, h => by
    simp only [List.length_cons] at h
    show (if (k0 : Int) = n then _ else lineL n (Src.rows (k0 + 1) r)) = _
    rw [if_neg (by omega)]
    exact lineL_out n r (k0 + 1) (by omega)

/-- Bytes as cells. -/
def bc (l : List UInt8) : List Value := l.map fun b => Value.int .u8 (b.toNat : Int)
theorem bc_append (a b : List UInt8) : bc (a ++ b) = bc a ++ bc b := by simp [bc]

/-- What 'Line' answers at the line k + 1, and beyond the lines. -/
theorem line_in (s : ByteArray) (k : Nat) (b : ByteArray) (n : Int) (w : World) (hs : s.size ≤ 140737488355328) (hk : k < (Src.lns s.data.toList).length) (hb : Hid (b = ⟨((Src.lns s.data.toList)[k]).toArray⟩)) (hn : Hid (n = (k : Int) + 1)) :
    Calls Try.prog 8 #[.string s, .int .i64 n] w fun e w' => e = .returned (.tuple #[.string b, .int .i64 0]) ∧ Below w.heap.size w w' := by
  have h := line_any s n w hs
  rw [hn.out, show (k : Int) + 1 = ((1 + k : Nat) : Int) from by omega, lineL_at _ 1 k hk] at h
  rw [hn.out, show (k : Int) + 1 = ((1 + k : Nat) : Int) from by omega, hb.out]
  exact h

theorem line_out (s : ByteArray) (n : Int) (w : World) (hs : s.size ≤ 140737488355328) (hn : n < 1 ∨ (1 : Int) + (Src.lns s.data.toList).length ≤ n) :
    Calls Try.prog 8 #[.string s, .int .i64 n] w fun e w' => e = .returned (.tuple #[.string ⟨#[]⟩, .int .i64 10]) ∧ Below w.heap.size w w' := by
  have h := line_any s n w hs
  rw [lineL_out n _ 1 hn] at h
  exact h

theorem grown_of_below {W W' : World} (h : Below W.heap.size W W') (row : Option Nat) : W.grownBy W' row := ⟨h.os, h.tape, h.output, h.size, fun k hk _ => h.block k hk⟩

end Go.Proofs.Ytgncoeihlfcaiaa
