import Derived.Lib.Join
import Derived.Test.YtichbejmelkjeaaGreatDoorU24
namespace Go.Proofs.YtichbejmelkjeaaGreatDoor
open Go.RowKit

/-- A command's line. -/
def lnS (c : Cm) : List UInt8 := Lib.join (wrS c) [32]
theorem wrS_len (c : Cm) (M : Nat) (h1 : c.name.length ≤ M) (h2 : c.cond.length ≤ M) (h3 : c.text.length ≤ M) (hl : -9223372036854775808 ≤ c.line ∧ c.line ≤ 9223372036854775807) (hn : -9223372036854775808 ≤ c.n ∧ c.n ≤ 9223372036854775807) : (lnS c).length ≤ 2 * M + 100 := by
  have i1 := Lib.itoa_length_le c.line hl.1 hl.2
  have i2 := Lib.itoa_length_le c.n hn.1 hn.2
  have hr : ∀ k : Nat, ((rws.getD k ([], 0)).1).length ≤ 20 := fun k => by
    rw [List.getD_eq_getElem?_getD]
    by_cases hk : k < rws.length
    · have hall : ∀ r ∈ rws, r.1.length ≤ 20 := by decide
      rw [List.getElem?_eq_getElem hk]
      exact hall _ (List.getElem_mem _)
    · rw [List.getElem?_eq_none (by omega)]; simp
  unfold lnS wrS
  split
  · simp [Lib.join_nil]
  · rw [Lib.join_length]
    have := hr c.kind.toNat
    generalize (rws.getD c.kind.toNat ([], 0)).1 = W at this
    split
    · unfold pwS
      by_cases hp : c.pk = 1 <;> by_cases hc : c.cond = [] <;> simp [hp, hc, Lib.lens, ifw] <;> omega
    · split
      · simp [Lib.lens]; omega
      · split
        · simp [Lib.lens]; omega
        · simp [Lib.lens]; omega

/-- What Text answers. -/
def TxP (w : World) (c : Cm) (e : Ending) (w' : World) : Prop :=
  ∃ (s : ByteArray) (er : Int), e = .returned (.tuple #[.string s, .int .i64 er]) ∧ Hid (((er = 0 ∧ s.data.toList = lnS c ∧ parP (lnS c) = some c) ∨ (er = 1 ∧ s = ⟨#[]⟩ ∧ parP (lnS c) ≠ some c)) ∧ Below w.heap.size w w')
end Go.Proofs.YtichbejmelkjeaaGreatDoor
