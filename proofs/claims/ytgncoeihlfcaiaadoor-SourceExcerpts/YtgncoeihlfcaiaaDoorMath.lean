import Derived.Lib.CutLaws
import Derived.Lib.IndexLaws
namespace Go.Proofs.YtgncoeihlfcaiaaDoor.Src

/-- The lines of a text: the pieces between the bytes 10. -/
def lns : List UInt8 → List (List UInt8)
  | [] => [[]]
  | c :: t => if c = 10 then [] :: lns t else match lns t with
    | [] => [[c]]
    | l :: r => (c :: l) :: r

theorem lns_none : ∀ {l : List UInt8}, (∀ x ∈ l, x ≠ 10) → lns l = [l]
  | [], _ => rfl
  | c :: t, h => by
    have ih := lns_none (l := t) (fun x hx => h x (List.mem_cons_of_mem _ hx))
    have hc : c ≠ 10 := h c (List.mem_cons_self ..)
    simp [lns, hc, ih]

theorem lns_cut : ∀ {a : List UInt8} (b : List UInt8), (∀ x ∈ a, x ≠ 10) → lns (a ++ 10 :: b) = a :: lns b
  | [], b, _ => by simp [lns]
  | c :: t, b, h => by
    have ih := lns_cut (a := t) b (fun x hx => h x (List.mem_cons_of_mem _ hx))
    have hc : c ≠ 10 := h c (List.mem_cons_self ..)
    simp [lns, hc, ih]

/-- The lines, numbered from k on, as the iterator hands them over. -/
def rows : Nat → List (List UInt8) → List (Nat × ByteArray)
  | _, [] => []
  | k, l :: r => (k, ⟨l.toArray⟩) :: rows (k + 1) r

theorem not_ten {l : List UInt8} (h : ∀ k : Nat, l[k]? ≠ some 10) : ∀ x ∈ l, x ≠ 10 := by
  intro x hx e
  subst e
  obtain ⟨k, hk⟩ := List.getElem?_of_mem hx
  exact h k hk

theorem cut_miss (s : ByteArray) (h : Lib.indexByte s.data.toList 10 = -1) : lns s.data.toList = [s.data.toList] :=
  lns_none (not_ten (Lib.indexByte_none h))

theorem cut_hit (s : ByteArray) (i : Nat) (h : Lib.indexByte s.data.toList 10 = i) :
    i < s.size ∧ lns s.data.toList = s.data.toList.take i :: lns (s.data.toList.drop (i + 1)) := by
  obtain ⟨h1, h2⟩ := Lib.indexByte_some h
  have hi : i < s.data.toList.length := by
    rcases Nat.lt_or_ge i s.data.toList.length with h | h
    · exact h
    · rw [List.getElem?_eq_none h] at h1; cases h1
  have hs : s.data.toList = s.data.toList.take i ++ 10 :: s.data.toList.drop (i + 1) := by
    have e := List.take_append_drop i s.data.toList
    have e2 : s.data.toList.drop i = 10 :: s.data.toList.drop (i + 1) := by
      rw [List.drop_eq_getElem_cons hi]
      congr 1
      have := List.getElem?_eq_getElem hi
      rw [this] at h1
      exact Option.some.inj h1
    rw [← e2, e]
  refine ⟨by rw [Lib.size_eq]; exact hi, ?_⟩
  have hn : ∀ x ∈ s.data.toList.take i, x ≠ 10 := by
    apply not_ten
    intro k
    by_cases hk : k < i
    · rw [List.getElem?_take_of_lt hk]; exact h2 k hk
    · rw [List.getElem?_eq_none (by rw [List.length_take]; omega)]; simp
  have := lns_cut (s.data.toList.drop (i + 1)) hn
  rw [← hs] at this
  exact this

end Go.Proofs.YtgncoeihlfcaiaaDoor.Src
