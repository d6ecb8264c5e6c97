import Derived.Test.YtgncoeihlfcaiaaDoorEx
namespace Go.Proofs.YtgncoeihlfcaiaaDoor
open Go.RowKit

theorem exS_bound (s : ByteArray) (at_ ar : Int) : (exS s at_ ar).1.length ≤ 90 := by
  unfold exS
  split
  · simp
  · split
    · simp
    · unfold exR
      have h1 := accN_few (Src.pl (s.data.toList.take at_.toNat)).1 (Src.pl (s.data.toList.take at_.toNat)).2 ar.toNat (itB (lastN s at_.toNat ar.toNat)).size (Src.lns s.data.toList) (lastN s at_.toNat ar.toNat)
      have h2 : lastN s at_.toNat ar.toNat ≤ (Src.pl (s.data.toList.take at_.toNat)).1 + ar.toNat := Nat.min_le_left _ _
      simp only
      omega

theorem ex_any (s : ByteArray) (at_ ar : Int) (w : World) (hs : s.size ≤ 140737488355328) (ht : Tab w) :
    Calls Tryd.prog 4 #[.string s, .int .i64 at_, .int .i64 ar] w fun e w' => (∃ v, e = .returned (.tuple #[v, .int .i64 (exS s at_ ar).2]) ∧ Hid (w'.ownsRow w.heap.size 9 1 v (exS s at_ ar).1.length (tc (exS s at_ ar).1)) ∧ Hid ((exS s at_ ar).1.length = 0 → v = .slice none 0 0)) ∧ Below w.heap.size w w' := by
  by_cases h1 : at_ < 0 ∨ (s.size : Int) < at_
  · have e1 : exS s at_ ar = ([], 10) := by unfold exS; rw [if_pos h1]
    rw [e1]
    exact (ex_no s at_ ar w hs h1).mono fun e w' h => ⟨⟨_, h.1, ⟨rfl, .inl ⟨rfl, rfl⟩⟩, fun _ => rfl⟩, h.2⟩
  · obtain ⟨k, rfl, hk⟩ : ∃ k : Nat, at_ = (k : Int) ∧ k ≤ s.size := ⟨at_.toNat, by omega, by omega⟩
    by_cases h2 : ar < 0 ∨ 20 < ar
    · have e1 : exS s k ar = ([], 1) := by unfold exS; rw [if_neg h1, if_pos h2]
      rw [e1]
      exact (ex_arg s k ar w hs hk h2).mono fun e w' h => ⟨⟨_, h.1, ⟨rfl, .inl ⟨rfl, rfl⟩⟩, fun _ => rfl⟩, h.2⟩
    · obtain ⟨a, rfl, ha⟩ : ∃ a : Nat, ar = (a : Int) ∧ a ≤ 20 := ⟨ar.toNat, by omega, by omega⟩
      have e1 : exS s k a = (exR s k a, 0) := by unfold exS; rw [if_neg h1, if_neg h2, Int.toNat_natCast, Int.toNat_natCast]
      rw [e1]
      refine (ex_yes s k a w hs hk ha ht).mono fun e w' h => ?_
      obtain ⟨⟨v, h1, h2⟩, h3⟩ := h
      exact ⟨⟨v, h1, h2, fun h0 => absurd h0 (Nat.ne_of_gt (exR_pos s k a hk))⟩, h3⟩

/-- Where nothing is shown the reference's list is none too: the length tells it. -/
theorem exS_nil (s : ByteArray) (at_ ar : Int) : (exS s at_ ar).1 = [] ∨ (0 < (exS s at_ ar).1.length ∧ (exS s at_ ar).2 = 0) := by
  unfold exS
  split
  · exact .inl rfl
  · split
    · exact .inl rfl
    · right
      exact ⟨exR_pos s _ _ (by omega), rfl⟩
end Go.Proofs.YtgncoeihlfcaiaaDoor
