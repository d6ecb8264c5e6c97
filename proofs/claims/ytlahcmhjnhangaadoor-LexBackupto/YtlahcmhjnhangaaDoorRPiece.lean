import Derived.Test.YtlahcmhjnhangaaDoorRByte
namespace Go.Proofs.YtlahcmhjnhangaaDoor
open Go.RowKit

def pcW (x : UInt8 × Nat) : Value := .tuple #[.int .i64 (x.2 : Int), .int .u8 (x.1.toNat : Int)]

theorem mul_add_all : ∀ m n : Fin 16, (16 * ((m.val : Nat) : Int) + ((n.val : Nat) : Int)) % 256 = (((UInt8.ofNat (16 * m.val + n.val)).toNat : Nat) : Int) := by decide +kernel
theorem mul_add_at (x y : Int) (hx : 0 ≤ x) (hx1 : x < 16) (hy : 0 ≤ y) (hy1 : y < 16) : (16 * x + y) % 256 = ((UInt8.ofNat (16 * x.toNat + y.toNat)).toNat : Int) := by
  have h := mul_add_all ⟨x.toNat, by omega⟩ ⟨y.toNat, by omega⟩
  rw [show ((x.toNat : Nat) : Int) = x from by omega, show ((y.toNat : Nat) : Int) = y from by omega] at h
  exact h

section
variable (t : ByteArray) (j : Nat) (w : World) (ht : t.size ≤ 140737488355328) (hlt : j < t.size)
include ht hlt

set_option maxRecDepth 100000 in
set_option maxHeartbeats 2000000 in
theorem rp_plain (c : UInt8) (hc : t[j]'hlt = c) (h92 : c ≠ 92) (h34 : c ≠ 34) (hp : plainB c = true) :
    Calls Tryd.prog 53 #[.string t, .int .i64 (j : Int)] w fun e w' => e = .returned (pcW (c, 1)) ∧ Below w.heap.size w w' := by
  have b1 := u8ne (n := 92) (by omega) h92
  have b2 := u8ne (n := 34) (by omega) h34
  have hp2 : 32 ≤ (c.toNat : Int) ∧ (c.toNat : Int) ≤ 126 := by simpa [plainB] using hp
  have g1 : ¬ (c.toNat : Int) < 32 := by omega
  have g2 : ¬ (126 : Int) < (c.toNat : Int) := by omega
  have i0 : (j : Int) < (t.size : Int) := by omega
  have i1 : (0 : Int) ≤ (j : Int) := by omega
  have l1 : ¬ (t.size : Int) - (j : Int) < 1 := by omega
  clear h92 h34 hp hp2
  go_enter Tryd.func53, Tryd.ntmps53
  go_wp2
  go_region
  all_goals go_wp2
  all_goals go_ret2
  all_goals exact ⟨rfl, (Below.refl _ w).drew⟩

set_option maxRecDepth 100000 in
set_option maxHeartbeats 2000000 in
theorem rp_bad (c : UInt8) (hc : t[j]'hlt = c) (hp : plainB c = false) :
    Calls Tryd.prog 53 #[.string t, .int .i64 (j : Int)] w fun e w' => e = .returned (pcW (0, 0)) ∧ Below w.heap.size w w' := by
  have hp2 : (c.toNat : Int) < 32 ∨ (¬ (c.toNat : Int) < 32 ∧ (126 : Int) < (c.toNat : Int)) := by
    have : ¬ (32 ≤ (c.toNat : Int) ∧ (c.toNat : Int) ≤ 126) := by
      intro h
      have : plainB c = true := by simp [plainB]; omega
      rw [hp] at this
      cases this
    omega
  have i0 : (j : Int) < (t.size : Int) := by omega
  have i1 : (0 : Int) ≤ (j : Int) := by omega
  have l1 : ¬ (t.size : Int) - (j : Int) < 1 := by omega
  clear hp
  rcases hp2 with g1 | ⟨g1, g2⟩
  all_goals
    go_enter Tryd.func53, Tryd.ntmps53
    go_wp2
    go_ret2
    exact ⟨rfl, Below.refl _ w⟩

set_option maxRecDepth 100000 in
set_option maxHeartbeats 2000000 in
theorem rp_short (hc : t[j]'hlt = 92) (h1 : t.size = j + 1) :
    Calls Tryd.prog 53 #[.string t, .int .i64 (j : Int)] w fun e w' => e = .returned (pcW (0, 0)) ∧ Below w.heap.size w w' := by
  have i0 : (j : Int) < (t.size : Int) := by omega
  have i1 : (0 : Int) ≤ (j : Int) := by omega
  have l1 : ¬ (t.size : Int) - (j : Int) < 1 := by omega
  have l2 : (t.size : Int) - (j : Int) < 2 := by omega
  clear h1
  go_enter Tryd.func53, Tryd.ntmps53
  go_wp2
  go_ret2
  exact ⟨rfl, Below.refl _ w⟩

set_option maxRecDepth 100000 in
set_option maxHeartbeats 2000000 in
theorem rp_two (d : UInt8) (hl : j + 1 < t.size) (hc : t[j]'hlt = 92) (hd : t[j + 1]'hl = d) :
    (d = 110 → Calls Tryd.prog 53 #[.string t, .int .i64 (j : Int)] w fun e w' => e = .returned (pcW (10, 2)) ∧ Below w.heap.size w w') ∧
    ((d = 34 ∨ d = 92) → Calls Tryd.prog 53 #[.string t, .int .i64 (j : Int)] w fun e w' => e = .returned (pcW (d, 2)) ∧ Below w.heap.size w w') ∧
    ((d ≠ 110 ∧ d ≠ 34 ∧ d ≠ 92 ∧ d ≠ 120) ∨ (d = 120 ∧ t.size < j + 4) → Calls Tryd.prog 53 #[.string t, .int .i64 (j : Int)] w fun e w' => e = .returned (pcW (0, 0)) ∧ Below w.heap.size w w') := by
  have i0 : (j : Int) < (t.size : Int) := by omega
  have i1 : (0 : Int) ≤ (j : Int) := by omega
  have i2 : (j : Int) + 1 < (t.size : Int) := by omega
  have l1 : ¬ (t.size : Int) - (j : Int) < 1 := by omega
  have l2 : ¬ (t.size : Int) - (j : Int) < 2 := by omega
  refine ⟨?_, ?_, ?_⟩
  · intro h
    subst h
    go_enter Tryd.func53, Tryd.ntmps53
    go_wp2
    go_ret2
    exact ⟨rfl, Below.refl _ w⟩
  · intro h
    rcases h with rfl | rfl
    all_goals
      go_enter Tryd.func53, Tryd.ntmps53
      go_wp2
      go_region
      all_goals go_wp2
      all_goals go_ret2
      all_goals exact ⟨rfl, (Below.refl _ w).drew⟩
  · intro h
    rcases h with ⟨h1, h2, h3, h4⟩ | ⟨rfl, h5⟩
    · have b1 := u8ne (n := 110) (by omega) h1
      have b2 := u8ne (n := 34) (by omega) h2
      have b3 := u8ne (n := 92) (by omega) h3
      have b4 := u8ne (n := 120) (by omega) h4
      clear h1 h2 h3 h4
      go_enter Tryd.func53, Tryd.ntmps53
      go_wp2
      go_ret2
      exact ⟨rfl, Below.refl _ w⟩
    · have l4 : (t.size : Int) - (j : Int) < 4 := by omega
      go_enter Tryd.func53, Tryd.ntmps53
      go_wp2
      go_ret2
      exact ⟨rfl, Below.refl _ w⟩

end
end Go.Proofs.YtlahcmhjnhangaaDoor
