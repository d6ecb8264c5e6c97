import Derived.Deep.RegionLaw
import Derived.Test.YtichbejmelkjeaaGreatDoorU03
namespace Go.Proofs.YtichbejmelkjeaaGreatDoor.Lx
open Go.RowKit

set_option maxRecDepth 100000 in
theorem hx_run (k : Nat) (hk : k < 16) : ∀ w : World, (Instr.index 9 (.string ⟨#[48, 49, 50, 51, 52, 53, 54, 55, 56, 57, 97, 98, 99, 100, 101, 102]⟩) (.int .u8 (k : Int))).run Tryz.prog w = .ok (.int .u8 ((hx k).toNat : Int)) w := by
  have h : k = 0 ∨ k = 1 ∨ k = 2 ∨ k = 3 ∨ k = 4 ∨ k = 5 ∨ k = 6 ∨ k = 7 ∨ k = 8 ∨ k = 9 ∨ k = 10 ∨ k = 11 ∨ k = 12 ∨ k = 13 ∨ k = 14 ∨ k = 15 := by omega
  rcases h with rfl | rfl | rfl | rfl | rfl | rfl | rfl | rfl | rfl | rfl | rfl | rfl | rfl | rfl | rfl | rfl
  all_goals exact fun w => by kernel_rfl
theorem hx_quo (c : UInt8) : ∀ w : World, (Instr.index 9 (.string ⟨#[48, 49, 50, 51, 52, 53, 54, 55, 56, 57, 97, 98, 99, 100, 101, 102]⟩) (.int .u8 ((c.toNat : Int) / 16))).run Tryz.prog w = .ok (.int .u8 ((hx (c.toNat / 16)).toNat : Int)) w := by
  have hc := UInt8.toNat_lt c
  have h := hx_run (c.toNat / 16) (by omega)
  rwa [show ((c.toNat / 16 : Nat) : Int) = (c.toNat : Int) / 16 from by omega] at h
theorem hx_rem (c : UInt8) : ∀ w : World, (Instr.index 9 (.string ⟨#[48, 49, 50, 51, 52, 53, 54, 55, 56, 57, 97, 98, 99, 100, 101, 102]⟩) (.int .u8 ((c.toNat : Int) % 16))).run Tryz.prog w = .ok (.int .u8 ((hx (c.toNat % 16)).toNat : Int)) w := by
  have h := hx_run (c.toNat % 16) (by omega)
  rwa [show ((c.toNat % 16 : Nat) : Int) = (c.toNat : Int) % 16 from by omega] at h
theorem bits_and15_all : ∀ n : Fin 256, bits BinOp.and IntKind.u8 ((n.val : Nat) : Int) 15 = ((n.val : Nat) : Int) % 16 := by decide +kernel
theorem bits_and15 (c : UInt8) : bits BinOp.and IntKind.u8 (c.toNat : Int) 15 = (c.toNat : Int) % 16 := bits_and15_all ⟨c.toNat, UInt8.toNat_lt c⟩
theorem hx_get (k : Nat) (h : k < ByteArray.size ⟨#[48, 49, 50, 51, 52, 53, 54, 55, 56, 57, 97, 98, 99, 100, 101, 102]⟩) : (⟨#[48, 49, 50, 51, 52, 53, 54, 55, 56, 57, 97, 98, 99, 100, 101, 102]⟩ : ByteArray)[k]'h = hx k := by
  have hk : k < 16 := h
  have h : k = 0 ∨ k = 1 ∨ k = 2 ∨ k = 3 ∨ k = 4 ∨ k = 5 ∨ k = 6 ∨ k = 7 ∨ k = 8 ∨ k = 9 ∨ k = 10 ∨ k = 11 ∨ k = 12 ∨ k = 13 ∨ k = 14 ∨ k = 15 := by omega
  rcases h with rfl | rfl | rfl | rfl | rfl | rfl | rfl | rfl | rfl | rfl | rfl | rfl | rfl | rfl | rfl | rfl
  all_goals rfl
theorem hx_get_quo (c : UInt8) (h : ((c.toNat : Int) / 16).toNat < ByteArray.size ⟨#[48, 49, 50, 51, 52, 53, 54, 55, 56, 57, 97, 98, 99, 100, 101, 102]⟩) : (⟨#[48, 49, 50, 51, 52, 53, 54, 55, 56, 57, 97, 98, 99, 100, 101, 102]⟩ : ByteArray)[((c.toNat : Int) / 16).toNat]'h = hx (c.toNat / 16) := by
  rw [hx_get]
  congr 1
theorem hx_get_rem (c : UInt8) (h : ((c.toNat : Int) % 16).toNat < ByteArray.size ⟨#[48, 49, 50, 51, 52, 53, 54, 55, 56, 57, 97, 98, 99, 100, 101, 102]⟩) : (⟨#[48, 49, 50, 51, 52, 53, 54, 55, 56, 57, 97, 98, 99, 100, 101, 102]⟩ : ByteArray)[((c.toNat : Int) % 16).toNat]'h = hx (c.toNat % 16) := by
  rw [hx_get]
  congr 1
theorem own_drew {w : World} {base : Nat} {e : TypeId} {size : Nat} {v : Value} {n : Nat} {xs : List Value} (h : w.ownsRow base e size v n xs) : w.drew.ownsRow base e size v n xs := h

def plainB (c : UInt8) : Bool := decide (32 ≤ (c.toNat : Int)) && decide ((c.toNat : Int) ≤ 126)
theorem isPlain_any (c : UInt8) (w : World) : Calls Tryz.prog 120 #[.int .u8 (c.toNat : Int)] w fun e w' => e = .returned (.bool (plainB c)) ∧ w = w' := by
  have hc := UInt8.toNat_lt c
  by_cases h1 : 32 ≤ (c.toNat : Int)
  · by_cases h2 : (c.toNat : Int) ≤ 126
    · have e : plainB c = true := by simp [plainB, h1, h2]
      rw [e]
      clear e
      go_enter Tryz.func120, Tryz.ntmps120
      go_wp2
      go_ret
      exact ⟨rfl, rfl⟩
    · have e : plainB c = false := by simp [plainB, h2]
      rw [e]
      clear e
      go_enter Tryz.func120, Tryz.ntmps120
      go_wp2
      go_ret
      exact ⟨rfl, rfl⟩
  · have e : plainB c = false := by simp [plainB, h1]
    rw [e]
    clear e
    go_enter Tryz.func120, Tryz.ntmps120
    go_wp2
    go_ret
    exact ⟨rfl, rfl⟩

end Go.Proofs.YtichbejmelkjeaaGreatDoor.Lx

namespace Go.Proofs.YtichbejmelkjeaaGreatDoor.Lx
open Go.RowKit

def blankB (c : UInt8) : Bool := ((c.toNat : Int) == 32) || ((c.toNat : Int) == 9) || ((c.toNat : Int) == 13) || ((c.toNat : Int) == 10)
def letterB (c : UInt8) : Bool := (decide (97 ≤ (c.toNat : Int)) && decide ((c.toNat : Int) ≤ 122)) || (decide (65 ≤ (c.toNat : Int)) && decide ((c.toNat : Int) ≤ 90))
def digitB (c : UInt8) : Bool := decide (48 ≤ (c.toNat : Int)) && decide ((c.toNat : Int) ≤ 57)
def innerB (c : UInt8) : Bool := letterB c || digitB c || ((c.toNat : Int) == 95)

theorem isBlank_any (c : UInt8) (w : World) : Calls Tryz.prog 86 #[.int .u8 (c.toNat : Int)] w fun e w' => e = .returned (.bool (blankB c)) ∧ w = w' := by
  have hc := UInt8.toNat_lt c
  unfold blankB
  generalize (c.toNat : Int) = n
  go_enter Tryz.func86, Tryz.ntmps86
  go_wp2
  all_goals go_ret
  all_goals (refine ⟨?_, rfl⟩; simp_all)

theorem isLetter_any (c : UInt8) (w : World) : Calls Tryz.prog 95 #[.int .u8 (c.toNat : Int)] w fun e w' => e = .returned (.bool (letterB c)) ∧ w = w' := by
  have hc := UInt8.toNat_lt c
  unfold letterB
  go_enter Tryz.func95, Tryz.ntmps95
  go_wp2
  all_goals go_ret
  all_goals (refine ⟨?_, rfl⟩; simp_all; try omega)

theorem isDigit_any (c : UInt8) (w : World) : Calls Tryz.prog 97 #[.int .u8 (c.toNat : Int)] w fun e w' => e = .returned (.bool (digitB c)) ∧ w = w' := by
  have hc := UInt8.toNat_lt c
  unfold digitB
  go_enter Tryz.func97, Tryz.ntmps97
  go_wp2
  all_goals go_ret
  all_goals (refine ⟨?_, rfl⟩; simp_all; try omega)

theorem isWord_any (c : UInt8) (w : World) : Calls Tryz.prog 109 #[.int .u8 (c.toNat : Int)] w fun e w' => e = .returned (.bool (innerB c)) ∧ w = w' := by
  have hc := UInt8.toNat_lt c
  unfold innerB
  go_enter Tryz.func109, Tryz.ntmps109
  go_wp2_with (first
    | (go_at_call 95; refine (isLetter_any c _).mono ?_; rintro e w1 ⟨rfl, rfl⟩)
    | (go_at_call 97; refine (isDigit_any c _).mono ?_; rintro e w1 ⟨rfl, rfl⟩)
    | go_in)
  all_goals go_ret
  all_goals (refine ⟨?_, rfl⟩; simp_all)
end Go.Proofs.YtichbejmelkjeaaGreatDoor.Lx

namespace Go.Proofs.YtichbejmelkjeaaGreatDoor.Vs.Lx
open Go.RowKit

set_option maxRecDepth 100000 in
theorem hx_run (k : Nat) (hk : k < 16) : ∀ w : World, (Instr.index 9 (.string ⟨#[48, 49, 50, 51, 52, 53, 54, 55, 56, 57, 97, 98, 99, 100, 101, 102]⟩) (.int .u8 (k : Int))).run Tryz.prog w = .ok (.int .u8 ((hx k).toNat : Int)) w := by
  have h : k = 0 ∨ k = 1 ∨ k = 2 ∨ k = 3 ∨ k = 4 ∨ k = 5 ∨ k = 6 ∨ k = 7 ∨ k = 8 ∨ k = 9 ∨ k = 10 ∨ k = 11 ∨ k = 12 ∨ k = 13 ∨ k = 14 ∨ k = 15 := by omega
  rcases h with rfl | rfl | rfl | rfl | rfl | rfl | rfl | rfl | rfl | rfl | rfl | rfl | rfl | rfl | rfl | rfl
  all_goals exact fun w => by kernel_rfl
theorem hx_quo (c : UInt8) : ∀ w : World, (Instr.index 9 (.string ⟨#[48, 49, 50, 51, 52, 53, 54, 55, 56, 57, 97, 98, 99, 100, 101, 102]⟩) (.int .u8 ((c.toNat : Int) / 16))).run Tryz.prog w = .ok (.int .u8 ((hx (c.toNat / 16)).toNat : Int)) w := by
  have hc := UInt8.toNat_lt c
  have h := hx_run (c.toNat / 16) (by omega)
  rwa [show ((c.toNat / 16 : Nat) : Int) = (c.toNat : Int) / 16 from by omega] at h
theorem hx_rem (c : UInt8) : ∀ w : World, (Instr.index 9 (.string ⟨#[48, 49, 50, 51, 52, 53, 54, 55, 56, 57, 97, 98, 99, 100, 101, 102]⟩) (.int .u8 ((c.toNat : Int) % 16))).run Tryz.prog w = .ok (.int .u8 ((hx (c.toNat % 16)).toNat : Int)) w := by
  have h := hx_run (c.toNat % 16) (by omega)
  rwa [show ((c.toNat % 16 : Nat) : Int) = (c.toNat : Int) % 16 from by omega] at h
theorem bits_and15_all : ∀ n : Fin 256, bits BinOp.and IntKind.u8 ((n.val : Nat) : Int) 15 = ((n.val : Nat) : Int) % 16 := by decide +kernel
theorem bits_and15 (c : UInt8) : bits BinOp.and IntKind.u8 (c.toNat : Int) 15 = (c.toNat : Int) % 16 := bits_and15_all ⟨c.toNat, UInt8.toNat_lt c⟩
theorem hx_get (k : Nat) (h : k < ByteArray.size ⟨#[48, 49, 50, 51, 52, 53, 54, 55, 56, 57, 97, 98, 99, 100, 101, 102]⟩) : (⟨#[48, 49, 50, 51, 52, 53, 54, 55, 56, 57, 97, 98, 99, 100, 101, 102]⟩ : ByteArray)[k]'h = hx k := by
  have hk : k < 16 := h
  have h : k = 0 ∨ k = 1 ∨ k = 2 ∨ k = 3 ∨ k = 4 ∨ k = 5 ∨ k = 6 ∨ k = 7 ∨ k = 8 ∨ k = 9 ∨ k = 10 ∨ k = 11 ∨ k = 12 ∨ k = 13 ∨ k = 14 ∨ k = 15 := by omega
  rcases h with rfl | rfl | rfl | rfl | rfl | rfl | rfl | rfl | rfl | rfl | rfl | rfl | rfl | rfl | rfl | rfl
  all_goals rfl
theorem hx_get_quo (c : UInt8) (h : ((c.toNat : Int) / 16).toNat < ByteArray.size ⟨#[48, 49, 50, 51, 52, 53, 54, 55, 56, 57, 97, 98, 99, 100, 101, 102]⟩) : (⟨#[48, 49, 50, 51, 52, 53, 54, 55, 56, 57, 97, 98, 99, 100, 101, 102]⟩ : ByteArray)[((c.toNat : Int) / 16).toNat]'h = hx (c.toNat / 16) := by
  rw [hx_get]
  congr 1
theorem hx_get_rem (c : UInt8) (h : ((c.toNat : Int) % 16).toNat < ByteArray.size ⟨#[48, 49, 50, 51, 52, 53, 54, 55, 56, 57, 97, 98, 99, 100, 101, 102]⟩) : (⟨#[48, 49, 50, 51, 52, 53, 54, 55, 56, 57, 97, 98, 99, 100, 101, 102]⟩ : ByteArray)[((c.toNat : Int) % 16).toNat]'h = hx (c.toNat % 16) := by
  rw [hx_get]
  congr 1
theorem own_drew {w : World} {base : Nat} {e : TypeId} {size : Nat} {v : Value} {n : Nat} {xs : List Value} (h : w.ownsRow base e size v n xs) : w.drew.ownsRow base e size v n xs := h

set_option maxRecDepth 100000 in
set_option maxHeartbeats 1000000 in
theorem appendShown_any (c : UInt8) (base : Nat) (v : Value) (n : Nat) (l : List UInt8) (w : World) (hown : w.ownsRow base 5 1 v n (bv l)) (h40 : n + 4 ≤ 1099511627776) (hbase : base ≤ w.heap.size) :
    Calls Tryz.prog 61 #[v, .int .u8 (c.toNat : Int)] w fun e w' => ∃ v', e = .returned v' ∧ w'.ownsRow base 5 1 v' (n + (pc c).length) (bv (l ++ pc c)) ∧ Below base w w' := by
  have hc := UInt8.toNat_lt c
  have HO : Hid (w.ownsRow base 5 1 v n (bv l)) := hown
  clear hown
  by_cases h1 : c = 10
  · subst h1
    have e : pc 10 = [92, 110] := rfl
    rw [e]
    clear e
    go_enter Tryz.func61, Tryz.ntmps61
    go_wp2_with (first
      | (at_builtin; go_loud (refine wpList_appB (by rfl) _ _ (by rfl) base v n l (by rfl) (HO.out.alloc _) w.heap.size 2 2 [92, 110] (by rfl) (by rfl) (World.news_of_block (heap_alloc_new w _)) (by omega) (by simp; omega) ?_; intro v' w' ho hb))
      | go_in)
    go_ret
    exact ⟨_, rfl, ho, Below.after_alloc hb hbase⟩
  · have b1 : ((c.toNat : Int) == 10) = false := by
      rw [beq_eq_false_iff_ne]
      intro e
      exact h1 (UInt8.toNat_inj.1 (by show c.toNat = 10; omega))
    by_cases h2 : c = 34 ∨ c = 92
    · have e : pc c = [92, c] := by unfold pc; rw [if_neg h1, if_pos h2]
      rw [e]
      clear e b1
      rcases h2 with rfl | rfl
      · clear h1
        go_enter Tryz.func61, Tryz.ntmps61
        go_wp2_with (first
          | (at_builtin; refine wpList_appB (by rfl) _ _ (by rfl) base v n l (by rfl) (HO.out.alloc _) w.heap.size 2 2 [92, 34] (by rfl) (by rfl) (World.news_of_block (heap_alloc_new w _)) (by omega) (by simp; omega) ?_; intro v' w' ho hb)
          | go_in)
        go_ret
        exact ⟨_, rfl, ho, Below.after_alloc hb hbase⟩
      · clear h1
        go_enter Tryz.func61, Tryz.ntmps61
        go_wp2_with (first
          | (at_builtin; refine wpList_appB (by rfl) _ _ (by rfl) base v n l (by rfl) (HO.out.alloc _) w.heap.size 2 2 [92, 92] (by rfl) (by rfl) (World.news_of_block (heap_alloc_new w _)) (by omega) (by simp; omega) ?_; intro v' w' ho hb)
          | go_in)
        go_ret
        exact ⟨_, rfl, ho, Below.after_alloc hb hbase⟩
    · have b2 : ((c.toNat : Int) == 34) = false := by
        rw [beq_eq_false_iff_ne]
        intro e
        exact h2 (Or.inl (UInt8.toNat_inj.1 (by show c.toNat = 34; omega)))
      have b3 : ((c.toNat : Int) == 92) = false := by
        rw [beq_eq_false_iff_ne]
        intro e
        exact h2 (Or.inr (UInt8.toNat_inj.1 (by show c.toNat = 92; omega)))
      by_cases h3 : 32 ≤ c.toNat ∧ c.toNat ≤ 126
      · have e : pc c = [c] := by unfold pc; rw [if_neg h1, if_neg h2, if_pos h3]
        rw [e]
        have g1 : (32 : Int) ≤ (c.toNat : Int) := by omega
        have g2 : (c.toNat : Int) ≤ 126 := by omega
        clear e h1 h2 h3
        go_enter Tryz.func61, Tryz.ntmps61
        go_wp2_with (first
          | (at_builtin; refine wpList_appB (by rfl) _ _ (by rfl) base v n l (by rfl) (HO.out.alloc _) w.heap.size 1 1 [c] (by rfl) (by rfl) (World.news_of_block (heap_alloc_new w _)) (by omega) (by simp; omega) ?_; intro v' w' ho hb)
          | go_in)
        go_ret
        exact ⟨_, rfl, ho, Below.after_alloc hb hbase⟩
      · have e : pc c = [92, 120, hx (c.toNat / 16), hx (c.toNat % 16)] := by unfold pc; rw [if_neg h1, if_neg h2, if_neg h3]
        rw [e]
        have hq0 : (0 : Int) ≤ (c.toNat : Int) / 16 := by omega
        have hq1 : (c.toNat : Int) / 16 < 16 := by omega
        have hm0 : (0 : Int) ≤ (c.toNat : Int) % 16 := by omega
        have hm1 : (c.toNat : Int) % 16 < 16 := by omega
        have hand := bits_and15 c
        have ho2 : ¬ (32 : Int) ≤ (c.toNat : Int) ∨ ((32 : Int) ≤ (c.toNat : Int) ∧ ¬ (c.toNat : Int) ≤ 126) := by omega
        clear e h1 h2 h3
        rcases ho2 with g1 | ⟨g1, g2⟩
        all_goals
          go_enter Tryz.func61, Tryz.ntmps61
          go_wp2_with fail
          go_region_law ((refine step_appB (by rfl) _ _ (by rfl) base v n l (by rfl) ((own_drew HO.out).alloc _) _ 4 4 [92, 120, _, _] (by rfl) (by rfl) (World.news_of_block (heap_alloc_new _ _)) (by omega) (by simp; omega) ?_; intro v' w' ho hb))
          all_goals rw [hx_get_quo c, hx_get_rem c] at ho
          all_goals go_wp2
          all_goals go_ret
          all_goals exact ⟨_, rfl, ho, (((Below.refl base w).alloc hbase _).drew).trans hb⟩
end Go.Proofs.YtichbejmelkjeaaGreatDoor.Vs.Lx
