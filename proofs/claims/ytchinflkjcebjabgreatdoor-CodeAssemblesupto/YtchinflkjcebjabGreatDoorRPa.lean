import Derived.Test.YtchinflkjcebjabGreatDoorRV1
import Derived.Test.YtchinflkjcebjabGreatDoorCS1
namespace Go.Proofs.YtchinflkjcebjabGreatDoor
open Go.RowKit

theorem cat_bk (x y : List UInt8) (h : x.length + y.length ≤ 9223372036854775807) : Op.stringOp .add (YtchinflkjcebjabGreatDoor.bk x) (YtchinflkjcebjabGreatDoor.bk y) = pure (.string (YtchinflkjcebjabGreatDoor.bk (x ++ y))) := by
  have e : YtchinflkjcebjabGreatDoor.bk (x ++ y) = YtchinflkjcebjabGreatDoor.bk x ++ YtchinflkjcebjabGreatDoor.bk y := by
    apply ByteArray.ext
    apply Array.ext'
    simp [YtchinflkjcebjabGreatDoor.bk]
  rw [e]
  unfold Op.stringOp
  simp only
  have e2 : IntKind.i64.max = 9223372036854775807 := by decide
  rw [e2, if_neg (by rw [bk_size, bk_size]; omega)]

/-! The reference's words. -/
def tabWd : Array Value := #[.string ⟨#[110, 111, 112]⟩, .string ⟨#[105, 110, 116]⟩, .string ⟨#[98, 111, 111, 108]⟩, .string ⟨#[116, 101, 120, 116]⟩, .string ⟨#[108, 111, 97, 100]⟩, .string ⟨#[115, 116, 111, 114, 101]⟩, .string ⟨#[112, 111, 112]⟩, .string ⟨#[117, 110]⟩, .string ⟨#[98, 105, 110]⟩, .string ⟨#[106, 117, 109, 112]⟩, .string ⟨#[102, 97, 108, 115, 101]⟩, .string ⟨#[99, 97, 108, 108]⟩, .string ⟨#[114, 101, 116]⟩, .string ⟨#[100, 111, 110, 101]⟩, .string ⟨#[110, 101, 119]⟩, .string ⟨#[103, 101, 116]⟩, .string ⟨#[112, 117, 116]⟩, .string ⟨#[108, 101, 110]⟩, .string ⟨#[115, 116, 114]⟩, .string ⟨#[112, 114, 105, 110, 116]⟩, .string ⟨#[114, 101, 97, 100]⟩, .string ⟨#[101, 109, 105, 116]⟩, .string ⟨#[115, 104, 111, 119]⟩, .string ⟨#[116, 101, 108, 108]⟩]
theorem wd_tab (k : Nat) (hk : k < 24) : tabWd[k]? = some (.string (wdT.getD k e0)) := by
  match k, hk with
  | 0, _ => rfl
  | 1, _ => rfl
  | 2, _ => rfl
  | 3, _ => rfl
  | 4, _ => rfl
  | 5, _ => rfl
  | 6, _ => rfl
  | 7, _ => rfl
  | 8, _ => rfl
  | 9, _ => rfl
  | 10, _ => rfl
  | 11, _ => rfl
  | 12, _ => rfl
  | 13, _ => rfl
  | 14, _ => rfl
  | 15, _ => rfl
  | 16, _ => rfl
  | 17, _ => rfl
  | 18, _ => rfl
  | 19, _ => rfl
  | 20, _ => rfl
  | 21, _ => rfl
  | 22, _ => rfl
  | 23, _ => rfl
  | n + 24, h => exact absurd h (by omega)
theorem alcW (w : World) : (Instr.alloc 106 true (.tuple #[])).run Tryz.prog w = .ok (.pointer (some ⟨w.heap.size, 0, none⟩)) (w.alloc (.cells (Array.replicate 24 (.string ⟨#[]⟩)) 106)) := by kernel_rfl
set_option maxRecDepth 100000 in
set_option maxHeartbeats 1000000 in
theorem rword_any (k : Nat) (w : World) (hk : k < 24) : Calls Tryz.prog 36 #[.int .i64 (k : Int)] w fun e w' => e = .returned (.string (wdT.getD k e0)) ∧ Below w.heap.size w w' := by
  have ht := wd_tab k hk
  obtain ⟨nb, hx⟩ := tab_lay w 106 tabWd (Array.replicate 24 (.string ⟨#[]⟩)) rfl
  have hx' := hx k _ ht
  generalize wdT.getD k e0 = oa at *
  have k0 : (0 : Int) ≤ (k : Int) := by omega
  have k1 : (k : Int) < 24 := by omega
  clear hx ht
  go_enter Tryz.func36, Tryz.ntmps36
  go_upto_region 1 with fail
  refine wp_region_lit ?_
  refine wpList_bld (by rfl) 106 _ (by rfl) (.agg tabWd) (by kernel_rfl) ?_
  refine wpList_alc (by rfl) 106 (by rfl) _ (alcW w) ?_
  refine wpList_store_mid (by rfl) 106 (.tmp 3) (.tmp 4) (by rfl) w.heap.size 0 tabWd (by rfl) (by rfl) (tab_there w 106 24 _ rfl) (by kernel_rfl) (by kernel_rfl) ?_
  generalize (w.alloc (.cells (Array.replicate 24 (.string ⟨#[]⟩)) 106)).setCells w.heap.size 0 tabWd.toList = X at nb hx' ⊢
  go_wp2
  go_ret
  exact ⟨rfl, nb⟩
def tabSg : Array Value := #[.string ⟨#[]⟩, .string ⟨#[45]⟩, .string ⟨#[33]⟩, .string ⟨#[43]⟩, .string ⟨#[45]⟩, .string ⟨#[42]⟩, .string ⟨#[47]⟩, .string ⟨#[37]⟩, .string ⟨#[61, 61]⟩, .string ⟨#[33, 61]⟩, .string ⟨#[60]⟩, .string ⟨#[60, 61]⟩, .string ⟨#[62]⟩, .string ⟨#[62, 61]⟩]
theorem sg_tab (k : Nat) (hk : k < 14) : tabSg[k]? = some (.string (sgT.getD k e0)) := by
  match k, hk with
  | 0, _ => rfl
  | 1, _ => rfl
  | 2, _ => rfl
  | 3, _ => rfl
  | 4, _ => rfl
  | 5, _ => rfl
  | 6, _ => rfl
  | 7, _ => rfl
  | 8, _ => rfl
  | 9, _ => rfl
  | 10, _ => rfl
  | 11, _ => rfl
  | 12, _ => rfl
  | 13, _ => rfl
  | n + 14, h => exact absurd h (by omega)
theorem alcG (w : World) : (Instr.alloc 102 true (.tuple #[])).run Tryz.prog w = .ok (.pointer (some ⟨w.heap.size, 0, none⟩)) (w.alloc (.cells (Array.replicate 14 (.string ⟨#[]⟩)) 102)) := by kernel_rfl
set_option maxRecDepth 100000 in
set_option maxHeartbeats 1000000 in
theorem rsign_any (k : Nat) (w : World) (hk : k < 14) : Calls Tryz.prog 63 #[.int .i64 (k : Int)] w fun e w' => e = .returned (.string (sgT.getD k e0)) ∧ Below w.heap.size w w' := by
  have ht := sg_tab k hk
  obtain ⟨nb, hx⟩ := tab_lay w 102 tabSg (Array.replicate 14 (.string ⟨#[]⟩)) rfl
  have hx' := hx k _ ht
  generalize sgT.getD k e0 = oa at *
  have k0 : (0 : Int) ≤ (k : Int) := by omega
  have k1 : (k : Int) < 14 := by omega
  clear hx ht
  go_enter Tryz.func63, Tryz.ntmps63
  go_upto_region 1 with fail
  refine wp_region_lit ?_
  refine wpList_bld (by rfl) 102 _ (by rfl) (.agg tabSg) (by kernel_rfl) ?_
  refine wpList_alc (by rfl) 102 (by rfl) _ (alcG w) ?_
  refine wpList_store_mid (by rfl) 102 (.tmp 3) (.tmp 4) (by rfl) w.heap.size 0 tabSg (by rfl) (by rfl) (tab_there w 102 14 _ rfl) (by kernel_rfl) (by kernel_rfl) ?_
  generalize (w.alloc (.cells (Array.replicate 14 (.string ⟨#[]⟩)) 102)).setCells w.heap.size 0 tabSg.toList = X at nb hx' ⊢
  go_wp2
  go_ret
  exact ⟨rfl, nb⟩
def tabBs : Array Value := #[.string ⟨#[]⟩, .string ⟨#[105, 110, 116]⟩, .string ⟨#[98, 111, 111, 108]⟩, .string ⟨#[116, 101, 120, 116]⟩]
def baseL (b : Nat) : List UInt8 := if b = 1 then [105, 110, 116] else if b = 2 then [98, 111, 111, 108] else if b = 3 then [116, 101, 120, 116] else []
/-- A base in so many brackets. -/
def brk (b : Nat) : Nat → List UInt8
  | 0 => baseL b
  | k + 1 => 91 :: (brk b k ++ [93])
theorem bs_tab (k : Nat) (hk : k < 4) : tabBs[k]? = some (.string (YtchinflkjcebjabGreatDoor.bk (baseL k))) := by
  match k, hk with
  | 0, _ => rfl
  | 1, _ => rfl
  | 2, _ => rfl
  | 3, _ => rfl
  | n + 4, h => exact absurd h (by omega)
theorem ty_brk : ∀ n : Fin 20, (n.val = 0 ∨ sortS (n.val : Int) = true) → tyW (n.val : Int) = brk (n.val % 4) (n.val / 4) := by decide +kernel
theorem brk_len (b : Nat) : ∀ k, (brk b k).length ≤ 4 + 2 * k
  | 0 => by unfold brk baseL; split <;> (try split) <;> (try split) <;> simp
  | k + 1 => by
    have := brk_len b k
    unfold brk
    simp only [List.length_cons, List.length_append, List.length_nil]
    omega
theorem alcB (w : World) : (Instr.alloc 105 true (.tuple #[])).run Tryz.prog w = .ok (.pointer (some ⟨w.heap.size, 0, none⟩)) (w.alloc (.cells (Array.replicate 4 (.string ⟨#[]⟩)) 105)) := by kernel_rfl
set_option maxRecDepth 100000 in
set_option maxHeartbeats 1000000 in
theorem rtype_any (n : Nat) (w : World) (hn : n < 20) (hs : n = 0 ∨ sortS (n : Int) = true) : Calls Tryz.prog 35 #[.int .i64 (n : Int)] w fun e w' => e = .returned (.string (YtchinflkjcebjabGreatDoor.bk (tyW (n : Int)))) ∧ Below w.heap.size w w' := by
  have ht := ty_brk ⟨n, hn⟩ hs
  simp only at ht
  rw [ht]
  clear ht hs
  have hb := bs_tab (n % 4) (by omega)
  obtain ⟨nb, hx⟩ := tab_lay w 105 tabBs (Array.replicate 4 (.string ⟨#[]⟩)) rfl
  have hx' := hx (n % 4) _ hb
  have r1 : (n : Int) % 4 = ((n % 4 : Nat) : Int) := by omega
  have r2 : (n : Int) / 4 = ((n / 4 : Nat) : Int) := by omega
  have hb4 : n % 4 < 4 := by omega
  have hk4 : n / 4 < 5 := by omega
  have n0 : (0 : Int) ≤ (n : Int) := by omega
  have n1 : (n : Int) < 20 := by omega
  generalize n % 4 = b at *
  generalize n / 4 = m at *
  have b0 : (0 : Int) ≤ (b : Int) := by omega
  have b1 : (b : Int) < 4 := by omega
  have m5 : (m : Int) < 5 := by omega
  clear hx hb
  obtain ⟨S0, HS0⟩ : ∃ S0, Hid (S0 = YtchinflkjcebjabGreatDoor.bk (brk b 0)) := ⟨_, (rfl : YtchinflkjcebjabGreatDoor.bk (brk b 0) = _)⟩
  have e0' : YtchinflkjcebjabGreatDoor.bk (baseL b) = S0 := HS0.out.symm
  rw [e0'] at hx'
  clear e0'
  go_enter Tryz.func35, Tryz.ntmps35
  go_upto_region 1 with fail
  refine wp_region_lit ?_
  refine wpList_bld (by rfl) 105 _ (by rfl) (.agg tabBs) (by kernel_rfl) ?_
  refine wpList_alc (by rfl) 105 (by rfl) _ (alcB w) ?_
  refine wpList_store_mid (by rfl) 105 (.tmp 3) (.tmp 6) (by rfl) w.heap.size 0 tabBs (by rfl) (by rfl) (tab_there w 105 4 _ rfl) (by kernel_rfl) (by kernel_rfl) ?_
  generalize (w.alloc (.cells (Array.replicate 4 (.string ⟨#[]⟩)) 105)).setCells w.heap.size 0 tabBs.toList = X at nb hx' ⊢
  go_wp2_with fail
  go_loopw [4, 5] (fun v i wr => ∃ (S : ByteArray) (k : Nat), v = .string S ∧ k ≤ m ∧ i = .int .i64 (k : Int) ∧ Hid (S = YtchinflkjcebjabGreatDoor.bk (brk b k)) ∧ wr = X) (fun _ i _ => m - (intOf i).toNat)
  case atStart => exact ⟨S0, 0, rfl, Nat.zero_le _, rfl, HS0, rfl⟩
  case round =>
    obtain ⟨S, k, rfl, hk, rfl, hS, hw⟩ := hrel
    subst wr
    have hl := brk_len b k
    by_cases hlt : k < m
    · have k1 := cat_bk [91] (brk b k) (by simp; omega)
      have k2 := cat_bk ([91] ++ brk b k) [93] (by simp; omega)
      rw [← hS.out] at k1
      have HN : Hid (YtchinflkjcebjabGreatDoor.bk ([91] ++ brk b k ++ [93]) = YtchinflkjcebjabGreatDoor.bk (brk b (k + 1))) := by
        show _ = _
        rw [brk]
        rfl
      generalize YtchinflkjcebjabGreatDoor.bk ([91] ++ brk b k ++ [93]) = S2 at k2 HN
      generalize YtchinflkjcebjabGreatDoor.bk ([91] ++ brk b k) = S1 at k1 k2
      have k1' : Op.stringOp .add ⟨#[91]⟩ S = pure (.string S1) := k1
      have k2' : Op.stringOp .add S1 ⟨#[93]⟩ = pure (.string S2) := k2
      have j1 : (k : Int) < (m : Int) := by omega
      clear k1 k2 hS hl
      go_wp2
      exact ⟨⟨S2, k + 1, rfl, by omega, by go_num, HN, trivial⟩, by simp [intOf]; omega⟩
    · obtain rfl : k = m := by omega
      have j1 : ¬ (k : Int) < (k : Int) := by omega
      clear hl
      go_wp2
      first | (change bodyPost Tryz.prog Tryz.f35 _ Exit.ret _ _) | (simp only [Exit.noGoto])
      go_ret
      exact ⟨by rw [← hS.out]; rfl, nb⟩
end Go.Proofs.YtchinflkjcebjabGreatDoor
