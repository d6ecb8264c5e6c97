import Derived.Test.YtcjnejdemfemfaaGreatDoorRWc
import Derived.Test.YtcjnejdemfemfaaGreatDoorShD
namespace Go.Proofs.YtcjnejdemfemfaaGreatDoor
open Go.RowKit

/-! The reference's words. -/
def tabWd : Array Value := #[.string ⟨#[110, 111, 112]⟩, .string ⟨#[105, 110, 116]⟩, .string ⟨#[98, 111, 111, 108]⟩, .string ⟨#[116, 101, 120, 116]⟩, .string ⟨#[108, 111, 97, 100]⟩, .string ⟨#[115, 116, 111, 114, 101]⟩, .string ⟨#[112, 111, 112]⟩, .string ⟨#[117, 110]⟩, .string ⟨#[98, 105, 110]⟩, .string ⟨#[106, 117, 109, 112]⟩, .string ⟨#[102, 97, 108, 115, 101]⟩, .string ⟨#[99, 97, 108, 108]⟩, .string ⟨#[114, 101, 116]⟩, .string ⟨#[100, 111, 110, 101]⟩, .string ⟨#[110, 101, 119]⟩, .string ⟨#[103, 101, 116]⟩, .string ⟨#[112, 117, 116]⟩, .string ⟨#[108, 101, 110]⟩, .string ⟨#[115, 116, 114]⟩, .string ⟨#[112, 114, 105, 110, 116]⟩, .string ⟨#[114, 101, 97, 100]⟩, .string ⟨#[101, 109, 105, 116]⟩, .string ⟨#[115, 104, 111, 119]⟩, .string ⟨#[116, 101, 108, 108]⟩]
theorem wd_tab (k : Nat) (hk : k < 24) : tabWd[k]? = some (.string (wdT.getD k e0)) := by
  match k, hk with
  | 0, _ => rfl
  | 1, _ => rfl
  | 2, _ => rfl
  | 3, _ => rfl
  | 4, _ => rfl
  | 5, _ => rfl
  | 6, _ => rfl
  | 7, _ => rfl
  | 8, _ => rfl
  | 9, _ => rfl
  | 10, _ => rfl
  | 11, _ => rfl
  | 12, _ => rfl
  | 13, _ => rfl
  | 14, _ => rfl
  | 15, _ => rfl
  | 16, _ => rfl
  | 17, _ => rfl
  | 18, _ => rfl
  | 19, _ => rfl
  | 20, _ => rfl
  | 21, _ => rfl
  | 22, _ => rfl
  | 23, _ => rfl
  | n + 24, h => exact absurd h (by omega)
theorem alcW (w : World) : (Instr.alloc 89 true (.tuple #[])).run Tryz.prog w = .ok (.pointer (some ⟨w.heap.size, 0, none⟩)) (w.alloc (.cells (Array.replicate 24 (.string ⟨#[]⟩)) 89)) := by kernel_rfl
set_option maxRecDepth 100000 in
set_option maxHeartbeats 1000000 in
theorem rword_any (k : Nat) (w : World) (hk : k < 24) : Calls Tryz.prog 19 #[.int .i64 (k : Int)] w fun e w' => e = .returned (.string (wdT.getD k e0)) ∧ Below w.heap.size w w' := by
  have ht := wd_tab k hk
  obtain ⟨nb, hx⟩ := tab_lay w 89 tabWd (Array.replicate 24 (.string ⟨#[]⟩)) rfl
  have hx' := hx k _ ht
  generalize wdT.getD k e0 = oa at *
  have k0 : (0 : Int) ≤ (k : Int) := by omega
  have k1 : (k : Int) < 24 := by omega
  clear hx ht
  go_enter Tryz.func19, Tryz.ntmps19
  go_upto_region 1 with fail
  refine wp_region_lit ?_
  refine wpList_bld (by rfl) 89 _ (by rfl) (.agg tabWd) (by kernel_rfl) ?_
  refine wpList_alc (by rfl) 89 (by rfl) _ (alcW w) ?_
  refine wpList_store_mid (by rfl) 89 (.tmp 3) (.tmp 4) (by rfl) w.heap.size 0 tabWd (by rfl) (by rfl) (tab_there w 89 24 _ rfl) (by kernel_rfl) (by kernel_rfl) ?_
  generalize (w.alloc (.cells (Array.replicate 24 (.string ⟨#[]⟩)) 89)).setCells w.heap.size 0 tabWd.toList = X at nb hx' ⊢
  go_wp2
  go_ret
  exact ⟨rfl, nb⟩
def tabSg : Array Value := #[.string ⟨#[]⟩, .string ⟨#[45]⟩, .string ⟨#[33]⟩, .string ⟨#[43]⟩, .string ⟨#[45]⟩, .string ⟨#[42]⟩, .string ⟨#[47]⟩, .string ⟨#[37]⟩, .string ⟨#[61, 61]⟩, .string ⟨#[33, 61]⟩, .string ⟨#[60]⟩, .string ⟨#[60, 61]⟩, .string ⟨#[62]⟩, .string ⟨#[62, 61]⟩]
theorem sg_tab (k : Nat) (hk : k < 14) : tabSg[k]? = some (.string (sgT.getD k e0)) := by
  match k, hk with
  | 0, _ => rfl
  | 1, _ => rfl
  | 2, _ => rfl
  | 3, _ => rfl
  | 4, _ => rfl
  | 5, _ => rfl
  | 6, _ => rfl
  | 7, _ => rfl
  | 8, _ => rfl
  | 9, _ => rfl
  | 10, _ => rfl
  | 11, _ => rfl
  | 12, _ => rfl
  | 13, _ => rfl
  | n + 14, h => exact absurd h (by omega)
theorem alcG (w : World) : (Instr.alloc 109 true (.tuple #[])).run Tryz.prog w = .ok (.pointer (some ⟨w.heap.size, 0, none⟩)) (w.alloc (.cells (Array.replicate 14 (.string ⟨#[]⟩)) 109)) := by kernel_rfl
set_option maxRecDepth 100000 in
set_option maxHeartbeats 1000000 in
theorem rsign_any (k : Nat) (w : World) (hk : k < 14) : Calls Tryz.prog 43 #[.int .i64 (k : Int)] w fun e w' => e = .returned (.string (sgT.getD k e0)) ∧ Below w.heap.size w w' := by
  have ht := sg_tab k hk
  obtain ⟨nb, hx⟩ := tab_lay w 109 tabSg (Array.replicate 14 (.string ⟨#[]⟩)) rfl
  have hx' := hx k _ ht
  generalize sgT.getD k e0 = oa at *
  have k0 : (0 : Int) ≤ (k : Int) := by omega
  have k1 : (k : Int) < 14 := by omega
  clear hx ht
  go_enter Tryz.func43, Tryz.ntmps43
  go_upto_region 1 with fail
  refine wp_region_lit ?_
  refine wpList_bld (by rfl) 109 _ (by rfl) (.agg tabSg) (by kernel_rfl) ?_
  refine wpList_alc (by rfl) 109 (by rfl) _ (alcG w) ?_
  refine wpList_store_mid (by rfl) 109 (.tmp 3) (.tmp 4) (by rfl) w.heap.size 0 tabSg (by rfl) (by rfl) (tab_there w 109 14 _ rfl) (by kernel_rfl) (by kernel_rfl) ?_
  generalize (w.alloc (.cells (Array.replicate 14 (.string ⟨#[]⟩)) 109)).setCells w.heap.size 0 tabSg.toList = X at nb hx' ⊢
  go_wp2
  go_ret
  exact ⟨rfl, nb⟩
theorem itoa_b (n : Int) (w : World) (h0 : -9223372036854775808 ≤ n) (h1 : n ≤ 9223372036854775807) (ht : Tabs w) :
    Calls Tryz.prog 16 #[.int .i64 n] w fun e w' => e = .returned (.string (YtcjnejdemfemfaaGreatDoor.bk (Lib.itoa n))) ∧ Below w.heap.size w w' := by
  refine (Tryz.strconv_Itoa n h0 h1 w ht.pow).mono ?_
  rintro e w' ⟨rfl, k, os, rfl⟩
  exact ⟨rfl, below_regrown w (w.drawn + k) os⟩
def tabBs : Array Value := #[.string ⟨#[]⟩, .string ⟨#[105, 110, 116]⟩, .string ⟨#[98, 111, 111, 108]⟩, .string ⟨#[116, 101, 120, 116]⟩]
def baseL (b : Nat) : List UInt8 := if b = 1 then [105, 110, 116] else if b = 2 then [98, 111, 111, 108] else if b = 3 then [116, 101, 120, 116] else []
/-- A base in so many brackets. -/
def brk (b : Nat) : Nat → List UInt8
  | 0 => baseL b
  | k + 1 => 91 :: (brk b k ++ [93])
theorem bs_tab (k : Nat) (hk : k < 4) : tabBs[k]? = some (.string (YtcjnejdemfemfaaGreatDoor.bk (baseL k))) := by
  match k, hk with
  | 0, _ => rfl
  | 1, _ => rfl
  | 2, _ => rfl
  | 3, _ => rfl
  | n + 4, h => exact absurd h (by omega)
theorem ty_brk : ∀ n : Fin 20, (n.val = 0 ∨ sortS (n.val : Int) = true) → tyW (n.val : Int) = brk (n.val % 4) (n.val / 4) := by decide +kernel
theorem brk_len (b : Nat) : ∀ k, (brk b k).length ≤ 4 + 2 * k
  | 0 => by unfold brk baseL; split <;> (try split) <;> (try split) <;> simp
  | k + 1 => by
    have := brk_len b k
    unfold brk
    simp only [List.length_cons, List.length_append, List.length_nil]
    omega
theorem alcB (w : World) : (Instr.alloc 88 true (.tuple #[])).run Tryz.prog w = .ok (.pointer (some ⟨w.heap.size, 0, none⟩)) (w.alloc (.cells (Array.replicate 4 (.string ⟨#[]⟩)) 88)) := by kernel_rfl
set_option maxRecDepth 100000 in
set_option maxHeartbeats 1000000 in
theorem rtype_any (n : Nat) (w : World) (hn : n < 20) (hs : n = 0 ∨ sortS (n : Int) = true) : Calls Tryz.prog 18 #[.int .i64 (n : Int)] w fun e w' => e = .returned (.string (YtcjnejdemfemfaaGreatDoor.bk (tyW (n : Int)))) ∧ Below w.heap.size w w' := by
  have ht := ty_brk ⟨n, hn⟩ hs
  simp only at ht
  rw [ht]
  clear ht hs
  have hb := bs_tab (n % 4) (by omega)
  obtain ⟨nb, hx⟩ := tab_lay w 88 tabBs (Array.replicate 4 (.string ⟨#[]⟩)) rfl
  have hx' := hx (n % 4) _ hb
  have r1 : (n : Int) % 4 = ((n % 4 : Nat) : Int) := by omega
  have r2 : (n : Int) / 4 = ((n / 4 : Nat) : Int) := by omega
  have hb4 : n % 4 < 4 := by omega
  have hk4 : n / 4 < 5 := by omega
  have n0 : (0 : Int) ≤ (n : Int) := by omega
  have n1 : (n : Int) < 20 := by omega
  generalize n % 4 = b at *
  generalize n / 4 = m at *
  have b0 : (0 : Int) ≤ (b : Int) := by omega
  have b1 : (b : Int) < 4 := by omega
  have m5 : (m : Int) < 5 := by omega
  clear hx hb
  obtain ⟨S0, HS0⟩ : ∃ S0, Hid (S0 = YtcjnejdemfemfaaGreatDoor.bk (brk b 0)) := ⟨_, (rfl : YtcjnejdemfemfaaGreatDoor.bk (brk b 0) = _)⟩
  have e0' : YtcjnejdemfemfaaGreatDoor.bk (baseL b) = S0 := HS0.out.symm
  rw [e0'] at hx'
  clear e0'
  go_enter Tryz.func18, Tryz.ntmps18
  go_upto_region 1 with fail
  refine wp_region_lit ?_
  refine wpList_bld (by rfl) 88 _ (by rfl) (.agg tabBs) (by kernel_rfl) ?_
  refine wpList_alc (by rfl) 88 (by rfl) _ (alcB w) ?_
  refine wpList_store_mid (by rfl) 88 (.tmp 3) (.tmp 6) (by rfl) w.heap.size 0 tabBs (by rfl) (by rfl) (tab_there w 88 4 _ rfl) (by kernel_rfl) (by kernel_rfl) ?_
  generalize (w.alloc (.cells (Array.replicate 4 (.string ⟨#[]⟩)) 88)).setCells w.heap.size 0 tabBs.toList = X at nb hx' ⊢
  go_wp2_with fail
  go_loopw [4, 5] (fun v i wr => ∃ (S : ByteArray) (k : Nat), v = .string S ∧ k ≤ m ∧ i = .int .i64 (k : Int) ∧ Hid (S = YtcjnejdemfemfaaGreatDoor.bk (brk b k)) ∧ wr = X) (fun _ i _ => m - (intOf i).toNat)
  case atStart => exact ⟨S0, 0, rfl, Nat.zero_le _, rfl, HS0, rfl⟩
  case round =>
    obtain ⟨S, k, rfl, hk, rfl, hS, hw⟩ := hrel
    subst wr
    have hl := brk_len b k
    by_cases hlt : k < m
    · have k1 := cat_bk [91] (brk b k) (by simp; omega)
      have k2 := cat_bk ([91] ++ brk b k) [93] (by simp; omega)
      rw [← hS.out] at k1
      have HN : Hid (YtcjnejdemfemfaaGreatDoor.bk ([91] ++ brk b k ++ [93]) = YtcjnejdemfemfaaGreatDoor.bk (brk b (k + 1))) := by
        show _ = _
        rw [brk]
        rfl
      generalize YtcjnejdemfemfaaGreatDoor.bk ([91] ++ brk b k ++ [93]) = S2 at k2 HN
      generalize YtcjnejdemfemfaaGreatDoor.bk ([91] ++ brk b k) = S1 at k1 k2
      have k1' : Op.stringOp .add ⟨#[91]⟩ S = pure (.string S1) := k1
      have k2' : Op.stringOp .add S1 ⟨#[93]⟩ = pure (.string S2) := k2
      have j1 : (k : Int) < (m : Int) := by omega
      clear k1 k2 hS hl
      go_wp2
      exact ⟨⟨S2, k + 1, rfl, by omega, by go_num, HN, trivial⟩, by simp [intOf]; omega⟩
    · obtain rfl : k = m := by omega
      have j1 : ¬ (k : Int) < (k : Int) := by omega
      clear hl
      go_wp2
      first | (change bodyPost Tryz.prog Tryz.f18 _ Exit.ret _ _) | (simp only [Exit.noGoto])
      go_ret
      exact ⟨by rw [← hS.out]; rfl, nb⟩
end Go.Proofs.YtcjnejdemfemfaaGreatDoor
namespace Go.Proofs.YtcjnejdemfemfaaGreatDoor
open Go.RowKit

theorem blank_cat (l : List UInt8) (h : l.length ≤ 1000) : Op.stringOp .add ⟨#[32]⟩ (YtcjnejdemfemfaaGreatDoor.bk l) = pure (.string (YtcjnejdemfemfaaGreatDoor.bk (32 :: l))) := cat_bk [32] l (by simp; omega)
/-- An operand as a word, with a blank ahead. -/
def roW (o : Nat) (n : Int) : List UInt8 := if o = 0 then [] else 32 :: opW o n
set_option maxRecDepth 100000 in
set_option maxHeartbeats 2000000 in
theorem roper_any (o : Nat) (n : Int) (w : World) (ho : o < 12) (hm : mayS o n = true) (ht : Tabs w) : Calls Tryz.prog 20 #[.int .i64 (o : Int), .int .i64 n] w fun e w' => e = .returned (.string (YtcjnejdemfemfaaGreatDoor.bk (roW o n))) ∧ Below w.heap.size w w' := by
  obtain ⟨h0, h1⟩ := may_i64 (by omega) hm
  obtain ⟨lo, hi⟩ := may_rng hm
  have hlen := opW_len o n h0 h1
  by_cases q0 : o = 0
  · subst q0
    have e : roW 0 n = [] := rfl
    rw [e]
    clear hlen
    go_enter Tryz.func20, Tryz.ntmps20
    go_wp2
    go_ret
    exact ⟨rfl, Below.refl _ _⟩
  have eR : roW o n = 32 :: opW o n := by unfold roW; rw [if_neg q0]
  by_cases q2 : o = 2
  · subst q2
    by_cases hn : n = 1
    · subst hn
      have e : roW 2 1 = [32, 116, 114, 117, 101] := rfl
      rw [e]
      clear hlen eR
      go_enter Tryz.func20, Tryz.ntmps20
      go_wp2
      go_ret
      exact ⟨rfl, Below.refl _ _⟩
    · have e : roW 2 n = [32, 102, 97, 108, 115, 101] := by unfold roW opW; rw [if_neg (by decide), if_pos rfl, if_neg hn]
      rw [e]
      have hn' : (n == 1) = false := by rw [beq_eq_false_iff_ne]; exact hn
      clear hlen eR e
      go_enter Tryz.func20, Tryz.ntmps20
      go_wp2
      go_ret
      exact ⟨rfl, Below.refl _ _⟩
  by_cases q56 : o = 5 ∨ o = 6
  · have hrng : 0 ≤ n ∧ n < 14 := by
      rcases q56 with rfl | rfl
      · have a : (1 : Int) ≤ n := lo
        have b : n ≤ (2 : Int) := hi
        omega
      · have a : (3 : Int) ≤ n := lo
        have b : n ≤ (13 : Int) := hi
        omega
    obtain ⟨k, rfl⟩ : ∃ k : Nat, n = (k : Int) := ⟨n.toNat, by omega⟩
    have hk : k < 14 := by omega
    have eo : opW o (k : Int) = (sgT.getD k e0).data.toList := by unfold opW; rw [if_neg q2, if_pos q56, Int.toNat_natCast]
    have s1 := rsign_any k w hk
    have kc := blank_cat (opW o (k : Int)) (by omega)
    rw [← eR, eo, bk_all] at kc
    generalize YtcjnejdemfemfaaGreatDoor.bk (roW o (k : Int)) = R at kc ⊢
    generalize sgT.getD k e0 = sg at s1 kc
    have o56 : ((o : Int) == 5 || (o : Int) == 6) = true := by
      rcases q56 with rfl | rfl <;> rfl
    clear eo eR hlen lo hi hm ht
    rcases q56 with rfl | rfl
    · go_enter Tryz.func20, Tryz.ntmps20
      go_wp2_with (first | (go_at_call 43; refine s1.mono ?_; rintro e W ⟨rfl, hw⟩) | fail)
      go_ret
      exact ⟨rfl, hw⟩
    · go_enter Tryz.func20, Tryz.ntmps20
      go_wp2_with (first | (go_at_call 43; refine s1.mono ?_; rintro e W ⟨rfl, hw⟩) | fail)
      go_ret
      exact ⟨rfl, hw⟩
  by_cases q9 : o = 9
  · subst q9
    have hs : sortS n = true := ((may_iff 9 n).1 hm).2.2 rfl
    have hr := sort_rng hs
    obtain ⟨k, rfl⟩ : ∃ k : Nat, n = (k : Int) := ⟨n.toNat, by omega⟩
    have eo : opW 9 (k : Int) = tyW (k : Int) := rfl
    have s1 := rtype_any k w (by omega) (.inr hs)
    have kc := blank_cat (opW 9 (k : Int)) (by omega)
    rw [← eR, eo] at kc
    generalize YtcjnejdemfemfaaGreatDoor.bk (roW 9 (k : Int)) = R at kc ⊢
    generalize YtcjnejdemfemfaaGreatDoor.bk (tyW (k : Int)) = sg at s1 kc
    clear eo eR hlen lo hi hm ht hs
    go_enter Tryz.func20, Tryz.ntmps20
    go_wp2_with (first | (go_at_call 18; refine s1.mono ?_; rintro e W ⟨rfl, hw⟩) | fail)
    go_ret
    exact ⟨rfl, hw⟩
  have eo : opW o n = Lib.itoa n := by unfold opW; rw [if_neg q2, if_neg q56, if_neg q9]
  have s1 := fmt_any n w h0 h1 ht
  have kc := blank_cat (opW o n) (by omega)
  rw [← eR, eo] at kc
  generalize YtcjnejdemfemfaaGreatDoor.bk (roW o n) = R at kc ⊢
  generalize YtcjnejdemfemfaaGreatDoor.bk (Lib.itoa n) = sg at s1 kc
  have p0 : ((o : Int) == 0) = false := by rw [beq_eq_false_iff_ne]; omega
  have p2 : ((o : Int) == 2) = false := by rw [beq_eq_false_iff_ne]; omega
  have p5 : ((o : Int) == 5) = false := by rw [beq_eq_false_iff_ne]; omega
  have p6 : ((o : Int) == 6) = false := by rw [beq_eq_false_iff_ne]; omega
  have p9 : ((o : Int) == 9) = false := by rw [beq_eq_false_iff_ne]; omega
  have r0 : ¬ (o : Int) = 0 := by omega
  have r2 : ¬ (o : Int) = 2 := by omega
  have r5 : ¬ (o : Int) = 5 := by omega
  have r6 : ¬ (o : Int) = 6 := by omega
  have r9 : ¬ (o : Int) = 9 := by omega
  clear eo eR hlen lo hi hm ht
  go_enter Tryz.func20, Tryz.ntmps20
  go_wp2_with (first | (go_at_call 44; refine s1.mono ?_; rintro e W ⟨rfl, hw⟩) | fail)
  go_ret
  exact ⟨rfl, hw⟩

/-! Quotes. -/
theorem sl_one (s : ByteArray) (i : Nat) (hi : i < s.size) (k : IntKind) : ∀ w : World, (Instr.slice 9 (.string s) (some (.int k (i : Int))) (some (.int k ((i : Int) + 1))) none).run Tryz.prog w = .ok (.string (YtcjnejdemfemfaaGreatDoor.bk [(lt s).getD i 0])) w := fun w => by
  have e : YtcjnejdemfemfaaGreatDoor.bk [(lt s).getD i 0] = s.extract i (i + 1) := by
    rw [cut_mid, drop_c s i hi, show i + 1 - i = 1 by omega]
    rfl
  rw [e]
  have h1 : (i : Int) + 1 ≤ (s.size : Int) := by omega
  have h2 : ((i : Int) + 1).toNat = i + 1 := by omega
  have hu : Tryz.prog.underlying 9 = some .string := Tryz.underlying9.trans (by kernel_rfl)
  rw [run_slice_string (h := hu) (h0 := by omega) (h1 := by omega) (h2 := h1), h2, Int.toNat_natCast]
theorem hex_dig : ∀ n : Fin 16, (lt (⟨#[48, 49, 50, 51, 52, 53, 54, 55, 56, 57, 97, 98, 99, 100, 101, 102]⟩ : ByteArray)).getD n.val 0 = hexD n.val := by decide +kernel
set_option maxRecDepth 100000 in
set_option maxHeartbeats 4000000 in
theorem rquote_any (s : ByteArray) (hs : s.size ≤ 200) (w : World) : Calls Tryz.prog 17 #[.string s] w fun e w' => e = .returned (.string (YtcjnejdemfemfaaGreatDoor.bk (qtS s.data.toList))) ∧ Below w.heap.size w w' := by
  have hsi : (s.size : Int) ≤ 200 := by omega
  obtain ⟨R, HR⟩ : ∃ R, Hid (R = YtcjnejdemfemfaaGreatDoor.bk (qtS s.data.toList)) := ⟨_, (rfl : YtcjnejdemfemfaaGreatDoor.bk (qtS s.data.toList) = _)⟩
  rw [← HR.out]
  have hll := lt_len s
  have HLL : Hid ((lt s).length = s.size) := hll
  have HPl : Hid (∀ j, ((34 : UInt8) :: ((lt s).take j).flatMap pcS).length ≤ 801) := fun j => by
    have h1 : ∀ l : List UInt8, (l.flatMap pcS).length ≤ 4 * l.length := fun l => by
      induction l with
      | nil => simp
      | cons b l ih =>
        rw [List.flatMap_cons, List.length_append, List.length_cons]
        have : (pcS b).length ≤ 4 := by
          unfold pcS
          split
          · simp
          · split
            · simp
            · split <;> simp
        omega
    have := h1 ((lt s).take j)
    rw [List.length_take] at this
    rw [List.length_cons]
    omega
  clear hll
  go_enter Tryz.func17, Tryz.ntmps17
  go_wp2_with fail
  go_loopw [4, 5] (fun v i wr => ∃ (S : ByteArray) (j : Nat), v = .string S ∧ j ≤ s.size ∧ i = .int .i64 (j : Int) ∧ Hid (S = YtcjnejdemfemfaaGreatDoor.bk (34 :: ((lt s).take j).flatMap pcS)) ∧ Hid (Below w.heap.size w wr)) (fun _ i _ => s.size - (intOf i).toNat)
  case atStart => exact ⟨_, 0, rfl, Nat.zero_le _, rfl, (rfl : (⟨#[34]⟩ : ByteArray) = YtcjnejdemfemfaaGreatDoor.bk (34 :: ((lt s).take 0).flatMap pcS)), Below.refl _ _⟩
  case round =>
    obtain ⟨S, j, rfl, hj, rfl, hS, hb⟩ := hrel
    have hln := HPl.out j
    by_cases hlt : j < s.size
    case neg =>
      obtain rfl : j = s.size := by omega
      have p1 : ¬ (s.size : Int) < (s.size : Int) := by omega
      have kc := cat_bk (34 :: ((lt s).take s.size).flatMap pcS) [34] (by rw [List.length_singleton]; omega)
      rw [← hS.out] at kc
      have HF : Hid (YtcjnejdemfemfaaGreatDoor.bk (34 :: ((lt s).take s.size).flatMap pcS ++ [34]) = R) := by
        show _ = R
        rw [HR.out, ← HLL.out, List.take_length]
        rfl
      rw [HF.out] at kc
      have kc' : Op.stringOp .add S ⟨#[34]⟩ = pure (.string R) := kc
      clear kc hS HF hln HR
      go_wp2
      first | (change bodyPost Tryz.prog Tryz.f17 _ Exit.ret _ _) | (simp only [Exit.noGoto])
      go_ret
      exact ⟨rfl, hb.out⟩
    have ixj := ix_lt s j hlt
    have j0 : (0 : Int) ≤ (j : Int) := by omega
    have j1 : (j : Int) < (s.size : Int) := by omega
    have slj := sl_one s j hlt .i64
    have hnx : ((lt s).take (j + 1)).flatMap pcS = ((lt s).take j).flatMap pcS ++ pcS ((lt s).getD j 0) := by
      have hj' : j < (lt s).length := by rw [HLL.out]; exact hlt
      rw [List.take_succ_eq_append_getElem hj', List.flatMap_append, List.getD_eq_getElem?_getD, List.getElem?_eq_getElem hj']
      simp
    have HN : Hid (∀ l, pcS ((lt s).getD j 0) = l → YtcjnejdemfemfaaGreatDoor.bk (34 :: ((lt s).take j).flatMap pcS ++ l) = YtcjnejdemfemfaaGreatDoor.bk (34 :: ((lt s).take (j + 1)).flatMap pcS)) := fun l hl => by rw [hnx, hl]; rfl
    clear hnx
    generalize (lt s).getD j 0 = c at *
    generalize 34 :: ((lt s).take j).flatMap pcS = A at *
    rw [hS.out]
    clear hS S HR
    by_cases h10 : c = 10
    · have b10 := b_eq (n := 10) (by decide) h10
      have e : Hid (pcS c = [92, 110]) := by show _ = _; rw [h10]; rfl
      have kc := cat_bk A [92, 110] (by rw [show ([92, 110] : List UInt8).length = 2 from rfl]; omega)
      rw [HN.out _ e.out] at kc
      have kc' : Op.stringOp .add (YtcjnejdemfemfaaGreatDoor.bk A) ⟨#[92, 110]⟩ = pure (.string (YtcjnejdemfemfaaGreatDoor.bk (34 :: ((lt s).take (j + 1)).flatMap pcS))) := kc
      obtain ⟨S2, HS2⟩ : ∃ S2, Hid (S2 = YtcjnejdemfemfaaGreatDoor.bk (34 :: ((lt s).take (j + 1)).flatMap pcS)) := ⟨_, (rfl : YtcjnejdemfemfaaGreatDoor.bk (34 :: ((lt s).take (j + 1)).flatMap pcS) = _)⟩
      rw [← HS2.out] at kc'
      generalize YtcjnejdemfemfaaGreatDoor.bk A = SA at kc' ⊢
      clear kc e HN h10
      go_wp2
      exact ⟨⟨S2, j + 1, rfl, by omega, by go_num, HS2, hb⟩, by simp [intOf]; omega⟩
    have cne : ∀ n : Nat, n < 256 → c ≠ UInt8.ofNat n → ¬ (c.toNat : Int) = (n : Int) := fun n hn hne q => hne (by
      have q' : c.toNat = n := by omega
      rw [← q', UInt8.ofNat_toNat])
    have m10 : ¬ (c.toNat : Int) = 10 := cne 10 (by decide) h10
    have b10 : ((c.toNat : Int) == 10) = false := by rw [beq_eq_false_iff_ne]; exact m10
    by_cases h34 : c = 34 ∨ c = 92
    · have e : Hid (pcS c = [92, c]) := by show _ = _; unfold pcS; rw [if_neg h10, if_pos h34]
      have k1 := cat_bk A [92] (by rw [List.length_singleton]; omega)
      have k2 := cat_bk (A ++ [92]) [c] (by rw [List.length_append, List.length_singleton, List.length_singleton]; omega)
      have e2 : A ++ [92] ++ [c] = A ++ [92, c] := by simp
      rw [e2, HN.out _ e.out] at k2
      obtain ⟨S2, HS2⟩ : ∃ S2, Hid (S2 = YtcjnejdemfemfaaGreatDoor.bk (34 :: ((lt s).take (j + 1)).flatMap pcS)) := ⟨_, (rfl : YtcjnejdemfemfaaGreatDoor.bk (34 :: ((lt s).take (j + 1)).flatMap pcS) = _)⟩
      rw [← HS2.out] at k2
      have k1' : Op.stringOp .add (YtcjnejdemfemfaaGreatDoor.bk A) ⟨#[92]⟩ = pure (.string (YtcjnejdemfemfaaGreatDoor.bk (A ++ [92]))) := k1
      have b34 : ((c.toNat : Int) == 34 || (c.toNat : Int) == 92) = true := by
        rcases h34 with rfl | rfl <;> rfl
      generalize YtcjnejdemfemfaaGreatDoor.bk (A ++ [92]) = S1 at k1' k2
      generalize YtcjnejdemfemfaaGreatDoor.bk [c] = TC at slj k2
      generalize YtcjnejdemfemfaaGreatDoor.bk A = SA at k1' ⊢
      clear k1 e e2 HN h10
      rcases h34 with rfl | rfl
      · go_wp2
        exact ⟨⟨S2, j + 1, rfl, by omega, by go_num, HS2, hb⟩, by simp [intOf]; omega⟩
      · go_wp2
        exact ⟨⟨S2, j + 1, rfl, by omega, by go_num, HS2, hb⟩, by simp [intOf]; omega⟩
    have m34 : ¬ (c.toNat : Int) = 34 := cne 34 (by decide) (fun q => h34 (.inl q))
    have n34 : ((c.toNat : Int) == 34) = false := by rw [beq_eq_false_iff_ne]; exact m34
    have m92 : ¬ (c.toNat : Int) = 92 := cne 92 (by decide) (fun q => h34 (.inr q))
    have n92 : ((c.toNat : Int) == 92) = false := by rw [beq_eq_false_iff_ne]; exact m92
    clear cne
    have hcl := c.toNat_lt
    by_cases hpl : 32 ≤ c.toNat ∧ c.toNat ≤ 126
    · have e : Hid (pcS c = [c]) := by show _ = _; unfold pcS; rw [if_neg h10, if_neg h34, if_pos hpl]
      have k1 := cat_bk A [c] (by rw [List.length_singleton]; omega)
      rw [HN.out _ e.out] at k1
      obtain ⟨S2, HS2⟩ : ∃ S2, Hid (S2 = YtcjnejdemfemfaaGreatDoor.bk (34 :: ((lt s).take (j + 1)).flatMap pcS)) := ⟨_, (rfl : YtcjnejdemfemfaaGreatDoor.bk (34 :: ((lt s).take (j + 1)).flatMap pcS) = _)⟩
      rw [← HS2.out] at k1
      generalize YtcjnejdemfemfaaGreatDoor.bk [c] = TC at slj k1
      generalize YtcjnejdemfemfaaGreatDoor.bk A = SA at k1 ⊢
      have q1 : (32 : Int) ≤ (c.toNat : Int) := by omega
      have q2 : (c.toNat : Int) ≤ 126 := by omega
      clear e HN h10 h34 hpl
      generalize c.toNat = cn at *
      go_wp2
      exact ⟨⟨S2, j + 1, rfl, by omega, by go_num, HS2, hb⟩, by simp [intOf]; omega⟩
    have e : Hid (pcS c = [92, 120, hexD (c.toNat / 16), hexD (c.toNat % 16)]) := by show _ = _; unfold pcS; rw [if_neg h10, if_neg h34, if_neg hpl]
    have k1 := cat_bk A [92, 120] (by rw [show ([92, 120] : List UInt8).length = 2 from rfl]; omega)
    have k2 := cat_bk (A ++ [92, 120]) [hexD (c.toNat / 16)] (by rw [List.length_append, List.length_singleton, show ([92, 120] : List UInt8).length = 2 from rfl]; omega)
    have k3 := cat_bk (A ++ [92, 120] ++ [hexD (c.toNat / 16)]) [hexD (c.toNat % 16)] (by rw [List.length_append, List.length_append, List.length_singleton, List.length_singleton, show ([92, 120] : List UInt8).length = 2 from rfl]; omega)
    have e2 : A ++ [92, 120] ++ [hexD (c.toNat / 16)] ++ [hexD (c.toNat % 16)] = A ++ [92, 120, hexD (c.toNat / 16), hexD (c.toNat % 16)] := by simp
    rw [e2, HN.out _ e.out] at k3
    obtain ⟨S2, HS2⟩ : ∃ S2, Hid (S2 = YtcjnejdemfemfaaGreatDoor.bk (34 :: ((lt s).take (j + 1)).flatMap pcS)) := ⟨_, (rfl : YtcjnejdemfemfaaGreatDoor.bk (34 :: ((lt s).take (j + 1)).flatMap pcS) = _)⟩
    rw [← HS2.out] at k3
    have k1' : Op.stringOp .add (YtcjnejdemfemfaaGreatDoor.bk A) ⟨#[92, 120]⟩ = pure (.string (YtcjnejdemfemfaaGreatDoor.bk (A ++ [92, 120]))) := k1
    have hh : c.toNat / 16 < 16 := by omega
    have hl : c.toNat % 16 < 16 := by omega
    have s1 := sl_one ⟨#[48, 49, 50, 51, 52, 53, 54, 55, 56, 57, 97, 98, 99, 100, 101, 102]⟩ (c.toNat / 16) hh .u8
    have s2 := sl_one ⟨#[48, 49, 50, 51, 52, 53, 54, 55, 56, 57, 97, 98, 99, 100, 101, 102]⟩ (c.toNat % 16) hl .u8
    rw [hex_dig ⟨_, hh⟩] at s1
    rw [hex_dig ⟨_, hl⟩] at s2
    have r1 : (c.toNat : Int) / 16 = ((c.toNat / 16 : Nat) : Int) := by omega
    have r2 : (c.toNat : Int) % 16 = ((c.toNat % 16 : Nat) : Int) := by omega
    have hpl' : (c.toNat : Int) < 32 ∨ (126 : Int) < (c.toNat : Int) := by omega
    generalize YtcjnejdemfemfaaGreatDoor.bk (A ++ [92, 120] ++ [hexD (c.toNat / 16)]) = S12 at k2 k3
    generalize YtcjnejdemfemfaaGreatDoor.bk (A ++ [92, 120]) = S1 at k1' k2
    generalize YtcjnejdemfemfaaGreatDoor.bk [hexD (c.toNat / 16)] = TH at s1 k2
    generalize YtcjnejdemfemfaaGreatDoor.bk [hexD (c.toNat % 16)] = TL at s2 k3
    generalize YtcjnejdemfemfaaGreatDoor.bk A = SA at k1' ⊢
    clear k1 e e2 HN h10 h34 hpl slj
    generalize c.toNat / 16 = ch at *
    generalize c.toNat % 16 = cl at *
    generalize c.toNat = cn at *
    have g1 : IntKind.u8.wrap ((ch : Int) + 1) = (ch : Int) + 1 := by rw [IntKind.wrap_u8']; omega
    have g2 : IntKind.u8.wrap ((cl : Int) + 1) = (cl : Int) + 1 := by rw [IntKind.wrap_u8']; omega
    have HE : ∀ W, Below wr.heap.size wr W → Hid (Below w.heap.size w W) := fun W h => below2 hb.out h
    clear hb
    rcases hpl' with hp | hp
    · have hp' : decide ((32 : Int) ≤ (cn : Int)) = false := decide_eq_false (by omega)
      go_wp2_with fail
      refine wp_region_quiet_below (by kernel_rfl) (by kernel_rfl) ?_
      repeat (first | go_big_quiet_step (first | fail) | quiet_step (first | fail))
      refine wpQuiet_nil ?_
      intro _ hw'
      obtain ⟨⟨dq, osq⟩, hw''⟩ := hw'
      subst hw''
      have hY := below_regrown wr dq osq
      first | (change Exit.then _ _ Exit.normal _ (Sort.grow (redrawn wr dq) osq)) | skip
      generalize Sort.grow (redrawn wr dq) osq = W1 at hY ⊢
      have hb := HE _ hY
      go_wp2_with fail
      exact ⟨⟨S2, j + 1, rfl, by omega, by go_num, HS2, hb⟩, by simp [intOf]; omega⟩
    · have hp' : decide ((cn : Int) ≤ 126) = false := decide_eq_false (by omega)
      have hp2 : (32 : Int) ≤ (cn : Int) := by omega
      go_wp2_with fail
      refine wp_region_quiet_below (by kernel_rfl) (by kernel_rfl) ?_
      repeat (first | go_big_quiet_step (first | fail) | quiet_step (first | fail))
      refine wpQuiet_nil ?_
      intro _ hw'
      obtain ⟨⟨dq, osq⟩, hw''⟩ := hw'
      subst hw''
      have hY := below_regrown wr dq osq
      first | (change Exit.then _ _ Exit.normal _ (Sort.grow (redrawn wr dq) osq)) | skip
      generalize Sort.grow (redrawn wr dq) osq = W1 at hY ⊢
      have hb := HE _ hY
      go_wp2_with fail
      exact ⟨⟨S2, j + 1, rfl, by omega, by go_num, HS2, hb⟩, by simp [intOf]; omega⟩
end Go.Proofs.YtcjnejdemfemfaaGreatDoor
namespace Go.Proofs.YtcjnejdemfemfaaGreatDoor
open Go.RowKit

/-- Where function j begins, or where all ends. -/
def stN (c : Cd) (j : Nat) : Nat := if j < c.ens.length then (enAt c.ens j).start.toNat else c.ins.length
theorem stN_in {c : Cd} (k : CodeOk c) {j : Nat} (hj : j < c.ens.length) : ((stN c j : Nat) : Int) = (enAt c.ens j).start ∧ stN c j < c.ins.length ∧ stN c j < stN c (j + 1) := by
  obtain ⟨-, hg⟩ := st_get k.st
  have p := st_pos k.st j hj
  have l := (hg j hj).1
  have e : stN c j = (enAt c.ens j).start.toNat := by unfold stN; rw [if_pos hj]
  rw [e]
  refine ⟨by omega, by omega, ?_⟩
  unfold stN
  by_cases q : j + 1 < c.ens.length
  · rw [if_pos q]
    have h1 := (hg (j + 1) q).2 (by omega)
    rw [Nat.add_sub_cancel] at h1
    omega
  · rw [if_neg q]
    omega
theorem stN_end {c : Cd} {j : Nat} (hj : ¬ j < c.ens.length) : stN c j = c.ins.length := by unfold stN; rw [if_neg hj]
theorem stN_le {c : Cd} (k : CodeOk c) (j : Nat) : stN c j ≤ c.ins.length := by
  by_cases hj : j < c.ens.length
  · have := (stN_in k hj).2.1
    omega
  · rw [stN_end hj]
    omega
theorem atE_no {c : Cd} (k : CodeOk c) {j i : Nat} (h : i < stN c j) : atE c.ens j i = false := by
  unfold atE
  by_cases hj : j < c.ens.length
  · have h1 := (stN_in k hj).1
    have h2 : ((enAt c.ens j).start == (i : Int)) = false := by rw [beq_eq_false_iff_ne]; omega
    rw [h2, Bool.and_false]
  · rw [decide_eq_false hj]
    rfl
theorem body_fn {c : Cd} (k : CodeOk c) {j : Nat} (hj : j < c.ens.length) : bodyS c.ens j (stN c j) (c.ins.drop (stN c j)) = lnS (entW (enAt c.ens j)) ++ bodyS c.ens (j + 1) (stN c j) (c.ins.drop (stN c j)) := by
  obtain ⟨h1, h2, h3⟩ := stN_in k hj
  have a1 : atE c.ens j (stN c j) = true := by
    unfold atE
    rw [decide_eq_true hj, h1]
    simp
  have a2 := atE_no k h3
  rw [List.drop_eq_getElem_cons h2, bodyS, bodyS, a1, a2]
  simp
theorem body_in {c : Cd} (k : CodeOk c) {j i : Nat} (h : i < stN c j) (hi : i < c.ins.length) : bodyS c.ens j i (c.ins.drop i) = [32, 32] ++ (lnS (insW c.ins[i]) ++ bodyS c.ens j (i + 1) (c.ins.drop (i + 1))) := by
  have a2 := atE_no k h
  rw [List.drop_eq_getElem_cons hi, bodyS, a2]
  simp
theorem body_end {c : Cd} {j : Nat} (hj : ¬ j < c.ens.length) (k : Nat) : bodyS c.ens k (stN c j) (c.ins.drop (stN c j)) = [] := by
  rw [stN_end hj, List.drop_eq_nil_of_le (Nat.le_refl _), bodyS]
theorem join_flat : ∀ (a : Bs) (l : List Bs), joinW (a :: l) = a ++ l.flatMap (fun x => 32 :: x)
  | a, [] => by simp [joinW]
  | a, b :: l => by
    show a ++ 32 :: joinW (b :: l) = _
    rw [join_flat b l, List.flatMap_cons]
    rfl
theorem ins_line (ko : Nat) (a b : Int) : lnS (insW ((ko : Int), a, b)) = (wdT.getD ko e0).data.toList ++ (roW (opA.getD ko 0) a ++ (roW (opB.getD ko 0) b ++ [10])) := by
  unfold insW lnS
  simp only [Int.toNat_natCast]
  rw [List.singleton_append, join_flat, List.append_assoc, List.flatMap_append, List.append_assoc]
  unfold roW
  split <;> split <;> simp
theorem ty_zero : tyW 0 = [] := rfl
/-- The line of a function up to its result. -/
def hdW (e : En) : Bs := [102, 110, 32] ++ (e.name.data.toList ++ ([32] ++ (Lib.itoa e.params ++ [32])))
theorem ent_line (e : En) : lnS (entW e) = hdW e ++ ((if e.result = 0 then [45] else tyW e.result) ++ (e.sorts.flatMap (fun x => 32 :: tyW x) ++ [10])) := by
  unfold entW lnS hdW
  rw [List.cons_append, join_flat]
  simp [List.flatMap_map]
theorem pool_line (t : ByteArray) : poolW t = [112, 111, 111, 108, 32] ++ (qtS t.data.toList ++ [10]) := by
  unfold poolW lnS
  rw [join_flat]
  simp
theorem main_line (n : Int) : mainW n = [109, 97, 105, 110, 32] ++ (Lib.itoa n ++ [10]) := by
  unfold mainW lnS
  rw [join_flat]
  simp
end Go.Proofs.YtcjnejdemfemfaaGreatDoor
namespace Go.Proofs.YtcjnejdemfemfaaGreatDoor
open Go.RowKit

set_option maxRecDepth 100000 in
set_option maxHeartbeats 8000000 in
theorem rprint_any {w : World} {iq eq tq : Option Addr} {Es : List Em} {c : Cd} (h : CodeM w w.heap.size iq eq tq Es c) (ia ea ta : Nat) (h64 : In64 c) (ht : Tabs w) :
    Calls Tryz.prog 7 #[aggC iq eq tq ia ea ta c] w fun e w' => e = .returned (.tuple #[.string (if validS c = 0 then YtcjnejdemfemfaaGreatDoor.bk (printS c) else e0), .int .i64 (validS c)]) ∧ Below w.heap.size w w' := by
  obtain ⟨X, hX⟩ : ∃ X, X = w.alloc (.cells #[.slice iq c.ins.length ia, .slice eq c.ens.length ea, .slice tq c.txs.length ta, .int .i64 c.main] 26) := ⟨_, rfl⟩
  have HX : Hid (Full X w.heap.size 26 [.slice iq c.ins.length ia, .slice eq c.ens.length ea, .slice tq c.txs.length ta, .int .i64 c.main] ∧ CodeM X X.heap.size iq eq tq Es c ∧ Below w.heap.size w X) := by
    have nb : Below w.heap.size w X := by rw [hX]; exact (Below.refl _ w).alloc (Nat.le_refl _) _
    exact ⟨by rw [hX]; exact Full.new w _ _, (h.below nb (Nat.le_refl _)).up nb.size, nb⟩
  have v1 := rvalid_any HX.out.2.1 ia ea ta (Nat.le_refl _) h64
  unfold codeV at v1
  obtain ⟨x0, x1, x2, x3⟩ := HX.out.1.four
  by_cases hv : validS c = 0
  case neg =>
    rw [if_neg hv]
    have hv' : (validS c != 0) = true := by rw [bne_iff_ne]; exact hv
    generalize validS c = V at *
    clear h h64 ht
    go_enter Tryz.func7, Tryz.ntmps7
    go_upto_region 1 with fail
    rw [← hX]
    clear hX
    go_wp2_with fail
    refine v1.mono ?_
    rintro e W2 ⟨rfl, hw2⟩
    go_wp2
    exact bodyPost_ret (v := .tuple #[.string e0, .int .i64 V]) (by simp [results, Tryz.results7, go_sem]) rfl ⟨rfl, below2 HX.out.2.2 hw2⟩
  rw [if_pos hv, hv]
  rw [hv] at v1
  have hk : CodeOk c := code_ok.1 hv
  have HK : Hid (CodeOk c) := hk
  obtain ⟨PR, HPR⟩ : ∃ PR, Hid (PR = printS c) := ⟨_, (rfl : printS c = printS c)⟩
  rw [← HPR.out]
  have HPl : Hid (PR.length ≤ 400000000) := by show _ ≤ _; rw [HPR.out]; exact print_len hk
  have hil : (c.ins.length : Int) ≤ 60000 := by have := hk.il; omega
  have hel : (c.ens.length : Int) ≤ 60 := by have := hk.el; omega
  have htl : (c.txs.length : Int) ≤ 4000 := by have := hk.tl; omega
  have HL : Hid (Es.length = c.ens.length) := h.len
  have HC : Hid (∀ W, Below X.heap.size X W → W.cell? ⟨w.heap.size, 0, none⟩ = some (.slice iq c.ins.length ia) ∧ W.cell? ⟨w.heap.size, 1, none⟩ = some (.slice eq c.ens.length ea) ∧ W.cell? ⟨w.heap.size, 2, none⟩ = some (.slice tq c.txs.length ta) ∧ W.cell? ⟨w.heap.size, 3, none⟩ = some (.int .i64 c.main)) := fun W hW => (HX.out.1.next hW).four
  have HM : Hid (∀ W, Below X.heap.size X W → CodeM W X.heap.size iq eq tq Es c) := fun W hW => HX.out.2.1.below hW (Nat.le_refl _)
  have HT : Hid (∀ W, Below X.heap.size X W → Tabs W) := fun W hW => ht.next (below2 HX.out.2.2 hW)
  have mlo : -9223372036854775808 ≤ c.main := by have := hk.m0; omega
  have mhi : c.main ≤ 9223372036854775807 := by have := hk.ml; omega
  have hml : (Lib.itoa c.main).length ≤ 21 := Lib.itoa_length_le _ mlo mhi
  have HI : Hid (∀ W, Below X.heap.size X W → Calls Tryz.prog 16 #[.int .i64 c.main] W fun e w' => e = .returned (.string (YtcjnejdemfemfaaGreatDoor.bk (Lib.itoa c.main))) ∧ Below W.heap.size W w') := fun W hW => itoa_b c.main W mlo mhi (HT.out W hW)
  obtain ⟨BD, HBD⟩ : ∃ BD, Hid (BD = bodyS c.ens 0 0 c.ins) := ⟨_, (rfl : bodyS c.ens 0 0 c.ins = _)⟩
  have k1 : Op.stringOp .add ⟨#[109, 97, 105, 110, 32]⟩ (YtcjnejdemfemfaaGreatDoor.bk (Lib.itoa c.main)) = pure (.string (YtcjnejdemfemfaaGreatDoor.bk ([109, 97, 105, 110, 32] ++ Lib.itoa c.main))) := cat_bk [109, 97, 105, 110, 32] (Lib.itoa c.main) (by show 5 + _ ≤ _; omega)
  have k2 : Op.stringOp .add (YtcjnejdemfemfaaGreatDoor.bk ([109, 97, 105, 110, 32] ++ Lib.itoa c.main)) ⟨#[10]⟩ = pure (.string (YtcjnejdemfemfaaGreatDoor.bk ([109, 97, 105, 110, 32] ++ Lib.itoa c.main ++ [10]))) := cat_bk ([109, 97, 105, 110, 32] ++ Lib.itoa c.main) [10] (by rw [List.length_append, List.length_singleton]; show 5 + _ + 1 ≤ _; omega)
  have H1 : Hid (∃ acc, YtcjnejdemfemfaaGreatDoor.bk ([109, 97, 105, 110, 32] ++ Lib.itoa c.main ++ [10]) = YtcjnejdemfemfaaGreatDoor.bk acc ∧ acc ++ ((c.txs.drop 0).flatMap poolW ++ BD) = PR) := ⟨_, rfl, by
    rw [HPR.out, HBD.out]
    unfold printS
    rw [main_line, List.drop_zero]
    simp only [List.append_assoc]⟩
  generalize YtcjnejdemfemfaaGreatDoor.bk ([109, 97, 105, 110, 32] ++ Lib.itoa c.main ++ [10]) = S0 at k2 H1
  generalize YtcjnejdemfemfaaGreatDoor.bk ([109, 97, 105, 110, 32] ++ Lib.itoa c.main) = S00 at k1 k2
  generalize YtcjnejdemfemfaaGreatDoor.bk (Lib.itoa c.main) = SI at k1 HI
  have HSt : Hid (BD = bodyS c.ens 0 (stN c 0) (c.ins.drop (stN c 0))) := by
    have h0 : 0 < c.ens.length := by have := hk.m0; have := hk.ml; omega
    have e : stN c 0 = 0 := by have h1 := (stN_in hk h0).1; have h2 := (st_get hk.st).1; omega
    rw [e, List.drop_zero]
    exact HBD.out
  clear h ht hk h64 hv mlo mhi hml HBD HPR
  go_enter Tryz.func7, Tryz.ntmps7
  go_upto_region 1 with fail
  rw [← hX]
  clear hX
  go_wp2_with fail
  refine v1.mono ?_
  rintro e W2 ⟨rfl, hw2⟩
  have HW2 : Hid (Below X.heap.size X W2) := hw2
  have i1 := HI.out W2 hw2
  clear x0 x1 x2 x3 v1 hw2 HI
  obtain ⟨x0, x1, x2, x3⟩ := HC.out W2 HW2.out
  go_wp2_with (first | (go_at_call 16; refine i1.mono ?_; rintro e W3 ⟨rfl, hw3⟩) | fail)
  have HW3 : Hid (Below X.heap.size X W3) := below2 HW2.out hw3
  clear x0 x1 x2 x3 HW2 hw3 i1 k1 k2
  go_loopw [5, 6] (fun v i wv => ∃ (S : ByteArray) (j : Nat), v = .string S ∧ j ≤ c.txs.length ∧ i = .int .i64 (j : Int) ∧ Hid (∃ acc, S = YtcjnejdemfemfaaGreatDoor.bk acc ∧ acc ++ ((c.txs.drop j).flatMap poolW ++ BD) = PR) ∧ Hid (Below X.heap.size X wv)) (fun _ i _ => c.txs.length - (intOf i).toNat)
  case atStart => exact ⟨S0, 0, rfl, Nat.zero_le _, rfl, H1, HW3⟩
  case round =>
    obtain ⟨S, j, rfl, hj, rfl, hI, hb⟩ := hrel
    clear H1 HW3
    obtain ⟨z0, z1, z2, z3⟩ := HC.out wr hb.out
    obtain ⟨acc, hS, hP⟩ := hI.out
    by_cases hlt : j < c.txs.length
    case pos =>
      obtain ⟨g, o, htq, hg, d0⟩ := (HM.out wr hb.out).txt j hlt
      have hts := HK.out.ts _ (List.getElem_mem hlt)
      rw [List.drop_eq_getElem_cons hlt, List.flatMap_cons] at hP
      have hacc : acc.length + (poolW c.txs[j]).length ≤ 400000000 := by
        have h1 := congrArg List.length hP
        simp only [List.length_append] at h1
        have := HPl.out
        omega
      rw [htq] at z2
      generalize c.txs[j] = tx at *
      rw [pool_line] at hP hacc
      simp only [List.length_append, List.length_cons, List.length_nil] at hacc
      have k1 := cat_bk acc [112, 111, 111, 108, 32] (by show _ + 5 ≤ _; omega)
      have k2 := cat_bk (acc ++ [112, 111, 111, 108, 32]) (qtS tx.data.toList) (by rw [List.length_append]; show _ + 5 + _ ≤ _; omega)
      have k3 := cat_bk (acc ++ [112, 111, 111, 108, 32] ++ qtS tx.data.toList) [10] (by rw [List.length_append, List.length_append]; show _ + 5 + _ + 1 ≤ _; omega)
      rw [← hS] at k1
      replace k1 : Op.stringOp .add S ⟨#[112, 111, 111, 108, 32]⟩ = pure (.string (YtcjnejdemfemfaaGreatDoor.bk (acc ++ [112, 111, 111, 108, 32]))) := k1
      replace k3 : Op.stringOp .add (YtcjnejdemfemfaaGreatDoor.bk (acc ++ [112, 111, 111, 108, 32] ++ qtS tx.data.toList)) ⟨#[10]⟩ = pure (.string (YtcjnejdemfemfaaGreatDoor.bk (acc ++ [112, 111, 111, 108, 32] ++ qtS tx.data.toList ++ [10]))) := k3
      have HN : Hid (∃ acc', YtcjnejdemfemfaaGreatDoor.bk (acc ++ [112, 111, 111, 108, 32] ++ qtS tx.data.toList ++ [10]) = YtcjnejdemfemfaaGreatDoor.bk acc' ∧ acc' ++ ((c.txs.drop (j + 1)).flatMap poolW ++ BD) = PR) := ⟨_, rfl, by
        rw [← hP]
        simp only [List.append_assoc]⟩
      have q1 := rquote_any tx hts wr
      generalize YtcjnejdemfemfaaGreatDoor.bk (acc ++ [112, 111, 111, 108, 32] ++ qtS tx.data.toList ++ [10]) = SN at k3 HN
      generalize YtcjnejdemfemfaaGreatDoor.bk (acc ++ [112, 111, 111, 108, 32] ++ qtS tx.data.toList) = S2 at k2 k3
      generalize YtcjnejdemfemfaaGreatDoor.bk (acc ++ [112, 111, 111, 108, 32]) = S1 at k1 k2
      generalize YtcjnejdemfemfaaGreatDoor.bk (qtS tx.data.toList) = T1' at k2 q1
      have j0 : (0 : Int) ≤ (j : Int) := by omega
      have j1 : (j : Int) < (c.txs.length : Int) := by omega
      clear hI hS hP hacc htq hts
      go_wp2_with (first | (go_at_call 17; refine q1.mono ?_; rintro e V ⟨rfl, hv⟩) | fail)
      exact ⟨⟨SN, j + 1, rfl, by omega, by go_num, HN, below2 hb.out hv⟩, by simp [intOf]; omega⟩
    obtain rfl : j = c.txs.length := by omega
    have p1 : ¬ (c.txs.length : Int) < (c.txs.length : Int) := by omega
    rw [List.drop_eq_nil_of_le (Nat.le_refl _), List.flatMap_nil, List.nil_append] at hP
    have H2 : Hid (∃ acc, S = YtcjnejdemfemfaaGreatDoor.bk acc ∧ acc ++ bodyS c.ens 0 (stN c 0) (c.ins.drop (stN c 0)) = PR) := ⟨acc, hS, by rw [← HSt.out]; exact hP⟩
    clear hI hS hP hlt hj HSt
    go_wp2_with fail
    clear z0 z1 z2 z3 p1
    go_loopw [5, 7] (fun v i wv => ∃ (S : ByteArray) (j : Nat), v = .string S ∧ j ≤ c.ens.length ∧ i = .int .i64 (j : Int) ∧ Hid (∃ acc, S = YtcjnejdemfemfaaGreatDoor.bk acc ∧ acc ++ bodyS c.ens j (stN c j) (c.ins.drop (stN c j)) = PR) ∧ Hid (Below X.heap.size X wv)) (fun _ i _ => c.ens.length - (intOf i).toNat)
    case atStart => exact ⟨S, 0, rfl, Nat.zero_le _, rfl, H2, hb⟩
    case round =>
      clear H2 hb
      obtain ⟨S, j, rfl, hj, rfl, hI, hb⟩ := hrel
      obtain ⟨z0, z1, z2, z3⟩ := HC.out wr hb.out
      obtain ⟨acc, hS, hP⟩ := hI.out
      by_cases hlt : j < c.ens.length
      case neg =>
        obtain rfl : j = c.ens.length := by omega
        have p1 : ¬ (c.ens.length : Int) < (c.ens.length : Int) := by omega
        have HF : Hid (S = YtcjnejdemfemfaaGreatDoor.bk PR) := by
          show S = _
          rw [body_end hlt, List.append_nil] at hP
          rw [hS, hP]
        clear hI hS hP hlt hj
        go_wp2
        first | (change bodyPost Tryz.prog Tryz.f7 _ Exit.ret _ _) | (simp only [Exit.noGoto])
        exact bodyPost_ret (v := .tuple #[.string S, .int .i64 0]) (by simp [results, Tryz.results7, go_sem]) rfl ⟨by rw [HF.out], below2 HX.out.2.2 hb.out⟩
      have hlt' : j < Es.length := by rw [HL.out]; exact hlt
      have hm := HM.out wr hb.out
      obtain ⟨g, o, heq, hg, d0, d1, d2, d3, d4⟩ := hm.ent j hlt'
      have sr := (hm.sr Es[j] (List.getElem_mem hlt')).1
      have hen := hm.enAt j hlt'
      have heo : EntOk Es[j].1 := by
        have hmem : Es[j].1 ∈ c.ens := by
          rw [← hm.en]
          exact List.mem_map.2 ⟨Es[j], List.getElem_mem hlt', rfl⟩
        exact ent_ok.1 (HK.out.es _ hmem)
      obtain ⟨s1, s2, s3⟩ := stN_in HK.out hlt
      rw [body_fn HK.out hlt, hen, ent_line] at hP
      rw [hen] at s1
      rw [heq] at z1
      generalize Es[j] = x at *
      obtain ⟨⟨nm, st, pr, so, rs⟩, q, cp⟩ := x
      simp only at d0 d1 d2 d3 d4 sr hP s1 heo
      have HS1 : Hid (st = ((stN c j : Nat) : Int)) := s1.symm
      clear s1
      have hnm := (name_len heo.nm).2
      have hp0 := heo.p0
      have hp8 := heo.p8
      have hsl := heo.sl
      have hrs := heo.rs
      have HSs : Hid (∀ x ∈ so, sortS x = true) := heo.ss
      simp only at hnm hp0 hp8 hsl hrs
      obtain ⟨rn, rfl⟩ : ∃ rn : Nat, rs = (rn : Int) := ⟨rs.toNat, by rcases hrs with h | h; omega; have := sort_rng h; omega⟩
      have hrn : rn < 20 := by rcases hrs with h | h; omega; have := sort_rng h; omega
      have hrs' : rn = 0 ∨ sortS (rn : Int) = true := by rcases hrs with h | h; left; omega; exact .inr h
      have hit : (Lib.itoa pr).length ≤ 21 := Lib.itoa_length_le pr (by omega) (by omega)
      have hacc : acc.length ≤ 400000000 := by
        have h1 := congrArg List.length hP
        rw [List.length_append] at h1
        have := HPl.out
        omega
      have e1 : nm.data.toList.length = nm.size := Array.length_toList (xs := nm.data)
      have k1 := cat_bk acc [102, 110, 32] (by show _ + 3 ≤ _; omega)
      have k2 := cat_bk (acc ++ [102, 110, 32]) nm.data.toList (by rw [List.length_append]; show _ + 3 + _ ≤ _; omega)
      have k3 := cat_bk (acc ++ [102, 110, 32] ++ nm.data.toList) [32] (by simp only [List.length_append]; show _ + 3 + _ + 1 ≤ _; omega)
      have k4 := cat_bk (acc ++ [102, 110, 32] ++ nm.data.toList ++ [32]) (Lib.itoa pr) (by simp only [List.length_append]; show _ + 3 + _ + 1 + _ ≤ _; omega)
      have k5 := cat_bk (acc ++ [102, 110, 32] ++ nm.data.toList ++ [32] ++ Lib.itoa pr) [32] (by simp only [List.length_append]; show _ + 3 + _ + 1 + _ + 1 ≤ _; omega)
      rw [bk_all] at k2
      rw [← hS] at k1
      replace k1 : Op.stringOp .add S ⟨#[102, 110, 32]⟩ = pure (.string (YtcjnejdemfemfaaGreatDoor.bk (acc ++ [102, 110, 32]))) := k1
      replace k3 : Op.stringOp .add (YtcjnejdemfemfaaGreatDoor.bk (acc ++ [102, 110, 32] ++ nm.data.toList)) ⟨#[32]⟩ = pure (.string (YtcjnejdemfemfaaGreatDoor.bk (acc ++ [102, 110, 32] ++ nm.data.toList ++ [32]))) := k3
      replace k5 : Op.stringOp .add (YtcjnejdemfemfaaGreatDoor.bk (acc ++ [102, 110, 32] ++ nm.data.toList ++ [32] ++ Lib.itoa pr)) ⟨#[32]⟩ = pure (.string (YtcjnejdemfemfaaGreatDoor.bk (acc ++ [102, 110, 32] ++ nm.data.toList ++ [32] ++ Lib.itoa pr ++ [32]))) := k5
      obtain ⟨A5, HA5⟩ : ∃ A5, Hid (A5 = acc ++ [102, 110, 32] ++ nm.data.toList ++ [32] ++ Lib.itoa pr ++ [32]) := ⟨_, (rfl : acc ++ [102, 110, 32] ++ nm.data.toList ++ [32] ++ Lib.itoa pr ++ [32] = _)⟩
      rw [← HA5.out] at k5
      obtain ⟨RB, HRB⟩ : ∃ RB, Hid (RB = bodyS c.ens (j + 1) (stN c j) (c.ins.drop (stN c j))) := ⟨_, (rfl : bodyS c.ens (j + 1) (stN c j) (c.ins.drop (stN c j)) = _)⟩
      rw [← HRB.out] at hP
      have HP5 : Hid (A5 ++ ((if (rn : Int) = 0 then [45] else tyW (rn : Int)) ++ (so.flatMap (fun x => 32 :: tyW x) ++ ([10] ++ RB))) = PR) := by
        show _ = PR
        rw [← hP, HA5.out]
        unfold hdW
        simp only [List.append_assoc]
      have HA5l : Hid (A5.length ≤ 400000000) := by
        have h1 := congrArg List.length HP5.out
        rw [List.length_append] at h1
        have := HPl.out
        show _ ≤ _
        omega
      have HRow : Hid (Row wr X.heap.size q so.length (sv so)) := sr
      have hwz : X.heap.size ≤ wr.heap.size := hb.out.size
      obtain ⟨Y, hY'⟩ : ∃ Y, Y = wr.alloc (.cells #[.string nm, .int .i64 st, .int .i64 pr, .slice q so.length cp, .int .i64 (rn : Int)] 43) := ⟨_, rfl⟩
      have HFY : Hid (Full Y wr.heap.size 43 [.string nm, .int .i64 st, .int .i64 pr, .slice q so.length cp, .int .i64 (rn : Int)] ∧ Below wr.heap.size wr Y ∧ X.heap.size ≤ wr.heap.size) := by
        rw [hY']
        exact ⟨Full.new wr _ _, (Below.refl _ wr).alloc (Nat.le_refl _) _, hwz⟩
      have HBY : Hid (∀ W, Below Y.heap.size Y W → Below X.heap.size X W) := fun W hW => below2 (below2 hb.out HFY.out.2.1) hW
      have HE : Hid (∀ W, Below Y.heap.size Y W → W.cell? ⟨wr.heap.size, 0, none⟩ = some (.string nm) ∧ W.cell? ⟨wr.heap.size, 1, none⟩ = some (.int .i64 st) ∧ W.cell? ⟨wr.heap.size, 2, none⟩ = some (.int .i64 pr) ∧ W.cell? ⟨wr.heap.size, 3, none⟩ = some (.slice q so.length cp) ∧ W.cell? ⟨wr.heap.size, 4, none⟩ = some (.int .i64 (rn : Int))) := fun W hW => by
        have f := HFY.out.1.next hW
        exact ⟨(f.cell 0 _ rfl).1, (f.cell 1 _ rfl).1, (f.cell 2 _ rfl).1, (f.cell 3 _ rfl).1, (f.cell 4 _ rfl).1⟩
      obtain ⟨v0, v1, v2, v3, v4⟩ := HE.out Y (Below.refl _ _)
      have y0 := cell_regrown v0
      have y2 := cell_regrown v2
      have c1 : ∀ d os, Calls Tryz.prog 16 #[.int .i64 pr] (Sort.grow (redrawn Y d) os) fun e w'' => e = .returned (.string (YtcjnejdemfemfaaGreatDoor.bk (Lib.itoa pr))) ∧ ∃ z : Regrown, w'' = Sort.grow (redrawn Y z.d) z.os := fun d os => Calls.regrown_of (itoa_b pr _ (by omega) (by omega) (HT.out _ (HBY.out _ (below_regrown Y d os))))
      obtain ⟨S5, HS5⟩ : ∃ S5, Hid (S5 = YtcjnejdemfemfaaGreatDoor.bk A5) := ⟨_, (rfl : YtcjnejdemfemfaaGreatDoor.bk A5 = _)⟩
      rw [← HS5.out] at k5
      generalize YtcjnejdemfemfaaGreatDoor.bk (acc ++ [102, 110, 32] ++ nm.data.toList ++ [32] ++ Lib.itoa pr) = S4 at k4 k5
      generalize YtcjnejdemfemfaaGreatDoor.bk (acc ++ [102, 110, 32] ++ nm.data.toList ++ [32]) = S3 at k3 k4
      generalize YtcjnejdemfemfaaGreatDoor.bk (acc ++ [102, 110, 32] ++ nm.data.toList) = S2 at k2 k3
      generalize YtcjnejdemfemfaaGreatDoor.bk (acc ++ [102, 110, 32]) = S1 at k1 k2
      generalize YtcjnejdemfemfaaGreatDoor.bk (Lib.itoa pr) = T4' at k4 c1
      have hsb : (so.length : Int) ≤ 250 := by omega
      have j0 : (0 : Int) ≤ (j : Int) := by omega
      have j1 : (j : Int) < (c.ens.length : Int) := by omega
      clear hI hm sr hnm hsl hwz heq hP hS hacc e1 v0 v1 v2 v3 v4 heo hen hp0 hp8 hit HA5 hrs
      go_upto_region 13 with fail
      rw [← hY']
      clear hY' d0 d1 d2 d3 d4 z0 z1 z2 z3
      go_wp2_with fail
      refine wp_region_quiet_below (by kernel_rfl) (by kernel_rfl) ?_
      repeat (first | go_big_quiet_step (first | with_reducible exact c1 _ _) | quiet_step (first | with_reducible exact c1 _ _))
      refine wpQuiet_nil ?_
      intro _ hw'
      obtain ⟨⟨dq, osq⟩, hw''⟩ := hw'
      subst hw''
      have hY := below_regrown Y dq osq
      first | (change Exit.then _ _ Exit.normal _ (Sort.grow (redrawn Y dq) osq)) | skip
      generalize Sort.grow (redrawn Y dq) osq = Y1 at hY ⊢
      clear c1
      have HY1 : Hid (Below Y.heap.size Y Y1) := hY
      clear hY y0 y2 k1 k2 k3 k4 k5
      obtain ⟨v0, v1, v2, v3, v4⟩ := HE.out Y1 HY1.out
      have rt := rtype_any rn Y1 hrn hrs'
      have hty := tyW_len (rn : Int)
      have hA5 := HA5l.out
      by_cases hz : rn = 0
      case' pos =>
        have k6 := cat_bk A5 [45] (by rw [List.length_singleton]; omega)
        have k7 := cat_bk (A5 ++ [45]) (tyW (rn : Int)) (by rw [List.length_append, List.length_singleton]; omega)
        replace k6 : Op.stringOp .add (YtcjnejdemfemfaaGreatDoor.bk A5) ⟨#[45]⟩ = pure (.string (YtcjnejdemfemfaaGreatDoor.bk (A5 ++ [45]))) := k6
        rw [← HS5.out] at k6
        have H3 : Hid (∃ ac, YtcjnejdemfemfaaGreatDoor.bk (A5 ++ [45] ++ tyW (rn : Int)) = YtcjnejdemfemfaaGreatDoor.bk ac ∧ ac ++ ((so.drop 0).flatMap (fun x => 32 :: tyW x) ++ ([10] ++ RB)) = PR) := ⟨_, rfl, by
          rw [← HP5.out, if_pos (by omega), List.drop_zero, hz]
          show A5 ++ [45] ++ [] ++ _ = _
          simp only [List.append_assoc, List.nil_append]⟩
        have hz1 : ((rn : Int) == 0) = true := by rw [hz]; rfl
        generalize YtcjnejdemfemfaaGreatDoor.bk (A5 ++ [45] ++ tyW (rn : Int)) = S7 at k7 H3
        generalize YtcjnejdemfemfaaGreatDoor.bk (A5 ++ [45]) = S6 at k6 k7
        generalize YtcjnejdemfemfaaGreatDoor.bk (tyW (rn : Int)) = TY at k7 rt
        clear hz HP5 hA5 hty hrs' hrn HS5
        go_wp2_with (first | (go_at_call 18; refine rt.mono ?_; rintro e Y2 ⟨rfl, hy2⟩) | fail)
        have HY2 : Hid (Below Y.heap.size Y Y2) := below2 HY1.out hy2
        clear HY1 hy2 rt k6 k7 hz1 v0 v1 v2 v3 v4
      case' neg =>
        have k7 := cat_bk A5 (tyW (rn : Int)) (by omega)
        rw [← HS5.out] at k7
        have H3 : Hid (∃ ac, YtcjnejdemfemfaaGreatDoor.bk (A5 ++ tyW (rn : Int)) = YtcjnejdemfemfaaGreatDoor.bk ac ∧ ac ++ ((so.drop 0).flatMap (fun x => 32 :: tyW x) ++ ([10] ++ RB)) = PR) := ⟨_, rfl, by
          rw [← HP5.out, if_neg (by omega), List.drop_zero]
          simp only [List.append_assoc]⟩
        have hz1 : ((rn : Int) == 0) = false := by rw [beq_eq_false_iff_ne]; omega
        have hz2 : ¬ (rn : Int) = 0 := by omega
        generalize YtcjnejdemfemfaaGreatDoor.bk (A5 ++ tyW (rn : Int)) = S7 at k7 H3
        generalize YtcjnejdemfemfaaGreatDoor.bk (tyW (rn : Int)) = TY at k7 rt
        clear hz HP5 hA5 hty hrs' hrn HS5
        go_wp2_with (first | (go_at_call 18; refine rt.mono ?_; rintro e Y2 ⟨rfl, hy2⟩) | fail)
        have HY2 : Hid (Below Y.heap.size Y Y2) := below2 HY1.out hy2
        clear HY1 hy2 rt k7 hz1 hz2 v0 v1 v2 v3 v4
      all_goals
        go_loopw [5, 9] (fun v i wv => ∃ (S : ByteArray) (k : Nat), v = .string S ∧ k ≤ so.length ∧ i = .int .i64 (k : Int) ∧ Hid (∃ ac, S = YtcjnejdemfemfaaGreatDoor.bk ac ∧ ac ++ ((so.drop k).flatMap (fun x => 32 :: tyW x) ++ ([10] ++ RB)) = PR) ∧ Hid (Below Y.heap.size Y wv)) (fun _ i _ => so.length - (intOf i).toNat)
        case atStart => exact ⟨S7, 0, rfl, Nat.zero_le _, rfl, H3, HY2⟩
        case round =>
          obtain ⟨S, k, rfl, hkk, rfl, hK, hw⟩ := hrel
          clear H3 HY2
          obtain ⟨v0, v1, v2, v3, v4⟩ := HE.out wr hw.out
          obtain ⟨ac, hS, hac⟩ := hK.out
          have hal : ac.length ≤ 400000000 := by
            have h1 := congrArg List.length hac
            rw [List.length_append] at h1
            have := HPl.out
            omega
          have k0 : (0 : Int) ≤ (k : Int) := by omega
          by_cases hkn : k < so.length
          case pos =>
            have hc : ∃ g o, q = some ⟨g, o, none⟩ ∧ wr.cell? ⟨g, o + k, none⟩ = some (.int .i64 so[k]) := by
              obtain ⟨g, o, h1, h2, h3⟩ := row_get HRow.out k hkn
              refine ⟨g, o, h1, ?_⟩
              have e1 := h3 k (.int .i64 so[k]) (by unfold sv; rw [List.getElem?_map, List.getElem?_eq_getElem hkn]; rfl)
              have hzY := HFY.out.2.1.size
              have hzX := HFY.out.2.2
              exact (hw.out.cell (p := ⟨g, o + k, none⟩) (by show g < _; omega)).trans ((HFY.out.2.1.cell (p := ⟨g, o + k, none⟩) (by show g < _; omega)).trans e1)
            obtain ⟨gs, os', hq, hcell⟩ := hc
            rw [hq] at v3
            have hss := HSs.out _ (List.getElem_mem hkn)
            have hsr := sort_rng hss
            rw [List.drop_eq_getElem_cons hkn, List.flatMap_cons] at hac
            generalize so[k] = sk at *
            obtain ⟨kn, rfl⟩ : ∃ kn : Nat, sk = (kn : Int) := ⟨sk.toNat, by omega⟩
            have hty := tyW_len (kn : Int)
            have k1 := cat_bk ac [32] (by rw [List.length_singleton]; omega)
            have k2 := cat_bk (ac ++ [32]) (tyW (kn : Int)) (by rw [List.length_append, List.length_singleton]; omega)
            rw [← hS] at k1
            replace k1 : Op.stringOp .add S ⟨#[32]⟩ = pure (.string (YtcjnejdemfemfaaGreatDoor.bk (ac ++ [32]))) := k1
            have HN : Hid (∃ ac', YtcjnejdemfemfaaGreatDoor.bk (ac ++ [32] ++ tyW (kn : Int)) = YtcjnejdemfemfaaGreatDoor.bk ac' ∧ ac' ++ ((so.drop (k + 1)).flatMap (fun x => 32 :: tyW x) ++ ([10] ++ RB)) = PR) := ⟨_, rfl, by
              rw [← hac]
              simp only [List.append_assoc, List.cons_append, List.nil_append]⟩
            have rt := rtype_any kn wr (by omega) (.inr hss)
            generalize YtcjnejdemfemfaaGreatDoor.bk (ac ++ [32] ++ tyW (kn : Int)) = SN at k2 HN
            generalize YtcjnejdemfemfaaGreatDoor.bk (ac ++ [32]) = S1 at k1 k2
            generalize YtcjnejdemfemfaaGreatDoor.bk (tyW (kn : Int)) = TY at k2 rt
            have k3 : (k : Int) < (so.length : Int) := by omega
            clear hK hac hS hal hq hss hsr hty
            go_wp2_with (first | (go_at_call 18; refine rt.mono ?_; rintro e V ⟨rfl, hv⟩) | fail)
            exact ⟨⟨SN, k + 1, rfl, by omega, by go_num, HN, below2 hw.out hv⟩, by simp [intOf]; omega⟩
          obtain rfl : k = so.length := by omega
          have k3 : ¬ (so.length : Int) < (so.length : Int) := by omega
          have kk := cat_bk ac [10] (by rw [List.length_singleton]; omega)
          rw [← hS] at kk
          replace kk : Op.stringOp .add S ⟨#[10]⟩ = pure (.string (YtcjnejdemfemfaaGreatDoor.bk (ac ++ [10]))) := kk
          rw [List.drop_eq_nil_of_le (Nat.le_refl _), List.flatMap_nil, List.nil_append] at hac
          have H4 : Hid (∃ ac', YtcjnejdemfemfaaGreatDoor.bk (ac ++ [10]) = YtcjnejdemfemfaaGreatDoor.bk ac' ∧ ac' ++ bodyS c.ens (j + 1) (stN c j) (c.ins.drop (stN c j)) = PR) := ⟨_, rfl, by rw [← hac, HRB.out, List.append_assoc]⟩
          generalize YtcjnejdemfemfaaGreatDoor.bk (ac ++ [10]) = S8 at kk H4
          obtain ⟨lim, HLim⟩ : ∃ lim, Hid (lim = stN c (j + 1)) := ⟨_, (rfl : stN c (j + 1) = _)⟩
          have HLe : Hid (lim ≤ c.ins.length ∧ stN c j ≤ lim) := by
            have h1 := stN_le HK.out (j + 1)
            have h2 := HLim.out
            exact ⟨by omega, by omega⟩
          obtain ⟨z0, z1, z2, z3⟩ := HC.out wr (HBY.out _ hw.out)
          by_cases hn : j + 1 < c.ens.length
          case' pos =>
            have hn' : j + 1 < Es.length := by rw [HL.out]; exact hn
            have hm := HM.out wr (HBY.out _ hw.out)
            obtain ⟨g2, o2, heq2, hg2, -, e1, -, -, -⟩ := hm.ent (j + 1) hn'
            rw [← hm.enAt (j + 1) hn', ← (stN_in HK.out hn).1, ← HLim.out] at e1
            rw [heq2] at z1
            have hn1 : (j : Int) + 1 < (c.ens.length : Int) := by omega
            have HL2 : Hid (j + 1 < c.ens.length ∨ lim = c.ins.length) := .inl hn
            clear hK hac hS hal hm heq2 s2 s3 hkk hkn
            go_wp2_with fail
            clear z0 z1 z2 z3 v0 v1 v2 v3 v4 e1 kk k3
          case' neg =>
            have hn1 : ¬ (j : Int) + 1 < (c.ens.length : Int) := by omega
            have HL2 : Hid (j + 1 < c.ens.length ∨ lim = c.ins.length) := .inr (by rw [HLim.out, stN_end hn])
            clear hK hac hS hal s2 s3 hkk hkn
            go_wp2_with fail
            clear z0 z1 z2 z3 v0 v1 v2 v3 v4 kk k3
          all_goals
            go_loopw [5, 11] (fun v i wv => ∃ (S : ByteArray) (i' : Nat), v = .string S ∧ i' ≤ lim ∧ i = .int .i64 (i' : Int) ∧ Hid (∃ ac, S = YtcjnejdemfemfaaGreatDoor.bk ac ∧ ac ++ bodyS c.ens (j + 1) i' (c.ins.drop i') = PR) ∧ Hid (Below Y.heap.size Y wv)) (fun _ i _ => lim - (intOf i).toNat)
            case atStart => exact ⟨S8, stN c j, rfl, HLe.out.2, by rw [← HS1.out], H4, hw⟩
            case round =>
              clear H4 hw
              obtain ⟨S, i, rfl, hi, rfl, hI, hw⟩ := hrel
              obtain ⟨z0, z1, z2, z3⟩ := HC.out wr (HBY.out _ hw.out)
              obtain ⟨ac, hS, hP⟩ := hI.out
              by_cases hil2 : i < lim
              case neg =>
                obtain rfl : i = lim := by omega
                have p1 : ¬ (i : Int) < (i : Int) := by omega
                try (have p2 : ¬ (i : Int) < (c.ins.length : Int) := by have := HL2.out; omega)
                have HN : Hid (∃ acc, S = YtcjnejdemfemfaaGreatDoor.bk acc ∧ acc ++ bodyS c.ens (j + 1) (stN c (j + 1)) (c.ins.drop (stN c (j + 1))) = PR) := ⟨ac, hS, by rw [← HLim.out]; exact hP⟩
                clear hI hS hP hil2 hi
                go_wp2_with fail
                exact ⟨⟨S, j + 1, rfl, by omega, by go_num, HN, HBY.out _ hw.out⟩, by simp [intOf]; omega⟩
              have hi2 : i < c.ins.length := by have := HLe.out.1; omega
              obtain ⟨g3, o3, hiq, hg3, d0, d1, d2⟩ := (HM.out wr (HBY.out _ hw.out)).ins i hi2
              have hin := HK.out.is _ (List.getElem_mem hi2)
              rw [body_in HK.out (by rw [← HLim.out]; exact hil2) hi2] at hP
              rw [hiq] at z0
              generalize c.ins[i] = x at *
              obtain ⟨op, a, b⟩ := x
              simp only at d0 d1 d2
              obtain ⟨hop0, hop1, hma, hmb⟩ : 0 ≤ op ∧ op < 24 ∧ mayS (opA.getD op.toNat 0) a = true ∧ mayS (opB.getD op.toNat 0) b = true := by
                unfold insS at hin
                simp only [Bool.and_eq_true, decide_eq_true_eq] at hin
                exact ⟨hin.1, hin.2.1, hin.2.2.1, hin.2.2.2⟩
              obtain ⟨ko, rfl⟩ : ∃ k : Nat, op = (k : Int) := ⟨op.toNat, by omega⟩
              rw [Int.toNat_natCast] at hma hmb
              have hko : ko < 24 := by omega
              obtain ⟨hA, hB'⟩ := opA_12 ⟨ko, hko⟩
              simp only at hA hB'
              rw [ins_line] at hP
              have hacc : ac.length + (2 + ((wdT.getD ko e0).data.toList.length + ((roW (opA.getD ko 0) a).length + (roW (opB.getD ko 0) b).length))) ≤ 400000000 := by
                have h1 := congrArg List.length hP
                simp only [List.length_append, List.length_cons, List.length_nil] at h1
                have := HPl.out
                omega
              have k1 := cat_bk ac [32, 32] (by show _ + 2 ≤ _; omega)
              have k2 := cat_bk (ac ++ [32, 32]) (wdT.getD ko e0).data.toList (by rw [List.length_append]; show _ + 2 + _ ≤ _; omega)
              have k3 := cat_bk (ac ++ [32, 32] ++ (wdT.getD ko e0).data.toList) (roW (opA.getD ko 0) a) (by rw [List.length_append, List.length_append]; show _ + 2 + _ + _ ≤ _; omega)
              have k4 := cat_bk (ac ++ [32, 32] ++ (wdT.getD ko e0).data.toList ++ roW (opA.getD ko 0) a) (roW (opB.getD ko 0) b) (by rw [List.length_append, List.length_append, List.length_append]; show _ + 2 + _ + _ + _ ≤ _; omega)
              have k5 := cat_bk (ac ++ [32, 32] ++ (wdT.getD ko e0).data.toList ++ roW (opA.getD ko 0) a ++ roW (opB.getD ko 0) b) [10] (by rw [List.length_append, List.length_append, List.length_append, List.length_append]; show _ + 2 + _ + _ + _ + 1 ≤ _; omega)
              rw [← hS] at k1
              rw [bk_all] at k2
              replace k1 : Op.stringOp .add S ⟨#[32, 32]⟩ = pure (.string (YtcjnejdemfemfaaGreatDoor.bk (ac ++ [32, 32]))) := k1
              replace k5 : Op.stringOp .add (YtcjnejdemfemfaaGreatDoor.bk (ac ++ [32, 32] ++ (wdT.getD ko e0).data.toList ++ roW (opA.getD ko 0) a ++ roW (opB.getD ko 0) b)) ⟨#[10]⟩ = pure (.string (YtcjnejdemfemfaaGreatDoor.bk (ac ++ [32, 32] ++ (wdT.getD ko e0).data.toList ++ roW (opA.getD ko 0) a ++ roW (opB.getD ko 0) b ++ [10]))) := k5
              have HN : Hid (∃ ac', YtcjnejdemfemfaaGreatDoor.bk (ac ++ [32, 32] ++ (wdT.getD ko e0).data.toList ++ roW (opA.getD ko 0) a ++ roW (opB.getD ko 0) b ++ [10]) = YtcjnejdemfemfaaGreatDoor.bk ac' ∧ ac' ++ bodyS c.ens (j + 1) (i + 1) (c.ins.drop (i + 1)) = PR) := ⟨_, rfl, by
                rw [← hP]
                simp only [List.append_assoc]⟩
              have u1 := fun W => rword_any ko W hko
              have uA := fun W => rA_any ko W hko
              have uB := fun W => rB_b ko W hko
              have u2 := fun W h => roper_any (opA.getD ko 0) a W hA hma h
              have u3 := fun W h => roper_any (opB.getD ko 0) b W hB' hmb h
              generalize YtcjnejdemfemfaaGreatDoor.bk (ac ++ [32, 32] ++ (wdT.getD ko e0).data.toList ++ roW (opA.getD ko 0) a ++ roW (opB.getD ko 0) b ++ [10]) = SN at k5 HN
              generalize YtcjnejdemfemfaaGreatDoor.bk (ac ++ [32, 32] ++ (wdT.getD ko e0).data.toList ++ roW (opA.getD ko 0) a ++ roW (opB.getD ko 0) b) = S4' at k4 k5
              generalize YtcjnejdemfemfaaGreatDoor.bk (ac ++ [32, 32] ++ (wdT.getD ko e0).data.toList ++ roW (opA.getD ko 0) a) = S3' at k3 k4
              generalize YtcjnejdemfemfaaGreatDoor.bk (ac ++ [32, 32] ++ (wdT.getD ko e0).data.toList) = S2' at k2 k3
              generalize YtcjnejdemfemfaaGreatDoor.bk (ac ++ [32, 32]) = S1' at k1 k2
              generalize YtcjnejdemfemfaaGreatDoor.bk (roW (opA.getD ko 0) a) = TA at k3 u2
              generalize YtcjnejdemfemfaaGreatDoor.bk (roW (opB.getD ko 0) b) = TB at k4 u3
              clear hI hS hP hacc hiq hin hma hmb hA hB'
              generalize wdT.getD ko e0 = TW at k2 u1
              generalize opA.getD ko 0 = oa at *
              generalize opB.getD ko 0 = ob at *
              obtain ⟨Z, hZ'⟩ : ∃ Z, Z = wr.alloc (.cells #[.int .i64 (ko : Int), .int .i64 a, .int .i64 b] 48) := ⟨_, rfl⟩
              have nb : Below wr.heap.size wr Z := by rw [hZ']; exact (Below.refl _ wr).alloc (Nat.le_refl _) _
              have fZ : Full Z wr.heap.size 48 [.int .i64 (ko : Int), .int .i64 a, .int .i64 b] := by rw [hZ']; exact Full.new wr _ _
              have HZ : Hid (∀ W, Below Z.heap.size Z W → Below Y.heap.size Y W) := fun W hW => below2 (below2 hw.out nb) hW
              have y0 := cell_regrown (fZ.cell 0 _ rfl).1
              have y1 := cell_regrown (fZ.cell 1 _ rfl).1
              have y2 := cell_regrown (fZ.cell 2 _ rfl).1
              have hTZ : ∀ d os, Tabs (Sort.grow (redrawn Z d) os) := fun d os => HT.out _ (HBY.out _ (HZ.out _ (below_regrown Z d os)))
              have c1 : ∀ d os, Calls Tryz.prog 19 #[.int .i64 (ko : Int)] (Sort.grow (redrawn Z d) os) fun e w'' => e = .returned (.string TW) ∧ ∃ z : Regrown, w'' = Sort.grow (redrawn Z z.d) z.os := fun d os => Calls.regrown_of (u1 _)
              have cA : ∀ d os, Calls Tryz.prog 21 #[.int .i64 (ko : Int)] (Sort.grow (redrawn Z d) os) fun e w'' => e = .returned (.int .i64 (oa : Int)) ∧ ∃ z : Regrown, w'' = Sort.grow (redrawn Z z.d) z.os := fun d os => Calls.regrown_of (uA _)
              have cB : ∀ d os, Calls Tryz.prog 22 #[.int .i64 (ko : Int)] (Sort.grow (redrawn Z d) os) fun e w'' => e = .returned (.int .i64 (ob : Int)) ∧ ∃ z : Regrown, w'' = Sort.grow (redrawn Z z.d) z.os := fun d os => Calls.regrown_of (uB _)
              have c2 : ∀ d os, Calls Tryz.prog 20 #[.int .i64 (oa : Int), .int .i64 a] (Sort.grow (redrawn Z d) os) fun e w'' => e = .returned (.string TA) ∧ ∃ z : Regrown, w'' = Sort.grow (redrawn Z z.d) z.os := fun d os => Calls.regrown_of (u2 _ (hTZ d os))
              have c3 : ∀ d os, Calls Tryz.prog 20 #[.int .i64 (ob : Int), .int .i64 b] (Sort.grow (redrawn Z d) os) fun e w'' => e = .returned (.string TB) ∧ ∃ z : Regrown, w'' = Sort.grow (redrawn Z z.d) z.os := fun d os => Calls.regrown_of (u3 _ (hTZ d os))
              have i0 : (0 : Int) ≤ (i : Int) := by omega
              have i1 : (i : Int) < (c.ins.length : Int) := by omega
              have i2 : (i : Int) < (lim : Int) := by omega
              clear u1 uA uB u2 u3 nb fZ hTZ
              go_upto_region 29 with fail
              rw [← hZ']
              clear hZ' d0 d1 d2 z0 z1 z2 z3
              go_wp2_with fail
              refine wp_region_quiet_below (by kernel_rfl) (by kernel_rfl) ?_
              repeat (first | go_big_quiet_step (first | with_reducible exact c1 _ _ | with_reducible exact cA _ _ | with_reducible exact cB _ _ | with_reducible exact c2 _ _ | with_reducible exact c3 _ _) | quiet_step (first | with_reducible exact c1 _ _ | with_reducible exact cA _ _ | with_reducible exact cB _ _ | with_reducible exact c2 _ _ | with_reducible exact c3 _ _))
              refine wpQuiet_nil ?_
              intro _ hw'
              obtain ⟨⟨dq, osq⟩, hw''⟩ := hw'
              subst hw''
              have hY := below_regrown Z dq osq
              generalize Sort.grow (redrawn Z dq) osq = Z1 at hY ⊢
              clear c1 cA cB c2 c3
              go_wp2_with fail
              exact ⟨⟨SN, i + 1, rfl, by omega, by go_num, HN, HZ.out _ hY⟩, by simp [intOf]; omega⟩
end Go.Proofs.YtcjnejdemfemfaaGreatDoor

