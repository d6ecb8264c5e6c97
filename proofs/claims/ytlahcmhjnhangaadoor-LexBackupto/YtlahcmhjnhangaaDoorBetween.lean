import Derived.Test.YtlahcmhjnhangaaDoorBackMath
import Derived.Test.YtlahcmhjnhangaaDoorSame
import Derived.IntWalk
namespace Go.Proofs.YtlahcmhjnhangaaDoor
open Go.RowKit

set_option maxRecDepth 100000 in
set_option maxHeartbeats 1000000 in
theorem between_a (vt : Value) (pb pn : Option Addr) (lb cb ln cn i : Nat) (w : World) (h1 : ¬ (i : Int) < (lb : Int)) (h2 : ¬ (i : Int) < (ln : Int)) :
    Calls Tryd.prog 18 #[.agg #[vt, .slice pb lb cb, .slice pn ln cn], .int .i64 (i : Int)] w fun e w' => e = .returned (.string ⟨#[32]⟩) ∧ Below w.heap.size w w' := by
  go_enter Tryd.func18, Tryd.ntmps18
  go_wp2
  go_ret
  exact ⟨rfl, (Below.refl _ w).alloc (Nat.le_refl _) _⟩

theorem quarter (z : Int) : ∃ q : Int, (wrap64 (z.tmod 4 + 4)).tmod 4 = q ∧ (q = 0 ∨ q = 1 ∨ q = 2 ∨ q = 3) := by
  have h1 : -4 < z.tmod 4 ∧ z.tmod 4 < 4 := by
    have a := Int.tmod_lt_of_pos z (b := 4) (by omega)
    have b := Int.lt_tmod_of_pos z (b := 4) (by omega)
    omega
  rw [IntWalk.wrap64_in _ (by omega)]
  generalize z.tmod 4 = y at h1
  refine ⟨_, rfl, ?_⟩
  rcases (by omega : y = -3 ∨ y = -2 ∨ y = -1 ∨ y = 0 ∨ y = 1 ∨ y = 2 ∨ y = 3) with rfl | rfl | rfl | rfl | rfl | rfl | rfl <;> decide

theorem conv1 (c : UInt8) (n : Int) (hn : (c.toNat : Int) = n) (W : World) (H : Nat) (hH : W.heap.size = H) :
    (convert 49 9 (.slice (some ⟨H, 0, none⟩) 1 1)).run Tryd.prog (W.alloc (.cells #[.int .u8 n] 5)) = .ok (.string ⟨#[c]⟩) (W.alloc (.cells #[.int .u8 n] 5)) := by
  subst hn hH
  obtain ⟨w0, rfl, ho, _⟩ := build1 c W
  exact conv_own ho

def qb (q : Int) : UInt8 := if q = 0 then 9 else if q = 1 then 10 else if q = 2 then 13 else 32
theorem qb_blank (q : Int) : blankB (qb q) = true := by
  unfold qb
  split
  · decide
  · split
    · decide
    · split <;> decide
theorem qb_ix (q : Int) (h : q = 0 ∨ q = 1 ∨ q = 2 ∨ q = 3) : ∀ w : World, (Instr.index 9 (.string ⟨#[9, 10, 13, 32]⟩) (.int .i64 q)).run Tryd.prog w = .ok (.int .u8 ((qb q).toNat : Int)) w := by
  intro w
  rcases h with rfl | rfl | rfl | rfl <;> kernel_rfl

set_option maxRecDepth 100000 in
set_option maxHeartbeats 1000000 in
theorem between_b (vt : Value) (g o : Nat) (pn : Option Addr) (lb cb ln cn i : Nat) (w : World) (h1 : (i : Int) < (lb : Int)) (h2 : ¬ (i : Int) < (ln : Int)) (z : Int) (hc : w.cell? ⟨g, o + i, none⟩ = some (.int .i64 z)) (hg : g < w.heap.size) :
    Calls Tryd.prog 18 #[.agg #[vt, .slice (some ⟨g, o, none⟩) lb cb, .slice pn ln cn], .int .i64 (i : Int)] w fun e w' => ∃ c, blankB c = true ∧ e = .returned (.string ⟨#[c]⟩) ∧ Below w.heap.size w w' := by
  have i0 : (0 : Int) ≤ (i : Int) := by omega
  obtain ⟨q, hq, h4⟩ := quarter z
  have hix := qb_ix q h4
  obtain ⟨n, hn⟩ : ∃ n : Int, ((qb q).toNat : Int) = n := ⟨_, rfl⟩
  rw [hn] at hix
  have hcv := conv1 (qb q) n hn (w.alloc (.cells #[vt, .slice (some ⟨g, o, none⟩) lb cb, .slice pn ln cn] 42)) (w.heap.size + 1) (by simp)
  have HQ := qb_blank q
  generalize qb q = c at HQ hcv
  have HQ' : Hid (blankB c = true) := HQ
  clear HQ hn
  go_enter Tryd.func18, Tryd.ntmps18
  go_wp2
  go_ret
  exact ⟨c, HQ'.out, rfl, ((Below.refl _ w).alloc (Nat.le_refl _) _).alloc (by simp) _⟩

theorem app_list (a b : ByteArray) : (a ++ b).data.toList = a.data.toList ++ b.data.toList := by simp
theorem take_more (s : ByteArray) (k : Nat) (hk : k < s.size) : s.data.toList.take (k + 1) = s.data.toList.take k ++ [s[k]] := by
  have hk' : k < s.data.toList.length := by rw [← Lib.size_eq]; exact hk
  rw [List.take_add_one, List.getElem?_eq_getElem hk']
  rfl
theorem ext_one (s : ByteArray) (k : Nat) (hk : k < s.size) : (s.extract k (k + 1)).data.toList = [s[k]] := by
  have hd := drop_at s k hk
  rw [Lib.extract_data, hd, Nat.add_sub_cancel_left]
  rfl
theorem note_yes {S s : ByteArray} {k : Nat} {c : UInt8} (hk : k < s.size) (h : ((s[k].toNat : Int) != 10) = true) (hL : S.data.toList = c :: 35 :: (s.data.toList.take k).filter (· != 10)) :
    (S ++ s.extract k (k + 1)).data.toList = c :: 35 :: (s.data.toList.take (k + 1)).filter (· != 10) := by
  have h2 : (s[k] != 10) = true := by
    rw [bne_iff_ne] at h ⊢
    intro e; rw [e] at h; exact h rfl
  rw [app_list, ext_one s k hk, hL, take_more s k hk, List.filter_append]
  simp [h2]
theorem note_no {S s : ByteArray} {k : Nat} {c : UInt8} (hk : k < s.size) (h : ((s[k].toNat : Int) != 10) = false) (hL : S.data.toList = c :: 35 :: (s.data.toList.take k).filter (· != 10)) :
    S.data.toList = c :: 35 :: (s.data.toList.take (k + 1)).filter (· != 10) := by
  have h2 : (s[k] != 10) = false := by
    rw [bne_eq_false_iff_eq] at h ⊢
    exact UInt8.toNat_inj.1 (by rw [show (10 : UInt8).toNat = 10 from rfl]; omega)
  rw [hL, take_more s k hk, List.filter_append]
  simp [h2]
theorem note_size {S s : ByteArray} {k : Nat} (hk : k < s.size) (h : S.size ≤ k + 2) : (S ++ s.extract k (k + 1)).size ≤ k + 1 + 2 := by
  rw [Lib.size_eq, app_list, ext_one s k hk, List.length_append, ← Lib.size_eq]
  simp
  omega
theorem note_end {S s : ByteArray} {c : UInt8} (hL : S.data.toList = c :: 35 :: (s.data.toList.take s.size).filter (· != 10)) :
    (S ++ ⟨#[10]⟩).data.toList = c :: 35 :: (s.data.toList.filter (· != 10) ++ [10]) := by
  rw [app_list, hL, List.take_of_length_le (by rw [← Lib.size_eq]; omega)]
  rfl

set_option maxRecDepth 100000 in
set_option maxHeartbeats 1000000 in
theorem between_c (vt : Value) (pb : Option Addr) (g o : Nat) (lb cb ln cn i : Nat) (w : World) (h1 : ¬ (i : Int) < (lb : Int)) (h2 : (i : Int) < (ln : Int)) (s : ByteArray) (hc : w.cell? ⟨g, o + i, none⟩ = some (.string s)) (hg : g < w.heap.size) (hs : s.size ≤ 1048576) :
    Calls Tryd.prog 18 #[.agg #[vt, .slice pb lb cb, .slice (some ⟨g, o, none⟩) ln cn], .int .i64 (i : Int)] w fun e w' => ∃ S : ByteArray, S.data.toList = 32 :: 35 :: (s.data.toList.filter (· != 10) ++ [10]) ∧ e = .returned (.string S) ∧ Below w.heap.size w w' := by
  have i0 : (0 : Int) ≤ (i : Int) := by omega
  go_enter Tryd.func18, Tryd.ntmps18
  go_wp2
  go_loop [5, 6] (fun v j => ∃ (k : Nat) (S : ByteArray), k ≤ s.size ∧ v = .string S ∧ j = .int .i64 (k : Int) ∧ S.size ≤ k + 2 ∧ Hid (S.data.toList = 32 :: 35 :: (s.data.toList.take k).filter (· != 10))) (fun _ j => s.size - (intOf j).toNat)
  case atStart => exact ⟨0, _, by omega, rfl, rfl, by decide, by show _ = _; rw [List.take_zero, List.filter_nil]; decide⟩
  case round =>
    obtain ⟨k, S, hk, rfl, rfl, hS, hL⟩ := hrel
    by_cases hlt : k < s.size
    · have k1 : (k : Int) < (s.size : Int) := by omega
      have k2 : (0 : Int) ≤ (k : Int) := by omega
      have k3 : (k : Int) ≤ (k : Int) + 1 := by omega
      have k4 : (k : Int) + 1 ≤ (s.size : Int) := by omega
      go_wp2
      · have hx : ((s[k].toNat : Int) != 10) = true := by assumption
        exact ⟨⟨k + 1, _, by omega, rfl, by go_num, note_size hlt hS, note_yes hlt hx hL.out⟩, by simp [intOf]; omega⟩
      · have hx : ((s[k].toNat : Int) != 10) = false := by assumption
        exact ⟨⟨k + 1, _, by omega, rfl, by go_num, by omega, note_no hlt hx hL.out⟩, by simp [intOf]; omega⟩
    · obtain rfl : k = s.size := by omega
      go_wp2
      go_ret
      exact ⟨_, note_end hL.out, rfl, (Below.refl _ w).alloc (Nat.le_refl _) _⟩

set_option maxRecDepth 100000 in
set_option maxHeartbeats 1000000 in
theorem between_d (vt : Value) (gb ob : Nat) (g o : Nat) (lb cb ln cn i : Nat) (w : World) (h1 : (i : Int) < (lb : Int)) (h2 : (i : Int) < (ln : Int)) (s : ByteArray) (hc : w.cell? ⟨g, o + i, none⟩ = some (.string s)) (hg : g < w.heap.size) (hs : s.size ≤ 1048576) (z : Int) (hcb : w.cell? ⟨gb, ob + i, none⟩ = some (.int .i64 z)) (hgb : gb < w.heap.size) :
    Calls Tryd.prog 18 #[.agg #[vt, .slice (some ⟨gb, ob, none⟩) lb cb, .slice (some ⟨g, o, none⟩) ln cn], .int .i64 (i : Int)] w fun e w' => ∃ (c : UInt8) (S : ByteArray), blankB c = true ∧ S.data.toList = c :: 35 :: (s.data.toList.filter (· != 10) ++ [10]) ∧ e = .returned (.string S) ∧ Below w.heap.size w w' := by
  have i0 : (0 : Int) ≤ (i : Int) := by omega
  obtain ⟨q, hq, h4⟩ := quarter z
  have hix := qb_ix q h4
  obtain ⟨n, hn⟩ : ∃ n : Int, ((qb q).toNat : Int) = n := ⟨_, rfl⟩
  rw [hn] at hix
  have hcv := conv1 (qb q) n hn (w.alloc (.cells #[vt, .slice (some ⟨gb, ob, none⟩) lb cb, .slice (some ⟨g, o, none⟩) ln cn] 42)) (w.heap.size + 1) (by simp)
  have HQ := qb_blank q
  generalize qb q = c at HQ hcv
  have HQ' : Hid (blankB c = true) := HQ
  clear HQ hn
  go_enter Tryd.func18, Tryd.ntmps18
  go_wp2
  go_loop [5, 6] (fun v j => ∃ (k : Nat) (S : ByteArray), k ≤ s.size ∧ v = .string S ∧ j = .int .i64 (k : Int) ∧ S.size ≤ k + 2 ∧ Hid (S.data.toList = c :: 35 :: (s.data.toList.take k).filter (· != 10))) (fun _ j => s.size - (intOf j).toNat)
  case atStart => exact ⟨0, _, by omega, rfl, rfl, by simp [ByteArray.size], by show _ = _; rw [List.take_zero, List.filter_nil, app_list]; rfl⟩
  case round =>
    obtain ⟨k, S, hk, rfl, rfl, hS, hL⟩ := hrel
    by_cases hlt : k < s.size
    · have k1 : (k : Int) < (s.size : Int) := by omega
      have k2 : (0 : Int) ≤ (k : Int) := by omega
      have k3 : (k : Int) ≤ (k : Int) + 1 := by omega
      have k4 : (k : Int) + 1 ≤ (s.size : Int) := by omega
      go_wp2
      · have hx : ((s[k].toNat : Int) != 10) = true := by assumption
        exact ⟨⟨k + 1, _, by omega, rfl, by go_num, note_size hlt hS, note_yes hlt hx hL.out⟩, by simp [intOf]; omega⟩
      · have hx : ((s[k].toNat : Int) != 10) = false := by assumption
        exact ⟨⟨k + 1, _, by omega, rfl, by go_num, by omega, note_no hlt hx hL.out⟩, by simp [intOf]; omega⟩
    · obtain rfl : k = s.size := by omega
      go_wp2
      go_ret
      exact ⟨c, HQ'.out, _, note_end hL.out, rfl, ((Below.refl _ w).alloc (Nat.le_refl _) _).alloc (by simp) _⟩

/-- The cells of a slice of one-celled values, as far as it reaches. -/
def Lies (w : World) (p : Option Addr) (n i : Nat) (v : Value) : Prop := i < n → ∃ g o, p = some ⟨g, o, none⟩ ∧ g < w.heap.size ∧ w.cell? ⟨g, o + i, none⟩ = some v

theorem between_any (vt : Value) (pb pn : Option Addr) (lb cb ln cn i : Nat) (w : World) (z : Int) (s : ByteArray) (hb : Lies w pb lb i (.int .i64 z)) (hn : Lies w pn ln i (.string s)) (hs : s.size ≤ 1048576) :
    Calls Tryd.prog 18 #[.agg #[vt, .slice pb lb cb, .slice pn ln cn], .int .i64 (i : Int)] w fun e w' => ∃ S : ByteArray, gpOk S.data.toList ∧ S.size ≤ 1048579 ∧ e = .returned (.string S) ∧ Below w.heap.size w w' := by
  have hfl : (s.data.toList.filter (· != 10)).length ≤ 1048576 := by
    have := List.length_filter_le (· != 10) s.data.toList
    rw [← Lib.size_eq] at this
    omega
  have hsz : ∀ (c : UInt8) (S : ByteArray), S.data.toList = c :: 35 :: (s.data.toList.filter (· != 10) ++ [10]) → S.size ≤ 1048579 := by
    intro c S h
    rw [Lib.size_eq, h]
    simp
    omega
  have hnn : ∀ d ∈ s.data.toList.filter (· != 10), d ≠ 10 := by
    intro d hd
    have := (List.mem_filter.1 hd).2
    simpa using this
  by_cases h1 : i < lb
  · obtain ⟨gb, ob, rfl, hgb, hcb⟩ := hb h1
    by_cases h2 : i < ln
    · obtain ⟨g, o, rfl, hg, hc⟩ := hn h2
      refine (between_d vt gb ob g o lb cb ln cn i w (by omega) (by omega) s hc hg hs z hcb hgb).mono ?_
      rintro e w' ⟨c, S, hq, hS, rfl, hB⟩
      exact ⟨S, ⟨c, hq, Or.inr ⟨_, hnn, hS⟩⟩, hsz _ _ hS, rfl, hB⟩
    · refine (between_b vt gb ob pn lb cb ln cn i w (by omega) (by omega) z hcb hgb).mono ?_
      rintro e w' ⟨c, hq, rfl, hB⟩
      exact ⟨_, ⟨c, hq, Or.inl rfl⟩, by simp [ByteArray.size], rfl, hB⟩
  · by_cases h2 : i < ln
    · obtain ⟨g, o, rfl, hg, hc⟩ := hn h2
      refine (between_c vt pb g o lb cb ln cn i w (by omega) (by omega) s hc hg hs).mono ?_
      rintro e w' ⟨S, hS, rfl, hB⟩
      exact ⟨S, ⟨32, by decide, Or.inr ⟨_, hnn, hS⟩⟩, hsz _ _ hS, rfl, hB⟩
    · refine (between_a vt pb pn lb cb ln cn i w (by omega) (by omega)).mono ?_
      rintro e w' ⟨rfl, hB⟩
      exact ⟨_, ⟨32, by decide, Or.inl rfl⟩, by simp [ByteArray.size], rfl, hB⟩
end Go.Proofs.YtlahcmhjnhangaaDoor
