import Derived.Lib.QuietBelow
import Derived.Lib.ItoaLen
import Derived.Test.YtichbejmelkjeaaGreatDoorU09
import Derived.Test.YtichbejmelkjeaaGreatDoorU16
import Derived.Test.YtichbejmelkjeaaGreatDoorU13
namespace Go.Proofs.YtichbejmelkjeaaGreatDoor.Vs
open Go.RowKit Go.Shelf

/-- The library's table of the powers of ten stands as the program's text lays it. -/
def Tab10 (W : World) : Prop := Lib.TabIs Tryz.prog W "internal/strconv.uint64pow10" .u64 Lib.pow10Tab
theorem var_below {P : Program} {W W' : World} {n : String} {cs : Array Value} (h : W.var? P n = some cs) (hb : Below W.heap.size W W') : W'.var? P n = some cs := by
  unfold World.var? at h ⊢
  cases hg : P.globalNamed n with
  | none => simp [hg] at h
  | some g =>
    simp only [hg, Option.bind_some] at h ⊢
    have hlt : g < W.heap.size := by
      rcases Nat.lt_or_ge g W.heap.size with h' | h'
      · exact h'
      · simp [Array.getElem?_eq_none h'] at h
    rw [hb.block g hlt]
    exact h
theorem Tab10.next {W W' : World} (h : Tab10 W) (hb : Below W.heap.size W W') : Tab10 W' := var_below h hb
theorem fmt_any (n : Int) (w : World) (h0 : -9223372036854775808 ≤ n ∧ n ≤ 9223372036854775807) (ht : Tab10 w) :
    Calls Tryz.prog 36 #[.int .i64 n, .int .i64 10] w fun e w' => e = .returned (.string ⟨(Lib.itoa n).toArray⟩) ∧ Below w.heap.size w w' := by
  refine (Tryz.strconv_FormatInt_10 n h0.1 h0.2 w ht).mono ?_
  rintro e w' ⟨rfl, k, os, rfl⟩
  exact ⟨rfl, below_regrown w (w.drawn + k) os⟩

/-- What Str answers. -/
def strS (k n : Int) (s : ByteArray) : ByteArray :=
  if okV k n s = true then (if k = 1 then ⟨(Lib.itoa n).toArray⟩ else if k = 2 then ⟨(Lib.formatBool (n == 1)).toArray⟩ else if k = 3 then s else e0) else e0
/-- What Show answers. -/
def showS (k n : Int) (s : ByteArray) : ByteArray :=
  if okV k n s = true then (if k = 3 then ⟨(Lx.qt s.data.toList).toArray⟩ else if k = 4 then (⟨#[35]⟩ : ByteArray) ++ ⟨(Lib.itoa n).toArray⟩ else if k = 0 then ⟨#[45]⟩ else strS k n s) else ⟨#[63]⟩
theorem str_size {k n : Int} {s : ByteArray} (h : okV k n s = true) : s.size ≤ 256 := by
  have h0 : s.toList = [] → s.size ≤ 256 := fun e => by rw [eq_e0 e]; decide
  unfold okV at h
  repeat' split at h
  all_goals simp at h
  · exact h0 h.2
  · exact h0 h
  · exact h0 h.2
  · omega
  · exact h0 h.2

set_option maxRecDepth 100000 in
set_option maxHeartbeats 1000000 in
theorem str_any (k n : Int) (s : ByteArray) (w : World) (hs : s.size ≤ 9223372036854775807) (hn : -9223372036854775808 ≤ n ∧ n ≤ 9223372036854775807) (ht : Tab10 w) :
    Calls Tryz.prog 37 #[.agg #[.int .i64 k, .int .i64 n, .string s]] w fun e w' => e = .returned (.string (strS k n s)) ∧ Below w.heap.size w w' := by
  have B1 : Below w.heap.size w (w.alloc (.cells #[.int .i64 k, .int .i64 n, .string s] 25)) := (Below.refl _ w).alloc (Nat.le_refl _) _
  have m0 := Box3.new w k n s 25
  have cv := fun W : World => valid_any k n s W hs
  cases hv : okV k n s with
  | false =>
    rw [hv] at cv
    rw [show strS k n s = e0 by unfold strS; rw [hv]; rfl]
    go_enter Tryz.func37, Tryz.ntmps37
    go_wp2_with fail
    refine (cv _).mono ?_
    rintro e w1 ⟨rfl, hb⟩
    have m := m0.below hb (by simp)
    have B := B1.trans (hb.mono B1.size)
    have T : Tab10 w1 := ht.next B
    clear hb
    obtain ⟨⟨⟨x0, f0⟩, ⟨x1, f1⟩⟩, x2, f2⟩ := id m
    go_wp2
    go_ret
    exact ⟨rfl, B⟩
  | true =>
  rw [hv] at cv
  have hz := str_size hv
  rw [show strS k n s = (if k = 1 then ⟨(Lib.itoa n).toArray⟩ else if k = 2 then ⟨(Lib.formatBool (n == 1)).toArray⟩ else if k = 3 then s else e0) by unfold strS; rw [if_pos hv]]
  by_cases h1 : k = 1
  · subst h1
    rw [if_pos rfl]
    go_enter Tryz.func37, Tryz.ntmps37
    go_wp2_with fail
    refine (cv _).mono ?_
    rintro e w1 ⟨rfl, hb⟩
    have m := m0.below hb (by simp)
    have B := B1.trans (hb.mono B1.size)
    have T : Tab10 w1 := ht.next B
    clear hb
    obtain ⟨⟨⟨x0, f0⟩, ⟨x1, f1⟩⟩, x2, f2⟩ := id m
    go_wp2_with fail
    refine (fmt_any n _ hn T).mono ?_
    rintro e w2 ⟨rfl, hb2⟩
    go_wp2
    go_ret
    exact ⟨rfl, B.trans (hb2.mono B.size)⟩
  rw [if_neg h1]
  by_cases h2 : k = 2
  · subst h2
    rw [if_pos rfl]
    have cf := fun W : World => Tryz.strconv_FormatBool (n == 1) W
    go_enter Tryz.func37, Tryz.ntmps37
    go_wp2_with fail
    refine (cv _).mono ?_
    rintro e w1 ⟨rfl, hb⟩
    have m := m0.below hb (by simp)
    have B := B1.trans (hb.mono B1.size)
    have T : Tab10 w1 := ht.next B
    clear hb
    obtain ⟨⟨⟨x0, f0⟩, ⟨x1, f1⟩⟩, x2, f2⟩ := id m
    go_wp2_with fail
    refine (cf _).mono ?_
    rintro e _ ⟨rfl, rfl⟩
    go_wp2
    go_ret
    exact ⟨rfl, B⟩
  rw [if_neg h2]
  by_cases h3 : k = 3
  · subst h3
    rw [if_pos rfl]
    go_enter Tryz.func37, Tryz.ntmps37
    go_wp2_with fail
    refine (cv _).mono ?_
    rintro e w1 ⟨rfl, hb⟩
    have m := m0.below hb (by simp)
    have B := B1.trans (hb.mono B1.size)
    have T : Tab10 w1 := ht.next B
    clear hb
    obtain ⟨⟨⟨x0, f0⟩, ⟨x1, f1⟩⟩, x2, f2⟩ := id m
    go_wp2_with fail
    refine (clone_any s _ (by omega)).mono ?_
    rintro e w2 ⟨rfl, hb2⟩
    go_wp2
    go_ret
    exact ⟨rfl, B.trans (hb2.mono B.size)⟩
  rw [if_neg h3]
  go_enter Tryz.func37, Tryz.ntmps37
  go_wp2_with fail
  refine (cv _).mono ?_
  rintro e w1 ⟨rfl, hb⟩
  have m := m0.below hb (by simp)
  have B := B1.trans (hb.mono B1.size)
  have T : Tab10 w1 := ht.next B
  clear hb
  obtain ⟨⟨⟨x0, f0⟩, ⟨x1, f1⟩⟩, x2, f2⟩ := id m
  go_wp2
  go_ret
  exact ⟨rfl, B⟩

set_option maxRecDepth 100000 in
set_option maxHeartbeats 1000000 in
theorem show_any (k n : Int) (s : ByteArray) (w : World) (hs : s.size ≤ 9223372036854775807) (hn : -9223372036854775808 ≤ n ∧ n ≤ 9223372036854775807) (ht : Tab10 w) :
    Calls Tryz.prog 18 #[.agg #[.int .i64 k, .int .i64 n, .string s]] w fun e w' => e = .returned (.string (showS k n s)) ∧ Below w.heap.size w w' := by
  have B1 : Below w.heap.size w (w.alloc (.cells #[.int .i64 k, .int .i64 n, .string s] 25)) := (Below.refl _ w).alloc (Nat.le_refl _) _
  have m0 := Box3.new w k n s 25
  have cv := fun W : World => valid_any k n s W hs
  cases hv : okV k n s with
  | false =>
    rw [hv] at cv
    rw [show showS k n s = ⟨#[63]⟩ by unfold showS; rw [hv]; rfl]
    go_enter Tryz.func18, Tryz.ntmps18
    go_wp2_with fail
    refine (cv _).mono ?_
    rintro e w1 ⟨rfl, hb⟩
    have m := m0.below hb (by simp)
    have B := B1.trans (hb.mono B1.size)
    have T : Tab10 w1 := ht.next B
    clear hb
    obtain ⟨⟨⟨x0, f0⟩, ⟨x1, f1⟩⟩, x2, f2⟩ := id m
    go_wp2
    go_ret
    exact ⟨rfl, B⟩
  | true =>
  rw [hv] at cv
  have hz := str_size hv
  rw [show showS k n s = (if k = 3 then ⟨(Lx.qt s.data.toList).toArray⟩ else if k = 4 then (⟨#[35]⟩ : ByteArray) ++ ⟨(Lib.itoa n).toArray⟩ else if k = 0 then ⟨#[45]⟩ else strS k n s) by unfold showS; rw [if_pos hv]]
  by_cases h3 : k = 3
  · subst h3
    rw [if_pos rfl]
    go_enter Tryz.func18, Tryz.ntmps18
    go_wp2_with fail
    refine (cv _).mono ?_
    rintro e w1 ⟨rfl, hb⟩
    have m := m0.below hb (by simp)
    have B := B1.trans (hb.mono B1.size)
    have T : Tab10 w1 := ht.next B
    clear hb
    obtain ⟨⟨⟨x0, f0⟩, ⟨x1, f1⟩⟩, x2, f2⟩ := id m
    go_wp2_with fail
    refine (Lx.quoted_any s _ _ (by omega) rfl).mono ?_
    rintro e w2 ⟨rfl, hb2⟩
    go_wp2
    go_ret
    exact ⟨rfl, B.trans (hb2.mono B.size)⟩
  rw [if_neg h3]
  by_cases h4 : k = 4
  · subst h4
    rw [if_pos rfl]
    have cf := fun (W : World) (hT : Tab10 W) => fmt_any n W hn hT
    have hI : (⟨(Lib.itoa n).toArray⟩ : ByteArray).size ≤ 21 := by rw [show (⟨(Lib.itoa n).toArray⟩ : ByteArray).size = (Lib.itoa n).length from rfl]; exact Lib.itoa_length_le n hn.1 hn.2
    generalize (⟨(Lib.itoa n).toArray⟩ : ByteArray) = I at cf hI ⊢
    go_enter Tryz.func18, Tryz.ntmps18
    go_wp2_with fail
    refine (cv _).mono ?_
    rintro e w1 ⟨rfl, hb⟩
    have m := m0.below hb (by simp)
    have B := B1.trans (hb.mono B1.size)
    have T : Tab10 w1 := ht.next B
    clear hb
    obtain ⟨⟨⟨x0, f0⟩, ⟨x1, f1⟩⟩, x2, f2⟩ := id m
    go_wp2_with fail
    refine (cf _ T).mono ?_
    rintro e w2 ⟨rfl, hb2⟩
    go_wp2
    go_ret
    exact ⟨rfl, B.trans (hb2.mono B.size)⟩
  rw [if_neg h4]
  by_cases h0 : k = 0
  · subst h0
    rw [if_pos rfl]
    go_enter Tryz.func18, Tryz.ntmps18
    go_wp2_with fail
    refine (cv _).mono ?_
    rintro e w1 ⟨rfl, hb⟩
    have m := m0.below hb (by simp)
    have B := B1.trans (hb.mono B1.size)
    have T : Tab10 w1 := ht.next B
    clear hb
    obtain ⟨⟨⟨x0, f0⟩, ⟨x1, f1⟩⟩, x2, f2⟩ := id m
    go_wp2
    go_ret
    exact ⟨rfl, B⟩
  rw [if_neg h0]
  go_enter Tryz.func18, Tryz.ntmps18
  go_wp2_with fail
  refine (cv _).mono ?_
  rintro e w1 ⟨rfl, hb⟩
  have m := m0.below hb (by simp)
  have B := B1.trans (hb.mono B1.size)
  have T : Tab10 w1 := ht.next B
  clear hb
  obtain ⟨⟨⟨x0, f0⟩, ⟨x1, f1⟩⟩, x2, f2⟩ := id m
  go_wp2_with fail
  refine (str_any k n s _ hs hn T).mono ?_
  rintro e w2 ⟨rfl, hb2⟩
  go_wp2
  go_ret
  exact ⟨rfl, B.trans (hb2.mono B.size)⟩
end Go.Proofs.YtichbejmelkjeaaGreatDoor.Vs

namespace Go.Proofs.YtichbejmelkjeaaGreatDoor.Vs
open Go.RowKit

/-- What digits say. -/
def dv (acc : Nat) (D : List UInt8) : Nat := D.foldl (fun a c => a * 10 + (c.toNat - 48)) acc
theorem dv_snoc (acc : Nat) (D : List UInt8) (c : UInt8) : dv acc (D ++ [c]) = dv acc D * 10 + (c.toNat - 48) := by unfold dv; rw [List.foldl_append, List.foldl_cons, List.foldl_nil]
theorem dd_pos (d : Nat) (h : d < 10) : (UInt8.ofNat (48 + d)).toNat = 48 + d := by
  rw [UInt8.toNat_ofNat']
  omega
theorem dec_digits (u : Nat) : (∀ c ∈ Lib.decDigits u, 48 ≤ c.toNat ∧ c.toNat ≤ 57) ∧ Lib.decDigits u ≠ [] ∧ dv 0 (Lib.decDigits u) = u := by
  induction u using Nat.strongRecOn with
  | ind u ih =>
    rw [Lib.decDigits]
    by_cases h : u < 10
    · rw [dif_pos h]
      have e := dd_pos u h
      refine ⟨fun c hc => ?_, by simp, ?_⟩
      · rw [List.mem_singleton.1 hc, e]; omega
      · unfold dv; rw [List.foldl_cons, List.foldl_nil, e]; omega
    · rw [dif_neg h]
      obtain ⟨h1, h2, h3⟩ := ih (u / 10) (by omega)
      have e := dd_pos (u % 10) (by omega)
      refine ⟨fun c hc => ?_, by simp, ?_⟩
      · rcases List.mem_append.1 hc with hc | hc
        · exact h1 c hc
        · rw [List.mem_singleton.1 hc, e]; omega
      · rw [dv_snoc, h3, e]; omega
theorem dec_inj {u v : Nat} (h : Lib.decDigits u = Lib.decDigits v) : u = v := by rw [← (dec_digits u).2.2, ← (dec_digits v).2.2, h]
/-- A numeral: digits, or a sign and digits. -/
theorem itoa_form (n : Int) : (0 ≤ n ∧ Lib.itoa n = Lib.decDigits n.toNat) ∨ (n < 0 ∧ Lib.itoa n = 45 :: Lib.decDigits n.natAbs) := by
  unfold Lib.itoa
  by_cases h : n < 0
  · exact .inr ⟨h, by rw [if_pos h]⟩
  · exact .inl ⟨by omega, by rw [if_neg h]⟩
theorem dec_head (u : Nat) : ∃ c r, Lib.decDigits u = c :: r ∧ 48 ≤ c.toNat ∧ c.toNat ≤ 57 := by
  obtain ⟨h1, h2, _⟩ := dec_digits u
  cases hd : Lib.decDigits u with
  | nil => exact absurd hd h2
  | cons c r => rw [hd] at h1; exact ⟨c, r, rfl, h1 c (by simp)⟩
theorem itoa_inj {a b : Int} (h : Lib.itoa a = Lib.itoa b) : a = b := by
  rcases itoa_form a with ⟨ha, ea⟩ | ⟨ha, ea⟩ <;> rcases itoa_form b with ⟨hb, eb⟩ | ⟨hb, eb⟩ <;> rw [ea, eb] at h
  · have := dec_inj h; omega
  · obtain ⟨c, r, e, hc⟩ := dec_head a.toNat
    rw [e] at h
    simp only [List.cons.injEq] at h
    rw [h.1] at hc
    exact absurd hc.1 (by decide)
  · obtain ⟨c, r, e, hc⟩ := dec_head b.toNat
    rw [e] at h
    simp only [List.cons.injEq] at h
    rw [← h.1] at hc
    exact absurd hc.1 (by decide)
  · simp only [List.cons.injEq, true_and] at h
    have := dec_inj h; omega
theorem itoa_bytes (n : Int) : ∀ d ∈ Lib.itoa n, 32 ≤ d.toNat ∧ d.toNat ≤ 126 := by
  intro d hd
  rcases itoa_form n with ⟨_, e⟩ | ⟨_, e⟩ <;> rw [e] at hd
  · have := (dec_digits n.toNat).1 d hd; omega
  · rcases List.mem_cons.1 hd with rfl | hd
    · decide
    · have := (dec_digits n.natAbs).1 d hd; omega
theorem itoa_ne (n : Int) : Lib.itoa n ≠ [] := by
  rcases itoa_form n with ⟨_, e⟩ | ⟨_, e⟩ <;> rw [e]
  · exact (dec_digits n.toNat).2.1
  · simp

/-- Of which kind is what is shown? -/
def cls : List UInt8 → Int
  | [] => 1
  | [45] => 0
  | 34 :: _ => 3
  | 35 :: _ => 4
  | 116 :: _ => 2
  | 102 :: _ => 2
  | 63 :: _ => 9
  | _ => 1
theorem cls_dig {c : UInt8} {r : List UInt8} (h : 48 ≤ c.toNat ∧ c.toNat ≤ 57) : cls (c :: r) = 1 := by
  unfold cls
  split
  · rfl
  all_goals first
    | (rename_i h1; simp only [List.cons.injEq] at h1; rw [h1.1] at h; exact absurd h (by decide))
    | rfl
theorem cls_neg {c : UInt8} {r : List UInt8} : cls (45 :: c :: r) = 1 := by
  unfold cls
  split
  all_goals first
    | rfl
    | (rename_i h1; simp only [List.cons.injEq] at h1; exact absurd h1.1 (by decide))
    | (rename_i h1; simp only [List.cons.injEq] at h1; exact absurd h1.2 (by simp))
theorem cls_itoa (n : Int) : cls (Lib.itoa n) = 1 := by
  rcases itoa_form n with ⟨_, e⟩ | ⟨_, e⟩ <;> rw [e]
  · obtain ⟨c, r, e2, hc⟩ := dec_head n.toNat
    rw [e2]; exact cls_dig hc
  · obtain ⟨c, r, e2, hc⟩ := dec_head n.natAbs
    rw [e2]; exact cls_neg

/-- What is shown of a value that may be, as a list. -/
def showL (k n : Int) (l : List UInt8) : List UInt8 := if k = 3 then Lx.qt l else if k = 4 then 35 :: Lib.itoa n else if k = 0 then [45] else if k = 1 then Lib.itoa n else Lib.formatBool (n == 1)
theorem show_list {k n : Int} {s : ByteArray} (h : okV k n s = true) : (showS k n s).data.toList = showL k n s.data.toList := by
  unfold showS showL
  rw [if_pos h]
  by_cases h3 : k = 3
  · rw [if_pos h3, if_pos h3]
  rw [if_neg h3, if_neg h3]
  by_cases h4 : k = 4
  · rw [if_pos h4, if_pos h4, ByteArray.data_append]; simp
  rw [if_neg h4, if_neg h4]
  by_cases h0 : k = 0
  · rw [if_pos h0, if_pos h0]
  rw [if_neg h0, if_neg h0]
  unfold strS
  rw [if_pos h]
  by_cases h1 : k = 1
  · rw [if_pos h1, if_pos h1]
  rw [if_neg h1, if_neg h1]
  by_cases h2 : k = 2
  · rw [if_pos h2]
  · exfalso
    unfold okV at h
    rw [if_neg h0, if_neg h1, if_neg h2, if_neg h3, if_neg h4] at h
    cases h
theorem ok_parts {k n : Int} {s : ByteArray} (h : okV k n s = true) : (k = 0 ∧ n = 0 ∧ s = e0) ∨ (k = 1 ∧ s = e0) ∨ (k = 2 ∧ (n = 0 ∨ n = 1) ∧ s = e0) ∨ (k = 3 ∧ n = 0 ∧ s.size ≤ 256) ∨ (k = 4 ∧ 0 ≤ n ∧ s = e0) := by
  unfold okV at h
  repeat' split at h
  all_goals simp at h
  · rename_i hk; exact .inl ⟨hk, h.1, eq_e0 h.2⟩
  · rename_i hk; exact .inr (.inl ⟨hk, eq_e0 h⟩)
  · rename_i hk; exact .inr (.inr (.inl ⟨hk, h.1, eq_e0 h.2⟩))
  · rename_i hk; exact .inr (.inr (.inr (.inl ⟨hk, h.1, h.2⟩)))
  · rename_i hk; exact .inr (.inr (.inr (.inr ⟨hk, h.1, eq_e0 h.2⟩)))
theorem cls_show {k n : Int} {s : ByteArray} (h : okV k n s = true) : cls (showS k n s).data.toList = k := by
  rw [show_list h]
  rcases ok_parts h with ⟨rfl, _⟩ | ⟨rfl, _⟩ | ⟨rfl, hn, _⟩ | ⟨rfl, _⟩ | ⟨rfl, _⟩
  · rfl
  · exact cls_itoa n
  · rcases hn with rfl | rfl <;> rfl
  · rfl
  · rfl
theorem show_inj {k n : Int} {s : ByteArray} {k' n' : Int} {s' : ByteArray} (h : okV k n s = true) (h' : okV k' n' s' = true) (he : showS k n s = showS k' n' s') : k = k' ∧ n = n' ∧ s = s' := by
  have hk : k = k' := by rw [← cls_show h, ← cls_show h', he]
  subst hk
  have hl : showL k n s.data.toList = showL k n' s'.data.toList := by rw [← show_list h, ← show_list h', he]
  refine ⟨rfl, ?_⟩
  rcases ok_parts h with ⟨rfl, hn, hs⟩ | ⟨rfl, hs⟩ | ⟨rfl, hn, hs⟩ | ⟨rfl, hn, hs⟩ | ⟨rfl, hn, hs⟩
  · rcases ok_parts h' with ⟨-, hn', hs'⟩ | ⟨e, _⟩ | ⟨e, _⟩ | ⟨e, _⟩ | ⟨e, _⟩
    · exact ⟨by rw [hn, hn'], by rw [hs, hs']⟩
    all_goals exact absurd e (by decide)
  · rcases ok_parts h' with ⟨e, _⟩ | ⟨-, hs'⟩ | ⟨e, _⟩ | ⟨e, _⟩ | ⟨e, _⟩
    · exact absurd e (by decide)
    · exact ⟨itoa_inj hl, by rw [hs, hs']⟩
    all_goals exact absurd e (by decide)
  · rcases ok_parts h' with ⟨e, _⟩ | ⟨e, _⟩ | ⟨-, hn', hs'⟩ | ⟨e, _⟩ | ⟨e, _⟩
    · exact absurd e (by decide)
    · exact absurd e (by decide)
    · refine ⟨?_, by rw [hs, hs']⟩
      rcases hn with rfl | rfl <;> rcases hn' with rfl | rfl
      · rfl
      · exact absurd (show Lib.formatBool false = Lib.formatBool true from hl) (by decide)
      · exact absurd (show Lib.formatBool true = Lib.formatBool false from hl) (by decide)
      · rfl
    all_goals exact absurd e (by decide)
  · rcases ok_parts h' with ⟨e, _⟩ | ⟨e, _⟩ | ⟨e, _⟩ | ⟨-, hn', hs'⟩ | ⟨e, _⟩
    · exact absurd e (by decide)
    · exact absurd e (by decide)
    · exact absurd e (by decide)
    · refine ⟨by rw [hn, hn'], ?_⟩
      have := Lx.qt_inj _ _ hl
      exact ByteArray.ext (Array.toList_inj.1 this)
    · exact absurd e (by decide)
  · rcases ok_parts h' with ⟨e, _⟩ | ⟨e, _⟩ | ⟨e, _⟩ | ⟨e, _⟩ | ⟨-, hn', hs'⟩
    · exact absurd e (by decide)
    · exact absurd e (by decide)
    · exact absurd e (by decide)
    · exact absurd e (by decide)
    · have hl2 : 35 :: Lib.itoa n = 35 :: Lib.itoa n' := hl
      simp only [List.cons.injEq, true_and] at hl2
      exact ⟨itoa_inj hl2, by rw [hs, hs']⟩
theorem show_bytes (k n : Int) (s : ByteArray) : ∀ d ∈ (showS k n s).data.toList, 32 ≤ d.toNat ∧ d.toNat ≤ 126 := by
  cases h : okV k n s with
  | false =>
    rw [show showS k n s = ⟨#[63]⟩ by unfold showS; rw [h]; rfl]
    decide
  | true =>
    rw [show_list h]
    rcases ok_parts h with ⟨rfl, _⟩ | ⟨rfl, _⟩ | ⟨rfl, hn, _⟩ | ⟨rfl, _⟩ | ⟨rfl, _⟩
    · show ∀ d ∈ ([45] : List UInt8), _
      decide
    · exact itoa_bytes n
    · rcases hn with rfl | rfl
      · show ∀ d ∈ Lib.formatBool false, _
        decide
      · show ∀ d ∈ Lib.formatBool true, _
        decide
    · exact Lx.qt_bytes _
    · intro d hd
      rcases List.mem_cons.1 (show d ∈ 35 :: Lib.itoa n from hd) with rfl | hd
      · decide
      · exact itoa_bytes n d hd
theorem show_q {k n : Int} {s : ByteArray} (h : okV k n s = true) : showS k n s ≠ ⟨#[63]⟩ := by
  intro e
  have h1 := cls_show h
  rw [e] at h1
  have h2 : cls [63] = k := h1
  rw [show cls [63] = 9 from rfl] at h2
  rcases ok_parts h with ⟨e, _⟩ | ⟨e, _⟩ | ⟨e, _⟩ | ⟨e, _⟩ | ⟨e, _⟩ <;> omega
theorem pcs_ge (l : List UInt8) : l.length ≤ (Lx.pcs l).length := by
  induction l with
  | nil => simp
  | cons c l ih =>
    obtain ⟨d, r, e, _⟩ := Lx.pc_head c
    rw [Lx.pcs_cons, e]
    simp only [List.length_cons, List.length_append]
    omega
theorem show_len {n : Int} {s : ByteArray} (h : okV 3 n s = true) : s.size + 2 ≤ (showS 3 n s).size := by
  have h1 := show_list h
  have h2 : (showS 3 n s).size = (showS 3 n s).data.toList.length := by rw [Array.length_toList]; rfl
  rw [h2, h1]
  show _ ≤ (Lx.qt s.data.toList).length
  unfold Lx.qt
  have := pcs_ge s.data.toList
  rw [show s.size = s.data.toList.length by rw [Array.length_toList]; rfl]
  simp only [List.length_cons, List.length_append, List.length_nil]
  omega
end Go.Proofs.YtichbejmelkjeaaGreatDoor.Vs

namespace Go.Proofs.YtichbejmelkjeaaGreatDoor.Vs
open Go.RowKit

theorem show_size (k n : Int) (s : ByteArray) (hn : -9223372036854775808 ≤ n ∧ n ≤ 9223372036854775807) : (showS k n s).size ≤ 10000 := by
  cases h : okV k n s with
  | false =>
    rw [show showS k n s = ⟨#[63]⟩ by unfold showS; rw [h]; rfl]
    decide
  | true =>
    rw [show (showS k n s).size = (showS k n s).data.toList.length by rw [Array.length_toList]; rfl, show_list h]
    rcases ok_parts h with ⟨rfl, _⟩ | ⟨rfl, _⟩ | ⟨rfl, hb, _⟩ | ⟨rfl, _, hs⟩ | ⟨rfl, _⟩
    · show ([45] : List UInt8).length ≤ _
      decide
    · show (Lib.itoa n).length ≤ _
      have := Lib.itoa_length_le n hn.1 hn.2
      omega
    · rcases hb with rfl | rfl
      · show (Lib.formatBool false).length ≤ _
        decide
      · show (Lib.formatBool true).length ≤ _
        decide
    · show (Lx.qt s.data.toList).length ≤ _
      unfold Lx.qt
      have h1 := Lx.pcs_len s.data.toList
      have h2 : s.data.toList.length = s.size := by rw [Array.length_toList]; rfl
      simp only [List.length_cons, List.length_append, List.length_nil]
      omega
    · show (35 :: Lib.itoa n).length ≤ _
      have := Lib.itoa_length_le n hn.1 hn.2
      simp only [List.length_cons]
      omega
end Go.Proofs.YtichbejmelkjeaaGreatDoor.Vs
