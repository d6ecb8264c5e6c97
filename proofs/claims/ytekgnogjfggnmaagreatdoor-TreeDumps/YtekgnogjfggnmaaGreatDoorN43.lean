import Derived.Test.YtekgnogjfggnmaaGreatDoorN42
import Derived.Test.YtekgnogjfggnmaaGreatDoorN31
import Derived.Test.YtekgnogjfggnmaaGreatDoorN41
import Derived.Test.YtekgnogjfggnmaaGreatDoorN36
namespace Go.Proofs.YtekgnogjfggnmaaGreatDoor
open Go.RowKit
set_option maxRecDepth 100000
set_option maxHeartbeats 2000000
def fSize (z : Int) (x : Nd) : Nd := { x with size := z }
theorem flat_set : ∀ (L : List Nd) (k : Nat) (z : Int), k < L.length → (flat L).set (k * 9 + 8) (.int .i64 z) = flat (L.modify k (fSize z))
 | [], k, z, h => by simp at h
 | x :: L, 0, z, _ => by
  obtain ⟨kd, ps, nm, lb, ty, op, it, tx, zz⟩ := x
  show ((ndV _).toList ++ flat L).set (0 * 9 + 8) _ = (ndV _).toList ++ flat L
  rfl
 | x :: L, k + 1, z, h => by
  have ih := flat_set L k z (by simpa using h)
  have hl : (ndV x).toList.length = 9 := rfl
  show ((ndV x).toList ++ flat L).set ((k + 1) * 9 + 8) _ = (ndV x).toList ++ flat (L.modify k (fSize z))
  rw [List.set_append_right _ _ (by rw [hl]; omega), hl, show (k + 1) * 9 + 8 - 9 = k * 9 + 8 by omega, ih]
def closeL (L : List Nd) (O : List Nat) : List Nd := O.foldl (fun M n => M.modify n (fSize ((L.length : Int) - (n : Int)))) L
theorem closeL_snoc (L : List Nd) (O : List Nat) (n : Nat) : closeL L (O ++ [n]) = (closeL L O).modify n (fSize ((L.length : Int) - (n : Int))) := by
 unfold closeL
 rw [List.foldl_append]
 rfl
theorem closeL_len (L : List Nd) : ∀ O : List Nat, (closeL L O).length = L.length := by
 have key : ∀ (O : List Nat) (M : List Nd), (O.foldl (fun M n => M.modify n (fSize ((L.length : Int) - (n : Int)))) M).length = M.length := by
  intro O
  induction O with
  | nil => intro M; rfl
  | cons n O ih => intro M; rw [List.foldl_cons, ih, List.length_modify]
 exact fun O => key O L
theorem closeNodes_nil (w : World) (p q : Option Addr) (n cap c : Nat) :
 Calls Tryz.prog 36 #[.slice p n cap, .slice q 0 c] w fun e w' => e = .returned (.tuple #[]) ∧ w = w' := by
 go_enter Tryz.func36, Tryz.ntmps36
 go_wp2
 go_loop [8] (fun i => i = .int .i64 0) (fun _ => 0)
 case atStart => rfl
 case round =>
  subst hrel
  go_wp2
  go_end0
  exact ⟨rfl, rfl⟩
theorem closeNodes_any (w : World) (B g cap : Nat) (L : List Nd) (O : List Nat) (go oo co : Nat) (hO : ∀ j, j < O.length → w.cell? ⟨go, oo + j, none⟩ = some (.int .i64 ((O.getD j 0 : Nat) : Int))) (hne : go ≠ g) (hlt : ∀ n ∈ O, n < L.length)
 (ho : w.ownsRow B 42 9 (.slice (some ⟨g, 0, none⟩) L.length cap) L.length (flat L)) (hL : L.length ≤ 1353245080300) (hOl : O.length ≤ 1353245080300) :
 Calls Tryz.prog 36 #[.slice (some ⟨g, 0, none⟩) L.length cap, .slice (some ⟨go, oo, none⟩) O.length co] w fun e w' => e = .returned (.tuple #[]) ∧ w'.ownsRow B 42 9 (.slice (some ⟨g, 0, none⟩) L.length cap) L.length (flat (closeL L O)) ∧ w.grownBy w' (some g) := by
 have HO : Hid (w.ownsRow B 42 9 (.slice (some ⟨g, 0, none⟩) L.length cap) L.length (flat L)) := ho
 have HC : Hid (∀ j, j < O.length → w.cell? ⟨go, oo + j, none⟩ = some (.int .i64 ((O.getD j 0 : Nat) : Int))) := hO
 have HT : Hid (∀ n ∈ O, n < L.length) := hlt
 clear ho hO hlt
 go_enter Tryz.func36, Tryz.ntmps36
 go_wp2
 go_loopw [8] (fun i wr => ∃ k : Nat, k ≤ O.length ∧ i = .int .i64 (k : Int) ∧ Hid (wr.ownsRow B 42 9 (.slice (some ⟨g, 0, none⟩) L.length cap) L.length (flat (closeL L (O.take k)))) ∧ Hid (w.grownBy wr (some g))) (fun i _ => O.length - (intOf i).toNat)
 case atStart => exact ⟨0, by omega, rfl, HO, ⟨rfl, rfl, rfl, Nat.le_refl _, fun _ _ _ => rfl⟩⟩
 case round =>
  obtain ⟨k, hk, rfl, ho, hg⟩ := hrel
  by_cases hlt : k < O.length
  ·have c1 : wr.cell? ⟨go, oo + k, none⟩ = some (.int .i64 ((O.getD k 0 : Nat) : Int)) := by
    have h1 := HC.out k hlt
    have h2 := World.block_lt_of_cell? w _ h1
    have h3 := hg.out.block go h2 (by simpa using hne)
    simpa only [World.cell?, h3] using h1
   have hn := HT.out (O.getD k 0) (by rw [List.getD_eq_getElem?_getD, List.getElem?_eq_getElem hlt]; exact List.getElem_mem hlt)
   have HK : Hid (O.take (k + 1) = O.take k ++ [O.getD k 0]) := by
    show O.take (k + 1) = O.take k ++ [O.getD k 0]
    rw [List.take_succ_eq_append_getElem hlt, List.getD_eq_getElem?_getD, List.getElem?_eq_getElem hlt]
    rfl
   generalize O.getD k 0 = n at c1 hn HK
   have hll := closeL_len L (O.take k)
   have c2 : ∃ v0, wr.cell? ⟨g, n * 9 + 8, none⟩ = some v0 := by
    have := ho.out.cellAt (n * 9 + 8) (by omega)
    rw [flat_at _ n 8 (by omega) (by omega)] at this
    exact ⟨_, this.trans rfl⟩
   obtain ⟨v0, c2⟩ := c2
   have fz : wr.frozen? ⟨g, n * 9 + 8, none⟩ = false := by
    have hth := (lay_of_own (L := closeL L (O.take k)) (by rw [hll]; exact ho.out)).2.2
    have := (hth (n * 9 + 8) (by omega)).2
    simpa using this
   have i0 : (0 : Int) ≤ (n : Int) := by omega
   have i1 : (n : Int) < (L.length : Int) := by omega
   have hwr : IntKind.i64.wrap ((L.length : Int) - (n : Int)) = (L.length : Int) - (n : Int) := by rw [IntKind.wrap_i64]; omega
   have HS := ho.out.stored (n * 9 + 8) (.int .i64 ((L.length : Int) - (n : Int)))
   have HS2 : Hid ((wr.setCell ⟨g, n * 9 + 8, none⟩ (.int .i64 ((L.length : Int) - (n : Int)))).ownsRow B 42 9 (.slice (some ⟨g, 0, none⟩) L.length cap) L.length (flat (closeL L (O.take (k + 1))))) := by
    show World.ownsRow _ _ _ _ _ _ _
    rw [HK.out, closeL_snoc, ← flat_set _ n _ (by omega)]
    exact HS.1
   have HS3 : Hid (w.grownBy (wr.setCell ⟨g, n * 9 + 8, none⟩ (.int .i64 ((L.length : Int) - (n : Int)))) (some g)) := by
    have h2 := HS.2
    have h1 := hg.out
    exact ⟨h2.os.trans h1.os, h2.tape.trans h1.tape, h2.output.trans h1.output, Nat.le_trans h1.size h2.size, fun k hk hne => (h2.block k (Nat.lt_of_lt_of_le hk h1.size) hne).trans (h1.block k hk hne)⟩
   clear HS hll
   go_wp2
   refine ⟨⟨k + 1, by omega, by go_num, HS2, HS3⟩, by simp [intOf]; omega⟩
  ·obtain rfl : k = O.length := by omega
   rw [List.take_length] at ho
   go_wp2
   go_end0
   exact ⟨rfl, ho.out, hg.out⟩
theorem told_trim (l : List UInt8) : Lib.trimLeftB l 32 = told l := rfl
theorem occ_cons (c : UInt8) (r sub : List UInt8) (j : Nat) : Lib.occAt (c :: r) sub (j + 1) = Lib.occAt r sub j := rfl
theorem last_cases : ∀ l : List UInt8, (lastSp l = none ∧ ∀ j, Lib.occAt l [32, 64] j = false) ∨ ∃ a b, lastSp l = some (a, b) ∧ l = a ++ 32 :: 64 :: b ∧ ∀ j, a.length < j → Lib.occAt l [32, 64] j = false
 | [] => Or.inl ⟨rfl, fun j => by simp [Lib.occAt]⟩
 | c :: r => by
  rcases last_cases r with ⟨h1, h2⟩ | ⟨a, b, h1, h2, h3⟩
  ·by_cases hc : c = 32
   ·subst hc
    cases r with
    | nil =>
     refine Or.inl ⟨by unfold lastSp; rw [h1]; rfl, fun j => ?_⟩
     cases j with
     | zero => rfl
     | succ j => rw [occ_cons]; exact h2 j
    | cons d b =>
     by_cases hd : d = 64
     ·subst hd
      refine Or.inr ⟨[], b, by unfold lastSp; rw [h1]; rfl, rfl, fun j hj => ?_⟩
      obtain ⟨i, rfl⟩ : ∃ i, j = i + 1 := ⟨j - 1, by simp at hj; omega⟩
      rw [occ_cons]
      exact h2 i
     ·refine Or.inl ⟨by unfold lastSp; rw [h1]; simp [hd], fun j => ?_⟩
      cases j with
      | zero =>
       have : (64 == d) = false := by simpa using fun e => hd e.symm
       simp [Lib.occAt, List.isPrefixOf, this]
      | succ j => rw [occ_cons]; exact h2 j
   ·refine Or.inl ⟨by unfold lastSp; rw [h1]; simp [hc], fun j => ?_⟩
    cases j with
    | zero =>
     have : (32 == c) = false := by simpa using fun e => hc e.symm
     simp [Lib.occAt, List.isPrefixOf, this]
    | succ j => rw [occ_cons]; exact h2 j
  ·refine Or.inr ⟨c :: a, b, by unfold lastSp; rw [h1], by rw [h2]; rfl, fun j hj => ?_⟩
   obtain ⟨i, rfl⟩ : ∃ i, j = i + 1 := ⟨j - 1, by simp at hj; omega⟩
   rw [occ_cons]
   exact h3 i (by simpa using hj)
theorem last_ix (l : List UInt8) : (Lib.lastIndex l [32, 64] = -1 ∧ lastSp l = none) ∨ ∃ k : Nat, Lib.lastIndex l [32, 64] = (k : Int) ∧ k + 2 ≤ l.length ∧ lastSp l = some (l.take k, l.drop (k + 2)) := by
 rcases last_cases l with ⟨h1, h2⟩ | ⟨a, b, h1, h2, h3⟩
 ·refine Or.inl ⟨?_, h1⟩
  unfold Lib.lastIndex
  split
  ·rcases Lib.lastOcc_spec l [32, 64] (l.length - [(32 : UInt8), 64].length + 1) with ⟨e, _⟩ | ⟨i, _, _, hc, _⟩
   ·exact e
   ·rw [h2 i] at hc; cases hc
  ·rfl
 ·have hl : l.length = a.length + 2 + b.length := by rw [h2]; simp; omega
  have ho : Lib.occAt l [32, 64] a.length = true := by
   rw [h2]
   unfold Lib.occAt
   rw [List.drop_left' rfl]
   rfl
  refine Or.inr ⟨a.length, ?_, by omega, ?_⟩
  ·unfold Lib.lastIndex
   rw [if_pos (show [(32 : UInt8), 64].length ≤ l.length from (by show 2 ≤ l.length; omega))]
   rcases Lib.lastOcc_spec l [32, 64] (l.length - [(32 : UInt8), 64].length + 1) with ⟨_, hn⟩ | ⟨i, hi, e, hc, hn⟩
   ·rw [hn a.length (by show a.length < l.length - 2 + 1; omega)] at ho; cases ho
   ·rw [e]
    rcases Nat.lt_trichotomy i a.length with q | q | q
    ·rw [hn a.length q (by show a.length < l.length - 2 + 1; omega)] at ho; cases ho
    ·rw [q]
    ·rw [h3 i q] at hc; cases hc
  ·rw [h1]
   congr 2
   ·rw [h2, List.take_left' rfl]
   ·rw [h2, show a ++ 32 :: 64 :: b = (a ++ [32, 64]) ++ b by simp, List.drop_left' (by simp)]
namespace Lx
theorem scan_code (f : Nat) : ∀ (k : Nat) (l : List UInt8) (e q : Nat), scanS f k l = .inl (e, q) → 20 ≤ e := by
 induction f with
 | zero => intro k l e q h; simp [scanS] at h; omega
 | succ f ih =>
  intro k l e q h
  match l with
  | [] => cases h
  | c :: r =>
   simp only [scanS] at h
   split at h
   ·exact ih _ _ _ _ h
   ·split at h
    ·exact ih _ _ _ _ h
    ·split at h
     ·rename_i e' he
      cases h
      exact (tok_err he).1
     ·split at h
      ·rename_i p hp
       cases h
       exact ih _ _ _ _ hp
      ·cases h
theorem txt_text (f : Nat) : ∀ (n : Nat) (V l : List UInt8) (x : Tk), txtS f n V l = .inr x → V.length ≤ 200 → x.text.length ≤ 200 := by
 induction f with
 | zero => intro n V l x h; simp [txtS] at h
 | succ f ih =>
  intro n V l x h hV
  match l with
  | [] => simp [txtS] at h
  | c :: r =>
   unfold txtS at h
   split at h
   ·cases h; exact hV
   ·split at h
    ·cases h
    ·rename_i hn
     refine ih _ _ _ _ h ?_
     rw [List.length_append, List.length_singleton]
     omega
theorem sgs_small : ∀ s ∈ sgs, s.data.toList.length ≤ 2 := by decide
theorem tok_text {l : List UInt8} {x : Tk} (h : tokS l = .inr x) : x.text.length ≤ l.length + 200 := by
 match l with
 | [] => simp [tokS] at h
 | c :: r =>
  simp only [tokS] at h
  split at h
  ·have := tw_le (p := innerB) (c :: r)
   unfold wordS at h
   simp only at h
   split at h
   ·cases h; simp only; omega
   ·split at h
    ·cases h
    ·cases h; simp only; omega
  ·split at h
   ·unfold numS at h
    simp only at h
    split at h
    ·cases h
    ·split at h
     ·cases h
     ·split at h
      ·cases h; simp
      ·cases h
   ·split at h
    ·have := txt_text _ _ _ _ _ h (by simp)
     omega
    ·unfold signS at h
     split at h
     ·rename_i s hf
      cases h
      have := sgs_small s (List.mem_of_find?_eq_some hf)
      simp only
      omega
     ·cases h
theorem scan_text (f : Nat) : ∀ (k : Nat) (l : List UInt8) (j : Nat) (x : Tk) (rest : List (Nat × Tk)), scanS f k l = .inr ((j, x) :: rest) → x.text.length ≤ l.length + 200 := by
 induction f with
 | zero => intro k l j x rest h; cases h
 | succ f ih =>
  intro k l j x rest h
  match l with
  | [] => cases h; simp
  | c :: r =>
   simp only [scanS] at h
   split at h
   ·have := ih _ _ _ _ _ h
    rw [List.length_cons]
    omega
   ·split at h
    ·have := ih _ _ _ _ _ h
     rw [List.length_drop] at this
     omega
    ·split at h
     ·cases h
     ·rename_i y hy
      split at h
      ·cases h
      ·cases h
       exact tok_text hy
end Lx
theorem txt_some {t w : List UInt8} (h : t.length ≤ 200) (hq : Lx.qt t = w) : txtS w = some t := by
 subst hq
 have hx : ∃ u : List UInt8, u.length ≤ 200 ∧ Lx.qt u = Lx.qt t := ⟨t, h, rfl⟩
 unfold txtS
 rw [dif_pos hx]
 exact congrArg some (Lx.qt_inj _ _ hx.choose_spec.2)
theorem txt_bad {w : List UInt8} {p : Nat × Nat} (h : Lx.scanS (w.length + 1) 0 w = .inl p) : txtS w = none := by
 cases ht : txtS w with
 | none => rfl
 | some t =>
  obtain ⟨h1, h2⟩ := txt_sound ht
  have := Lx.scan_q t
  rw [h1, if_pos h2, h] at this
  cases this
theorem txt_hit {w : List UInt8} {k : Nat} {x : Lx.Tk} {rest : List (Nat × Lx.Tk)} (h : Lx.scanS (w.length + 1) 0 w = .inr ((k, x) :: rest)) (hq : Lx.qt x.text = w) : txtS w = some x.text := by
 by_cases hl : x.text.length ≤ 200
 ·exact txt_some hl hq
 ·have := Lx.scan_q x.text
  rw [hq, if_neg hl, h] at this
  cases this
theorem txt_miss {w : List UInt8} {k : Nat} {x : Lx.Tk} {rest : List (Nat × Lx.Tk)} (h : Lx.scanS (w.length + 1) 0 w = .inr ((k, x) :: rest)) (hq : Lx.qt x.text ≠ w) : txtS w = none := by
 cases ht : txtS w with
 | none => rfl
 | some t =>
  obtain ⟨h1, h2⟩ := txt_sound ht
  have := Lx.scan_q t
  rw [h1, if_pos h2, h] at this
  cases this
  exact absurd h1 hq
theorem trim_cut (l : List UInt8) : Lib.trimPrefix l [32] = cutB l := by
 unfold Lib.trimPrefix
 cases l with
 | nil => rfl
 | cons c r =>
  show _ = if c = 32 then r else c :: r
  by_cases h : c = 32
  ·subst h
   rw [if_pos rfl, if_pos (by simp [Lib.hasPrefix, List.isPrefixOf])]
   rfl
  ·rw [if_neg h, if_neg]
   have : (32 == c) = false := by simpa using fun e => h e.symm
   simp [Lib.hasPrefix, List.isPrefixOf, this]
theorem cutB_le (l : List UInt8) : (cutB l).length ≤ l.length := by
 cases l with
 | nil => exact Nat.le_refl _
 | cons c r =>
  show (if c = 32 then r else c :: r).length ≤ _
  split <;> simp
theorem readText_any (s : ByteArray) (w : World) (T : TypeId) (p : Value) (h : NoD w T p) (ht : Lx.Tabs w) (hs : s.size ≤ 4194304) :
 Calls Tryz.prog 96 #[.string s] w fun e w' => Hid (Ans e T p ((txtS (cutB s.data.toList)).map fun q => .string (bk q))) ∧ Below w.heap.size w w' := by
 have HN : Hid (∀ w' : World, Below w.heap.size w w' → w'.cell? ⟨0, 0, none⟩ = some (.iface T p)) := fun w' hb => h.next hb
 have hl := cutB_le s.data.toList
 rw [← Lib.size_eq] at hl
 obtain ⟨wd, hwd⟩ : ∃ wd, cutB s.data.toList = wd := ⟨_, rfl⟩
 rw [hwd] at hl
 have HTP : Hid (∀ w' : World, Calls Tryz.prog 115 #[.string s, .string ⟨#[32]⟩] w' fun e w'' => e = .returned (.string (bk wd)) ∧ w'' = w') := fun w' => by
  have := Tryz.strings_TrimPrefix s ⟨#[32]⟩ w'
  rw [show (⟨#[32]⟩ : ByteArray).data.toList = [32] from rfl, trim_cut, hwd] at this
  exact this
 have HSC0 := Lx.scan_any (bk wd) w (by rw [bk_size]; omega) ht
 rw [bk_list, bk_size] at HSC0
 rw [hwd]
 clear ht h hwd
 cases hS : Lx.scanS (wd.length + 1) 0 wd with
 | inl q =>
  obtain ⟨code, k⟩ := q
  have HR : Hid (txtS wd = none) := txt_bad hS
  have hcode := Lx.scan_code _ _ _ _ _ hS
  have hc0 : ((code : Int) == 0) = false := by rw [beq_eq_false_iff_ne]; omega
  rw [hS] at HSC0
  have HSC : Hid (Calls Tryz.prog 116 #[.string (bk wd)] w fun e w' => e = .returned (.tuple #[.slice none 0 0, .agg #[.int .i64 (code : Int), .int .i64 (k : Int)]]) ∧ Below w.heap.size w w') := HSC0
  clear HSC0 hS
  obtain ⟨b, hb⟩ : ∃ b, bk wd = b := ⟨_, rfl⟩
  rw [hb] at HTP HSC
  clear hb
  go_enter Tryz.func96, Tryz.ntmps96
  go_wp2_with (first
   | (go_at_call 115; refine (HTP.out _).mono ?_; rintro e w1 ⟨rfl, rfl⟩)
   | (go_at_call 116; refine HSC.out.mono ?_; rintro e w2 ⟨rfl, hw2⟩; have hn2 := HN.out (w2.alloc (.cells #[.int .i64 (code : Int), .int .i64 (k : Int)] 97)) (hw2.alloc hw2.size _))
   | go_in)
  exact ⟨rfl, (by show Ans _ T p _; rw [HR.out]; exact (rfl : _ = _)), hw2.alloc hw2.size _⟩
 | inr toks =>
  cases toks with
  | nil => exact absurd rfl (Lx.scan_some _ _ _ _ hS)
  | cons q rest =>
  obtain ⟨k, x⟩ := q
  have hxl := Lx.scan_text _ _ _ _ _ _ hS
  rw [hS] at HSC0
  have HSC : Hid (Calls Tryz.prog 116 #[.string (bk wd)] w fun e w' => ∃ g cap, e = .returned (.tuple #[.slice (some ⟨g, 0, none⟩) (rest.length + 1) cap, .agg #[.int .i64 0, .int .i64 0]]) ∧ w'.cell? ⟨g, 3, none⟩ = some (.string (bk x.text)) ∧ Below w.heap.size w w') := by
   refine HSC0.mono ?_
   rintro e w' ⟨v, rfl, ho, hb⟩
   rcases ho.2 with ⟨_, hn⟩ | ⟨g, cap, cur, rfl, _⟩
   ·simp at hn
   ·refine ⟨g, cap, rfl, ?_, hb⟩
    have := ho.cellAt 3 (by rw [List.length_cons]; omega)
    rw [this]
    rfl
  clear HSC0
  have HQ : Hid (∀ w' : World, Calls Tryz.prog 33 #[.string (bk x.text)] w' fun e w'' => e = .returned (.string (bk (Lx.qt x.text))) ∧ Below w'.heap.size w' w'') := fun w' => by
   have := Lx.quote_any (bk x.text) (bk (Lx.qt x.text)) w' (by rw [bk_size]; omega) rfl
   exact this
  have HH : Hid (Lx.qt x.text = wd → txtS wd = some x.text) := fun h => txt_hit hS h
  have HM : Hid (Lx.qt x.text ≠ wd → txtS wd = none) := fun h => txt_miss hS h
  clear hS
  obtain ⟨b, hb⟩ : ∃ b, bk wd = b := ⟨_, rfl⟩
  obtain ⟨t, ht⟩ : ∃ t, bk x.text = t := ⟨_, rfl⟩
  obtain ⟨qt, hqt⟩ : ∃ qt, bk (Lx.qt x.text) = qt := ⟨_, rfl⟩
  have HBD : Hid (qt.toList == b.toList ↔ Lx.qt x.text = wd) := by
   show _ ↔ _
   rw [← hb, ← hqt, toL, toL, bk_list, bk_list, beq_iff_eq]
  have HT : Hid (bk x.text = t) := ht
  rw [hb] at HTP HSC
  rw [ht, hqt] at HQ
  rw [ht] at HSC
  clear hb ht hqt
  go_enter Tryz.func96, Tryz.ntmps96
  go_wp2_with (first
   | (go_at_call 115; refine (HTP.out _).mono ?_; rintro e w1 ⟨rfl, rfl⟩)
   | (go_at_call 116; refine HSC.out.mono ?_; rintro e w2 ⟨g, cap, rfl, hc3, hw2⟩; have hc4 : (w2.alloc (.cells #[.int .i64 0, .int .i64 0] 97)).cell? ⟨g, 3, none⟩ = some (.string t) := (World.cell?_alloc_lt _ _ _ (World.block_lt_of_cell? w2 _ hc3)).trans hc3)
   | (go_at_call 33; refine (HQ.out _).mono ?_; rintro e w3 ⟨rfl, hw3⟩; have hw13 : Below w1.heap.size w1 w3 := (hw2.alloc hw2.size _).trans (hw3.mono (by simp; exact Nat.le_succ_of_le hw2.size)); have hn3 := HN.out w3 hw13; have hc5 : w3.cell? ⟨g, 3, none⟩ = some (.string t) := (hw3.cell (p := ⟨g, 3, none⟩) (World.block_lt_of_cell? _ _ hc4)).trans hc4)
   | go_in)
  ·have h1 : (!qt.toList == b.toList) = true := by assumption
   refine ⟨rfl, ?_, hw13⟩
   show Ans _ T p _
   rw [HM.out (fun e => by rw [HBD.out.2 e] at h1; cases h1)]
   exact (rfl : _ = _)
  ·have h1 : (!qt.toList == b.toList) = false := by assumption
   go_ret
   refine ⟨?_, hw13⟩
   show Ans _ T p _
   rw [HH.out (HBD.out.1 (by simpa using h1)), ← HT.out]
   exact (rfl : _ = _)
structure NodeAt (w : World) (B : Nat) (x : Nd) : Prop where
 c : ∀ j u, (ndV x)[j]? = some u → w.cell? ⟨B, j, none⟩ = some u
 f : ∀ j, j < 9 → w.frozen? ⟨B, j, none⟩ = false
theorem NodeAt.lt {w : World} {B : Nat} {x : Nd} (h : NodeAt w B x) : B < w.heap.size := World.block_lt_of_cell? w ⟨B, 0, none⟩ (h.c 0 _ rfl)
theorem NodeAt.below {w w' : World} {B C : Nat} {x : Nd} (h : NodeAt w B x) (hb : Below C w w') (hB : B < C) : NodeAt w' B x :=
 ⟨fun j u hu => (hb.cell (p := ⟨B, j, none⟩) hB).trans (h.c j u hu), fun j hj => (hb.frozen (p := ⟨B, j, none⟩) hB).trans (h.f j hj)⟩
theorem NodeAt.next {w w' : World} {B : Nat} {x : Nd} (h : NodeAt w B x) (hb : Below w.heap.size w w') : NodeAt w' B x := h.below hb h.lt
theorem NodeAt.new (w : World) (x : Nd) (t : TypeId) : NodeAt (w.alloc (.cells (ndV x) t)) w.heap.size x := by
 refine ⟨fun j u hu => cell_new _ _ _ _ _ hu, fun j hj => ?_⟩
 simp only [World.frozen?, heap_alloc_new w (.cells (ndV x) t)]
 simp
theorem NodeAt.other {w : World} {B C i : Nat} {x : Nd} {v : Value} (h : NodeAt w B x) (hne : B ≠ C) : NodeAt (w.setCell ⟨C, i, none⟩ v) B x := by
 refine ⟨fun j u hu => ?_, fun j hj => ?_⟩
 ·rw [World.cell?_setCell_other _ _ _ _ (fun e => hne (by cases e; rfl))]
  exact h.c j u hu
 ·rw [World.frozen?_setCell]
  exact h.f j hj
theorem NodeAt.put {w : World} {B i : Nat} {x y : Nd} {v : Value} (h : NodeAt w B x) (hi : i < 9) (he : ∀ j, (ndV y)[j]? = if j = i then some v else (ndV x)[j]?) : NodeAt (w.setCell ⟨B, i, none⟩ v) B y := by
 refine ⟨fun j u hu => ?_, fun j hj => ?_⟩
 ·rw [he j] at hu
  by_cases hj : j = i
  ·subst hj
   rw [if_pos rfl] at hu
   cases hu
   obtain ⟨z, hz⟩ : ∃ z, (ndV x)[j]? = some z := ⟨_, Array.getElem?_eq_getElem (by show j < 9; omega)⟩
   exact World.cell?_setCell_same' _ _ _ (by rw [h.c j z hz]; rfl)
  ·rw [if_neg hj] at hu
   rw [World.cell?_setCell_other _ _ _ _ (fun e => hj (by cases e; rfl))]
   exact h.c j u hu
 ·rw [World.frozen?_setCell]
  exact h.f j hj
theorem nd9 {P : Nat → Prop} (h0 : P 0) (h1 : P 1) (h2 : P 2) (h3 : P 3) (h4 : P 4) (h5 : P 5) (h6 : P 6) (h7 : P 7) (h8 : P 8) (hr : ∀ j, 9 ≤ j → P j) (j : Nat) : P j := by
 by_cases h : 9 ≤ j
 ·exact hr j h
 ·have : j = 0 ∨ j = 1 ∨ j = 2 ∨ j = 3 ∨ j = 4 ∨ j = 5 ∨ j = 6 ∨ j = 7 ∨ j = 8 := by omega
  rcases this with rfl | rfl | rfl | rfl | rfl | rfl | rfl | rfl | rfl <;> assumption
theorem ndV_out (x : Nd) {j : Nat} (h : 9 ≤ j) : (ndV x)[j]? = none := Array.getElem?_eq_none (by show 9 ≤ j; exact h)
theorem NodeAt.pLabel {w : World} {B : Nat} {x : Nd} (h : NodeAt w B x) (v : ByteArray) : NodeAt (w.setCell ⟨B, 3, none⟩ (.string v)) B { x with label := v } := h.put (by omega) (nd9 (P := fun j => (ndV { x with label := v })[j]? = if j = 3 then some (.string v) else (ndV x)[j]?) rfl rfl rfl rfl rfl rfl rfl rfl rfl (fun j hj => by rw [ndV_out _ hj, if_neg (by omega), ndV_out _ hj]))
theorem NodeAt.pName {w : World} {B : Nat} {x : Nd} (h : NodeAt w B x) (v : ByteArray) : NodeAt (w.setCell ⟨B, 2, none⟩ (.string v)) B { x with name := v } := h.put (by omega) (nd9 (P := fun j => (ndV { x with name := v })[j]? = if j = 2 then some (.string v) else (ndV x)[j]?) rfl rfl rfl rfl rfl rfl rfl rfl rfl (fun j hj => by rw [ndV_out _ hj, if_neg (by omega), ndV_out _ hj]))
theorem NodeAt.pTyp {w : World} {B : Nat} {x : Nd} (h : NodeAt w B x) (v : ByteArray) : NodeAt (w.setCell ⟨B, 4, none⟩ (.string v)) B { x with typ := v } := h.put (by omega) (nd9 (P := fun j => (ndV { x with typ := v })[j]? = if j = 4 then some (.string v) else (ndV x)[j]?) rfl rfl rfl rfl rfl rfl rfl rfl rfl (fun j hj => by rw [ndV_out _ hj, if_neg (by omega), ndV_out _ hj]))
theorem NodeAt.pText {w : World} {B : Nat} {x : Nd} (h : NodeAt w B x) (v : ByteArray) : NodeAt (w.setCell ⟨B, 7, none⟩ (.string v)) B { x with text := v } := h.put (by omega) (nd9 (P := fun j => (ndV { x with text := v })[j]? = if j = 7 then some (.string v) else (ndV x)[j]?) rfl rfl rfl rfl rfl rfl rfl rfl rfl (fun j hj => by rw [ndV_out _ hj, if_neg (by omega), ndV_out _ hj]))
theorem NodeAt.pInt {w : World} {B : Nat} {x : Nd} (h : NodeAt w B x) (v : Int) : NodeAt (w.setCell ⟨B, 6, none⟩ (.int .i64 v)) B { x with int := v } := h.put (by omega) (nd9 (P := fun j => (ndV { x with int := v })[j]? = if j = 6 then some (.int .i64 v) else (ndV x)[j]?) rfl rfl rfl rfl rfl rfl rfl rfl rfl (fun j hj => by rw [ndV_out _ hj, if_neg (by omega), ndV_out _ hj]))
theorem NodeAt.pOp {w : World} {B : Nat} {x : Nd} (h : NodeAt w B x) (v : Int) : NodeAt (w.setCell ⟨B, 5, none⟩ (.int .i64 v)) B { x with op := v } := h.put (by omega) (nd9 (P := fun j => (ndV { x with op := v })[j]? = if j = 5 then some (.int .i64 v) else (ndV x)[j]?) rfl rfl rfl rfl rfl rfl rfl rfl rfl (fun j hj => by rw [ndV_out _ hj, if_neg (by omega), ndV_out _ hj]))
theorem NodeAt.pPos {w : World} {B : Nat} {x : Nd} (h : NodeAt w B x) (v : Int) : NodeAt (w.setCell ⟨B, 1, none⟩ (.int .i64 v)) B { x with pos := v } := h.put (by omega) (nd9 (P := fun j => (ndV { x with pos := v })[j]? = if j = 1 then some (.int .i64 v) else (ndV x)[j]?) rfl rfl rfl rfl rfl rfl rfl rfl rfl (fun j hj => by rw [ndV_out _ hj, if_neg (by omega), ndV_out _ hj]))
theorem NodeAt.pKind {w : World} {B : Nat} {x : Nd} (h : NodeAt w B x) (v : Int) : NodeAt (w.setCell ⟨B, 0, none⟩ (.int .i64 v)) B { x with kind := v } := h.put (by omega) (nd9 (P := fun j => (ndV { x with kind := v })[j]? = if j = 0 then some (.int .i64 v) else (ndV x)[j]?) rfl rfl rfl rfl rfl rfl rfl rfl rfl (fun j hj => by rw [ndV_out _ hj, if_neg (by omega), ndV_out _ hj]))
theorem NodeAt.pSize {w : World} {B : Nat} {x : Nd} (h : NodeAt w B x) (v : Int) : NodeAt (w.setCell ⟨B, 8, none⟩ (.int .i64 v)) B { x with size := v } := h.put (by omega) (nd9 (P := fun j => (ndV { x with size := v })[j]? = if j = 8 then some (.int .i64 v) else (ndV x)[j]?) rfl rfl rfl rfl rfl rfl rfl rfl rfl (fun j hj => by rw [ndV_out _ hj, if_neg (by omega), ndV_out _ hj]))
theorem NodeAt.set {w : World} {B : Nat} {x : Nd} (h : NodeAt w B x) (y : Nd) : NodeAt (((((((((w.setCell ⟨B, 0, none⟩ (.int .i64 y.kind)).setCell ⟨B, 1, none⟩ (.int .i64 y.pos)).setCell ⟨B, 2, none⟩ (.string y.name)).setCell ⟨B, 3, none⟩ (.string y.label)).setCell ⟨B, 4, none⟩ (.string y.typ)).setCell ⟨B, 5, none⟩ (.int .i64 y.op)).setCell ⟨B, 6, none⟩ (.int .i64 y.int)).setCell ⟨B, 7, none⟩ (.string y.text)).setCell ⟨B, 8, none⟩ (.int .i64 y.size)) B y :=
 ((((((((h.pKind y.kind).pPos y.pos).pName y.name).pLabel y.label).pTyp y.typ).pOp y.op).pInt y.int).pText y.text).pSize y.size
theorem below_set9 {w0 w : World} {B : Nat} (h : Below w0.heap.size w0 w) (hB : w0.heap.size ≤ B) (a b c d e f g i j : Value) : Below w0.heap.size w0 (((((((((w.setCell ⟨B, 0, none⟩ a).setCell ⟨B, 1, none⟩ b).setCell ⟨B, 2, none⟩ c).setCell ⟨B, 3, none⟩ d).setCell ⟨B, 4, none⟩ e).setCell ⟨B, 5, none⟩ f).setCell ⟨B, 6, none⟩ g).setCell ⟨B, 7, none⟩ i).setCell ⟨B, 8, none⟩ j) :=
 ((((((((h.setCell (p := ⟨B, 0, none⟩) hB a).setCell (p := ⟨B, 1, none⟩) hB b).setCell (p := ⟨B, 2, none⟩) hB c).setCell (p := ⟨B, 3, none⟩) hB d).setCell (p := ⟨B, 4, none⟩) hB e).setCell (p := ⟨B, 5, none⟩) hB f).setCell (p := ⟨B, 6, none⟩) hB g).setCell (p := ⟨B, 7, none⟩) hB i).setCell (p := ⟨B, 8, none⟩) hB j
theorem ret9 {w : World} {B : Nat} {y : Nd} {tm : Array Value} (h : NodeAt w B y) (h2 : tm[2]?.getD undef = .pointer (some ⟨B, 0, none⟩)) : (results Tryz.f63 tm).run Tryz.prog w = .ok (.agg (ndV y)) w := by
 obtain ⟨kd, ps, nm, lb, ty, op, it, tx, zz⟩ := y
 have c0 : w.cell? ⟨B, 0, none⟩ = some (.int .i64 kd) := h.c 0 _ rfl
 have c1 : w.cell? ⟨B, 1, none⟩ = some (.int .i64 ps) := h.c 1 _ rfl
 have c2 : w.cell? ⟨B, 2, none⟩ = some (.string nm) := h.c 2 _ rfl
 have c3 : w.cell? ⟨B, 3, none⟩ = some (.string lb) := h.c 3 _ rfl
 have c4 : w.cell? ⟨B, 4, none⟩ = some (.string ty) := h.c 4 _ rfl
 have c5 : w.cell? ⟨B, 5, none⟩ = some (.int .i64 op) := h.c 5 _ rfl
 have c6 : w.cell? ⟨B, 6, none⟩ = some (.int .i64 it) := h.c 6 _ rfl
 have c7 : w.cell? ⟨B, 7, none⟩ = some (.string tx) := h.c 7 _ rfl
 have c8 : w.cell? ⟨B, 8, none⟩ = some (.int .i64 zz) := h.c 8 _ rfl
 simp [results, Tryz.results63, go_sem, h2, c0, c1, c2, c3, c4, c5, c6, c7, c8, ndV]
structure RTab (w : World) (T : TypeId) (p : Value) : Prop where
 n : NoD w T p
 d : DTab w
 l : Lx.Tabs w
theorem RTab.size {w : World} {T : TypeId} {p : Value} (h : RTab w T p) : 15 ≤ w.heap.size := h.l.size
theorem RTab.below {w w' : World} {T : TypeId} {p : Value} {B : Nat} (h : RTab w T p) (hb : Below B w w') (hB : 15 ≤ B) : RTab w' T p :=
 ⟨(hb.cell (p := ⟨0, 0, none⟩) (by show 0 < B; omega)).trans h.n, h.d.on hb hB, h.l.below hb hB⟩
theorem RTab.next {w w' : World} {T : TypeId} {p : Value} (h : RTab w T p) (hb : Below w.heap.size w w') : RTab w' T p := h.below hb h.size
theorem RTab.err {w : World} {T : TypeId} {p : Value} (h : RTab w T p) : ErrT w := ⟨h.l.e6, h.l.e7⟩
structure RSt (w wx : World) (A N S : Nat) (s : Shp) (x : Nd) (T : TypeId) (p : Value) : Prop where
 node : NodeAt wx N x
 res : NodeAt wx A ⟨0, 0, ⟨#[]⟩, ⟨#[]⟩, ⟨#[]⟩, 0, 0, ⟨#[]⟩, 0⟩
 sh : ∀ j u, (shpV s)[j]? = some u → wx.cell? ⟨S, j, none⟩ = some u
 tab : RTab wx T p
 bel : Below w.heap.size w wx
 hA : w.heap.size ≤ A
 hN : w.heap.size ≤ N
 hAN : A ≠ N
 hSN : S ≠ N
theorem RSt.next {w wx w' : World} {A N S : Nat} {s : Shp} {x : Nd} {T : TypeId} {p : Value} (h : RSt w wx A N S s x T p) (hb : Below wx.heap.size wx w') : RSt w w' A N S s x T p :=
 { h with
  node := h.node.next hb
  res := h.res.next hb
  sh := fun j u hu => by
   have h1 := h.sh j u hu
   exact (hb.cell (p := ⟨S, j, none⟩) (World.block_lt_of_cell? wx _ h1)).trans h1
  tab := h.tab.next hb
  bel := h.bel.trans (hb.mono h.bel.size) }
theorem RSt.put {w wx : World} {A N S i : Nat} {s : Shp} {x y : Nd} {T : TypeId} {p v : Value} (h : RSt w wx A N S s x T p) (hw : 15 ≤ w.heap.size) (hn : NodeAt (wx.setCell ⟨N, i, none⟩ v) N y) : RSt w (wx.setCell ⟨N, i, none⟩ v) A N S s y T p :=
 { h with
  node := hn
  res := h.res.other h.hAN
  sh := fun j u hu => by
   rw [World.cell?_setCell_other _ _ _ _ (fun e => h.hSN (by cases e; rfl))]
   exact h.sh j u hu
  tab := h.tab.below ((Below.refl w.heap.size wx).setCell (p := ⟨N, i, none⟩) h.hN v) hw
  bel := h.bel.setCell (p := ⟨N, i, none⟩) h.hN v }
def g6 (x : Nd) (r : List UInt8) : Option Nd := if r = [] then some x else none
noncomputable def g5 (s : Shp) (x : Nd) (r : List UInt8) : Option Nd := if 0 < s.longest then (txtS (cutB r)).bind fun t => g6 { x with text := bk t } [] else g6 x r
noncomputable def g4 (s : Shp) (x : Nd) (r : List UInt8) : Option Nd := if 0 < s.lastOp then (nxtW r).bind fun q => (opS s.firstOp s.lastOp q.1).bind fun v => g5 s { x with op := v } q.2 else g5 s x r
noncomputable def g3 (s : Shp) (x : Nd) (r : List UInt8) : Option Nd := if s.typ ≠ 0 then (nxtW r).bind fun q => (fillS q.1).bind fun v => g4 s { x with typ := bk v } q.2 else g4 s x r
noncomputable def g2 (s : Shp) (x : Nd) (r : List UInt8) : Option Nd := if s.name ≠ 0 then (nxtW r).bind fun q => (fillS q.1).bind fun v => g3 s { x with name := bk v } q.2 else g3 s x r
noncomputable def g1 (s : Shp) (x : Nd) (r : List UInt8) : Option Nd := if 0 < s.mostInt then (nxtW r).bind fun q => (numS q.1).bind fun v => g2 s { x with int := v } q.2 else g2 s x r
noncomputable def g0 (s : Shp) (x : Nd) (r : List UInt8) : Option Nd := if s.label ≠ 0 then (nxtW r).bind fun q => (fillS q.1).bind fun v => g1 s { x with label := bk v } q.2 else g1 s x r
theorem rdW_bind {on : Prop} [Decidable on] (r : List UInt8) (G : List UInt8 → List UInt8 → Option Nd) : (rdW on r).bind (fun q => G q.1 q.2) = if on then (nxtW r).bind fun q => (fillS q.1).bind fun v => G v q.2 else G [] r := by
 unfold rdW
 split
 ·cases nxtW r with
  | none => rfl
  | some q =>
   simp only [Option.bind_some]
   cases fillS q.1 <;> rfl
 ·rfl
theorem rdN_bind {on : Prop} [Decidable on] (r : List UInt8) (G : Int → List UInt8 → Option Nd) : (rdN on r).bind (fun q => G q.1 q.2) = if on then (nxtW r).bind fun q => (numS q.1).bind fun v => G v q.2 else G 0 r := by
 unfold rdN
 split
 ·cases nxtW r with
  | none => rfl
  | some q =>
   simp only [Option.bind_some]
   cases numS q.1 <;> rfl
 ·rfl
theorem rdO_bind {on : Prop} [Decidable on] (lo hi : Int) (r : List UInt8) (G : Int → List UInt8 → Option Nd) : (rdO on lo hi r).bind (fun q => G q.1 q.2) = if on then (nxtW r).bind fun q => (opS lo hi q.1).bind fun v => G v q.2 else G 0 r := by
 unfold rdO
 split
 ·cases nxtW r with
  | none => rfl
  | some q =>
   simp only [Option.bind_some]
   cases opS lo hi q.1 <;> rfl
 ·rfl
theorem rdT_bind {on : Prop} [Decidable on] (r : List UInt8) (G : List UInt8 → List UInt8 → Option Nd) : (rdT on r).bind (fun q => G q.1 q.2) = if on then (txtS (cutB r)).bind fun t => G t [] else G [] r := by
 unfold rdT
 split
 ·cases txtS (cutB r) <;> rfl
 ·rfl
theorem words_eq (told : List UInt8) : wordsS told = (kndS (fstW told).1).bind fun k => g0 (shp (k : Int)).1 ⟨k, 0, ⟨#[]⟩, ⟨#[]⟩, ⟨#[]⟩, 0, 0, ⟨#[]⟩, 0⟩ (fstW told).2 := by
 unfold wordsS
 refine congrArg _ (funext fun k => ?_)
 generalize (shp (k : Int)).1 = s
 have e5 : ∀ (nm lb ty : List UInt8) (op it : Int) (r : List UInt8), ((rdT (0 < s.longest) r).bind fun q6 => if q6.2 = [] then some (⟨k, 0, bk nm, bk lb, bk ty, op, it, bk q6.1, 0⟩ : Nd) else none) = g5 s ⟨k, 0, bk nm, bk lb, bk ty, op, it, ⟨#[]⟩, 0⟩ r := fun nm lb ty op it r =>
  rdT_bind r (fun t r' => if r' = [] then some (⟨k, 0, bk nm, bk lb, bk ty, op, it, bk t, 0⟩ : Nd) else none)
 have e4 : ∀ (nm lb ty : List UInt8) (it : Int) (r : List UInt8), ((rdO (0 < s.lastOp) s.firstOp s.lastOp r).bind fun q5 => g5 s ⟨k, 0, bk nm, bk lb, bk ty, q5.1, it, ⟨#[]⟩, 0⟩ q5.2) = g4 s ⟨k, 0, bk nm, bk lb, bk ty, 0, it, ⟨#[]⟩, 0⟩ r := fun nm lb ty it r =>
  rdO_bind _ _ r (fun v r' => g5 s ⟨k, 0, bk nm, bk lb, bk ty, v, it, ⟨#[]⟩, 0⟩ r')
 have e3 : ∀ (nm lb : List UInt8) (it : Int) (r : List UInt8), ((rdW (s.typ ≠ 0) r).bind fun q4 => g4 s ⟨k, 0, bk nm, bk lb, bk q4.1, 0, it, ⟨#[]⟩, 0⟩ q4.2) = g3 s ⟨k, 0, bk nm, bk lb, ⟨#[]⟩, 0, it, ⟨#[]⟩, 0⟩ r := fun nm lb it r =>
  rdW_bind r (fun v r' => g4 s ⟨k, 0, bk nm, bk lb, bk v, 0, it, ⟨#[]⟩, 0⟩ r')
 have e2 : ∀ (lb : List UInt8) (it : Int) (r : List UInt8), ((rdW (s.name ≠ 0) r).bind fun q3 => g3 s ⟨k, 0, bk q3.1, bk lb, ⟨#[]⟩, 0, it, ⟨#[]⟩, 0⟩ q3.2) = g2 s ⟨k, 0, ⟨#[]⟩, bk lb, ⟨#[]⟩, 0, it, ⟨#[]⟩, 0⟩ r := fun lb it r =>
  rdW_bind r (fun v r' => g3 s ⟨k, 0, bk v, bk lb, ⟨#[]⟩, 0, it, ⟨#[]⟩, 0⟩ r')
 have e1 : ∀ (lb : List UInt8) (r : List UInt8), ((rdN (0 < s.mostInt) r).bind fun q2 => g2 s ⟨k, 0, ⟨#[]⟩, bk lb, ⟨#[]⟩, 0, q2.1, ⟨#[]⟩, 0⟩ q2.2) = g1 s ⟨k, 0, ⟨#[]⟩, bk lb, ⟨#[]⟩, 0, 0, ⟨#[]⟩, 0⟩ r := fun lb r =>
  rdN_bind r (fun v r' => g2 s ⟨k, 0, ⟨#[]⟩, bk lb, ⟨#[]⟩, 0, v, ⟨#[]⟩, 0⟩ r')
 have e0 : ∀ (r : List UInt8), ((rdW (s.label ≠ 0) r).bind fun q1 => g1 s ⟨k, 0, ⟨#[]⟩, bk q1.1, ⟨#[]⟩, 0, 0, ⟨#[]⟩, 0⟩ q1.2) = g0 s ⟨k, 0, ⟨#[]⟩, ⟨#[]⟩, ⟨#[]⟩, 0, 0, ⟨#[]⟩, 0⟩ r := fun r =>
  rdW_bind r (fun v r' => g1 s ⟨k, 0, ⟨#[]⟩, bk v, ⟨#[]⟩, 0, 0, ⟨#[]⟩, 0⟩ r')
 rw [← e0]
 refine congrArg _ (funext fun q1 => ?_)
 rw [← e1]
 refine congrArg _ (funext fun q2 => ?_)
 rw [← e2]
 refine congrArg _ (funext fun q3 => ?_)
 rw [← e3]
 refine congrArg _ (funext fun q4 => ?_)
 rw [← e4]
 refine congrArg _ (funext fun q5 => ?_)
 exact e5 _ _ _ _ _ _
theorem fst_len (t : List UInt8) : (fstW t).1.length ≤ t.length ∧ (fstW t).2.length ≤ t.length := by
 have := congrArg List.length (fst_join t)
 rw [List.length_append] at this
 omega
theorem nxt_len {r a b : List UInt8} (h : nxtW r = some (a, b)) : a.length ≤ r.length ∧ b.length ≤ r.length := by
 cases r with
 | nil => cases h
 | cons c r =>
  have e : fstW r = (a, b) := Option.some.inj h
  have := fst_len r
  rw [e] at this
  rw [List.length_cons]
  simp only at this
  omega
theorem ext_mid (s : ByteArray) (a b : Nat) : s.extract a b = bk ((s.data.toList.take b).drop a) := by
 apply ByteArray.ext
 apply Array.toList_inj.1
 simp only [bk, ByteArray.data_extract, Array.toList_extract, List.extract]
 rw [List.drop_take]
theorem refSplit_any (s : ByteArray) (w : World) (hs : s.size ≤ 4194304) :
 Calls Tryz.prog 47 #[.string s] w fun e w' => (∃ v, e = .returned v ∧ Hid (w'.ownsRow w.heap.size 9 1 v (splF s.data.toList).length (sv (splF s.data.toList)))) ∧ Below w.heap.size w w' := by
 obtain ⟨l, hl⟩ : ∃ l, s.data.toList = l := ⟨_, rfl⟩
 have HL : Hid (s.data.toList = l) := hl
 have HZ : Hid (s.size = l.length) := by rw [← hl]; exact Lib.size_eq s
 rw [hl]
 clear hl
 obtain ⟨R, hR⟩ : ∃ R, splF l = R := ⟨_, rfl⟩
 have HR : Hid (splF l = R) := hR
 rw [hR]
 clear hR
 go_enter Tryz.func47, Tryz.ntmps47
 go_wp2
 go_loopw [3, 4, 5] (fun v f i wr => (∃ (k a : Nat) (out : List (List UInt8)), a ≤ k ∧ k ≤ s.size ∧ i = .int .i64 (k : Int) ∧ f = .int .i64 (a : Int) ∧ out.length ≤ k ∧ Hid (out ++ splA ((l.take k).drop a) (l.drop k) = R) ∧ Hid (wr.ownsRow w.heap.size 9 1 v out.length (sv out)) ∧ Hid (Below w.heap.size w wr)) ∨ (i = .int .i64 ((s.size + 1 : Nat) : Int) ∧ Hid (wr.ownsRow w.heap.size 9 1 v R.length (sv R)) ∧ Hid (Below w.heap.size w wr))) (fun _ _ i _ => s.size + 1 - (intOf i).toNat)
 case atStart => exact Or.inl ⟨0, 0, [], Nat.le_refl _, by omega, rfl, rfl, by simp, by show [] ++ splA ((l.take 0).drop 0) (l.drop 0) = R; rw [← HR.out]; rfl, World.ownsRow_nil _ _ _ _, Below.refl _ _⟩
 case round =>
  rcases hrel with ⟨k, a, out, hak, hk, rfl, rfl, hol, hx, ho, hB⟩ | ⟨rfl, ho, hB⟩
  ·have k0 : (0 : Int) ≤ (k : Int) := by omega
   have k2 : (k : Int) ≤ (s.size : Int) := by omega
   have a0 : (0 : Int) ≤ (a : Int) := by omega
   have a1 : (a : Int) ≤ (k : Int) := by omega
   have hzb := hB.out.size
   have R1 : ∀ wx : World, (Instr.slice 9 (.string s) (some (.int .i64 (a : Int))) (some (.int .i64 (k : Int))) none).run Tryz.prog wx = .ok (.string (bk ((l.take k).drop a))) wx := fun wx => by
    have e1 := ext_mid s a k
    rw [HL.out] at e1
    rw [← e1]
    simp [go_sem, Tryz.underlying9, a0, a1, k2]
   by_cases hlt : k < s.size
   ·have k1 : (k : Int) < (s.size : Int) := by omega
    have kn : ((k : Int) == (s.size : Int)) = false := by rw [beq_eq_false_iff_ne]; omega
    have hkl : k < l.length := by have := HZ.out; omega
    obtain ⟨c, hc⟩ : ∃ c, s[k]'hlt = c := ⟨_, rfl⟩
    have hcl : l[k] = c := by
     rw [← hc]
     have := HL.out
     subst this
     rfl
    have hdr : l.drop k = c :: l.drop (k + 1) := by rw [List.drop_eq_getElem_cons hkl, hcl]
    have htk : (l.take (k + 1)).drop a = (l.take k).drop a ++ [c] := by
     rw [List.take_succ_eq_append_getElem hkl, hcl, List.drop_append_of_le_length (by rw [List.length_take]; omega)]
    by_cases h32 : c = 32
    ·have HX : Hid ((out ++ [(l.take k).drop a]) ++ splA ((l.take (k + 1)).drop (k + 1)) (l.drop (k + 1)) = R) := by
      show _ = _
      have hnil : (l.take (k + 1)).drop (k + 1) = [] := List.drop_eq_nil_of_le (by rw [List.length_take]; omega)
      rw [hnil, ← hx.out, hdr, splA, if_pos h32, List.append_assoc]
      rfl
     have hcv : ((c.toNat : Int) == 32) = true := by rw [h32]; rfl
     generalize (l.take k).drop a = wd at R1 HX
     clear hx hdr htk hcl h32
     go_wp2_with (first
      | (at_builtin; refine wpList_appStr (by rfl) _ _ (by rfl) w.heap.size _ out out.length rfl wd (by rfl) (by rfl) ho (by omega) hzb ?_; intro v2 w2 ho2 hk2)
      | go_in)
     exact ⟨Or.inl ⟨k + 1, k + 1, out ++ [wd], Nat.le_refl _, by omega, by go_num, by go_num, by rw [List.length_append, List.length_singleton]; omega, HX, by rw [List.length_append]; exact ho2, hB.out.trans hk2.out.1⟩, by simp [intOf]; omega⟩
    ·have HX : Hid (out ++ splA ((l.take (k + 1)).drop a) (l.drop (k + 1)) = R) := by
      show _ = _
      rw [← hx.out, hdr, splA, if_neg h32, htk]
     have hcv : ((c.toNat : Int) == 32) = false := by
      rw [beq_eq_false_iff_ne]
      intro e
      exact h32 (UInt8.toNat_inj.1 (by show c.toNat = 32; omega))
     clear hx hdr htk hcl h32 R1
     go_wp2
     exact ⟨Or.inl ⟨k + 1, a, out, by omega, by omega, by go_num, rfl, by omega, HX, ho, hB⟩, by simp [intOf]; omega⟩
   ·obtain rfl : k = s.size := by omega
    have HX : Hid (out ++ [(l.take s.size).drop a] = R) := by
     show _ = _
     have hnil : l.drop s.size = [] := List.drop_eq_nil_of_le (by have := HZ.out; omega)
     rw [← hx.out, hnil]
     rfl
    generalize (l.take s.size).drop a = wd at R1 HX
    clear hx
    go_wp2_with (first
     | (at_builtin; refine wpList_appStr (by rfl) _ _ (by rfl) w.heap.size _ out out.length rfl wd (by rfl) (by rfl) ho (by omega) hzb ?_; intro v2 w2 ho2 hk2)
     | go_in)
    exact ⟨Or.inr ⟨by go_num, by rw [← HX.out, List.length_append]; exact ho2, hB.out.trans hk2.out.1⟩, by simp [intOf]⟩
  ·have e1 : ¬ (((s.size + 1 : Nat) : Int) ≤ (s.size : Int)) := by omega
   obtain ⟨n1, hn1⟩ : ∃ n1 : Nat, s.size + 1 = n1 := ⟨_, rfl⟩
   rw [hn1] at e1 ⊢
   clear hn1
   go_wp2
   go_ret
   exact ⟨⟨_, rfl, ho⟩, hB.out⟩
def qF (l : List UInt8) : List UInt8 := match Lx.scanS (l.length + 1) 0 l with
 | .inr ((_, x) :: _) => x.text
 | _ => []
theorem qF_qt {t : List UInt8} (h : t.length ≤ 200) : qF (Lx.qt t) = t := by
 unfold qF
 rw [Lx.scan_q t, if_pos h]
theorem qF_len (l : List UInt8) : (qF l).length ≤ l.length + 200 := by
 unfold qF
 split
 ·rename_i j x r h
  exact Lx.scan_text _ _ _ _ _ _ h
 ·simp
theorem refQuoted_any (s : ByteArray) (w : World) (hs : s.size ≤ 4194304) (hT : Lx.RTabs w) :
 Calls Tryz.prog 50 #[.string s] w fun e w' => e = .returned (.string (bk (qF s.data.toList))) ∧ Below w.heap.size w w' := by
 have HS0 := Lx.refScan_any s w hs hT
 rw [Lib.size_eq] at HS0
 unfold qF
 generalize s.data.toList = l at HS0 ⊢
 cases hS : Lx.scanS (l.length + 1) 0 l with
 | inl q =>
  obtain ⟨code, k⟩ := q
  rw [hS] at HS0
  have HS : Hid (Calls Tryz.prog 76 #[.string s] w fun e w' => e = .returned (.tuple #[.slice none 0 0, .agg #[.int .i64 (code : Int), .int .i64 (k : Int)]]) ∧ Below w.heap.size w w') := HS0
  clear HS0 hS
  go_enter Tryz.func50, Tryz.ntmps50
  go_wp2_with (first
   | (go_at_call 76; refine HS.out.mono ?_; rintro e w2 ⟨rfl, hw2⟩)
   | go_in)
  go_ret
  exact ⟨rfl, hw2.alloc hw2.size _⟩
 | inr toks =>
  cases toks with
  | nil => exact absurd rfl (Lx.scan_some _ _ _ _ hS)
  | cons q rest =>
  obtain ⟨k, x⟩ := q
  rw [hS] at HS0
  have HS : Hid (Calls Tryz.prog 76 #[.string s] w fun e w' => ∃ g cap, e = .returned (.tuple #[.slice (some ⟨g, 0, none⟩) (rest.length + 1) cap, .agg #[.int .i64 0, .int .i64 0]]) ∧ w'.cell? ⟨g, 3, none⟩ = some (.string (bk x.text)) ∧ Below w.heap.size w w') := by
   refine HS0.mono ?_
   rintro e w' ⟨v, rfl, ho, hb⟩
   rcases ho.2 with ⟨_, hn⟩ | ⟨g, cap, cur, rfl, _⟩
   ·simp at hn
   ·refine ⟨g, cap, rfl, ?_, hb⟩
    have := ho.cellAt 3 (by rw [List.length_cons]; omega)
    rw [this]
    rfl
  clear HS0 hS
  simp only
  generalize bk x.text = t at HS ⊢
  have hr0 : (0 : Int) < (rest.length : Int) + 1 := by omega
  go_enter Tryz.func50, Tryz.ntmps50
  go_wp2_with (first
   | (go_at_call 76; refine HS.out.mono ?_; rintro e w2 ⟨g, cap, rfl, hc3, hw2⟩; have hc4 : (w2.alloc (.cells #[.int .i64 0, .int .i64 0] 97)).cell? ⟨g, 3, none⟩ = some (.string t) := (World.cell?_alloc_lt _ _ _ (World.block_lt_of_cell? w2 _ hc3)).trans hc3)
   | go_in)
  go_ret
  exact ⟨rfl, hw2.alloc hw2.size _⟩
end Go.Proofs.YtekgnogjfggnmaaGreatDoor

namespace Go.Proofs.YtekgnogjfggnmaaGreatDoor
open Go.RowKit Go.Shelf
set_option maxRecDepth 100000
set_option maxHeartbeats 20000000
theorem fst_pre {t wd rest : List UInt8} (h : t = wd ++ 32 :: rest) (hw : ∀ c ∈ wd, c ≠ 32) : (fstW t).1 = wd := by
 rw [h, fst_app hw (Or.inr ⟨_, rfl⟩)]
theorem fst_all {wd : List UInt8} (hw : ∀ c ∈ wd, c ≠ 32) : (fstW wd).1 = wd := by
 have := fst_app hw (Or.inl rfl)
 rw [List.append_nil] at this
 rw [this]
theorem sign0_any (w : World) : Calls Tryz.prog 44 #[.int .i64 0] w fun e w' => e = .returned (.string ⟨#[124, 124]⟩) ∧ w' = w := by
 go_enter Tryz.func44, Tryz.ntmps44
 go_wp2
 go_ret
 exact ⟨rfl, rfl⟩
theorem plainU_any (k : Int) (h : k = 17 ∨ k = 18 ∨ k = 19) (w : World) : Calls Tryz.prog 45 #[.int .i64 k] w fun e w' => e = .returned (.string ⟨#[115, 116, 114]⟩) ∧ w' = w := by
 rcases h with rfl | rfl | rfl
 all_goals
  go_enter Tryz.func45, Tryz.ntmps45
  go_wp2
  go_ret
  exact ⟨rfl, rfl⟩
theorem wordsZ_17 (w : World) (nb : ByteArray) (hnb : Hid (nb = ⟨(Lib.itoa 0).toArray⟩)) (ht : Hid (Tab10 w)) (h7 : 15 ≤ w.heap.size) :
 Calls Tryz.prog 22 #[.agg #[.int .i64 17, .int .i64 0, .string ⟨#[]⟩, .string ⟨#[]⟩, .string ⟨#[]⟩, .int .i64 0, .int .i64 0, .string ⟨#[]⟩, .int .i64 0]] w fun e w' => e = .returned (.string ⟨#[115, 116, 114]⟩) ∧ Below w.heap.size w w' := by
 obtain ⟨w1, hw1⟩ : ∃ w1, w.alloc (.cells #[.int .i64 17, .int .i64 0, .string ⟨#[]⟩, .string ⟨#[]⟩, .string ⟨#[]⟩, .int .i64 0, .int .i64 0, .string ⟨#[]⟩, .int .i64 0] 42) = w1 := ⟨_, rfl⟩
 have B1 : Hid (Below w.heap.size w w1) := by rw [← hw1]; exact (Below.refl _ w).alloc (Nat.le_refl _) _
 have z1 : w.heap.size < w1.heap.size := by rw [← hw1]; simp
 have c6 : w1.cell? ⟨w.heap.size, 6, none⟩ = some (.int .i64 0) := by rw [← hw1]; exact cell_new _ _ _ _ _ rfl
 have HF0 : Hid (∀ w', Below w1.heap.size w1 w' → w'.cell? ⟨w.heap.size, 0, none⟩ = some (.int .i64 17) ∧ w'.cell? ⟨w.heap.size, 5, none⟩ = some (.int .i64 0)) := fun w' hb => ⟨(hb.cell (p := ⟨w.heap.size, 0, none⟩) z1).trans (by rw [← hw1]; exact cell_new _ _ _ _ _ rfl), (hb.cell (p := ⟨w.heap.size, 5, none⟩) z1).trans (by rw [← hw1]; exact cell_new _ _ _ _ _ rfl)⟩
 have H76 : Hid (c41 w1 0 nb) := by rw [hnb.out]; exact fmt_any 0 w1 (by omega) (by omega) (ht.out.on B1.out h7)
 clear ht hnb
 go_enter Tryz.func22, Tryz.ntmps22
 go_wp2_with (first
  | (go_at_call 41; refine H76.out.mono ?_; rintro e w2 ⟨rfl, hb2⟩; obtain ⟨f0, f5⟩ := HF0.out _ hb2)
  | (go_at_call 45; refine (plainU_any 17 (by omega) _).mono ?_; rintro e w3 ⟨rfl, rfl⟩)
  | go_in)
 go_ret
 exact ⟨rfl, B1.out.trans (hb2.mono B1.out.size)⟩
theorem wordsZ_18 (w : World) (nb : ByteArray) (hnb : Hid (nb = ⟨(Lib.itoa 0).toArray⟩)) (ht : Hid (Tab10 w)) (h7 : 15 ≤ w.heap.size) :
 Calls Tryz.prog 22 #[.agg #[.int .i64 18, .int .i64 0, .string ⟨#[]⟩, .string ⟨#[]⟩, .string ⟨#[]⟩, .int .i64 0, .int .i64 0, .string ⟨#[]⟩, .int .i64 0]] w fun e w' => e = .returned (.string ⟨#[115, 116, 114]⟩) ∧ Below w.heap.size w w' := by
 obtain ⟨w1, hw1⟩ : ∃ w1, w.alloc (.cells #[.int .i64 18, .int .i64 0, .string ⟨#[]⟩, .string ⟨#[]⟩, .string ⟨#[]⟩, .int .i64 0, .int .i64 0, .string ⟨#[]⟩, .int .i64 0] 42) = w1 := ⟨_, rfl⟩
 have B1 : Hid (Below w.heap.size w w1) := by rw [← hw1]; exact (Below.refl _ w).alloc (Nat.le_refl _) _
 have z1 : w.heap.size < w1.heap.size := by rw [← hw1]; simp
 have c6 : w1.cell? ⟨w.heap.size, 6, none⟩ = some (.int .i64 0) := by rw [← hw1]; exact cell_new _ _ _ _ _ rfl
 have HF0 : Hid (∀ w', Below w1.heap.size w1 w' → w'.cell? ⟨w.heap.size, 0, none⟩ = some (.int .i64 18) ∧ w'.cell? ⟨w.heap.size, 5, none⟩ = some (.int .i64 0)) := fun w' hb => ⟨(hb.cell (p := ⟨w.heap.size, 0, none⟩) z1).trans (by rw [← hw1]; exact cell_new _ _ _ _ _ rfl), (hb.cell (p := ⟨w.heap.size, 5, none⟩) z1).trans (by rw [← hw1]; exact cell_new _ _ _ _ _ rfl)⟩
 have H76 : Hid (c41 w1 0 nb) := by rw [hnb.out]; exact fmt_any 0 w1 (by omega) (by omega) (ht.out.on B1.out h7)
 clear ht hnb
 go_enter Tryz.func22, Tryz.ntmps22
 go_wp2_with (first
  | (go_at_call 41; refine H76.out.mono ?_; rintro e w2 ⟨rfl, hb2⟩; obtain ⟨f0, f5⟩ := HF0.out _ hb2)
  | (go_at_call 45; refine (plainU_any 18 (by omega) _).mono ?_; rintro e w3 ⟨rfl, rfl⟩)
  | go_in)
 go_ret
 exact ⟨rfl, B1.out.trans (hb2.mono B1.out.size)⟩
theorem wordsZ_19 (w : World) (nb : ByteArray) (hnb : Hid (nb = ⟨(Lib.itoa 0).toArray⟩)) (ht : Hid (Tab10 w)) (h7 : 15 ≤ w.heap.size) :
 Calls Tryz.prog 22 #[.agg #[.int .i64 19, .int .i64 0, .string ⟨#[]⟩, .string ⟨#[]⟩, .string ⟨#[]⟩, .int .i64 0, .int .i64 0, .string ⟨#[]⟩, .int .i64 0]] w fun e w' => e = .returned (.string ⟨#[115, 116, 114]⟩) ∧ Below w.heap.size w w' := by
 obtain ⟨w1, hw1⟩ : ∃ w1, w.alloc (.cells #[.int .i64 19, .int .i64 0, .string ⟨#[]⟩, .string ⟨#[]⟩, .string ⟨#[]⟩, .int .i64 0, .int .i64 0, .string ⟨#[]⟩, .int .i64 0] 42) = w1 := ⟨_, rfl⟩
 have B1 : Hid (Below w.heap.size w w1) := by rw [← hw1]; exact (Below.refl _ w).alloc (Nat.le_refl _) _
 have z1 : w.heap.size < w1.heap.size := by rw [← hw1]; simp
 have c6 : w1.cell? ⟨w.heap.size, 6, none⟩ = some (.int .i64 0) := by rw [← hw1]; exact cell_new _ _ _ _ _ rfl
 have HF0 : Hid (∀ w', Below w1.heap.size w1 w' → w'.cell? ⟨w.heap.size, 0, none⟩ = some (.int .i64 19) ∧ w'.cell? ⟨w.heap.size, 5, none⟩ = some (.int .i64 0)) := fun w' hb => ⟨(hb.cell (p := ⟨w.heap.size, 0, none⟩) z1).trans (by rw [← hw1]; exact cell_new _ _ _ _ _ rfl), (hb.cell (p := ⟨w.heap.size, 5, none⟩) z1).trans (by rw [← hw1]; exact cell_new _ _ _ _ _ rfl)⟩
 have H76 : Hid (c41 w1 0 nb) := by rw [hnb.out]; exact fmt_any 0 w1 (by omega) (by omega) (ht.out.on B1.out h7)
 clear ht hnb
 go_enter Tryz.func22, Tryz.ntmps22
 go_wp2_with (first
  | (go_at_call 41; refine H76.out.mono ?_; rintro e w2 ⟨rfl, hb2⟩; obtain ⟨f0, f5⟩ := HF0.out _ hb2)
  | (go_at_call 45; refine (plainU_any 19 (by omega) _).mono ?_; rintro e w3 ⟨rfl, rfl⟩)
  | go_in)
 go_ret
 exact ⟨rfl, B1.out.trans (hb2.mono B1.out.size)⟩
theorem wordsZ_26 (w : World) (nb : ByteArray) (hnb : Hid (nb = ⟨(Lib.itoa 0).toArray⟩)) (ht : Hid (Tab10 w)) (h7 : 15 ≤ w.heap.size) :
 Calls Tryz.prog 22 #[.agg #[.int .i64 26, .int .i64 0, .string ⟨#[]⟩, .string ⟨#[]⟩, .string ⟨#[]⟩, .int .i64 0, .int .i64 0, .string ⟨#[]⟩, .int .i64 0]] w fun e w' => e = .returned (.string ⟨#[117, 110, 97, 114, 121, 32, 124, 124]⟩) ∧ Below w.heap.size w w' := by
 obtain ⟨w1, hw1⟩ : ∃ w1, w.alloc (.cells #[.int .i64 26, .int .i64 0, .string ⟨#[]⟩, .string ⟨#[]⟩, .string ⟨#[]⟩, .int .i64 0, .int .i64 0, .string ⟨#[]⟩, .int .i64 0] 42) = w1 := ⟨_, rfl⟩
 have B1 : Hid (Below w.heap.size w w1) := by rw [← hw1]; exact (Below.refl _ w).alloc (Nat.le_refl _) _
 have z1 : w.heap.size < w1.heap.size := by rw [← hw1]; simp
 have c6 : w1.cell? ⟨w.heap.size, 6, none⟩ = some (.int .i64 0) := by rw [← hw1]; exact cell_new _ _ _ _ _ rfl
 have HF0 : Hid (∀ w', Below w1.heap.size w1 w' → w'.cell? ⟨w.heap.size, 0, none⟩ = some (.int .i64 26) ∧ w'.cell? ⟨w.heap.size, 5, none⟩ = some (.int .i64 0)) := fun w' hb => ⟨(hb.cell (p := ⟨w.heap.size, 0, none⟩) z1).trans (by rw [← hw1]; exact cell_new _ _ _ _ _ rfl), (hb.cell (p := ⟨w.heap.size, 5, none⟩) z1).trans (by rw [← hw1]; exact cell_new _ _ _ _ _ rfl)⟩
 have H76 : Hid (c41 w1 0 nb) := by rw [hnb.out]; exact fmt_any 0 w1 (by omega) (by omega) (ht.out.on B1.out h7)
 clear ht hnb
 go_enter Tryz.func22, Tryz.ntmps22
 go_wp2_with (first
  | (go_at_call 41; refine H76.out.mono ?_; rintro e w2 ⟨rfl, hb2⟩; obtain ⟨f0, f5⟩ := HF0.out _ hb2)
  | (go_at_call 44; refine (sign0_any _).mono ?_; rintro e w3 ⟨rfl, rfl⟩)
  | go_in)
 go_ret
 exact ⟨rfl, B1.out.trans (hb2.mono B1.out.size)⟩
theorem wordsZ_27 (w : World) (nb : ByteArray) (hnb : Hid (nb = ⟨(Lib.itoa 0).toArray⟩)) (ht : Hid (Tab10 w)) (h7 : 15 ≤ w.heap.size) :
 Calls Tryz.prog 22 #[.agg #[.int .i64 27, .int .i64 0, .string ⟨#[]⟩, .string ⟨#[]⟩, .string ⟨#[]⟩, .int .i64 0, .int .i64 0, .string ⟨#[]⟩, .int .i64 0]] w fun e w' => e = .returned (.string ⟨#[98, 105, 110, 97, 114, 121, 32, 124, 124]⟩) ∧ Below w.heap.size w w' := by
 obtain ⟨w1, hw1⟩ : ∃ w1, w.alloc (.cells #[.int .i64 27, .int .i64 0, .string ⟨#[]⟩, .string ⟨#[]⟩, .string ⟨#[]⟩, .int .i64 0, .int .i64 0, .string ⟨#[]⟩, .int .i64 0] 42) = w1 := ⟨_, rfl⟩
 have B1 : Hid (Below w.heap.size w w1) := by rw [← hw1]; exact (Below.refl _ w).alloc (Nat.le_refl _) _
 have z1 : w.heap.size < w1.heap.size := by rw [← hw1]; simp
 have c6 : w1.cell? ⟨w.heap.size, 6, none⟩ = some (.int .i64 0) := by rw [← hw1]; exact cell_new _ _ _ _ _ rfl
 have HF0 : Hid (∀ w', Below w1.heap.size w1 w' → w'.cell? ⟨w.heap.size, 0, none⟩ = some (.int .i64 27) ∧ w'.cell? ⟨w.heap.size, 5, none⟩ = some (.int .i64 0)) := fun w' hb => ⟨(hb.cell (p := ⟨w.heap.size, 0, none⟩) z1).trans (by rw [← hw1]; exact cell_new _ _ _ _ _ rfl), (hb.cell (p := ⟨w.heap.size, 5, none⟩) z1).trans (by rw [← hw1]; exact cell_new _ _ _ _ _ rfl)⟩
 have H76 : Hid (c41 w1 0 nb) := by rw [hnb.out]; exact fmt_any 0 w1 (by omega) (by omega) (ht.out.on B1.out h7)
 clear ht hnb
 go_enter Tryz.func22, Tryz.ntmps22
 go_wp2_with (first
  | (go_at_call 41; refine H76.out.mono ?_; rintro e w2 ⟨rfl, hb2⟩; obtain ⟨f0, f5⟩ := HF0.out _ hb2)
  | (go_at_call 44; refine (sign0_any _).mono ?_; rintro e w3 ⟨rfl, rfl⟩)
  | go_in)
 go_ret
 exact ⟨rfl, B1.out.trans (hb2.mono B1.out.size)⟩
def fwK (k : Nat) : List UInt8 := if k = 17 ∨ k = 18 ∨ k = 19 then [115, 116, 114] else (wds.getD k ByteArray.empty).data.toList
def bn (k : Nat) : Nd := ⟨(k : Int), 0, ⟨#[]⟩, ⟨#[]⟩, ⟨#[]⟩, 0, 0, ⟨#[]⟩, 0⟩
theorem wordsB_any (k : Nat) (h1 : 1 ≤ k) (h2 : k ≤ 30) (w : World) (ht : Tab10 w) (h7 : 15 ≤ w.heap.size) :
 Calls Tryz.prog 22 #[.agg (ndV (bn k))] w fun e w' => (∃ t, e = .returned (.string t) ∧ t.size ≤ 1000 ∧ (fstW t.data.toList).1 = fwK k) ∧ Below w.heap.size w w' := by
 have hnb := nb_size 0 (by omega) (by omega)
 have t1 : (⟨#[]⟩ : ByteArray).size ≤ 2000 := by decide
 have hor : (orB ⟨#[]⟩).size ≤ 1 := by decide
 have hq : (⟨(Lx.qt (⟨#[]⟩ : ByteArray).data.toList).toArray⟩ : ByteArray).size ≤ 10 := by decide
 have hq2 : (⟨(Lx.qt []).toArray⟩ : ByteArray).size ≤ 10 := by decide
 have hk : k = 1 ∨ k = 2 ∨ k = 3 ∨ k = 4 ∨ k = 5 ∨ k = 6 ∨ k = 7 ∨ k = 8 ∨ k = 9 ∨ k = 10 ∨ k = 11 ∨ k = 12 ∨ k = 13 ∨ k = 14 ∨ k = 15 ∨ k = 16 ∨ k = 17 ∨ k = 18 ∨ k = 19 ∨ k = 20 ∨ k = 21 ∨ k = 22 ∨ k = 23 ∨ k = 24 ∨ k = 25 ∨ k = 26 ∨ k = 27 ∨ k = 28 ∨ k = 29 ∨ k = 30 := by omega
 rcases hk with rfl | rfl | rfl | rfl | rfl | rfl | rfl | rfl | rfl | rfl | rfl | rfl | rfl | rfl | rfl | rfl | rfl | rfl | rfl | rfl | rfl | rfl | rfl | rfl | rfl | rfl | rfl | rfl | rfl | rfl
 ·refine (words_1 w 0 ⟨#[]⟩ ⟨#[]⟩ ⟨#[]⟩ 0 0 ⟨#[]⟩ 0 _ rfl hnb t1 t1 (by omega) (by omega) ht h7).mono ?_
  rintro e w' ⟨rfl, hb⟩
  exact ⟨⟨_, rfl, by decide, by decide⟩, hb⟩
 ·refine (words_2 w 0 ⟨#[]⟩ ⟨#[]⟩ ⟨#[]⟩ 0 0 ⟨#[]⟩ 0 _ rfl hnb t1 t1 _ rfl (by omega) (by omega) (by omega) ht h7).mono ?_
  rintro e w' ⟨rfl, hb⟩
  refine ⟨⟨_, rfl, ?_, ?_⟩, hb⟩
  ·have hp : (⟨#[102, 110, 32]⟩ : ByteArray).size = 3 := rfl
   have hb1 : (⟨#[32]⟩ : ByteArray).size = 1 := rfl
   have he0 : (⟨#[]⟩ : ByteArray).size = 0 := rfl
   simp only [ByteArray.size_append]
   omega
  ·simp only [baD]; exact fst_pre (wd := fwK 2) (by first | rfl | (simp only [List.append_assoc]; rfl)) (by decide)
 ·refine (words_3 w 0 ⟨#[]⟩ ⟨#[]⟩ ⟨#[]⟩ 0 0 ⟨#[]⟩ 0 _ rfl hnb t1 t1 (by omega) (by omega) ht h7).mono ?_
  rintro e w' ⟨rfl, hb⟩
  refine ⟨⟨_, rfl, ?_, ?_⟩, hb⟩
  ·have hp : (⟨#[112, 97, 114, 97, 109, 32]⟩ : ByteArray).size = 6 := rfl
   have hb1 : (⟨#[32]⟩ : ByteArray).size = 1 := rfl
   have he0 : (⟨#[]⟩ : ByteArray).size = 0 := rfl
   simp only [ByteArray.size_append]
   omega
  ·simp only [baD]; exact fst_pre (wd := fwK 3) (by first | rfl | (simp only [List.append_assoc]; rfl)) (by decide)
 ·refine (words_4 w 0 ⟨#[]⟩ ⟨#[]⟩ ⟨#[]⟩ 0 0 ⟨#[]⟩ 0 _ rfl hnb t1 t1 (by omega) (by omega) ht h7).mono ?_
  rintro e w' ⟨rfl, hb⟩
  exact ⟨⟨_, rfl, by decide, by decide⟩, hb⟩
 ·refine (words_5 w 0 ⟨#[]⟩ ⟨#[]⟩ ⟨#[]⟩ 0 0 ⟨#[]⟩ 0 _ rfl hnb t1 t1 (by omega) (by omega) ht h7).mono ?_
  rintro e w' ⟨rfl, hb⟩
  refine ⟨⟨_, rfl, ?_, ?_⟩, hb⟩
  ·have hp : (⟨#[118, 97, 114, 32]⟩ : ByteArray).size = 4 := rfl
   have hb1 : (⟨#[32]⟩ : ByteArray).size = 1 := rfl
   have he0 : (⟨#[]⟩ : ByteArray).size = 0 := rfl
   simp only [ByteArray.size_append]
   omega
  ·simp only [baD]; exact fst_pre (wd := fwK 5) (by first | rfl | (simp only [List.append_assoc]; rfl)) (by decide)
 ·refine (words_6 w 0 ⟨#[]⟩ ⟨#[]⟩ ⟨#[]⟩ 0 0 ⟨#[]⟩ 0 _ rfl hnb t1 t1 (by omega) (by omega) ht h7).mono ?_
  rintro e w' ⟨rfl, hb⟩
  exact ⟨⟨_, rfl, by decide, by decide⟩, hb⟩
 ·refine (words_7 w 0 ⟨#[]⟩ ⟨#[]⟩ ⟨#[]⟩ 0 0 ⟨#[]⟩ 0 _ rfl hnb t1 t1 (by omega) (by omega) ht h7).mono ?_
  rintro e w' ⟨rfl, hb⟩
  exact ⟨⟨_, rfl, by decide, by decide⟩, hb⟩
 ·refine (words_8 w 0 ⟨#[]⟩ ⟨#[]⟩ ⟨#[]⟩ 0 0 ⟨#[]⟩ 0 _ rfl hnb t1 t1 _ rfl (by omega) (by omega) (by omega) ht h7).mono ?_
  rintro e w' ⟨rfl, hb⟩
  refine ⟨⟨_, rfl, ?_, ?_⟩, hb⟩
  ·have hp : (⟨#[119, 104, 105, 108, 101, 32]⟩ : ByteArray).size = 6 := rfl
   have hb1 : (⟨#[32]⟩ : ByteArray).size = 1 := rfl
   have he0 : (⟨#[]⟩ : ByteArray).size = 0 := rfl
   simp only [ByteArray.size_append]
   omega
  ·simp only [baD]; exact fst_pre (wd := fwK 8) (by first | rfl | (simp only [List.append_assoc]; rfl)) (by decide)
 ·refine (words_9 w 0 ⟨#[]⟩ ⟨#[]⟩ ⟨#[]⟩ 0 0 ⟨#[]⟩ 0 _ rfl hnb t1 t1 _ rfl (by omega) (by omega) (by omega) ht h7).mono ?_
  rintro e w' ⟨rfl, hb⟩
  refine ⟨⟨_, rfl, ?_, ?_⟩, hb⟩
  ·have hp : (⟨#[102, 111, 114, 32]⟩ : ByteArray).size = 4 := rfl
   have hb1 : (⟨#[32]⟩ : ByteArray).size = 1 := rfl
   have he0 : (⟨#[]⟩ : ByteArray).size = 0 := rfl
   simp only [ByteArray.size_append]
   omega
  ·simp only [baD]; exact fst_pre (wd := fwK 9) (by first | rfl | (simp only [List.append_assoc]; rfl)) (by decide)
 ·refine (words_10 w 0 ⟨#[]⟩ ⟨#[]⟩ ⟨#[]⟩ 0 0 ⟨#[]⟩ 0 _ rfl hnb t1 t1 _ rfl (by omega) (by omega) (by omega) ht h7).mono ?_
  rintro e w' ⟨rfl, hb⟩
  refine ⟨⟨_, rfl, ?_, ?_⟩, hb⟩
  ·have hp : (⟨#[98, 114, 101, 97, 107, 32]⟩ : ByteArray).size = 6 := rfl
   have hb1 : (⟨#[32]⟩ : ByteArray).size = 1 := rfl
   have he0 : (⟨#[]⟩ : ByteArray).size = 0 := rfl
   simp only [ByteArray.size_append]
   omega
  ·simp only [baD]; exact fst_pre (wd := fwK 10) (by first | rfl | (simp only [List.append_assoc]; rfl)) (by decide)
 ·refine (words_11 w 0 ⟨#[]⟩ ⟨#[]⟩ ⟨#[]⟩ 0 0 ⟨#[]⟩ 0 _ rfl hnb t1 t1 _ rfl (by omega) (by omega) (by omega) ht h7).mono ?_
  rintro e w' ⟨rfl, hb⟩
  refine ⟨⟨_, rfl, ?_, ?_⟩, hb⟩
  ·have hp : (⟨#[99, 111, 110, 116, 105, 110, 117, 101, 32]⟩ : ByteArray).size = 9 := rfl
   have hb1 : (⟨#[32]⟩ : ByteArray).size = 1 := rfl
   have he0 : (⟨#[]⟩ : ByteArray).size = 0 := rfl
   simp only [ByteArray.size_append]
   omega
  ·simp only [baD]; exact fst_pre (wd := fwK 11) (by first | rfl | (simp only [List.append_assoc]; rfl)) (by decide)
 ·refine (words_12 w 0 ⟨#[]⟩ ⟨#[]⟩ ⟨#[]⟩ 0 0 ⟨#[]⟩ 0 _ rfl hnb t1 t1 (by omega) (by omega) ht h7).mono ?_
  rintro e w' ⟨rfl, hb⟩
  refine ⟨⟨_, rfl, ?_, ?_⟩, hb⟩
  ·have hp : (⟨#[114, 101, 116, 117, 114, 110, 32]⟩ : ByteArray).size = 7 := rfl
   have hb1 : (⟨#[32]⟩ : ByteArray).size = 1 := rfl
   have he0 : (⟨#[]⟩ : ByteArray).size = 0 := rfl
   simp only [ByteArray.size_append]
   omega
  ·simp only [baD]; exact fst_pre (wd := fwK 12) (by first | rfl | (simp only [List.append_assoc]; rfl)) (by decide)
 ·refine (words_13 w 0 ⟨#[]⟩ ⟨#[]⟩ ⟨#[]⟩ 0 0 ⟨#[]⟩ 0 _ rfl hnb t1 t1 (by omega) (by omega) ht h7).mono ?_
  rintro e w' ⟨rfl, hb⟩
  exact ⟨⟨_, rfl, by decide, by decide⟩, hb⟩
 ·refine (words_14 w 0 ⟨#[]⟩ ⟨#[]⟩ ⟨#[]⟩ 0 0 ⟨#[]⟩ 0 _ rfl hnb t1 t1 (by omega) (by omega) ht h7).mono ?_
  rintro e w' ⟨rfl, hb⟩
  exact ⟨⟨_, rfl, by decide, by decide⟩, hb⟩
 ·refine (words_15 w 0 ⟨#[]⟩ ⟨#[]⟩ ⟨#[]⟩ 0 0 ⟨#[]⟩ 0 _ rfl hnb t1 t1 (by omega) (by omega) ht h7).mono ?_
  rintro e w' ⟨rfl, hb⟩
  exact ⟨⟨_, rfl, by decide, by decide⟩, hb⟩
 ·refine (words_16 w 0 ⟨#[]⟩ ⟨#[]⟩ ⟨#[]⟩ 0 0 ⟨#[]⟩ 0 _ rfl hnb t1 t1 _ rfl (by omega) (by omega) (by omega) ht h7).mono ?_
  rintro e w' ⟨rfl, hb⟩
  refine ⟨⟨_, rfl, ?_, ?_⟩, hb⟩
  ·have hp : (⟨#[104, 111, 111, 107, 32]⟩ : ByteArray).size = 5 := rfl
   have hb1 : (⟨#[32]⟩ : ByteArray).size = 1 := rfl
   have he0 : (⟨#[]⟩ : ByteArray).size = 0 := rfl
   simp only [ByteArray.size_append]
   omega
  ·simp only [baD]; exact fst_pre (wd := fwK 16) (by first | rfl | (simp only [List.append_assoc]; rfl)) (by decide)
 ·refine (wordsZ_17 w _ rfl ht h7).mono ?_
  rintro e w' ⟨rfl, hb⟩
  exact ⟨⟨_, rfl, by decide, by decide⟩, hb⟩
 ·refine (wordsZ_18 w _ rfl ht h7).mono ?_
  rintro e w' ⟨rfl, hb⟩
  exact ⟨⟨_, rfl, by decide, by decide⟩, hb⟩
 ·refine (wordsZ_19 w _ rfl ht h7).mono ?_
  rintro e w' ⟨rfl, hb⟩
  exact ⟨⟨_, rfl, by decide, by decide⟩, hb⟩
 ·refine (words_20 w 0 ⟨#[]⟩ ⟨#[]⟩ ⟨#[]⟩ 0 0 ⟨#[]⟩ 0 _ rfl hnb t1 t1 (by omega) (by omega) ht h7).mono ?_
  rintro e w' ⟨rfl, hb⟩
  refine ⟨⟨_, rfl, ?_, ?_⟩, hb⟩
  ·have hp : (⟨#[105, 110, 116, 32]⟩ : ByteArray).size = 4 := rfl
   have hb1 : (⟨#[32]⟩ : ByteArray).size = 1 := rfl
   have he0 : (⟨#[]⟩ : ByteArray).size = 0 := rfl
   simp only [ByteArray.size_append]
   omega
  ·simp only [baD]; exact fst_pre (wd := fwK 20) (by first | rfl | (simp only [List.append_assoc]; rfl)) (by decide)
 ·refine (words_21 w 0 ⟨#[]⟩ ⟨#[]⟩ ⟨#[]⟩ 0 0 ⟨#[]⟩ 0 _ rfl hnb t1 t1 (by omega) (by omega) ht h7).mono ?_
  rintro e w' ⟨rfl, hb⟩
  refine ⟨⟨_, rfl, ?_, ?_⟩, hb⟩
  ·have hp : (⟨#[98, 111, 111, 108, 32]⟩ : ByteArray).size = 5 := rfl
   have hb1 : (⟨#[32]⟩ : ByteArray).size = 1 := rfl
   have he0 : (⟨#[]⟩ : ByteArray).size = 0 := rfl
   simp only [ByteArray.size_append]
   omega
  ·simp only [baD]; exact fst_pre (wd := fwK 21) (by first | rfl | (simp only [List.append_assoc]; rfl)) (by decide)
 ·refine (words_22 w 0 ⟨#[]⟩ ⟨#[]⟩ ⟨#[]⟩ 0 0 ⟨#[]⟩ 0 _ rfl hnb t1 t1 _ rfl t1 (by omega) (by omega) (by omega) ht h7).mono ?_
  rintro e w' ⟨rfl, hb⟩
  refine ⟨⟨_, rfl, ?_, ?_⟩, hb⟩
  ·have hp : (⟨#[116, 101, 120, 116, 32]⟩ : ByteArray).size = 5 := rfl
   have hb1 : (⟨#[32]⟩ : ByteArray).size = 1 := rfl
   have he0 : (⟨#[]⟩ : ByteArray).size = 0 := rfl
   simp only [ByteArray.size_append]
   omega
  ·simp only [baD]; exact fst_pre (wd := fwK 22) (by first | rfl | (simp only [List.append_assoc]; rfl)) (by decide)
 ·refine (words_23 w 0 ⟨#[]⟩ ⟨#[]⟩ ⟨#[]⟩ 0 0 ⟨#[]⟩ 0 _ rfl hnb t1 t1 (by omega) (by omega) ht h7).mono ?_
  rintro e w' ⟨rfl, hb⟩
  refine ⟨⟨_, rfl, ?_, ?_⟩, hb⟩
  ·have hp : (⟨#[110, 97, 109, 101, 32]⟩ : ByteArray).size = 5 := rfl
   have hb1 : (⟨#[32]⟩ : ByteArray).size = 1 := rfl
   have he0 : (⟨#[]⟩ : ByteArray).size = 0 := rfl
   simp only [ByteArray.size_append]
   omega
  ·simp only [baD]; exact fst_pre (wd := fwK 23) (by first | rfl | (simp only [List.append_assoc]; rfl)) (by decide)
 ·refine (words_24 w 0 ⟨#[]⟩ ⟨#[]⟩ ⟨#[]⟩ 0 0 ⟨#[]⟩ 0 _ rfl hnb t1 t1 (by omega) (by omega) ht h7).mono ?_
  rintro e w' ⟨rfl, hb⟩
  exact ⟨⟨_, rfl, by decide, by decide⟩, hb⟩
 ·refine (words_25 w 0 ⟨#[]⟩ ⟨#[]⟩ ⟨#[]⟩ 0 0 ⟨#[]⟩ 0 _ rfl hnb t1 t1 (by omega) (by omega) ht h7).mono ?_
  rintro e w' ⟨rfl, hb⟩
  refine ⟨⟨_, rfl, ?_, ?_⟩, hb⟩
  ·have hp : (⟨#[99, 97, 108, 108, 32]⟩ : ByteArray).size = 5 := rfl
   have hb1 : (⟨#[32]⟩ : ByteArray).size = 1 := rfl
   have he0 : (⟨#[]⟩ : ByteArray).size = 0 := rfl
   simp only [ByteArray.size_append]
   omega
  ·simp only [baD]; exact fst_pre (wd := fwK 25) (by first | rfl | (simp only [List.append_assoc]; rfl)) (by decide)
 ·refine (wordsZ_26 w _ rfl ht h7).mono ?_
  rintro e w' ⟨rfl, hb⟩
  exact ⟨⟨_, rfl, by decide, by decide⟩, hb⟩
 ·refine (wordsZ_27 w _ rfl ht h7).mono ?_
  rintro e w' ⟨rfl, hb⟩
  exact ⟨⟨_, rfl, by decide, by decide⟩, hb⟩
 ·refine (words_28 w 0 ⟨#[]⟩ ⟨#[]⟩ ⟨#[]⟩ 0 0 ⟨#[]⟩ 0 _ rfl hnb t1 t1 (by omega) (by omega) ht h7).mono ?_
  rintro e w' ⟨rfl, hb⟩
  refine ⟨⟨_, rfl, ?_, ?_⟩, hb⟩
  ·have hp : (⟨#[110, 101, 119, 32]⟩ : ByteArray).size = 4 := rfl
   have hb1 : (⟨#[32]⟩ : ByteArray).size = 1 := rfl
   have he0 : (⟨#[]⟩ : ByteArray).size = 0 := rfl
   simp only [ByteArray.size_append]
   omega
  ·simp only [baD]; exact fst_pre (wd := fwK 28) (by first | rfl | (simp only [List.append_assoc]; rfl)) (by decide)
 ·refine (words_29 w 0 ⟨#[]⟩ ⟨#[]⟩ ⟨#[]⟩ 0 0 ⟨#[]⟩ 0 _ rfl hnb t1 t1 (by omega) (by omega) ht h7).mono ?_
  rintro e w' ⟨rfl, hb⟩
  exact ⟨⟨_, rfl, by decide, by decide⟩, hb⟩
 ·refine (words_30 w 0 ⟨#[]⟩ ⟨#[]⟩ ⟨#[]⟩ 0 0 ⟨#[]⟩ 0 _ rfl hnb t1 t1 (by omega) (by omega) ht h7).mono ?_
  rintro e w' ⟨rfl, hb⟩
  exact ⟨⟨_, rfl, by decide, by decide⟩, hb⟩
def KndR (word : List UInt8) (k : Nat) : Prop := k ≤ 30 ∧ (1 ≤ k → fwK k = word ∧ (word ≠ [115, 116, 114] ∨ k = 30)) ∧ (∀ j, 1 ≤ j → j ≤ 30 → (j < k ∨ k = 0) → ¬ (fwK j = word ∧ (word ≠ [115, 116, 114] ∨ j = 30)))
theorem fwK_uniq : ∀ a b : Fin 31, (shp (a.val : Int)).2 = true → 1 ≤ b.val → fwK b.val = fwK a.val → (fwK a.val ≠ [115, 116, 114] ∨ b.val = 30) → b = a := by decide +kernel
theorem fwK_known : ∀ a : Fin 31, (shp (a.val : Int)).2 = true → fwK a.val = (wds.getD a.val ByteArray.empty).data.toList ∧ (fwK a.val ≠ [115, 116, 114] ∨ a.val = 30) := by decide +kernel
theorem KndR.known {word : List UInt8} {k j : Nat} (h : KndR word k) (hj : j < 31) (hs : (shp (j : Int)).2 = true) (hw : word = (wds.getD j ByteArray.empty).data.toList) : k = j := by
 obtain ⟨h1, h2, h3⟩ := h
 obtain ⟨q1, q2⟩ := fwK_known ⟨j, hj⟩ hs
 simp only at q1 q2
 have hj1 : 1 ≤ j := by have := (shp_range _ hs).1; omega
 have e1 : fwK j = word := by rw [q1, hw]
 have e2 : word ≠ [115, 116, 114] ∨ j = 30 := by rw [← e1]; exact q2
 by_cases hk0 : k = 0
 ·exact absurd ⟨e1, e2⟩ (h3 j hj1 (by omega) (Or.inr hk0))
 ·obtain ⟨g1, g2⟩ := h2 (by omega)
  have := fwK_uniq ⟨j, hj⟩ ⟨k, by omega⟩ hs (by show 1 ≤ k; omega) (by show fwK k = fwK j; rw [g1, e1]) (by show fwK j ≠ _ ∨ k = 30; rw [e1]; exact g2)
  exact congrArg Fin.val this
theorem kindOf_any (s : ByteArray) (w : World) (ht : Tab10 w) (h7 : 15 ≤ w.heap.size) :
 Calls Tryz.prog 48 #[.string s] w fun e w' => (∃ k : Nat, e = .returned (.int .i64 (k : Int)) ∧ Hid (KndR s.data.toList k)) ∧ Below w.heap.size w w' := by
 have HT : Hid (∀ w', Below w.heap.size w w' → Tab10 w') := fun w' hb => ht.on hb h7
 clear ht
 go_enter Tryz.func48, Tryz.ntmps48
 go_wp2
 go_loopw [3] (fun i wr => ∃ k : Nat, 1 ≤ k ∧ k ≤ 31 ∧ i = .int .i64 (k : Int) ∧ Hid (∀ j, 1 ≤ j → j < k → ¬ (fwK j = s.data.toList ∧ (s.data.toList ≠ [115, 116, 114] ∨ j = 30))) ∧ Hid (Below w.heap.size w wr)) (fun i _ => 31 - (intOf i).toNat)
 case atStart => exact ⟨1, by omega, by omega, rfl, fun j h1 h2 => by omega, Below.refl _ _⟩
 case round =>
  obtain ⟨k, hk1, hk2, rfl, hj, hB⟩ := hrel
  by_cases hlt : k ≤ 30
  ·have k1 : (k : Int) ≤ 30 := by omega
   have HW : Hid (Calls Tryz.prog 22 #[.agg #[.int .i64 (k : Int), .int .i64 0, .string ⟨#[]⟩, .string ⟨#[]⟩, .string ⟨#[]⟩, .int .i64 0, .int .i64 0, .string ⟨#[]⟩, .int .i64 0]] wr fun e w' => (∃ t, e = .returned (.string t) ∧ t.size ≤ 1000 ∧ (fstW t.data.toList).1 = fwK k) ∧ Below wr.heap.size wr w') := wordsB_any k hk1 hlt wr (HT.out wr hB.out) (Nat.le_trans h7 hB.out.size)
   have HSP : Hid (∀ (t : ByteArray) (w2 : World), t.size ≤ 1000 → (fstW t.data.toList).1 = fwK k → Calls Tryz.prog 47 #[.string t] w2 fun e w' => (∃ g n cap, e = .returned (.slice (some ⟨g, 0, none⟩) (n + 1) cap) ∧ w'.cell? ⟨g, 0, none⟩ = some (.string (bk (fwK k)))) ∧ Below w2.heap.size w2 w') := fun t w2 h1 h2 => by
    refine (refSplit_any t w2 (by omega)).mono ?_
    rintro e w' ⟨⟨v, rfl, ho⟩, hb⟩
    obtain ⟨r, hr⟩ := splF_head t.data.toList
    rw [hr, h2] at ho
    have ho := ho.out
    rcases ho.2 with ⟨_, hn⟩ | ⟨g, cap, cur, rfl, _⟩
    ·simp at hn
    ·refine ⟨⟨g, r.length, cap, rfl, ?_⟩, hb⟩
     have := ho.cellAt 0 (by rw [List.length_cons]; omega)
     rw [this]
     rfl
   obtain ⟨fw, hfw⟩ : ∃ fw, bk (fwK k) = fw := ⟨_, rfl⟩
   have HFW : Hid (bk (fwK k) = fw) := hfw
   rw [hfw] at HSP
   clear hfw
   by_cases hbad : fwK k = s.data.toList ∧ (s.data.toList ≠ [115, 116, 114] ∨ k = 30)
   ·have h1 : (fw.toList == s.toList) = true := by rw [toL, toL, ← HFW.out, bk_list, hbad.1]; simp
    have HKN : Hid (KndR s.data.toList k) := ⟨hlt, fun _ => hbad, fun j h1 h2 h3 => hj.out j h1 (by omega)⟩
    by_cases hst : s.data.toList = [115, 116, 114]
    ·have h2 : (s.toList == [115, 116, 114]) = true := by rw [toL, hst]; rfl
     have hk30 : k = 30 := hbad.2.resolve_left (fun q => q hst)
     subst hk30
     clear hbad hst
     go_wp2_with (first
      | (go_at_call 22; refine HW.out.mono ?_; rintro e w2 ⟨⟨t, rfl, ht1, ht2⟩, hb2⟩)
      | (go_at_call 47; refine (HSP.out t w2 ht1 ht2).mono ?_; rintro e w3 ⟨⟨g, n, cap, rfl, hc⟩, hb3⟩)
      | go_in)
     go_ret
     exact ⟨⟨30, rfl, HKN⟩, (hB.out.trans (hb2.mono hB.out.size)).trans (hb3.mono (Nat.le_trans hB.out.size hb2.size))⟩
    ·have h2 : (s.toList == [115, 116, 114]) = false := by rw [toL]; simpa using hst
     clear hbad hst
     go_wp2_with (first
      | (go_at_call 22; refine HW.out.mono ?_; rintro e w2 ⟨⟨t, rfl, ht1, ht2⟩, hb2⟩)
      | (go_at_call 47; refine (HSP.out t w2 ht1 ht2).mono ?_; rintro e w3 ⟨⟨g, n, cap, rfl, hc⟩, hb3⟩)
      | go_in)
     go_ret
     exact ⟨⟨k, rfl, HKN⟩, (hB.out.trans (hb2.mono hB.out.size)).trans (hb3.mono (Nat.le_trans hB.out.size hb2.size))⟩
   ·have HJ2 : Hid (∀ j, 1 ≤ j → j < k + 1 → ¬ (fwK j = s.data.toList ∧ (s.data.toList ≠ [115, 116, 114] ∨ j = 30))) := fun j h1 h2 => by
     by_cases hjk : j < k
     ·exact hj.out j h1 hjk
     ·obtain rfl : j = k := by omega
      exact hbad
    by_cases hf : fwK k = s.data.toList
    ·have h1 : (fw.toList == s.toList) = true := by rw [toL, toL, ← HFW.out, bk_list, hf]; simp
     have hst : s.data.toList = [115, 116, 114] := Classical.byContradiction fun q => hbad ⟨hf, Or.inl q⟩
     have hk30 : ((k : Int) == 30) = false := by
      rw [beq_eq_false_iff_ne]
      intro e
      exact hbad ⟨hf, Or.inr (by omega)⟩
     have h2 : (s.toList == [115, 116, 114]) = true := by rw [toL, hst]; rfl
     clear hbad hst hf hj
     go_wp2_with (first
      | (go_at_call 22; refine HW.out.mono ?_; rintro e w2 ⟨⟨t, rfl, ht1, ht2⟩, hb2⟩)
      | (go_at_call 47; refine (HSP.out t w2 ht1 ht2).mono ?_; rintro e w3 ⟨⟨g, n, cap, rfl, hc⟩, hb3⟩)
      | go_in)
     exact ⟨⟨k + 1, by omega, by omega, by go_num, HJ2, (hB.out.trans (hb2.mono hB.out.size)).trans (hb3.mono (Nat.le_trans hB.out.size hb2.size))⟩, by simp [intOf]; omega⟩
    ·have h1 : (fw.toList == s.toList) = false := by rw [toL, toL, ← HFW.out, bk_list]; simpa using hf
     clear hbad hf hj
     go_wp2_with (first
      | (go_at_call 22; refine HW.out.mono ?_; rintro e w2 ⟨⟨t, rfl, ht1, ht2⟩, hb2⟩)
      | (go_at_call 47; refine (HSP.out t w2 ht1 ht2).mono ?_; rintro e w3 ⟨⟨g, n, cap, rfl, hc⟩, hb3⟩)
      | go_in)
     exact ⟨⟨k + 1, by omega, by omega, by go_num, HJ2, (hB.out.trans (hb2.mono hB.out.size)).trans (hb3.mono (Nat.le_trans hB.out.size hb2.size))⟩, by simp [intOf]; omega⟩
  ·obtain rfl : k = 31 := by omega
   go_wp2
   go_ret
   exact ⟨⟨0, rfl, ⟨by omega, fun h => absurd h (by omega), fun j h1 h2 _ => hj.out j h1 (by omega)⟩⟩, hB.out⟩
def Op1 (one : List UInt8) (v : Nat) : Prop := 1 ≤ v ∧ v ≤ 2 ∧ (one = [33] → v = 2) ∧ (one ≠ [33] → v = 1)
def Op2 (one : List UInt8) (v : Nat) : Prop := 3 ≤ v ∧ v ≤ 15 ∧ (v < 15 → (sgT.getD v ByteArray.empty).data.toList = one) ∧ ∀ j, 3 ≤ j → j < v → (sgT.getD j ByteArray.empty).data.toList ≠ one
def SeemK (k : Nat) (one two l : List UInt8) (x : Nd) : Prop :=
 if k = 2 ∨ k = 3 ∨ k = 5 then x = { bn k with name := bk one, typ := bk (noneF two) }
 else if k = 8 ∨ k = 10 ∨ k = 11 then x = { bn k with label := bk (noneF one) }
 else if k = 9 then x = { bn k with label := bk (noneF one), name := bk two }
 else if k = 12 ∨ k = 20 ∨ k = 21 then x = { bn k with int := numF 0 one }
 else if k = 16 then x = { bn k with int := numF 0 one, name := bk (noneF two) }
 else if k = 22 then x = { bn k with text := bk (if 5 < l.length then qF (l.drop 5) else []) }
 else if k = 23 ∨ k = 25 then x = { bn k with name := bk one }
 else if k = 26 then ∃ v : Nat, Op1 one v ∧ x = { bn k with op := (v : Int) }
 else if k = 27 then ∃ v : Nat, Op2 one v ∧ x = { bn k with op := (v : Int) }
 else if k = 28 then x = { bn k with typ := bk one }
 else x = bn k
def SeemR (l : List UInt8) (x : Nd) : Prop := ∃ k, KndR (fstW l).1 k ∧ SeemK k ((splF l).getD 1 []) ((splF l).getD 2 []) l x
theorem ret25 {w : World} {B : Nat} {y : Nd} {tm : Array Value} (h : NodeAt w B y) (h2 : tm[2]?.getD undef = .pointer (some ⟨B, 0, none⟩)) : (results Tryz.f25 tm).run Tryz.prog w = .ok (.agg (ndV y)) w := by
 obtain ⟨kd, ps, nm, lb, ty, op, it, tx, zz⟩ := y
 have c0 : w.cell? ⟨B, 0, none⟩ = some (.int .i64 kd) := h.c 0 _ rfl
 have c1 : w.cell? ⟨B, 1, none⟩ = some (.int .i64 ps) := h.c 1 _ rfl
 have c2 : w.cell? ⟨B, 2, none⟩ = some (.string nm) := h.c 2 _ rfl
 have c3 : w.cell? ⟨B, 3, none⟩ = some (.string lb) := h.c 3 _ rfl
 have c4 : w.cell? ⟨B, 4, none⟩ = some (.string ty) := h.c 4 _ rfl
 have c5 : w.cell? ⟨B, 5, none⟩ = some (.int .i64 op) := h.c 5 _ rfl
 have c6 : w.cell? ⟨B, 6, none⟩ = some (.int .i64 it) := h.c 6 _ rfl
 have c7 : w.cell? ⟨B, 7, none⟩ = some (.string tx) := h.c 7 _ rfl
 have c8 : w.cell? ⟨B, 8, none⟩ = some (.int .i64 zz) := h.c 8 _ rfl
 simp [results, Tryz.results25, go_sem, h2, c0, c1, c2, c3, c4, c5, c6, c7, c8, ndV]
theorem getD_cell {ws : List (List UInt8)} {w : World} {b g c n : Nat} (h : w.ownsRow b 9 1 (.slice (some ⟨g, 0, none⟩) n c) n (sv ws)) (hn : ws.length = n) (j : Nat) (hj : j < n) : w.cell? ⟨g, j, none⟩ = some (.string (bk (ws.getD j []))) := by
 have := h.cellAt j (by omega)
 rw [this]
 unfold sv
 rw [List.getElem?_map, List.getElem?_eq_getElem (by omega), List.getD_eq_getElem?_getD, List.getElem?_eq_getElem (by omega)]
 rfl
theorem seems_any (s : ByteArray) (w : World) (ht : Tab10 w) (hT : Lx.RTabs w) (h7 : 15 ≤ w.heap.size) (hs : s.size ≤ 4194304) :
 Calls Tryz.prog 25 #[.string s] w fun e w' => (∃ x, e = .returned (.agg (ndV x)) ∧ Hid (SeemR s.data.toList x)) ∧ Below w.heap.size w w' := by
 have HT : Hid (∀ w', Below w.heap.size w w' → Tab10 w' ∧ Lx.RTabs w' ∧ 15 ≤ w'.heap.size) := fun w' hb => ⟨ht.on hb h7, hT.below hb (by omega), Nat.le_trans h7 hb.size⟩
 clear ht hT
 obtain ⟨l, hl⟩ : ∃ l, s.data.toList = l := ⟨_, rfl⟩
 have HL : Hid (s.data.toList = l) := hl
 have HZ : Hid (s.size = l.length) := by rw [← hl]; exact Lib.size_eq s
 rw [hl]
 clear hl
 obtain ⟨rw', hrw⟩ := splF_head l
 obtain ⟨w1, hw1⟩ : ∃ w1, w.alloc (.cells #[.int .i64 0, .int .i64 0, .string ⟨#[]⟩, .string ⟨#[]⟩, .string ⟨#[]⟩, .int .i64 0, .int .i64 0, .string ⟨#[]⟩, .int .i64 0] 42) = w1 := ⟨_, rfl⟩
 have B1 : Hid (Below w.heap.size w w1) := by rw [← hw1]; exact (Below.refl _ w).alloc (Nat.le_refl _) _
 have A1 : Hid (NodeAt w1 w.heap.size ⟨0, 0, ⟨#[]⟩, ⟨#[]⟩, ⟨#[]⟩, 0, 0, ⟨#[]⟩, 0⟩) := by rw [← hw1]; exact NodeAt.new w ⟨0, 0, ⟨#[]⟩, ⟨#[]⟩, ⟨#[]⟩, 0, 0, ⟨#[]⟩, 0⟩ 42
 have z1 : w.heap.size < w1.heap.size := by rw [← hw1]; simp
 obtain ⟨n, hn⟩ : ∃ n, rw'.length = n := ⟨_, rfl⟩
 have hn4 : n ≤ 4194304 := by
  have := (splA_len l []).2
  have h2 : (splF l).length = n + 1 := by rw [hrw, List.length_cons, hn]
  have := HZ.out
  unfold splF at h2
  omega
 obtain ⟨one, hone⟩ : ∃ one, (splF l).getD 1 [] = one := ⟨_, rfl⟩
 obtain ⟨two, htwo⟩ : ∃ two, (splF l).getD 2 [] = two := ⟨_, rfl⟩
 have hmem : ∀ j, ((splF l).getD j []).length ≤ l.length := fun j => by
  rw [List.getD_eq_getElem?_getD]
  cases hx : (splF l)[j]? with
  | none => simp
  | some y =>
   have := splA_mem l [] y (List.mem_of_getElem? hx)
   simpa using this
 have h1len : one.length ≤ 4194304 := by have := hmem 1; rw [hone] at this; have := HZ.out; omega
 have h2len : two.length ≤ 4194304 := by have := hmem 2; rw [htwo] at this; have := HZ.out; omega
 have HO1 : Hid (n = 0 → one = []) := fun h => by
  rw [← hone, hrw, List.getD_eq_getElem?_getD, List.getElem?_eq_none (by rw [List.length_cons]; omega)]
  rfl
 have HO2 : Hid (n ≤ 1 → two = []) := fun h => by
  rw [← htwo, hrw, List.getD_eq_getElem?_getD, List.getElem?_eq_none (by rw [List.length_cons]; omega)]
  rfl
 have HSP : Hid (Calls Tryz.prog 47 #[.string s] w1 fun e w' => (∃ g cap, e = .returned (.slice (some ⟨g, 0, none⟩) (n + 1) cap) ∧ Hid (∀ w'', Below w'.heap.size w' w'' → w''.cell? ⟨g, 0, none⟩ = some (.string (bk (fstW l).1)) ∧ (1 ≤ n → w''.cell? ⟨g, 1, none⟩ = some (.string (bk one))) ∧ (2 ≤ n → w''.cell? ⟨g, 2, none⟩ = some (.string (bk two))))) ∧ Below w1.heap.size w1 w') := by
  refine (refSplit_any s w1 hs).mono ?_
  rintro e w' ⟨⟨v, rfl, ho⟩, hb⟩
  have ho := ho.out
  rw [HL.out] at ho
  have hln : (splF l).length = n + 1 := by rw [hrw, List.length_cons, hn]
  rcases ho.2 with ⟨_, h0⟩ | ⟨g, cap, cur, rfl, _⟩
  ·omega
  ·rw [hln] at ho ⊢
   have hcl := fun j hj => getD_cell ho hln j hj
   have kp : ∀ w'', Below w'.heap.size w' w'' → ∀ j v, w'.cell? ⟨g, j, none⟩ = some v → w''.cell? ⟨g, j, none⟩ = some v := fun w'' hb2 j v h => (hb2.cell (p := ⟨g, j, none⟩) (World.block_lt_of_cell? w' _ h)).trans h
   refine ⟨⟨g, cap, rfl, fun w'' hb2 => ⟨?_, fun h => ?_, fun h => ?_⟩⟩, hb⟩
   ·have := kp w'' hb2 0 _ (hcl 0 (by omega))
    rw [this, hrw]
    rfl
   ·have := kp w'' hb2 1 _ (hcl 1 (by omega))
    rw [this, hone]
   ·have := kp w'' hb2 2 _ (hcl 2 (by omega))
    rw [this, htwo]
 have HKO : Hid (∀ w', Below w.heap.size w w' → Calls Tryz.prog 48 #[.string (bk (fstW l).1)] w' fun e w'' => (∃ k : Nat, e = .returned (.int .i64 (k : Int)) ∧ Hid (KndR (fstW l).1 k)) ∧ Below w'.heap.size w' w'') := fun w' hb => by
  have := kindOf_any (bk (fstW l).1) w' (HT.out w' hb).1 (HT.out w' hb).2.2
  rw [bk_list] at this
  exact this
 have HNO : Hid (∀ (t : List UInt8) (w' : World), Calls Tryz.prog 49 #[.string (bk t)] w' fun e w'' => e = .returned (.string (bk (noneF t))) ∧ w' = w'') := fun t w' => by have := refNone_any (bk t) w'; rw [bk_list] at this; exact this
 have HNU : Hid (∀ (w' : World), Calls Tryz.prog 26 #[.string (bk one)] w' fun e w'' => e = .returned (.int .i64 (numF 0 one)) ∧ w' = w'') := fun w' => by have := refNumber_any (bk one) w' (by rw [bk_size]; omega); rw [bk_list] at this; exact this
 have HP1 : Hid (∀ (w' : World), Calls Tryz.prog 51 #[.string (bk one), .bool false] w' fun e w'' => (∃ v : Nat, e = .returned (.int .i64 (v : Int)) ∧ Hid (Op1 one v)) ∧ w' = w'') := fun w' => by
  refine (refOper1_any (bk one) w').mono ?_
  rintro e w'' ⟨⟨v, rfl, h1, h2, h3, h4⟩, rfl⟩
  exact ⟨⟨v, rfl, ⟨h1, h2, h3, h4⟩⟩, rfl⟩
 have HP2 : Hid (∀ (w' : World), Calls Tryz.prog 51 #[.string (bk one), .bool true] w' fun e w'' => (∃ v : Nat, e = .returned (.int .i64 (v : Int)) ∧ Hid (Op2 one v)) ∧ w' = w'') := fun w' => by
  refine (refOper2_any (bk one) w').mono ?_
  rintro e w'' ⟨⟨v, rfl, h1, h2, h3⟩, rfl⟩
  exact ⟨⟨v, rfl, ⟨h1, h2, h3.out.1, h3.out.2⟩⟩, rfl⟩
 have HQU : Hid (∀ w', Below w.heap.size w w' → Calls Tryz.prog 50 #[.string (bk (l.drop 5))] w' fun e w'' => e = .returned (.string (bk (qF (l.drop 5)))) ∧ Below w'.heap.size w' w'') := fun w' hb => by
  have := refQuoted_any (bk (l.drop 5)) w' (by rw [bk_size, List.length_drop]; have := HZ.out; omega) (HT.out w' hb).2.1
  rw [bk_list] at this
  exact this
 have HSE : Hid (∀ k x, KndR (fstW l).1 k → SeemK k one two l x → SeemR l x) := fun k x h1 h2 => ⟨k, h1, by rw [hone, htwo]; exact h2⟩
 clear hrw hn hone htwo hmem
 go_enter Tryz.func25, Tryz.ntmps25
 go_upto_region 3 with (first
  | (go_at_call 47; refine HSP.out.mono ?_; rintro e w2 ⟨⟨g, cap, rfl, hcs⟩, hb2⟩; have b2 : Below w.heap.size w w2 := B1.out.trans (hb2.mono B1.out.size); obtain ⟨hc0, -, -⟩ := hcs.out w2 (Below.refl _ _))
  | (go_at_call 48; refine (HKO.out w2 b2).mono ?_; rintro e w3 ⟨⟨k, rfl, hkn⟩, hb3⟩)
  | go_in)
 clear hc0
 obtain ⟨N, hN⟩ : ∃ N, w3.heap.size = N := ⟨_, rfl⟩
 obtain ⟨w4, hw4⟩ : ∃ w4, w3.alloc (.cells #[.int .i64 (k : Int), .int .i64 0, .string ⟨#[]⟩, .string ⟨#[]⟩, .string ⟨#[]⟩, .int .i64 0, .int .i64 0, .string ⟨#[]⟩, .int .i64 0] 42) = w4 := ⟨_, rfl⟩
 have B34 : Below w3.heap.size w3 w4 := by rw [← hw4]; exact (Below.refl _ w3).alloc (Nat.le_refl _) _
 have NN : Hid (NodeAt w4 N (bn k)) := by rw [← hw4, ← hN]; exact NodeAt.new w3 (bn k) 42
 have NA : Hid (NodeAt w4 w.heap.size ⟨0, 0, ⟨#[]⟩, ⟨#[]⟩, ⟨#[]⟩, 0, 0, ⟨#[]⟩, 0⟩) := ((A1.out.next hb2).next hb3).next B34
 have B4 : Hid (Below w.heap.size w w4) := (b2.trans (hb3.mono b2.size)).trans (B34.mono (Nat.le_trans b2.size hb3.size))
 have hAN : ¬ w.heap.size = N := by have := A1.out.lt; have := hb2.size; have := hb3.size; omega
 have hNA : ¬ N = w.heap.size := fun e => hAN e.symm
 have HC4 : Hid (w4.cell? ⟨g, 0, none⟩ = some (.string (bk (fstW l).1)) ∧ (1 ≤ n → w4.cell? ⟨g, 1, none⟩ = some (.string (bk one))) ∧ (2 ≤ n → w4.cell? ⟨g, 2, none⟩ = some (.string (bk two)))) := hcs.out w4 (hb3.trans (B34.mono hb3.size))
 have hNB : Hid (w.heap.size ≤ N) := by have := b2.size; have := hb3.size; rw [← hN]; exact Nat.le_trans b2.size hb3.size
 rw [hw4, hN]
 clear hw4 hN B34 hb2 hb3 b2 A1 B1 hw1 HSP HKO hcs
 go_upto_if 16 with go_in
 go_cut [5] (fun u5 wx => u5 = .string (bk one) ∧ wx = w4)
 case first =>
  by_cases hn1 : 1 ≤ n
  ·have hI : (1 : Int) < (n : Int) + 1 := by omega
   have c1 := HC4.out.2.1 hn1
   go_wp2
   go_meet
   case rel => exact ⟨rfl, rfl⟩
  ·obtain rfl : n = 0 := by omega
   have e1 := HO1.out rfl
   go_wp2
   go_meet
   case rel => exact ⟨by rw [e1]; rfl, rfl⟩
 case rest =>
 obtain ⟨rfl, rfl⟩ := hcut
 go_upto_if 22 with go_in
 go_cut [6] (fun u6 wx => u6 = .string (bk two) ∧ wx = wc)
 case first =>
  by_cases hn1 : 2 ≤ n
  ·have hI : (2 : Int) < (n : Int) + 1 := by omega
   have c1 := HC4.out.2.2 hn1
   go_wp2
   go_meet
   case rel => exact ⟨rfl, rfl⟩
  ·have hI : ¬ (2 : Int) < (n : Int) + 1 := by omega
   have e1 := HO2.out (by omega)
   go_wp2
   go_meet
   case rel => exact ⟨by rw [e1]; rfl, rfl⟩
 case rest =>
 obtain ⟨rfl, hwc⟩ := hcut
 subst hwc
 clear HC4 HO1 HO2
 have n0 : wc.cell? ⟨N, 0, none⟩ = some (.int .i64 (k : Int)) := NN.out.c 0 _ rfl
 have f0 := NN.out.f 0 (by omega)
 have z0 : wc.cell? ⟨w.heap.size, 0, none⟩ = some (.int .i64 0) := NA.out.c 0 _ rfl
 have y0 := NA.out.f 0 (by omega)
 have n1 : wc.cell? ⟨N, 1, none⟩ = some (.int .i64 0) := NN.out.c 1 _ rfl
 have f1 := NN.out.f 1 (by omega)
 have z1 : wc.cell? ⟨w.heap.size, 1, none⟩ = some (.int .i64 0) := NA.out.c 1 _ rfl
 have y1 := NA.out.f 1 (by omega)
 have n2 : wc.cell? ⟨N, 2, none⟩ = some (.string ⟨#[]⟩) := NN.out.c 2 _ rfl
 have f2 := NN.out.f 2 (by omega)
 have z2 : wc.cell? ⟨w.heap.size, 2, none⟩ = some (.string ⟨#[]⟩) := NA.out.c 2 _ rfl
 have y2 := NA.out.f 2 (by omega)
 have n3 : wc.cell? ⟨N, 3, none⟩ = some (.string ⟨#[]⟩) := NN.out.c 3 _ rfl
 have f3 := NN.out.f 3 (by omega)
 have z3 : wc.cell? ⟨w.heap.size, 3, none⟩ = some (.string ⟨#[]⟩) := NA.out.c 3 _ rfl
 have y3 := NA.out.f 3 (by omega)
 have n4 : wc.cell? ⟨N, 4, none⟩ = some (.string ⟨#[]⟩) := NN.out.c 4 _ rfl
 have f4 := NN.out.f 4 (by omega)
 have z4 : wc.cell? ⟨w.heap.size, 4, none⟩ = some (.string ⟨#[]⟩) := NA.out.c 4 _ rfl
 have y4 := NA.out.f 4 (by omega)
 have n5 : wc.cell? ⟨N, 5, none⟩ = some (.int .i64 0) := NN.out.c 5 _ rfl
 have f5 := NN.out.f 5 (by omega)
 have z5 : wc.cell? ⟨w.heap.size, 5, none⟩ = some (.int .i64 0) := NA.out.c 5 _ rfl
 have y5 := NA.out.f 5 (by omega)
 have n6 : wc.cell? ⟨N, 6, none⟩ = some (.int .i64 0) := NN.out.c 6 _ rfl
 have f6 := NN.out.f 6 (by omega)
 have z6 : wc.cell? ⟨w.heap.size, 6, none⟩ = some (.int .i64 0) := NA.out.c 6 _ rfl
 have y6 := NA.out.f 6 (by omega)
 have n7 : wc.cell? ⟨N, 7, none⟩ = some (.string ⟨#[]⟩) := NN.out.c 7 _ rfl
 have f7 := NN.out.f 7 (by omega)
 have z7 : wc.cell? ⟨w.heap.size, 7, none⟩ = some (.string ⟨#[]⟩) := NA.out.c 7 _ rfl
 have y7 := NA.out.f 7 (by omega)
 have n8 : wc.cell? ⟨N, 8, none⟩ = some (.int .i64 0) := NN.out.c 8 _ rfl
 have f8 := NN.out.f 8 (by omega)
 have z8 : wc.cell? ⟨w.heap.size, 8, none⟩ = some (.int .i64 0) := NA.out.c 8 _ rfl
 have y8 := NA.out.f 8 (by omega)
 have hk30 := hkn.out.1
 have hk : k = 0 ∨ k = 1 ∨ k = 2 ∨ k = 3 ∨ k = 4 ∨ k = 5 ∨ k = 6 ∨ k = 7 ∨ k = 8 ∨ k = 9 ∨ k = 10 ∨ k = 11 ∨ k = 12 ∨ k = 13 ∨ k = 14 ∨ k = 15 ∨ k = 16 ∨ k = 17 ∨ k = 18 ∨ k = 19 ∨ k = 20 ∨ k = 21 ∨ k = 22 ∨ k = 23 ∨ k = 24 ∨ k = 25 ∨ k = 26 ∨ k = 27 ∨ k = 28 ∨ k = 29 ∨ k = 30 := by omega
 rcases hk with rfl | rfl | rfl | rfl | rfl | rfl | rfl | rfl | rfl | rfl | rfl | rfl | rfl | rfl | rfl | rfl | rfl | rfl | rfl | rfl | rfl | rfl | rfl | rfl | rfl | rfl | rfl | rfl | rfl | rfl | rfl
 ·go_wp2
  refine bodyPost_ret (v := .agg (ndV ⟨0, 0, ⟨#[]⟩, ⟨#[]⟩, ⟨#[]⟩, 0, 0, ⟨#[]⟩, 0⟩)) (by exact ret25 (NodeAt.set NA.out ⟨0, 0, ⟨#[]⟩, ⟨#[]⟩, ⟨#[]⟩, 0, 0, ⟨#[]⟩, 0⟩) rfl) (by rfl) ?_
  exact ⟨⟨⟨0, 0, ⟨#[]⟩, ⟨#[]⟩, ⟨#[]⟩, 0, 0, ⟨#[]⟩, 0⟩, rfl, HSE.out 0 ⟨0, 0, ⟨#[]⟩, ⟨#[]⟩, ⟨#[]⟩, 0, 0, ⟨#[]⟩, 0⟩ hkn.out (by simp [SeemK, bn])⟩, below_set9 B4.out (Nat.le_refl _) _ _ _ _ _ _ _ _ _⟩
 ·go_wp2
  refine bodyPost_ret (v := .agg (ndV ⟨1, 0, ⟨#[]⟩, ⟨#[]⟩, ⟨#[]⟩, 0, 0, ⟨#[]⟩, 0⟩)) (by exact ret25 (NodeAt.set NA.out ⟨1, 0, ⟨#[]⟩, ⟨#[]⟩, ⟨#[]⟩, 0, 0, ⟨#[]⟩, 0⟩) rfl) (by rfl) ?_
  exact ⟨⟨⟨1, 0, ⟨#[]⟩, ⟨#[]⟩, ⟨#[]⟩, 0, 0, ⟨#[]⟩, 0⟩, rfl, HSE.out 1 ⟨1, 0, ⟨#[]⟩, ⟨#[]⟩, ⟨#[]⟩, 0, 0, ⟨#[]⟩, 0⟩ hkn.out (by simp [SeemK, bn])⟩, below_set9 B4.out (Nat.le_refl _) _ _ _ _ _ _ _ _ _⟩
 ·go_wp2_with (first
   | (go_at_call 49; refine (HNO.out two _).mono ?_; rintro e wq ⟨rfl, hq⟩; subst hq)
   | go_in)
  refine bodyPost_ret (v := .agg (ndV ⟨2, 0, bk one, ⟨#[]⟩, bk (noneF two), 0, 0, ⟨#[]⟩, 0⟩)) (by exact ret25 (NodeAt.set ((NA.out.other (i := 2) hAN).other (i := 4) hAN) ⟨2, 0, bk one, ⟨#[]⟩, bk (noneF two), 0, 0, ⟨#[]⟩, 0⟩) rfl) (by rfl) ?_
  exact ⟨⟨⟨2, 0, bk one, ⟨#[]⟩, bk (noneF two), 0, 0, ⟨#[]⟩, 0⟩, rfl, HSE.out 2 ⟨2, 0, bk one, ⟨#[]⟩, bk (noneF two), 0, 0, ⟨#[]⟩, 0⟩ hkn.out (by simp [SeemK, bn])⟩, below_set9 ((B4.out.setCell (p := ⟨N, 2, none⟩) hNB.out _).setCell (p := ⟨N, 4, none⟩) hNB.out _) (Nat.le_refl _) _ _ _ _ _ _ _ _ _⟩
 ·go_wp2_with (first
   | (go_at_call 49; refine (HNO.out two _).mono ?_; rintro e wq ⟨rfl, hq⟩; subst hq)
   | go_in)
  refine bodyPost_ret (v := .agg (ndV ⟨3, 0, bk one, ⟨#[]⟩, bk (noneF two), 0, 0, ⟨#[]⟩, 0⟩)) (by exact ret25 (NodeAt.set ((NA.out.other (i := 2) hAN).other (i := 4) hAN) ⟨3, 0, bk one, ⟨#[]⟩, bk (noneF two), 0, 0, ⟨#[]⟩, 0⟩) rfl) (by rfl) ?_
  exact ⟨⟨⟨3, 0, bk one, ⟨#[]⟩, bk (noneF two), 0, 0, ⟨#[]⟩, 0⟩, rfl, HSE.out 3 ⟨3, 0, bk one, ⟨#[]⟩, bk (noneF two), 0, 0, ⟨#[]⟩, 0⟩ hkn.out (by simp [SeemK, bn])⟩, below_set9 ((B4.out.setCell (p := ⟨N, 2, none⟩) hNB.out _).setCell (p := ⟨N, 4, none⟩) hNB.out _) (Nat.le_refl _) _ _ _ _ _ _ _ _ _⟩
 ·go_wp2
  refine bodyPost_ret (v := .agg (ndV ⟨4, 0, ⟨#[]⟩, ⟨#[]⟩, ⟨#[]⟩, 0, 0, ⟨#[]⟩, 0⟩)) (by exact ret25 (NodeAt.set NA.out ⟨4, 0, ⟨#[]⟩, ⟨#[]⟩, ⟨#[]⟩, 0, 0, ⟨#[]⟩, 0⟩) rfl) (by rfl) ?_
  exact ⟨⟨⟨4, 0, ⟨#[]⟩, ⟨#[]⟩, ⟨#[]⟩, 0, 0, ⟨#[]⟩, 0⟩, rfl, HSE.out 4 ⟨4, 0, ⟨#[]⟩, ⟨#[]⟩, ⟨#[]⟩, 0, 0, ⟨#[]⟩, 0⟩ hkn.out (by simp [SeemK, bn])⟩, below_set9 B4.out (Nat.le_refl _) _ _ _ _ _ _ _ _ _⟩
 ·go_wp2_with (first
   | (go_at_call 49; refine (HNO.out two _).mono ?_; rintro e wq ⟨rfl, hq⟩; subst hq)
   | go_in)
  refine bodyPost_ret (v := .agg (ndV ⟨5, 0, bk one, ⟨#[]⟩, bk (noneF two), 0, 0, ⟨#[]⟩, 0⟩)) (by exact ret25 (NodeAt.set ((NA.out.other (i := 2) hAN).other (i := 4) hAN) ⟨5, 0, bk one, ⟨#[]⟩, bk (noneF two), 0, 0, ⟨#[]⟩, 0⟩) rfl) (by rfl) ?_
  exact ⟨⟨⟨5, 0, bk one, ⟨#[]⟩, bk (noneF two), 0, 0, ⟨#[]⟩, 0⟩, rfl, HSE.out 5 ⟨5, 0, bk one, ⟨#[]⟩, bk (noneF two), 0, 0, ⟨#[]⟩, 0⟩ hkn.out (by simp [SeemK, bn])⟩, below_set9 ((B4.out.setCell (p := ⟨N, 2, none⟩) hNB.out _).setCell (p := ⟨N, 4, none⟩) hNB.out _) (Nat.le_refl _) _ _ _ _ _ _ _ _ _⟩
 ·go_wp2
  refine bodyPost_ret (v := .agg (ndV ⟨6, 0, ⟨#[]⟩, ⟨#[]⟩, ⟨#[]⟩, 0, 0, ⟨#[]⟩, 0⟩)) (by exact ret25 (NodeAt.set NA.out ⟨6, 0, ⟨#[]⟩, ⟨#[]⟩, ⟨#[]⟩, 0, 0, ⟨#[]⟩, 0⟩) rfl) (by rfl) ?_
  exact ⟨⟨⟨6, 0, ⟨#[]⟩, ⟨#[]⟩, ⟨#[]⟩, 0, 0, ⟨#[]⟩, 0⟩, rfl, HSE.out 6 ⟨6, 0, ⟨#[]⟩, ⟨#[]⟩, ⟨#[]⟩, 0, 0, ⟨#[]⟩, 0⟩ hkn.out (by simp [SeemK, bn])⟩, below_set9 B4.out (Nat.le_refl _) _ _ _ _ _ _ _ _ _⟩
 ·go_wp2
  refine bodyPost_ret (v := .agg (ndV ⟨7, 0, ⟨#[]⟩, ⟨#[]⟩, ⟨#[]⟩, 0, 0, ⟨#[]⟩, 0⟩)) (by exact ret25 (NodeAt.set NA.out ⟨7, 0, ⟨#[]⟩, ⟨#[]⟩, ⟨#[]⟩, 0, 0, ⟨#[]⟩, 0⟩) rfl) (by rfl) ?_
  exact ⟨⟨⟨7, 0, ⟨#[]⟩, ⟨#[]⟩, ⟨#[]⟩, 0, 0, ⟨#[]⟩, 0⟩, rfl, HSE.out 7 ⟨7, 0, ⟨#[]⟩, ⟨#[]⟩, ⟨#[]⟩, 0, 0, ⟨#[]⟩, 0⟩ hkn.out (by simp [SeemK, bn])⟩, below_set9 B4.out (Nat.le_refl _) _ _ _ _ _ _ _ _ _⟩
 ·go_wp2_with (first
   | (go_at_call 49; refine (HNO.out one _).mono ?_; rintro e wq ⟨rfl, hq⟩; subst hq)
   | go_in)
  refine bodyPost_ret (v := .agg (ndV ⟨8, 0, ⟨#[]⟩, bk (noneF one), ⟨#[]⟩, 0, 0, ⟨#[]⟩, 0⟩)) (by exact ret25 (NodeAt.set (NA.out.other (i := 3) hAN) ⟨8, 0, ⟨#[]⟩, bk (noneF one), ⟨#[]⟩, 0, 0, ⟨#[]⟩, 0⟩) rfl) (by rfl) ?_
  exact ⟨⟨⟨8, 0, ⟨#[]⟩, bk (noneF one), ⟨#[]⟩, 0, 0, ⟨#[]⟩, 0⟩, rfl, HSE.out 8 ⟨8, 0, ⟨#[]⟩, bk (noneF one), ⟨#[]⟩, 0, 0, ⟨#[]⟩, 0⟩ hkn.out (by simp [SeemK, bn])⟩, below_set9 (B4.out.setCell (p := ⟨N, 3, none⟩) hNB.out _) (Nat.le_refl _) _ _ _ _ _ _ _ _ _⟩
 ·go_wp2_with (first
   | (go_at_call 49; refine (HNO.out one _).mono ?_; rintro e wq ⟨rfl, hq⟩; subst hq)
   | go_in)
  refine bodyPost_ret (v := .agg (ndV ⟨9, 0, bk two, bk (noneF one), ⟨#[]⟩, 0, 0, ⟨#[]⟩, 0⟩)) (by exact ret25 (NodeAt.set ((NA.out.other (i := 3) hAN).other (i := 2) hAN) ⟨9, 0, bk two, bk (noneF one), ⟨#[]⟩, 0, 0, ⟨#[]⟩, 0⟩) rfl) (by rfl) ?_
  exact ⟨⟨⟨9, 0, bk two, bk (noneF one), ⟨#[]⟩, 0, 0, ⟨#[]⟩, 0⟩, rfl, HSE.out 9 ⟨9, 0, bk two, bk (noneF one), ⟨#[]⟩, 0, 0, ⟨#[]⟩, 0⟩ hkn.out (by simp [SeemK, bn])⟩, below_set9 ((B4.out.setCell (p := ⟨N, 3, none⟩) hNB.out _).setCell (p := ⟨N, 2, none⟩) hNB.out _) (Nat.le_refl _) _ _ _ _ _ _ _ _ _⟩
 ·go_wp2_with (first
   | (go_at_call 49; refine (HNO.out one _).mono ?_; rintro e wq ⟨rfl, hq⟩; subst hq)
   | go_in)
  refine bodyPost_ret (v := .agg (ndV ⟨10, 0, ⟨#[]⟩, bk (noneF one), ⟨#[]⟩, 0, 0, ⟨#[]⟩, 0⟩)) (by exact ret25 (NodeAt.set (NA.out.other (i := 3) hAN) ⟨10, 0, ⟨#[]⟩, bk (noneF one), ⟨#[]⟩, 0, 0, ⟨#[]⟩, 0⟩) rfl) (by rfl) ?_
  exact ⟨⟨⟨10, 0, ⟨#[]⟩, bk (noneF one), ⟨#[]⟩, 0, 0, ⟨#[]⟩, 0⟩, rfl, HSE.out 10 ⟨10, 0, ⟨#[]⟩, bk (noneF one), ⟨#[]⟩, 0, 0, ⟨#[]⟩, 0⟩ hkn.out (by simp [SeemK, bn])⟩, below_set9 (B4.out.setCell (p := ⟨N, 3, none⟩) hNB.out _) (Nat.le_refl _) _ _ _ _ _ _ _ _ _⟩
 ·go_wp2_with (first
   | (go_at_call 49; refine (HNO.out one _).mono ?_; rintro e wq ⟨rfl, hq⟩; subst hq)
   | go_in)
  refine bodyPost_ret (v := .agg (ndV ⟨11, 0, ⟨#[]⟩, bk (noneF one), ⟨#[]⟩, 0, 0, ⟨#[]⟩, 0⟩)) (by exact ret25 (NodeAt.set (NA.out.other (i := 3) hAN) ⟨11, 0, ⟨#[]⟩, bk (noneF one), ⟨#[]⟩, 0, 0, ⟨#[]⟩, 0⟩) rfl) (by rfl) ?_
  exact ⟨⟨⟨11, 0, ⟨#[]⟩, bk (noneF one), ⟨#[]⟩, 0, 0, ⟨#[]⟩, 0⟩, rfl, HSE.out 11 ⟨11, 0, ⟨#[]⟩, bk (noneF one), ⟨#[]⟩, 0, 0, ⟨#[]⟩, 0⟩ hkn.out (by simp [SeemK, bn])⟩, below_set9 (B4.out.setCell (p := ⟨N, 3, none⟩) hNB.out _) (Nat.le_refl _) _ _ _ _ _ _ _ _ _⟩
 ·go_wp2_with (first
   | (go_at_call 26; refine (HNU.out _).mono ?_; rintro e wq ⟨rfl, hq⟩; subst hq)
   | go_in)
  refine bodyPost_ret (v := .agg (ndV ⟨12, 0, ⟨#[]⟩, ⟨#[]⟩, ⟨#[]⟩, 0, numF 0 one, ⟨#[]⟩, 0⟩)) (by exact ret25 (NodeAt.set (NA.out.other (i := 6) hAN) ⟨12, 0, ⟨#[]⟩, ⟨#[]⟩, ⟨#[]⟩, 0, numF 0 one, ⟨#[]⟩, 0⟩) rfl) (by rfl) ?_
  exact ⟨⟨⟨12, 0, ⟨#[]⟩, ⟨#[]⟩, ⟨#[]⟩, 0, numF 0 one, ⟨#[]⟩, 0⟩, rfl, HSE.out 12 ⟨12, 0, ⟨#[]⟩, ⟨#[]⟩, ⟨#[]⟩, 0, numF 0 one, ⟨#[]⟩, 0⟩ hkn.out (by simp [SeemK, bn])⟩, below_set9 (B4.out.setCell (p := ⟨N, 6, none⟩) hNB.out _) (Nat.le_refl _) _ _ _ _ _ _ _ _ _⟩
 ·go_wp2
  refine bodyPost_ret (v := .agg (ndV ⟨13, 0, ⟨#[]⟩, ⟨#[]⟩, ⟨#[]⟩, 0, 0, ⟨#[]⟩, 0⟩)) (by exact ret25 (NodeAt.set NA.out ⟨13, 0, ⟨#[]⟩, ⟨#[]⟩, ⟨#[]⟩, 0, 0, ⟨#[]⟩, 0⟩) rfl) (by rfl) ?_
  exact ⟨⟨⟨13, 0, ⟨#[]⟩, ⟨#[]⟩, ⟨#[]⟩, 0, 0, ⟨#[]⟩, 0⟩, rfl, HSE.out 13 ⟨13, 0, ⟨#[]⟩, ⟨#[]⟩, ⟨#[]⟩, 0, 0, ⟨#[]⟩, 0⟩ hkn.out (by simp [SeemK, bn])⟩, below_set9 B4.out (Nat.le_refl _) _ _ _ _ _ _ _ _ _⟩
 ·go_wp2
  refine bodyPost_ret (v := .agg (ndV ⟨14, 0, ⟨#[]⟩, ⟨#[]⟩, ⟨#[]⟩, 0, 0, ⟨#[]⟩, 0⟩)) (by exact ret25 (NodeAt.set NA.out ⟨14, 0, ⟨#[]⟩, ⟨#[]⟩, ⟨#[]⟩, 0, 0, ⟨#[]⟩, 0⟩) rfl) (by rfl) ?_
  exact ⟨⟨⟨14, 0, ⟨#[]⟩, ⟨#[]⟩, ⟨#[]⟩, 0, 0, ⟨#[]⟩, 0⟩, rfl, HSE.out 14 ⟨14, 0, ⟨#[]⟩, ⟨#[]⟩, ⟨#[]⟩, 0, 0, ⟨#[]⟩, 0⟩ hkn.out (by simp [SeemK, bn])⟩, below_set9 B4.out (Nat.le_refl _) _ _ _ _ _ _ _ _ _⟩
 ·go_wp2
  refine bodyPost_ret (v := .agg (ndV ⟨15, 0, ⟨#[]⟩, ⟨#[]⟩, ⟨#[]⟩, 0, 0, ⟨#[]⟩, 0⟩)) (by exact ret25 (NodeAt.set NA.out ⟨15, 0, ⟨#[]⟩, ⟨#[]⟩, ⟨#[]⟩, 0, 0, ⟨#[]⟩, 0⟩) rfl) (by rfl) ?_
  exact ⟨⟨⟨15, 0, ⟨#[]⟩, ⟨#[]⟩, ⟨#[]⟩, 0, 0, ⟨#[]⟩, 0⟩, rfl, HSE.out 15 ⟨15, 0, ⟨#[]⟩, ⟨#[]⟩, ⟨#[]⟩, 0, 0, ⟨#[]⟩, 0⟩ hkn.out (by simp [SeemK, bn])⟩, below_set9 B4.out (Nat.le_refl _) _ _ _ _ _ _ _ _ _⟩
 ·go_wp2_with (first
   | (go_at_call 26; refine (HNU.out _).mono ?_; rintro e wq ⟨rfl, hq⟩; subst hq)
   | (go_at_call 49; refine (HNO.out two _).mono ?_; rintro e wq ⟨rfl, hq⟩; subst hq)
   | go_in)
  refine bodyPost_ret (v := .agg (ndV ⟨16, 0, bk (noneF two), ⟨#[]⟩, ⟨#[]⟩, 0, numF 0 one, ⟨#[]⟩, 0⟩)) (by exact ret25 (NodeAt.set ((NA.out.other (i := 6) hAN).other (i := 2) hAN) ⟨16, 0, bk (noneF two), ⟨#[]⟩, ⟨#[]⟩, 0, numF 0 one, ⟨#[]⟩, 0⟩) rfl) (by rfl) ?_
  exact ⟨⟨⟨16, 0, bk (noneF two), ⟨#[]⟩, ⟨#[]⟩, 0, numF 0 one, ⟨#[]⟩, 0⟩, rfl, HSE.out 16 ⟨16, 0, bk (noneF two), ⟨#[]⟩, ⟨#[]⟩, 0, numF 0 one, ⟨#[]⟩, 0⟩ hkn.out (by simp [SeemK, bn])⟩, below_set9 ((B4.out.setCell (p := ⟨N, 6, none⟩) hNB.out _).setCell (p := ⟨N, 2, none⟩) hNB.out _) (Nat.le_refl _) _ _ _ _ _ _ _ _ _⟩
 ·go_wp2
  refine bodyPost_ret (v := .agg (ndV ⟨17, 0, ⟨#[]⟩, ⟨#[]⟩, ⟨#[]⟩, 0, 0, ⟨#[]⟩, 0⟩)) (by exact ret25 (NodeAt.set NA.out ⟨17, 0, ⟨#[]⟩, ⟨#[]⟩, ⟨#[]⟩, 0, 0, ⟨#[]⟩, 0⟩) rfl) (by rfl) ?_
  exact ⟨⟨⟨17, 0, ⟨#[]⟩, ⟨#[]⟩, ⟨#[]⟩, 0, 0, ⟨#[]⟩, 0⟩, rfl, HSE.out 17 ⟨17, 0, ⟨#[]⟩, ⟨#[]⟩, ⟨#[]⟩, 0, 0, ⟨#[]⟩, 0⟩ hkn.out (by simp [SeemK, bn])⟩, below_set9 B4.out (Nat.le_refl _) _ _ _ _ _ _ _ _ _⟩
 ·go_wp2
  refine bodyPost_ret (v := .agg (ndV ⟨18, 0, ⟨#[]⟩, ⟨#[]⟩, ⟨#[]⟩, 0, 0, ⟨#[]⟩, 0⟩)) (by exact ret25 (NodeAt.set NA.out ⟨18, 0, ⟨#[]⟩, ⟨#[]⟩, ⟨#[]⟩, 0, 0, ⟨#[]⟩, 0⟩) rfl) (by rfl) ?_
  exact ⟨⟨⟨18, 0, ⟨#[]⟩, ⟨#[]⟩, ⟨#[]⟩, 0, 0, ⟨#[]⟩, 0⟩, rfl, HSE.out 18 ⟨18, 0, ⟨#[]⟩, ⟨#[]⟩, ⟨#[]⟩, 0, 0, ⟨#[]⟩, 0⟩ hkn.out (by simp [SeemK, bn])⟩, below_set9 B4.out (Nat.le_refl _) _ _ _ _ _ _ _ _ _⟩
 ·go_wp2
  refine bodyPost_ret (v := .agg (ndV ⟨19, 0, ⟨#[]⟩, ⟨#[]⟩, ⟨#[]⟩, 0, 0, ⟨#[]⟩, 0⟩)) (by exact ret25 (NodeAt.set NA.out ⟨19, 0, ⟨#[]⟩, ⟨#[]⟩, ⟨#[]⟩, 0, 0, ⟨#[]⟩, 0⟩) rfl) (by rfl) ?_
  exact ⟨⟨⟨19, 0, ⟨#[]⟩, ⟨#[]⟩, ⟨#[]⟩, 0, 0, ⟨#[]⟩, 0⟩, rfl, HSE.out 19 ⟨19, 0, ⟨#[]⟩, ⟨#[]⟩, ⟨#[]⟩, 0, 0, ⟨#[]⟩, 0⟩ hkn.out (by simp [SeemK, bn])⟩, below_set9 B4.out (Nat.le_refl _) _ _ _ _ _ _ _ _ _⟩
 ·go_wp2_with (first
   | (go_at_call 26; refine (HNU.out _).mono ?_; rintro e wq ⟨rfl, hq⟩; subst hq)
   | go_in)
  refine bodyPost_ret (v := .agg (ndV ⟨20, 0, ⟨#[]⟩, ⟨#[]⟩, ⟨#[]⟩, 0, numF 0 one, ⟨#[]⟩, 0⟩)) (by exact ret25 (NodeAt.set (NA.out.other (i := 6) hAN) ⟨20, 0, ⟨#[]⟩, ⟨#[]⟩, ⟨#[]⟩, 0, numF 0 one, ⟨#[]⟩, 0⟩) rfl) (by rfl) ?_
  exact ⟨⟨⟨20, 0, ⟨#[]⟩, ⟨#[]⟩, ⟨#[]⟩, 0, numF 0 one, ⟨#[]⟩, 0⟩, rfl, HSE.out 20 ⟨20, 0, ⟨#[]⟩, ⟨#[]⟩, ⟨#[]⟩, 0, numF 0 one, ⟨#[]⟩, 0⟩ hkn.out (by simp [SeemK, bn])⟩, below_set9 (B4.out.setCell (p := ⟨N, 6, none⟩) hNB.out _) (Nat.le_refl _) _ _ _ _ _ _ _ _ _⟩
 ·go_wp2_with (first
   | (go_at_call 26; refine (HNU.out _).mono ?_; rintro e wq ⟨rfl, hq⟩; subst hq)
   | go_in)
  refine bodyPost_ret (v := .agg (ndV ⟨21, 0, ⟨#[]⟩, ⟨#[]⟩, ⟨#[]⟩, 0, numF 0 one, ⟨#[]⟩, 0⟩)) (by exact ret25 (NodeAt.set (NA.out.other (i := 6) hAN) ⟨21, 0, ⟨#[]⟩, ⟨#[]⟩, ⟨#[]⟩, 0, numF 0 one, ⟨#[]⟩, 0⟩) rfl) (by rfl) ?_
  exact ⟨⟨⟨21, 0, ⟨#[]⟩, ⟨#[]⟩, ⟨#[]⟩, 0, numF 0 one, ⟨#[]⟩, 0⟩, rfl, HSE.out 21 ⟨21, 0, ⟨#[]⟩, ⟨#[]⟩, ⟨#[]⟩, 0, numF 0 one, ⟨#[]⟩, 0⟩ hkn.out (by simp [SeemK, bn])⟩, below_set9 (B4.out.setCell (p := ⟨N, 6, none⟩) hNB.out _) (Nat.le_refl _) _ _ _ _ _ _ _ _ _⟩
 ·by_cases h5 : 5 < l.length
  ·have hI : (5 : Int) < (s.size : Int) := by have := HZ.out; omega
   have hI2 : (5 : Int) ≤ (s.size : Int) := by omega
   have R5 : ∀ wx : World, (Instr.slice 9 (.string s) (some (.int .i64 5)) none none).run Tryz.prog wx = .ok (.string (bk (l.drop 5))) wx := fun wx => by
    have e1 := ext_drop s 5 s.size (Nat.le_refl _)
    rw [HL.out] at e1
    rw [← e1]
    simp [go_sem, Tryz.underlying9, hI2]
   have HQ2 : Hid (Calls Tryz.prog 50 #[.string (bk (l.drop 5))] wc fun e w'' => e = .returned (.string (bk (qF (l.drop 5)))) ∧ Below wc.heap.size wc w'') := HQU.out wc B4.out
   generalize bk (l.drop 5) = b5 at R5 HQ2
   go_wp2_with (first
    | (go_at_call 50; refine HQ2.out.mono ?_; rintro e w5 ⟨rfl, hb5⟩; have NN5 := NN.out.next hb5; have NA5 : Hid (NodeAt w5 w.heap.size ⟨0, 0, ⟨#[]⟩, ⟨#[]⟩, ⟨#[]⟩, 0, 0, ⟨#[]⟩, 0⟩) := NA.out.next hb5; have g7 := NN5.f 7 (by omega); have m0 : w5.cell? ⟨N, 0, none⟩ = some (.int .i64 22) := NN5.c 0 _ rfl; have x0 : w5.cell? ⟨w.heap.size, 0, none⟩ = some (.int .i64 0) := NA5.out.c 0 _ rfl; have t0 := NA5.out.f 0 (by omega); have m1 : w5.cell? ⟨N, 1, none⟩ = some (.int .i64 0) := NN5.c 1 _ rfl; have x1 : w5.cell? ⟨w.heap.size, 1, none⟩ = some (.int .i64 0) := NA5.out.c 1 _ rfl; have t1 := NA5.out.f 1 (by omega); have m2 : w5.cell? ⟨N, 2, none⟩ = some (.string ⟨#[]⟩) := NN5.c 2 _ rfl; have x2 : w5.cell? ⟨w.heap.size, 2, none⟩ = some (.string ⟨#[]⟩) := NA5.out.c 2 _ rfl; have t2 := NA5.out.f 2 (by omega); have m3 : w5.cell? ⟨N, 3, none⟩ = some (.string ⟨#[]⟩) := NN5.c 3 _ rfl; have x3 : w5.cell? ⟨w.heap.size, 3, none⟩ = some (.string ⟨#[]⟩) := NA5.out.c 3 _ rfl; have t3 := NA5.out.f 3 (by omega); have m4 : w5.cell? ⟨N, 4, none⟩ = some (.string ⟨#[]⟩) := NN5.c 4 _ rfl; have x4 : w5.cell? ⟨w.heap.size, 4, none⟩ = some (.string ⟨#[]⟩) := NA5.out.c 4 _ rfl; have t4 := NA5.out.f 4 (by omega); have m5 : w5.cell? ⟨N, 5, none⟩ = some (.int .i64 0) := NN5.c 5 _ rfl; have x5 : w5.cell? ⟨w.heap.size, 5, none⟩ = some (.int .i64 0) := NA5.out.c 5 _ rfl; have t5 := NA5.out.f 5 (by omega); have m6 : w5.cell? ⟨N, 6, none⟩ = some (.int .i64 0) := NN5.c 6 _ rfl; have x6 : w5.cell? ⟨w.heap.size, 6, none⟩ = some (.int .i64 0) := NA5.out.c 6 _ rfl; have t6 := NA5.out.f 6 (by omega); have m7 : w5.cell? ⟨N, 7, none⟩ = some (.string ⟨#[]⟩) := NN5.c 7 _ rfl; have x7 : w5.cell? ⟨w.heap.size, 7, none⟩ = some (.string ⟨#[]⟩) := NA5.out.c 7 _ rfl; have t7 := NA5.out.f 7 (by omega); have m8 : w5.cell? ⟨N, 8, none⟩ = some (.int .i64 0) := NN5.c 8 _ rfl; have x8 : w5.cell? ⟨w.heap.size, 8, none⟩ = some (.int .i64 0) := NA5.out.c 8 _ rfl; have t8 := NA5.out.f 8 (by omega); clear NN5)
    | go_in)
   refine bodyPost_ret (v := .agg (ndV ⟨22, 0, ⟨#[]⟩, ⟨#[]⟩, ⟨#[]⟩, 0, 0, bk (qF (l.drop 5)), 0⟩)) (by exact ret25 (NodeAt.set (NA5.out.other (i := 7) hAN) ⟨22, 0, ⟨#[]⟩, ⟨#[]⟩, ⟨#[]⟩, 0, 0, bk (qF (l.drop 5)), 0⟩) rfl) (by rfl) ?_
   exact ⟨⟨⟨22, 0, ⟨#[]⟩, ⟨#[]⟩, ⟨#[]⟩, 0, 0, bk (qF (l.drop 5)), 0⟩, rfl, HSE.out 22 ⟨22, 0, ⟨#[]⟩, ⟨#[]⟩, ⟨#[]⟩, 0, 0, bk (qF (l.drop 5)), 0⟩ hkn.out (by simp [SeemK, bn, h5])⟩, below_set9 ((B4.out.trans (hb5.mono B4.out.size)).setCell (p := ⟨N, 7, none⟩) hNB.out _) (Nat.le_refl _) _ _ _ _ _ _ _ _ _⟩
  ·have hI : ¬ (5 : Int) < (s.size : Int) := by have := HZ.out; omega
   go_wp2
   refine bodyPost_ret (v := .agg (ndV ⟨22, 0, ⟨#[]⟩, ⟨#[]⟩, ⟨#[]⟩, 0, 0, ⟨#[]⟩, 0⟩)) (by exact ret25 (NodeAt.set NA.out ⟨22, 0, ⟨#[]⟩, ⟨#[]⟩, ⟨#[]⟩, 0, 0, ⟨#[]⟩, 0⟩) rfl) (by rfl) ?_
   exact ⟨⟨⟨22, 0, ⟨#[]⟩, ⟨#[]⟩, ⟨#[]⟩, 0, 0, ⟨#[]⟩, 0⟩, rfl, HSE.out 22 ⟨22, 0, ⟨#[]⟩, ⟨#[]⟩, ⟨#[]⟩, 0, 0, ⟨#[]⟩, 0⟩ hkn.out (by simp [SeemK, bn, h5]; rfl)⟩, below_set9 B4.out (Nat.le_refl _) _ _ _ _ _ _ _ _ _⟩
 ·go_wp2
  refine bodyPost_ret (v := .agg (ndV ⟨23, 0, bk one, ⟨#[]⟩, ⟨#[]⟩, 0, 0, ⟨#[]⟩, 0⟩)) (by exact ret25 (NodeAt.set (NA.out.other (i := 2) hAN) ⟨23, 0, bk one, ⟨#[]⟩, ⟨#[]⟩, 0, 0, ⟨#[]⟩, 0⟩) rfl) (by rfl) ?_
  exact ⟨⟨⟨23, 0, bk one, ⟨#[]⟩, ⟨#[]⟩, 0, 0, ⟨#[]⟩, 0⟩, rfl, HSE.out 23 ⟨23, 0, bk one, ⟨#[]⟩, ⟨#[]⟩, 0, 0, ⟨#[]⟩, 0⟩ hkn.out (by simp [SeemK, bn])⟩, below_set9 (B4.out.setCell (p := ⟨N, 2, none⟩) hNB.out _) (Nat.le_refl _) _ _ _ _ _ _ _ _ _⟩
 ·go_wp2
  refine bodyPost_ret (v := .agg (ndV ⟨24, 0, ⟨#[]⟩, ⟨#[]⟩, ⟨#[]⟩, 0, 0, ⟨#[]⟩, 0⟩)) (by exact ret25 (NodeAt.set NA.out ⟨24, 0, ⟨#[]⟩, ⟨#[]⟩, ⟨#[]⟩, 0, 0, ⟨#[]⟩, 0⟩) rfl) (by rfl) ?_
  exact ⟨⟨⟨24, 0, ⟨#[]⟩, ⟨#[]⟩, ⟨#[]⟩, 0, 0, ⟨#[]⟩, 0⟩, rfl, HSE.out 24 ⟨24, 0, ⟨#[]⟩, ⟨#[]⟩, ⟨#[]⟩, 0, 0, ⟨#[]⟩, 0⟩ hkn.out (by simp [SeemK, bn])⟩, below_set9 B4.out (Nat.le_refl _) _ _ _ _ _ _ _ _ _⟩
 ·go_wp2
  refine bodyPost_ret (v := .agg (ndV ⟨25, 0, bk one, ⟨#[]⟩, ⟨#[]⟩, 0, 0, ⟨#[]⟩, 0⟩)) (by exact ret25 (NodeAt.set (NA.out.other (i := 2) hAN) ⟨25, 0, bk one, ⟨#[]⟩, ⟨#[]⟩, 0, 0, ⟨#[]⟩, 0⟩) rfl) (by rfl) ?_
  exact ⟨⟨⟨25, 0, bk one, ⟨#[]⟩, ⟨#[]⟩, 0, 0, ⟨#[]⟩, 0⟩, rfl, HSE.out 25 ⟨25, 0, bk one, ⟨#[]⟩, ⟨#[]⟩, 0, 0, ⟨#[]⟩, 0⟩ hkn.out (by simp [SeemK, bn])⟩, below_set9 (B4.out.setCell (p := ⟨N, 2, none⟩) hNB.out _) (Nat.le_refl _) _ _ _ _ _ _ _ _ _⟩
 ·go_wp2_with (first
   | (go_at_call 51; refine (HP1.out _).mono ?_; rintro e wq ⟨⟨v, rfl, hv⟩, hq⟩; subst hq)
   | go_in)
  refine bodyPost_ret (v := .agg (ndV ⟨26, 0, ⟨#[]⟩, ⟨#[]⟩, ⟨#[]⟩, (v : Int), 0, ⟨#[]⟩, 0⟩)) (by exact ret25 (NodeAt.set (NA.out.other (i := 5) hAN) ⟨26, 0, ⟨#[]⟩, ⟨#[]⟩, ⟨#[]⟩, (v : Int), 0, ⟨#[]⟩, 0⟩) rfl) (by rfl) ?_
  exact ⟨⟨⟨26, 0, ⟨#[]⟩, ⟨#[]⟩, ⟨#[]⟩, (v : Int), 0, ⟨#[]⟩, 0⟩, rfl, HSE.out 26 ⟨26, 0, ⟨#[]⟩, ⟨#[]⟩, ⟨#[]⟩, (v : Int), 0, ⟨#[]⟩, 0⟩ hkn.out (by exact ⟨v, hv.out, rfl⟩)⟩, below_set9 (B4.out.setCell (p := ⟨N, 5, none⟩) hNB.out _) (Nat.le_refl _) _ _ _ _ _ _ _ _ _⟩
 ·go_wp2_with (first
   | (go_at_call 51; refine (HP2.out _).mono ?_; rintro e wq ⟨⟨v, rfl, hv⟩, hq⟩; subst hq)
   | go_in)
  refine bodyPost_ret (v := .agg (ndV ⟨27, 0, ⟨#[]⟩, ⟨#[]⟩, ⟨#[]⟩, (v : Int), 0, ⟨#[]⟩, 0⟩)) (by exact ret25 (NodeAt.set (NA.out.other (i := 5) hAN) ⟨27, 0, ⟨#[]⟩, ⟨#[]⟩, ⟨#[]⟩, (v : Int), 0, ⟨#[]⟩, 0⟩) rfl) (by rfl) ?_
  exact ⟨⟨⟨27, 0, ⟨#[]⟩, ⟨#[]⟩, ⟨#[]⟩, (v : Int), 0, ⟨#[]⟩, 0⟩, rfl, HSE.out 27 ⟨27, 0, ⟨#[]⟩, ⟨#[]⟩, ⟨#[]⟩, (v : Int), 0, ⟨#[]⟩, 0⟩ hkn.out (by exact ⟨v, hv.out, rfl⟩)⟩, below_set9 (B4.out.setCell (p := ⟨N, 5, none⟩) hNB.out _) (Nat.le_refl _) _ _ _ _ _ _ _ _ _⟩
 ·go_wp2
  refine bodyPost_ret (v := .agg (ndV ⟨28, 0, ⟨#[]⟩, ⟨#[]⟩, bk one, 0, 0, ⟨#[]⟩, 0⟩)) (by exact ret25 (NodeAt.set (NA.out.other (i := 4) hAN) ⟨28, 0, ⟨#[]⟩, ⟨#[]⟩, bk one, 0, 0, ⟨#[]⟩, 0⟩) rfl) (by rfl) ?_
  exact ⟨⟨⟨28, 0, ⟨#[]⟩, ⟨#[]⟩, bk one, 0, 0, ⟨#[]⟩, 0⟩, rfl, HSE.out 28 ⟨28, 0, ⟨#[]⟩, ⟨#[]⟩, bk one, 0, 0, ⟨#[]⟩, 0⟩ hkn.out (by simp [SeemK, bn])⟩, below_set9 (B4.out.setCell (p := ⟨N, 4, none⟩) hNB.out _) (Nat.le_refl _) _ _ _ _ _ _ _ _ _⟩
 ·go_wp2
  refine bodyPost_ret (v := .agg (ndV ⟨29, 0, ⟨#[]⟩, ⟨#[]⟩, ⟨#[]⟩, 0, 0, ⟨#[]⟩, 0⟩)) (by exact ret25 (NodeAt.set NA.out ⟨29, 0, ⟨#[]⟩, ⟨#[]⟩, ⟨#[]⟩, 0, 0, ⟨#[]⟩, 0⟩) rfl) (by rfl) ?_
  exact ⟨⟨⟨29, 0, ⟨#[]⟩, ⟨#[]⟩, ⟨#[]⟩, 0, 0, ⟨#[]⟩, 0⟩, rfl, HSE.out 29 ⟨29, 0, ⟨#[]⟩, ⟨#[]⟩, ⟨#[]⟩, 0, 0, ⟨#[]⟩, 0⟩ hkn.out (by simp [SeemK, bn])⟩, below_set9 B4.out (Nat.le_refl _) _ _ _ _ _ _ _ _ _⟩
 ·go_wp2
  refine bodyPost_ret (v := .agg (ndV ⟨30, 0, ⟨#[]⟩, ⟨#[]⟩, ⟨#[]⟩, 0, 0, ⟨#[]⟩, 0⟩)) (by exact ret25 (NodeAt.set NA.out ⟨30, 0, ⟨#[]⟩, ⟨#[]⟩, ⟨#[]⟩, 0, 0, ⟨#[]⟩, 0⟩) rfl) (by rfl) ?_
  exact ⟨⟨⟨30, 0, ⟨#[]⟩, ⟨#[]⟩, ⟨#[]⟩, 0, 0, ⟨#[]⟩, 0⟩, rfl, HSE.out 30 ⟨30, 0, ⟨#[]⟩, ⟨#[]⟩, ⟨#[]⟩, 0, 0, ⟨#[]⟩, 0⟩ hkn.out (by simp [SeemK, bn])⟩, below_set9 B4.out (Nat.le_refl _) _ _ _ _ _ _ _ _ _⟩
end Go.Proofs.YtekgnogjfggnmaaGreatDoor

namespace Go.Proofs.YtekgnogjfggnmaaGreatDoor
open Go.RowKit
theorem nd_modM (M : List Nd) (n m : Nat) (f : Nd → Nd) (hm : m < M.length) : nd (M.modify n f) m = if m = n then f (nd M m) else nd M m := by
 have h1 : m < (M.modify n f).length := by rw [List.length_modify]; exact hm
 unfold nd
 rw [List.getD_eq_getElem?_getD, List.getD_eq_getElem?_getD, List.getElem?_eq_getElem h1, List.getElem?_eq_getElem hm, Option.getD_some, Option.getD_some, List.getElem_modify]
 by_cases h : n = m
 ·rw [if_pos h, if_pos h.symm]
 ·rw [if_neg h, if_neg (fun e => h e.symm)]
theorem closeL_nd (L : List Nd) (O : List Nat) {m : Nat} (hm : m < L.length) : nd (closeL L O) m = if m ∈ O then fSize ((L.length : Int) - (m : Int)) (nd L m) else nd L m := by
 have key : ∀ (O : List Nat) (M : List Nd), M.length = L.length → nd (O.foldl (fun M n => M.modify n (fSize ((L.length : Int) - (n : Int)))) M) m = if m ∈ O then fSize ((L.length : Int) - (m : Int)) (nd M m) else nd M m := by
  intro O
  induction O with
  | nil => intro M _; rfl
  | cons n O ih =>
   intro M hM
   rw [List.foldl_cons, ih _ (by rw [List.length_modify]; exact hM), nd_modM _ _ _ _ (by omega)]
   by_cases h1 : m = n
   ·subst h1
    rw [if_pos rfl, if_pos (List.mem_cons_self ..)]
    split
    ·rfl
    ·rfl
   ·rw [if_neg h1]
    by_cases h2 : m ∈ O
    ·rw [if_pos h2, if_pos (List.mem_cons_of_mem _ h2)]
    ·rw [if_neg h2, if_neg (fun h => (List.mem_cons.1 h).elim (fun e => h1 e) h2)]
 exact key O L rfl
theorem ext_nd {A B : List Nd} (hl : A.length = B.length) (h : ∀ m, m < A.length → nd A m = nd B m) : A = B := by
 refine List.ext_getElem hl fun i h2 h3 => ?_
 have := h i h2
 unfold nd at this
 rw [List.getD_eq_getElem?_getD, List.getD_eq_getElem?_getD, List.getElem?_eq_getElem h2, List.getElem?_eq_getElem h3] at this
 exact this
theorem stk_app (ds es : List Nat) : ∀ k, k ≤ ds.length → stk (ds ++ es) k = stk ds k
 | 0, _ => rfl
 | k + 1, h => by
  unfold stk
  rw [stk_app ds es k (by omega), List.getD_eq_getElem?_getD, List.getD_eq_getElem?_getD, List.getElem?_append_left (by omega)]
theorem cls_app (ds es : List Nat) (m : Nat) : ∀ k, k ≤ ds.length → cls (ds ++ es) m k = cls ds m k
 | 0, _ => rfl
 | k + 1, h => by
  unfold cls
  rw [cls_app ds es m k (by omega), stk_app ds es (k + 1) h]
theorem dok_snoc {ds : List Nat} (h : DOk ds) {d : Nat} (hd : d ≤ (stk ds ds.length).length) : DOk (ds ++ [d]) := fun k hk => by
 rw [List.length_append, List.length_singleton] at hk
 rw [stk_app ds [d] k (by omega)]
 by_cases e : k = ds.length
 ·subst e
  rw [List.getD_eq_getElem?_getD, List.getElem?_append_right (Nat.le_refl _), Nat.sub_self]
  exact hd
 ·rw [List.getD_eq_getElem?_getD, List.getElem?_append_left (by omega), ← List.getD_eq_getElem?_getD]
  exact h k (by omega)
theorem dok_last {ds es : List Nat} {d : Nat} (h : DOk (ds ++ d :: es)) : d ≤ (stk ds ds.length).length := by
 have := h ds.length (by rw [List.length_append, List.length_cons]; omega)
 rw [stk_app ds _ ds.length (Nat.le_refl _), List.getD_eq_getElem?_getD, List.getElem?_append_right (Nat.le_refl _), Nat.sub_self] at this
 exact this
theorem stk_last (ds : List Nat) (d : Nat) : stk (ds ++ [d]) (ds.length + 1) = (stk ds ds.length).take d ++ [ds.length] := by
 show (stk (ds ++ [d]) ds.length).take ((ds ++ [d]).getD ds.length 0) ++ [ds.length] = _
 rw [stk_app ds _ ds.length (Nat.le_refl _), List.getD_eq_getElem?_getD, List.getElem?_append_right (Nat.le_refl _), Nat.sub_self]
 rfl
def dps (acc : List (Nd × Nat)) : List Nat := acc.map (·.2)
theorem dps_len (acc : List (Nd × Nat)) : (dps acc).length = acc.length := List.length_map ..
def stkA (acc : List (Nd × Nat)) : List Nat := stk (dps acc) acc.length
def half (acc : List (Nd × Nat)) : List Nd := (List.range acc.length).map fun m => { (acc.getD m default).1 with size := if m ∈ stkA acc then 0 else ((cls (dps acc) m acc.length : Nat) : Int) - (m : Int) }
theorem half_len (acc : List (Nd × Nat)) : (half acc).length = acc.length := by unfold half; rw [List.length_map, List.length_range]
theorem half_nd (acc : List (Nd × Nat)) {m : Nat} (hm : m < acc.length) : nd (half acc) m = { (acc.getD m default).1 with size := if m ∈ stkA acc then 0 else ((cls (dps acc) m acc.length : Nat) : Int) - (m : Int) } := by
 unfold nd half
 rw [List.getD_eq_getElem?_getD, List.getElem?_map, List.getElem?_range hm]
 rfl
theorem stkA_lt {acc : List (Nd × Nat)} {m : Nat} (h : m ∈ stkA acc) : m < acc.length := stk_lt h
theorem stkA_le (acc : List (Nd × Nat)) : (stkA acc).length ≤ acc.length := by
 have := (stk_sub (dps acc) acc.length).length_le
 rw [List.length_range] at this
 exact this
theorem cls_on {acc : List (Nd × Nat)} {m : Nat} (h : m ∈ stkA acc) : cls (dps acc) m acc.length = acc.length := by
 have h1 := stkA_lt h
 have := (cls_iff (ds := dps acc) (m := m) acc.length acc.length h1 (Nat.le_refl _)).1 h
 have := cls_le (ds := dps acc) (m := m) acc.length (by omega)
 omega
theorem half_end (acc : List (Nd × Nat)) : closeL (half acc) (stkA acc) = mkL acc := by
 refine ext_nd (by rw [closeL_len, half_len, mkL_len]) fun m hm => ?_
 rw [closeL_len, half_len] at hm
 rw [closeL_nd _ _ (by rw [half_len]; exact hm), half_nd _ hm, mkL_nd _ hm, half_len]
 by_cases h : m ∈ stkA acc
 ·rw [if_pos h, if_pos h]
  have := cls_on h
  unfold dps at this
  rw [this]
  rfl
 ·rw [if_neg h, if_neg h]
  rfl
theorem half_next (acc : List (Nd × Nat)) (x : Nd) (d : Nat) (hx : x.size = 0) : closeL (half acc) ((stkA acc).drop d) ++ [x] = half (acc ++ [(x, d)]) := by
 have hl : acc.length = (dps acc).length := (dps_len acc).symm
 have hdp : dps (acc ++ [(x, d)]) = dps acc ++ [d] := by unfold dps; rw [List.map_append]; rfl
 have hst : stkA (acc ++ [(x, d)]) = (stkA acc).take d ++ [acc.length] := by
  unfold stkA
  rw [hdp, List.length_append, List.length_singleton]
  have := stk_last (dps acc) d
  rw [dps_len] at this
  exact this
 have hnd : (stkA acc).Nodup := (stk_sub (dps acc) acc.length).nodup List.nodup_range
 refine ext_nd (by rw [List.length_append, closeL_len, half_len, half_len, List.length_append]; rfl) fun m hm => ?_
 rw [List.length_append, closeL_len, half_len, List.length_singleton] at hm
 rw [half_nd _ (by rw [List.length_append, List.length_singleton]; exact hm), hst, hdp, List.length_append, List.length_singleton]
 by_cases e : m = acc.length
 ·subst e
  have h1 : nd (closeL (half acc) ((stkA acc).drop d) ++ [x]) acc.length = x := by
   unfold nd
   rw [List.getD_eq_getElem?_getD, List.getElem?_append_right (by rw [closeL_len, half_len]; exact Nat.le_refl _), closeL_len, half_len, Nat.sub_self]
   rfl
  have h2 : ((acc ++ [(x, d)]).getD acc.length default).1 = x := by
   rw [List.getD_eq_getElem?_getD, List.getElem?_append_right (Nat.le_refl _), Nat.sub_self]
   rfl
  rw [h1, h2, if_pos (by simp)]
  cases x
  simp only at hx
  subst hx
  rfl
 ·have hm2 : m < acc.length := by omega
  have h1 : nd (closeL (half acc) ((stkA acc).drop d) ++ [x]) m = nd (closeL (half acc) ((stkA acc).drop d)) m := by
   unfold nd
   rw [List.getD_eq_getElem?_getD, List.getD_eq_getElem?_getD, List.getElem?_append_left (by rw [closeL_len, half_len]; exact hm2)]
  have h2 : ((acc ++ [(x, d)]).getD m default) = acc.getD m default := by
   rw [List.getD_eq_getElem?_getD, List.getD_eq_getElem?_getD, List.getElem?_append_left hm2]
  rw [h1, h2, closeL_nd _ _ (by rw [half_len]; exact hm2), half_nd _ hm2, half_len]
  have hsp : stkA acc = (stkA acc).take d ++ (stkA acc).drop d := (List.take_append_drop _ _).symm
  have hmem : m ∈ (stkA acc).take d ++ [acc.length] ↔ m ∈ (stkA acc).take d := by
   rw [List.mem_append, List.mem_singleton]
   exact ⟨fun h => h.elim id (fun h => absurd h e), Or.inl⟩
  have hcl : m ∉ (stkA acc).take d → cls (dps acc ++ [d]) m (acc.length + 1) = cls (dps acc) m acc.length := fun hn => by
   show (if m ∈ stk (dps acc ++ [d]) (acc.length + 1) then acc.length + 1 else cls (dps acc ++ [d]) m acc.length) = _
   rw [if_neg, cls_app _ _ _ _ (by omega)]
   intro hh
   apply hn
   apply hmem.1
   rw [← hst]
   unfold stkA
   rw [hdp, List.length_append, List.length_singleton]
   exact hh
  by_cases h3 : m ∈ (stkA acc).drop d
  ·have h4 : m ∉ (stkA acc).take d := fun h5 => by
    rw [hsp] at hnd
    exact (List.nodup_append.1 hnd).2.2 m h5 m h3 rfl
   have h6 : m ∈ stkA acc := List.mem_of_mem_drop h3
   rw [if_pos h3, if_pos h6, if_neg (fun h => h4 (hmem.1 h)), hcl h4, cls_on h6]
   rfl
  ·rw [if_neg h3]
   by_cases h4 : m ∈ (stkA acc).take d
   ·rw [if_pos (List.mem_of_mem_take h4), if_pos (hmem.2 h4)]
   ·have h6 : m ∉ stkA acc := fun h => by
     rw [hsp, List.mem_append] at h
     exact h.elim h4 h3
    rw [if_neg h6, if_neg (fun h => h4 (hmem.1 h)), hcl h4]
open Classical in
noncomputable def contS (f : Nat) (acc : List (Nd × Nat)) (t : List UInt8) : Option (List Nd) :=
 (rowsS f t).bind fun ps => if DOk (dps (acc ++ ps)) ∧ treeS nameS typeS (mkL (acc ++ ps)) = true then some (mkL (acc ++ ps)) else none
theorem cont_start (t : List UInt8) (h : t.length ≤ 4194304) : contS t.length [] t = readS t := by
 unfold contS readS
 rw [if_neg (by omega)]
 rfl
theorem cont_big (t : List UInt8) (h : 4194304 < t.length) : readS t = none := by
 unfold readS
 rw [if_pos h]
theorem cont_end (f : Nat) (acc : List (Nd × Nat)) (hd : DOk (dps acc)) : contS f acc [] = if treeS nameS typeS (mkL acc) = true then some (mkL acc) else none := by
 unfold contS
 have : rowsS f [] = some [] := by cases f <;> rfl
 rw [this, Option.bind_some, List.append_nil]
 by_cases h : treeS nameS typeS (mkL acc) = true
 ·rw [if_pos h, if_pos ⟨hd, h⟩]
 ·rw [if_neg h, if_neg (fun q => h q.2)]
theorem cont_nocut (f : Nat) (acc : List (Nd × Nat)) (c : UInt8) (t : List UInt8) (h : cut10 (c :: t) = none) : contS (f + 1) acc (c :: t) = none := by
 unfold contS rowsS
 rw [h]
 rfl
theorem cont_noline (f : Nat) (acc : List (Nd × Nat)) (c : UInt8) (t a b : List UInt8) (h : cut10 (c :: t) = some (a, b)) (hl : lineS a = none) : contS (f + 1) acc (c :: t) = none := by
 unfold contS rowsS
 rw [h, Option.bind_some]
 simp only
 rw [hl]
 rfl
theorem cont_deep (f : Nat) (acc : List (Nd × Nat)) (c : UInt8) (t a b : List UInt8) (x : Nd) (d : Nat) (h : cut10 (c :: t) = some (a, b)) (hl : lineS a = some (x, d)) (hd : (stkA acc).length < d) : contS (f + 1) acc (c :: t) = none := by
 unfold contS rowsS
 rw [h, Option.bind_some]
 simp only
 rw [hl, Option.bind_some]
 cases rowsS f b with
 | none => rfl
 | some ps =>
  simp only [Option.map_some, Option.bind_some]
  rw [if_neg]
  intro q
  have h1 : dps (acc ++ (x, d) :: ps) = dps acc ++ d :: dps ps := by unfold dps; rw [List.map_append]; rfl
  rw [h1] at q
  have := dok_last q.1
  rw [dps_len] at this
  unfold stkA at hd
  omega
theorem cont_next (f : Nat) (acc : List (Nd × Nat)) (c : UInt8) (t a b : List UInt8) (x : Nd) (d : Nat) (h : cut10 (c :: t) = some (a, b)) (hl : lineS a = some (x, d)) : contS (f + 1) acc (c :: t) = contS f (acc ++ [(x, d)]) b := by
 unfold contS
 conv => lhs; unfold rowsS
 rw [h, Option.bind_some]
 simp only
 rw [hl, Option.bind_some]
 cases rowsS f b with
 | none => rfl
 | some ps =>
  simp only [Option.map_some, Option.bind_some]
  rw [List.append_assoc]
  rfl
theorem dok_next {acc : List (Nd × Nat)} (h : DOk (dps acc)) (x : Nd) {d : Nat} (hd : d ≤ (stkA acc).length) : DOk (dps (acc ++ [(x, d)])) := by
 have h1 : dps (acc ++ [(x, d)]) = dps acc ++ [d] := by unfold dps; rw [List.map_append]; rfl
 rw [h1]
 refine dok_snoc h ?_
 rw [dps_len]
 exact hd
theorem stkA_next (acc : List (Nd × Nat)) (x : Nd) (d : Nat) : stkA (acc ++ [(x, d)]) = (stkA acc).take d ++ [acc.length] := by
 have hdp : dps (acc ++ [(x, d)]) = dps acc ++ [d] := by unfold dps; rw [List.map_append]; rfl
 unfold stkA
 rw [hdp, List.length_append, List.length_singleton]
 have := stk_last (dps acc) d
 rw [dps_len] at this
 exact this
end Go.Proofs.YtekgnogjfggnmaaGreatDoor
