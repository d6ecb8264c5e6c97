import Derived.Lib.LastIndexLaws
import Derived.Lib.CutLaws
import Derived.Test.YtekgnogjfggnmaaGreatDoorM42
import Derived.Test.YtekgnogjfggnmaaGreatDoorM32
import Derived.Test.YtekgnogjfggnmaaGreatDoorM18
import Derived.Test.YtekgnogjfggnmaaGreatDoorM29
import Derived.Test.YtekgnogjfggnmaaGreatDoorM41
import Derived.Test.YtekgnogjfggnmaaGreatDoorM34
import Derived.Test.YtekgnogjfggnmaaGreatDoorM37
namespace Go.Proofs.YtekgnogjfggnmaaGreatDoor
open Go.RowKit

/-! closeNodes. -/

def fSize (z : Int) (x : Nd) : Nd := { x with size := z }
theorem flat_set : ∀ (L : List Nd) (k : Nat) (z : Int), k < L.length → (flat L).set (k * 9 + 8) (.int .i64 z) = flat (L.modify k (fSize z))
  | [], k, z, h => by simp at h
  | x :: L, 0, z, _ => by
    obtain ⟨kd, ps, nm, lb, ty, op, it, tx, zz⟩ := x
    show ((ndV _).toList ++ flat L).set (0 * 9 + 8) _ = (ndV _).toList ++ flat L
    rfl
  | x :: L, k + 1, z, h => by
    have ih := flat_set L k z (by simpa using h)
    have hl : (ndV x).toList.length = 9 := rfl
    show ((ndV x).toList ++ flat L).set ((k + 1) * 9 + 8) _ = (ndV x).toList ++ flat (L.modify k (fSize z))
    rw [List.set_append_right _ _ (by rw [hl]; omega), hl, show (k + 1) * 9 + 8 - 9 = k * 9 + 8 by omega, ih]
/-- The sizes of the nodes in O, set when the list ends here. -/
def closeL (L : List Nd) (O : List Nat) : List Nd := O.foldl (fun M n => M.modify n (fSize ((L.length : Int) - (n : Int)))) L
theorem closeL_snoc (L : List Nd) (O : List Nat) (n : Nat) : closeL L (O ++ [n]) = (closeL L O).modify n (fSize ((L.length : Int) - (n : Int))) := by
  unfold closeL
  rw [List.foldl_append]
  rfl
theorem closeL_len (L : List Nd) : ∀ O : List Nat, (closeL L O).length = L.length := by
  have key : ∀ (O : List Nat) (M : List Nd), (O.foldl (fun M n => M.modify n (fSize ((L.length : Int) - (n : Int)))) M).length = M.length := by
    intro O
    induction O with
    | nil => intro M; rfl
    | cons n O ih => intro M; rw [List.foldl_cons, ih, List.length_modify]
  exact fun O => key O L

theorem closeNodes_nil (w : World) (p q : Option Addr) (n cap c : Nat) :
    Calls Tryz.prog 36 #[.slice p n cap, .slice q 0 c] w fun e w' => e = .returned (.tuple #[]) ∧ w = w' := by
  go_enter Tryz.func36, Tryz.ntmps36
  go_wp2
  go_loop [8] (fun i => i = .int .i64 0) (fun _ => 0)
  case atStart => rfl
  case round =>
    subst hrel
    go_wp2
    go_end0
    exact ⟨rfl, rfl⟩

set_option maxRecDepth 100000 in
set_option maxHeartbeats 400000 in
theorem closeNodes_any (w : World) (B g cap : Nat) (L : List Nd) (O : List Nat) (go oo co : Nat) (hO : ∀ j, j < O.length → w.cell? ⟨go, oo + j, none⟩ = some (.int .i64 ((O.getD j 0 : Nat) : Int))) (hne : go ≠ g) (hlt : ∀ n ∈ O, n < L.length)
    (ho : w.ownsRow B 42 9 (.slice (some ⟨g, 0, none⟩) L.length cap) L.length (flat L)) (hL : L.length ≤ 1353245080300) (hOl : O.length ≤ 1353245080300) :
    Calls Tryz.prog 36 #[.slice (some ⟨g, 0, none⟩) L.length cap, .slice (some ⟨go, oo, none⟩) O.length co] w fun e w' => e = .returned (.tuple #[]) ∧ w'.ownsRow B 42 9 (.slice (some ⟨g, 0, none⟩) L.length cap) L.length (flat (closeL L O)) ∧ w.grownBy w' (some g) := by
  have HO : Hid (w.ownsRow B 42 9 (.slice (some ⟨g, 0, none⟩) L.length cap) L.length (flat L)) := ho
  have HC : Hid (∀ j, j < O.length → w.cell? ⟨go, oo + j, none⟩ = some (.int .i64 ((O.getD j 0 : Nat) : Int))) := hO
  have HT : Hid (∀ n ∈ O, n < L.length) := hlt
  clear ho hO hlt
  go_enter Tryz.func36, Tryz.ntmps36
  go_wp2
  go_loopw [8] (fun i wr => ∃ k : Nat, k ≤ O.length ∧ i = .int .i64 (k : Int) ∧ Hid (wr.ownsRow B 42 9 (.slice (some ⟨g, 0, none⟩) L.length cap) L.length (flat (closeL L (O.take k)))) ∧ Hid (w.grownBy wr (some g))) (fun i _ => O.length - (intOf i).toNat)
  case atStart => exact ⟨0, by omega, rfl, HO, ⟨rfl, rfl, rfl, Nat.le_refl _, fun _ _ _ => rfl⟩⟩
  case round =>
    obtain ⟨k, hk, rfl, ho, hg⟩ := hrel
    by_cases hlt : k < O.length
    · have c1 : wr.cell? ⟨go, oo + k, none⟩ = some (.int .i64 ((O.getD k 0 : Nat) : Int)) := by
        have h1 := HC.out k hlt
        have h2 := World.block_lt_of_cell? w _ h1
        have h3 := hg.out.block go h2 (by simpa using hne)
        simpa only [World.cell?, h3] using h1
      have hn := HT.out (O.getD k 0) (by rw [List.getD_eq_getElem?_getD, List.getElem?_eq_getElem hlt]; exact List.getElem_mem hlt)
      have HK : Hid (O.take (k + 1) = O.take k ++ [O.getD k 0]) := by
        show O.take (k + 1) = O.take k ++ [O.getD k 0]
        rw [List.take_succ_eq_append_getElem hlt, List.getD_eq_getElem?_getD, List.getElem?_eq_getElem hlt]
        rfl
      generalize O.getD k 0 = n at c1 hn HK
      have hll := closeL_len L (O.take k)
      have c2 : ∃ v0, wr.cell? ⟨g, n * 9 + 8, none⟩ = some v0 := by
        have := ho.out.cellAt (n * 9 + 8) (by omega)
        rw [flat_at _ n 8 (by omega) (by omega)] at this
        exact ⟨_, this.trans rfl⟩
      obtain ⟨v0, c2⟩ := c2
      have fz : wr.frozen? ⟨g, n * 9 + 8, none⟩ = false := by
        have hth := (lay_of_own (L := closeL L (O.take k)) (by rw [hll]; exact ho.out)).2.2
        have := (hth (n * 9 + 8) (by omega)).2
        simpa using this
      have i0 : (0 : Int) ≤ (n : Int) := by omega
      have i1 : (n : Int) < (L.length : Int) := by omega
      have hwr : IntKind.i64.wrap ((L.length : Int) - (n : Int)) = (L.length : Int) - (n : Int) := by rw [IntKind.wrap_i64]; omega
      have HS := ho.out.stored (n * 9 + 8) (.int .i64 ((L.length : Int) - (n : Int)))
      have HS2 : Hid ((wr.setCell ⟨g, n * 9 + 8, none⟩ (.int .i64 ((L.length : Int) - (n : Int)))).ownsRow B 42 9 (.slice (some ⟨g, 0, none⟩) L.length cap) L.length (flat (closeL L (O.take (k + 1))))) := by
        show World.ownsRow _ _ _ _ _ _ _
        rw [HK.out, closeL_snoc, ← flat_set _ n _ (by omega)]
        exact HS.1
      have HS3 : Hid (w.grownBy (wr.setCell ⟨g, n * 9 + 8, none⟩ (.int .i64 ((L.length : Int) - (n : Int)))) (some g)) := by
        have h2 := HS.2
        have h1 := hg.out
        exact ⟨h2.os.trans h1.os, h2.tape.trans h1.tape, h2.output.trans h1.output, Nat.le_trans h1.size h2.size, fun k hk hne => (h2.block k (Nat.lt_of_lt_of_le hk h1.size) hne).trans (h1.block k hk hne)⟩
      clear HS hll
      go_wp2
      refine ⟨⟨k + 1, by omega, by go_num, HS2, HS3⟩, by simp [intOf]; omega⟩
    · obtain rfl : k = O.length := by omega
      rw [List.take_length] at ho
      go_wp2
      go_end0
      exact ⟨rfl, ho.out, hg.out⟩
end Go.Proofs.YtekgnogjfggnmaaGreatDoor

namespace Go.Proofs.YtekgnogjfggnmaaGreatDoor
open Go.RowKit

/-! The blanks ahead of a line; the last sign of a place. -/

theorem told_trim (l : List UInt8) : Lib.trimLeftB l 32 = told l := rfl
theorem occ_cons (c : UInt8) (r sub : List UInt8) (j : Nat) : Lib.occAt (c :: r) sub (j + 1) = Lib.occAt r sub j := rfl
theorem last_cases : ∀ l : List UInt8, (lastSp l = none ∧ ∀ j, Lib.occAt l [32, 64] j = false) ∨ ∃ a b, lastSp l = some (a, b) ∧ l = a ++ 32 :: 64 :: b ∧ ∀ j, a.length < j → Lib.occAt l [32, 64] j = false
  | [] => Or.inl ⟨rfl, fun j => by simp [Lib.occAt]⟩
  | c :: r => by
    rcases last_cases r with ⟨h1, h2⟩ | ⟨a, b, h1, h2, h3⟩
    · by_cases hc : c = 32
      · subst hc
        cases r with
        | nil =>
          refine Or.inl ⟨by unfold lastSp; rw [h1]; rfl, fun j => ?_⟩
          cases j with
          | zero => rfl
          | succ j => rw [occ_cons]; exact h2 j
        | cons d b =>
          by_cases hd : d = 64
          · subst hd
            refine Or.inr ⟨[], b, by unfold lastSp; rw [h1]; rfl, rfl, fun j hj => ?_⟩
            obtain ⟨i, rfl⟩ : ∃ i, j = i + 1 := ⟨j - 1, by simp at hj; omega⟩
            rw [occ_cons]
            exact h2 i
          · refine Or.inl ⟨by unfold lastSp; rw [h1]; simp [hd], fun j => ?_⟩
            cases j with
            | zero =>
              have : (64 == d) = false := by simpa using fun e => hd e.symm
              simp [Lib.occAt, List.isPrefixOf, this]
            | succ j => rw [occ_cons]; exact h2 j
      · refine Or.inl ⟨by unfold lastSp; rw [h1]; simp [hc], fun j => ?_⟩
        cases j with
        | zero =>
          have : (32 == c) = false := by simpa using fun e => hc e.symm
          simp [Lib.occAt, List.isPrefixOf, this]
        | succ j => rw [occ_cons]; exact h2 j
    · refine Or.inr ⟨c :: a, b, by unfold lastSp; rw [h1], by rw [h2]; rfl, fun j hj => ?_⟩
      obtain ⟨i, rfl⟩ : ∃ i, j = i + 1 := ⟨j - 1, by simp at hj; omega⟩
      rw [occ_cons]
      exact h3 i (by simpa using hj)

theorem last_ix (l : List UInt8) : (Lib.lastIndex l [32, 64] = -1 ∧ lastSp l = none) ∨ ∃ k : Nat, Lib.lastIndex l [32, 64] = (k : Int) ∧ k + 2 ≤ l.length ∧ lastSp l = some (l.take k, l.drop (k + 2)) := by
  rcases last_cases l with ⟨h1, h2⟩ | ⟨a, b, h1, h2, h3⟩
  · refine Or.inl ⟨?_, h1⟩
    unfold Lib.lastIndex
    split
    · rcases Lib.lastOcc_spec l [32, 64] (l.length - [(32 : UInt8), 64].length + 1) with ⟨e, _⟩ | ⟨i, _, _, hc, _⟩
      · exact e
      · rw [h2 i] at hc; cases hc
    · rfl
  · have hl : l.length = a.length + 2 + b.length := by rw [h2]; simp; omega
    have ho : Lib.occAt l [32, 64] a.length = true := by
      rw [h2]
      unfold Lib.occAt
      rw [List.drop_left' rfl]
      rfl
    refine Or.inr ⟨a.length, ?_, by omega, ?_⟩
    · unfold Lib.lastIndex
      rw [if_pos (show [(32 : UInt8), 64].length ≤ l.length from (by show 2 ≤ l.length; omega))]
      rcases Lib.lastOcc_spec l [32, 64] (l.length - [(32 : UInt8), 64].length + 1) with ⟨_, hn⟩ | ⟨i, hi, e, hc, hn⟩
      · rw [hn a.length (by show a.length < l.length - 2 + 1; omega)] at ho; cases ho
      · rw [e]
        rcases Nat.lt_trichotomy i a.length with q | q | q
        · rw [hn a.length q (by show a.length < l.length - 2 + 1; omega)] at ho; cases ho
        · rw [q]
        · rw [h3 i q] at hc; cases hc
    · rw [h1]
      congr 2
      · rw [h2, List.take_left' rfl]
      · rw [h2, show a ++ 32 :: 64 :: b = (a ++ [32, 64]) ++ b by simp, List.drop_left' (by simp)]
end Go.Proofs.YtekgnogjfggnmaaGreatDoor

namespace Go.Proofs.YtekgnogjfggnmaaGreatDoor
open Go.RowKit

/-! readText. -/

namespace Lx
theorem scan_code (f : Nat) : ∀ (k : Nat) (l : List UInt8) (e q : Nat), scanS f k l = .inl (e, q) → 20 ≤ e := by
  induction f with
  | zero => intro k l e q h; simp [scanS] at h; omega
  | succ f ih =>
    intro k l e q h
    match l with
    | [] => cases h
    | c :: r =>
      simp only [scanS] at h
      split at h
      · exact ih _ _ _ _ h
      · split at h
        · exact ih _ _ _ _ h
        · split at h
          · rename_i e' he
            cases h
            exact (tok_err he).1
          · split at h
            · rename_i p hp
              cases h
              exact ih _ _ _ _ hp
            · cases h
theorem txt_text (f : Nat) : ∀ (n : Nat) (V l : List UInt8) (x : Tk), txtS f n V l = .inr x → V.length ≤ 200 → x.text.length ≤ 200 := by
  induction f with
  | zero => intro n V l x h; simp [txtS] at h
  | succ f ih =>
    intro n V l x h hV
    match l with
    | [] => simp [txtS] at h
    | c :: r =>
      unfold txtS at h
      split at h
      · cases h; exact hV
      · split at h
        · cases h
        · rename_i hn
          refine ih _ _ _ _ h ?_
          rw [List.length_append, List.length_singleton]
          omega
theorem sgs_small : ∀ s ∈ sgs, s.data.toList.length ≤ 2 := by decide
theorem tok_text {l : List UInt8} {x : Tk} (h : tokS l = .inr x) : x.text.length ≤ l.length + 200 := by
  match l with
  | [] => simp [tokS] at h
  | c :: r =>
    simp only [tokS] at h
    split at h
    · have := tw_le (p := innerB) (c :: r)
      unfold wordS at h
      simp only at h
      split at h
      · cases h; simp only; omega
      · split at h
        · cases h
        · cases h; simp only; omega
    · split at h
      · unfold numS at h
        simp only at h
        split at h
        · cases h
        · split at h
          · cases h
          · split at h
            · cases h; simp
            · cases h
      · split at h
        · have := txt_text _ _ _ _ _ h (by simp)
          omega
        · unfold signS at h
          split at h
          · rename_i s hf
            cases h
            have := sgs_small s (List.mem_of_find?_eq_some hf)
            simp only
            omega
          · cases h
theorem scan_text (f : Nat) : ∀ (k : Nat) (l : List UInt8) (j : Nat) (x : Tk) (rest : List (Nat × Tk)), scanS f k l = .inr ((j, x) :: rest) → x.text.length ≤ l.length + 200 := by
  induction f with
  | zero => intro k l j x rest h; cases h
  | succ f ih =>
    intro k l j x rest h
    match l with
    | [] => cases h; simp
    | c :: r =>
      simp only [scanS] at h
      split at h
      · have := ih _ _ _ _ _ h
        rw [List.length_cons]
        omega
      · split at h
        · have := ih _ _ _ _ _ h
          rw [List.length_drop] at this
          omega
        · split at h
          · cases h
          · rename_i y hy
            split at h
            · cases h
            · cases h
              exact tok_text hy
end Lx

theorem txt_some {t w : List UInt8} (h : t.length ≤ 200) (hq : Lx.qt t = w) : txtS w = some t := by
  subst hq
  have hx : ∃ u : List UInt8, u.length ≤ 200 ∧ Lx.qt u = Lx.qt t := ⟨t, h, rfl⟩
  unfold txtS
  rw [dif_pos hx]
  exact congrArg some (Lx.qt_inj _ _ hx.choose_spec.2)
theorem txt_bad {w : List UInt8} {p : Nat × Nat} (h : Lx.scanS (w.length + 1) 0 w = .inl p) : txtS w = none := by
  cases ht : txtS w with
  | none => rfl
  | some t =>
    obtain ⟨h1, h2⟩ := txt_sound ht
    have := Lx.scan_q t
    rw [h1, if_pos h2, h] at this
    cases this
theorem txt_hit {w : List UInt8} {k : Nat} {x : Lx.Tk} {rest : List (Nat × Lx.Tk)} (h : Lx.scanS (w.length + 1) 0 w = .inr ((k, x) :: rest)) (hq : Lx.qt x.text = w) : txtS w = some x.text := by
  by_cases hl : x.text.length ≤ 200
  · exact txt_some hl hq
  · have := Lx.scan_q x.text
    rw [hq, if_neg hl, h] at this
    cases this
theorem txt_miss {w : List UInt8} {k : Nat} {x : Lx.Tk} {rest : List (Nat × Lx.Tk)} (h : Lx.scanS (w.length + 1) 0 w = .inr ((k, x) :: rest)) (hq : Lx.qt x.text ≠ w) : txtS w = none := by
  cases ht : txtS w with
  | none => rfl
  | some t =>
    obtain ⟨h1, h2⟩ := txt_sound ht
    have := Lx.scan_q t
    rw [h1, if_pos h2, h] at this
    cases this
    exact absurd h1 hq
theorem trim_cut (l : List UInt8) : Lib.trimPrefix l [32] = cutB l := by
  unfold Lib.trimPrefix
  cases l with
  | nil => rfl
  | cons c r =>
    show _ = if c = 32 then r else c :: r
    by_cases h : c = 32
    · subst h
      rw [if_pos rfl, if_pos (by simp [Lib.hasPrefix, List.isPrefixOf])]
      rfl
    · rw [if_neg h, if_neg]
      have : (32 == c) = false := by simpa using fun e => h e.symm
      simp [Lib.hasPrefix, List.isPrefixOf, this]
theorem cutB_le (l : List UInt8) : (cutB l).length ≤ l.length := by
  cases l with
  | nil => exact Nat.le_refl _
  | cons c r =>
    show (if c = 32 then r else c :: r).length ≤ _
    split <;> simp

set_option maxRecDepth 100000 in
set_option maxHeartbeats 1000000 in
theorem readText_any (s : ByteArray) (w : World) (T : TypeId) (p : Value) (h : NoD w T p) (ht : Lx.Tabs w) (hs : s.size ≤ 4194304) :
    Calls Tryz.prog 96 #[.string s] w fun e w' => Hid (Ans e T p ((txtS (cutB s.data.toList)).map fun q => .string (bk q))) ∧ Below w.heap.size w w' := by
  have HN : Hid (∀ w' : World, Below w.heap.size w w' → w'.cell? ⟨0, 0, none⟩ = some (.iface T p)) := fun w' hb => h.next hb
  have hl := cutB_le s.data.toList
  rw [← Lib.size_eq] at hl
  obtain ⟨wd, hwd⟩ : ∃ wd, cutB s.data.toList = wd := ⟨_, rfl⟩
  rw [hwd] at hl
  have HTP : Hid (∀ w' : World, Calls Tryz.prog 115 #[.string s, .string ⟨#[32]⟩] w' fun e w'' => e = .returned (.string (bk wd)) ∧ w'' = w') := fun w' => by
    have := Tryz.strings_TrimPrefix s ⟨#[32]⟩ w'
    rw [show (⟨#[32]⟩ : ByteArray).data.toList = [32] from rfl, trim_cut, hwd] at this
    exact this
  have HSC0 := Lx.scan_any (bk wd) w (by rw [bk_size]; omega) ht
  rw [bk_list, bk_size] at HSC0
  rw [hwd]
  clear ht h hwd
  cases hS : Lx.scanS (wd.length + 1) 0 wd with
  | inl q =>
    obtain ⟨code, k⟩ := q
    have HR : Hid (txtS wd = none) := txt_bad hS
    have hcode := Lx.scan_code _ _ _ _ _ hS
    have hc0 : ((code : Int) == 0) = false := by rw [beq_eq_false_iff_ne]; omega
    rw [hS] at HSC0
    have HSC : Hid (Calls Tryz.prog 116 #[.string (bk wd)] w fun e w' => e = .returned (.tuple #[.slice none 0 0, .agg #[.int .i64 (code : Int), .int .i64 (k : Int)]]) ∧ Below w.heap.size w w') := HSC0
    clear HSC0 hS
    obtain ⟨b, hb⟩ : ∃ b, bk wd = b := ⟨_, rfl⟩
    rw [hb] at HTP HSC
    clear hb
    go_enter Tryz.func96, Tryz.ntmps96
    go_wp2_with (first
      | (go_at_call 115; refine (HTP.out _).mono ?_; rintro e w1 ⟨rfl, rfl⟩)
      | (go_at_call 116; refine HSC.out.mono ?_; rintro e w2 ⟨rfl, hw2⟩; have hn2 := HN.out (w2.alloc (.cells #[.int .i64 (code : Int), .int .i64 (k : Int)] 97)) (hw2.alloc hw2.size _))
      | go_in)
    exact ⟨rfl, (by show Ans _ T p _; rw [HR.out]; exact (rfl : _ = _)), hw2.alloc hw2.size _⟩
  | inr toks =>
    cases toks with
    | nil => exact absurd rfl (Lx.scan_some _ _ _ _ hS)
    | cons q rest =>
    obtain ⟨k, x⟩ := q
    have hxl := Lx.scan_text _ _ _ _ _ _ hS
    rw [hS] at HSC0
    have HSC : Hid (Calls Tryz.prog 116 #[.string (bk wd)] w fun e w' => ∃ g cap, e = .returned (.tuple #[.slice (some ⟨g, 0, none⟩) (rest.length + 1) cap, .agg #[.int .i64 0, .int .i64 0]]) ∧ w'.cell? ⟨g, 3, none⟩ = some (.string (bk x.text)) ∧ Below w.heap.size w w') := by
      refine HSC0.mono ?_
      rintro e w' ⟨v, rfl, ho, hb⟩
      rcases ho.2 with ⟨_, hn⟩ | ⟨g, cap, cur, rfl, _⟩
      · simp at hn
      · refine ⟨g, cap, rfl, ?_, hb⟩
        have := ho.cellAt 3 (by rw [List.length_cons]; omega)
        rw [this]
        rfl
    clear HSC0
    have HQ : Hid (∀ w' : World, Calls Tryz.prog 33 #[.string (bk x.text)] w' fun e w'' => e = .returned (.string (bk (Lx.qt x.text))) ∧ Below w'.heap.size w' w'') := fun w' => by
      have := Lx.quote_any (bk x.text) (bk (Lx.qt x.text)) w' (by rw [bk_size]; omega) rfl
      exact this
    have HH : Hid (Lx.qt x.text = wd → txtS wd = some x.text) := fun h => txt_hit hS h
    have HM : Hid (Lx.qt x.text ≠ wd → txtS wd = none) := fun h => txt_miss hS h
    clear hS
    obtain ⟨b, hb⟩ : ∃ b, bk wd = b := ⟨_, rfl⟩
    obtain ⟨t, ht⟩ : ∃ t, bk x.text = t := ⟨_, rfl⟩
    obtain ⟨qt, hqt⟩ : ∃ qt, bk (Lx.qt x.text) = qt := ⟨_, rfl⟩
    have HBD : Hid (qt.toList == b.toList ↔ Lx.qt x.text = wd) := by
      show _ ↔ _
      rw [← hb, ← hqt, toL, toL, bk_list, bk_list, beq_iff_eq]
    have HT : Hid (bk x.text = t) := ht
    rw [hb] at HTP HSC
    rw [ht, hqt] at HQ
    rw [ht] at HSC
    clear hb ht hqt
    go_enter Tryz.func96, Tryz.ntmps96
    go_wp2_with (first
      | (go_at_call 115; refine (HTP.out _).mono ?_; rintro e w1 ⟨rfl, rfl⟩)
      | (go_at_call 116; refine HSC.out.mono ?_; rintro e w2 ⟨g, cap, rfl, hc3, hw2⟩; have hc4 : (w2.alloc (.cells #[.int .i64 0, .int .i64 0] 97)).cell? ⟨g, 3, none⟩ = some (.string t) := (World.cell?_alloc_lt _ _ _ (World.block_lt_of_cell? w2 _ hc3)).trans hc3)
      | (go_at_call 33; refine (HQ.out _).mono ?_; rintro e w3 ⟨rfl, hw3⟩; have hw13 : Below w1.heap.size w1 w3 := (hw2.alloc hw2.size _).trans (hw3.mono (by simp; exact Nat.le_succ_of_le hw2.size)); have hn3 := HN.out w3 hw13; have hc5 : w3.cell? ⟨g, 3, none⟩ = some (.string t) := (hw3.cell (p := ⟨g, 3, none⟩) (World.block_lt_of_cell? _ _ hc4)).trans hc4)
      | go_in)
    · have h1 : (!qt.toList == b.toList) = true := by assumption
      refine ⟨rfl, ?_, hw13⟩
      show Ans _ T p _
      rw [HM.out (fun e => by rw [HBD.out.2 e] at h1; cases h1)]
      exact (rfl : _ = _)
    · have h1 : (!qt.toList == b.toList) = false := by assumption
      go_ret
      refine ⟨?_, hw13⟩
      show Ans _ T p _
      rw [HH.out (HBD.out.1 (by simpa using h1)), ← HT.out]
      exact (rfl : _ = _)
end Go.Proofs.YtekgnogjfggnmaaGreatDoor

namespace Go.Proofs.YtekgnogjfggnmaaGreatDoor
open Go.RowKit

/-! A node that is being read. -/

/-- A node's cells, in a variable of its own. -/
structure NodeAt (w : World) (B : Nat) (x : Nd) : Prop where
  c : ∀ j u, (ndV x)[j]? = some u → w.cell? ⟨B, j, none⟩ = some u
  f : ∀ j, j < 9 → w.frozen? ⟨B, j, none⟩ = false
theorem NodeAt.lt {w : World} {B : Nat} {x : Nd} (h : NodeAt w B x) : B < w.heap.size := World.block_lt_of_cell? w ⟨B, 0, none⟩ (h.c 0 _ rfl)
theorem NodeAt.below {w w' : World} {B C : Nat} {x : Nd} (h : NodeAt w B x) (hb : Below C w w') (hB : B < C) : NodeAt w' B x :=
  ⟨fun j u hu => (hb.cell (p := ⟨B, j, none⟩) hB).trans (h.c j u hu), fun j hj => (hb.frozen (p := ⟨B, j, none⟩) hB).trans (h.f j hj)⟩
theorem NodeAt.next {w w' : World} {B : Nat} {x : Nd} (h : NodeAt w B x) (hb : Below w.heap.size w w') : NodeAt w' B x := h.below hb h.lt
theorem NodeAt.new (w : World) (x : Nd) (t : TypeId) : NodeAt (w.alloc (.cells (ndV x) t)) w.heap.size x := by
  refine ⟨fun j u hu => cell_new _ _ _ _ _ hu, fun j hj => ?_⟩
  simp only [World.frozen?, heap_alloc_new w (.cells (ndV x) t)]
  simp
theorem NodeAt.other {w : World} {B C i : Nat} {x : Nd} {v : Value} (h : NodeAt w B x) (hne : B ≠ C) : NodeAt (w.setCell ⟨C, i, none⟩ v) B x := by
  refine ⟨fun j u hu => ?_, fun j hj => ?_⟩
  · rw [World.cell?_setCell_other _ _ _ _ (fun e => hne (by cases e; rfl))]
    exact h.c j u hu
  · rw [World.frozen?_setCell]
    exact h.f j hj
theorem NodeAt.put {w : World} {B i : Nat} {x y : Nd} {v : Value} (h : NodeAt w B x) (hi : i < 9) (he : ∀ j, (ndV y)[j]? = if j = i then some v else (ndV x)[j]?) : NodeAt (w.setCell ⟨B, i, none⟩ v) B y := by
  refine ⟨fun j u hu => ?_, fun j hj => ?_⟩
  · rw [he j] at hu
    by_cases hj : j = i
    · subst hj
      rw [if_pos rfl] at hu
      cases hu
      obtain ⟨z, hz⟩ : ∃ z, (ndV x)[j]? = some z := ⟨_, Array.getElem?_eq_getElem (by show j < 9; omega)⟩
      exact World.cell?_setCell_same' _ _ _ (by rw [h.c j z hz]; rfl)
    · rw [if_neg hj] at hu
      rw [World.cell?_setCell_other _ _ _ _ (fun e => hj (by cases e; rfl))]
      exact h.c j u hu
  · rw [World.frozen?_setCell]
    exact h.f j hj
theorem nd9 {P : Nat → Prop} (h0 : P 0) (h1 : P 1) (h2 : P 2) (h3 : P 3) (h4 : P 4) (h5 : P 5) (h6 : P 6) (h7 : P 7) (h8 : P 8) (hr : ∀ j, 9 ≤ j → P j) (j : Nat) : P j := by
  by_cases h : 9 ≤ j
  · exact hr j h
  · have : j = 0 ∨ j = 1 ∨ j = 2 ∨ j = 3 ∨ j = 4 ∨ j = 5 ∨ j = 6 ∨ j = 7 ∨ j = 8 := by omega
    rcases this with rfl | rfl | rfl | rfl | rfl | rfl | rfl | rfl | rfl <;> assumption
theorem ndV_out (x : Nd) {j : Nat} (h : 9 ≤ j) : (ndV x)[j]? = none := Array.getElem?_eq_none (by show 9 ≤ j; exact h)
theorem NodeAt.pLabel {w : World} {B : Nat} {x : Nd} (h : NodeAt w B x) (v : ByteArray) : NodeAt (w.setCell ⟨B, 3, none⟩ (.string v)) B { x with label := v } := h.put (by omega) (nd9 (P := fun j => (ndV { x with label := v })[j]? = if j = 3 then some (.string v) else (ndV x)[j]?) rfl rfl rfl rfl rfl rfl rfl rfl rfl (fun j hj => by rw [ndV_out _ hj, if_neg (by omega), ndV_out _ hj]))
theorem NodeAt.pName {w : World} {B : Nat} {x : Nd} (h : NodeAt w B x) (v : ByteArray) : NodeAt (w.setCell ⟨B, 2, none⟩ (.string v)) B { x with name := v } := h.put (by omega) (nd9 (P := fun j => (ndV { x with name := v })[j]? = if j = 2 then some (.string v) else (ndV x)[j]?) rfl rfl rfl rfl rfl rfl rfl rfl rfl (fun j hj => by rw [ndV_out _ hj, if_neg (by omega), ndV_out _ hj]))
theorem NodeAt.pTyp {w : World} {B : Nat} {x : Nd} (h : NodeAt w B x) (v : ByteArray) : NodeAt (w.setCell ⟨B, 4, none⟩ (.string v)) B { x with typ := v } := h.put (by omega) (nd9 (P := fun j => (ndV { x with typ := v })[j]? = if j = 4 then some (.string v) else (ndV x)[j]?) rfl rfl rfl rfl rfl rfl rfl rfl rfl (fun j hj => by rw [ndV_out _ hj, if_neg (by omega), ndV_out _ hj]))
theorem NodeAt.pText {w : World} {B : Nat} {x : Nd} (h : NodeAt w B x) (v : ByteArray) : NodeAt (w.setCell ⟨B, 7, none⟩ (.string v)) B { x with text := v } := h.put (by omega) (nd9 (P := fun j => (ndV { x with text := v })[j]? = if j = 7 then some (.string v) else (ndV x)[j]?) rfl rfl rfl rfl rfl rfl rfl rfl rfl (fun j hj => by rw [ndV_out _ hj, if_neg (by omega), ndV_out _ hj]))
theorem NodeAt.pInt {w : World} {B : Nat} {x : Nd} (h : NodeAt w B x) (v : Int) : NodeAt (w.setCell ⟨B, 6, none⟩ (.int .i64 v)) B { x with int := v } := h.put (by omega) (nd9 (P := fun j => (ndV { x with int := v })[j]? = if j = 6 then some (.int .i64 v) else (ndV x)[j]?) rfl rfl rfl rfl rfl rfl rfl rfl rfl (fun j hj => by rw [ndV_out _ hj, if_neg (by omega), ndV_out _ hj]))
theorem NodeAt.pOp {w : World} {B : Nat} {x : Nd} (h : NodeAt w B x) (v : Int) : NodeAt (w.setCell ⟨B, 5, none⟩ (.int .i64 v)) B { x with op := v } := h.put (by omega) (nd9 (P := fun j => (ndV { x with op := v })[j]? = if j = 5 then some (.int .i64 v) else (ndV x)[j]?) rfl rfl rfl rfl rfl rfl rfl rfl rfl (fun j hj => by rw [ndV_out _ hj, if_neg (by omega), ndV_out _ hj]))
theorem NodeAt.pPos {w : World} {B : Nat} {x : Nd} (h : NodeAt w B x) (v : Int) : NodeAt (w.setCell ⟨B, 1, none⟩ (.int .i64 v)) B { x with pos := v } := h.put (by omega) (nd9 (P := fun j => (ndV { x with pos := v })[j]? = if j = 1 then some (.int .i64 v) else (ndV x)[j]?) rfl rfl rfl rfl rfl rfl rfl rfl rfl (fun j hj => by rw [ndV_out _ hj, if_neg (by omega), ndV_out _ hj]))

theorem NodeAt.pKind {w : World} {B : Nat} {x : Nd} (h : NodeAt w B x) (v : Int) : NodeAt (w.setCell ⟨B, 0, none⟩ (.int .i64 v)) B { x with kind := v } := h.put (by omega) (nd9 (P := fun j => (ndV { x with kind := v })[j]? = if j = 0 then some (.int .i64 v) else (ndV x)[j]?) rfl rfl rfl rfl rfl rfl rfl rfl rfl (fun j hj => by rw [ndV_out _ hj, if_neg (by omega), ndV_out _ hj]))
theorem NodeAt.pSize {w : World} {B : Nat} {x : Nd} (h : NodeAt w B x) (v : Int) : NodeAt (w.setCell ⟨B, 8, none⟩ (.int .i64 v)) B { x with size := v } := h.put (by omega) (nd9 (P := fun j => (ndV { x with size := v })[j]? = if j = 8 then some (.int .i64 v) else (ndV x)[j]?) rfl rfl rfl rfl rfl rfl rfl rfl rfl (fun j hj => by rw [ndV_out _ hj, if_neg (by omega), ndV_out _ hj]))
/-- A node is stored whole. -/
theorem NodeAt.set {w : World} {B : Nat} {x : Nd} (h : NodeAt w B x) (y : Nd) : NodeAt (((((((((w.setCell ⟨B, 0, none⟩ (.int .i64 y.kind)).setCell ⟨B, 1, none⟩ (.int .i64 y.pos)).setCell ⟨B, 2, none⟩ (.string y.name)).setCell ⟨B, 3, none⟩ (.string y.label)).setCell ⟨B, 4, none⟩ (.string y.typ)).setCell ⟨B, 5, none⟩ (.int .i64 y.op)).setCell ⟨B, 6, none⟩ (.int .i64 y.int)).setCell ⟨B, 7, none⟩ (.string y.text)).setCell ⟨B, 8, none⟩ (.int .i64 y.size)) B y :=
  ((((((((h.pKind y.kind).pPos y.pos).pName y.name).pLabel y.label).pTyp y.typ).pOp y.op).pInt y.int).pText y.text).pSize y.size
theorem below_set9 {w0 w : World} {B : Nat} (h : Below w0.heap.size w0 w) (hB : w0.heap.size ≤ B) (a b c d e f g i j : Value) : Below w0.heap.size w0 (((((((((w.setCell ⟨B, 0, none⟩ a).setCell ⟨B, 1, none⟩ b).setCell ⟨B, 2, none⟩ c).setCell ⟨B, 3, none⟩ d).setCell ⟨B, 4, none⟩ e).setCell ⟨B, 5, none⟩ f).setCell ⟨B, 6, none⟩ g).setCell ⟨B, 7, none⟩ i).setCell ⟨B, 8, none⟩ j) :=
  ((((((((h.setCell (p := ⟨B, 0, none⟩) hB a).setCell (p := ⟨B, 1, none⟩) hB b).setCell (p := ⟨B, 2, none⟩) hB c).setCell (p := ⟨B, 3, none⟩) hB d).setCell (p := ⟨B, 4, none⟩) hB e).setCell (p := ⟨B, 5, none⟩) hB f).setCell (p := ⟨B, 6, none⟩) hB g).setCell (p := ⟨B, 7, none⟩) hB i).setCell (p := ⟨B, 8, none⟩) hB j
set_option maxRecDepth 100000 in
theorem ret9 {w : World} {B : Nat} {y : Nd} {tm : Array Value} (h : NodeAt w B y) (h2 : tm[2]?.getD undef = .pointer (some ⟨B, 0, none⟩)) : (results Tryz.f63 tm).run Tryz.prog w = .ok (.agg (ndV y)) w := by
  obtain ⟨kd, ps, nm, lb, ty, op, it, tx, zz⟩ := y
  have c0 : w.cell? ⟨B, 0, none⟩ = some (.int .i64 kd) := h.c 0 _ rfl
  have c1 : w.cell? ⟨B, 1, none⟩ = some (.int .i64 ps) := h.c 1 _ rfl
  have c2 : w.cell? ⟨B, 2, none⟩ = some (.string nm) := h.c 2 _ rfl
  have c3 : w.cell? ⟨B, 3, none⟩ = some (.string lb) := h.c 3 _ rfl
  have c4 : w.cell? ⟨B, 4, none⟩ = some (.string ty) := h.c 4 _ rfl
  have c5 : w.cell? ⟨B, 5, none⟩ = some (.int .i64 op) := h.c 5 _ rfl
  have c6 : w.cell? ⟨B, 6, none⟩ = some (.int .i64 it) := h.c 6 _ rfl
  have c7 : w.cell? ⟨B, 7, none⟩ = some (.string tx) := h.c 7 _ rfl
  have c8 : w.cell? ⟨B, 8, none⟩ = some (.int .i64 zz) := h.c 8 _ rfl
  simp [results, Tryz.results63, go_sem, h2, c0, c1, c2, c3, c4, c5, c6, c7, c8, ndV]

/-- The tables that the reader leans on. -/
structure RTab (w : World) (T : TypeId) (p : Value) : Prop where
  n : NoD w T p
  d : DTab w
  l : Lx.Tabs w
theorem RTab.size {w : World} {T : TypeId} {p : Value} (h : RTab w T p) : 15 ≤ w.heap.size := h.l.size
theorem RTab.below {w w' : World} {T : TypeId} {p : Value} {B : Nat} (h : RTab w T p) (hb : Below B w w') (hB : 15 ≤ B) : RTab w' T p :=
  ⟨(hb.cell (p := ⟨0, 0, none⟩) (by show 0 < B; omega)).trans h.n, h.d.on hb hB, h.l.below hb hB⟩
theorem RTab.next {w w' : World} {T : TypeId} {p : Value} (h : RTab w T p) (hb : Below w.heap.size w w') : RTab w' T p := h.below hb h.size
theorem RTab.err {w : World} {T : TypeId} {p : Value} (h : RTab w T p) : ErrT w := ⟨h.l.e6, h.l.e7⟩

/-- The reader's world while a node is read: A the answer's variable, N the node's, S the shape's. -/
structure RSt (w wx : World) (A N S : Nat) (s : Shp) (x : Nd) (T : TypeId) (p : Value) : Prop where
  node : NodeAt wx N x
  res : NodeAt wx A ⟨0, 0, ⟨#[]⟩, ⟨#[]⟩, ⟨#[]⟩, 0, 0, ⟨#[]⟩, 0⟩
  sh : ∀ j u, (shpV s)[j]? = some u → wx.cell? ⟨S, j, none⟩ = some u
  tab : RTab wx T p
  bel : Below w.heap.size w wx
  hA : w.heap.size ≤ A
  hN : w.heap.size ≤ N
  hAN : A ≠ N
  hSN : S ≠ N
theorem RSt.next {w wx w' : World} {A N S : Nat} {s : Shp} {x : Nd} {T : TypeId} {p : Value} (h : RSt w wx A N S s x T p) (hb : Below wx.heap.size wx w') : RSt w w' A N S s x T p :=
  { h with
    node := h.node.next hb
    res := h.res.next hb
    sh := fun j u hu => by
      have h1 := h.sh j u hu
      exact (hb.cell (p := ⟨S, j, none⟩) (World.block_lt_of_cell? wx _ h1)).trans h1
    tab := h.tab.next hb
    bel := h.bel.trans (hb.mono h.bel.size) }
theorem RSt.put {w wx : World} {A N S i : Nat} {s : Shp} {x y : Nd} {T : TypeId} {p v : Value} (h : RSt w wx A N S s x T p) (hw : 15 ≤ w.heap.size) (hn : NodeAt (wx.setCell ⟨N, i, none⟩ v) N y) : RSt w (wx.setCell ⟨N, i, none⟩ v) A N S s y T p :=
  { h with
    node := hn
    res := h.res.other h.hAN
    sh := fun j u hu => by
      rw [World.cell?_setCell_other _ _ _ _ (fun e => h.hSN (by cases e; rfl))]
      exact h.sh j u hu
    tab := h.tab.below ((Below.refl w.heap.size wx).setCell (p := ⟨N, i, none⟩) h.hN v) hw
    bel := h.bel.setCell (p := ⟨N, i, none⟩) h.hN v }

/-! The words of a line, one after the other. -/

def g6 (x : Nd) (r : List UInt8) : Option Nd := if r = [] then some x else none
noncomputable def g5 (s : Shp) (x : Nd) (r : List UInt8) : Option Nd := if 0 < s.longest then (txtS (cutB r)).bind fun t => g6 { x with text := bk t } [] else g6 x r
noncomputable def g4 (s : Shp) (x : Nd) (r : List UInt8) : Option Nd := if 0 < s.lastOp then (nxtW r).bind fun q => (opS s.firstOp s.lastOp q.1).bind fun v => g5 s { x with op := v } q.2 else g5 s x r
noncomputable def g3 (s : Shp) (x : Nd) (r : List UInt8) : Option Nd := if s.typ ≠ 0 then (nxtW r).bind fun q => (fillS q.1).bind fun v => g4 s { x with typ := bk v } q.2 else g4 s x r
noncomputable def g2 (s : Shp) (x : Nd) (r : List UInt8) : Option Nd := if s.name ≠ 0 then (nxtW r).bind fun q => (fillS q.1).bind fun v => g3 s { x with name := bk v } q.2 else g3 s x r
noncomputable def g1 (s : Shp) (x : Nd) (r : List UInt8) : Option Nd := if 0 < s.mostInt then (nxtW r).bind fun q => (numS q.1).bind fun v => g2 s { x with int := v } q.2 else g2 s x r
noncomputable def g0 (s : Shp) (x : Nd) (r : List UInt8) : Option Nd := if s.label ≠ 0 then (nxtW r).bind fun q => (fillS q.1).bind fun v => g1 s { x with label := bk v } q.2 else g1 s x r

theorem rdW_bind {on : Prop} [Decidable on] (r : List UInt8) (G : List UInt8 → List UInt8 → Option Nd) : (rdW on r).bind (fun q => G q.1 q.2) = if on then (nxtW r).bind fun q => (fillS q.1).bind fun v => G v q.2 else G [] r := by
  unfold rdW
  split
  · cases nxtW r with
    | none => rfl
    | some q =>
      simp only [Option.bind_some]
      cases fillS q.1 <;> rfl
  · rfl
theorem rdN_bind {on : Prop} [Decidable on] (r : List UInt8) (G : Int → List UInt8 → Option Nd) : (rdN on r).bind (fun q => G q.1 q.2) = if on then (nxtW r).bind fun q => (numS q.1).bind fun v => G v q.2 else G 0 r := by
  unfold rdN
  split
  · cases nxtW r with
    | none => rfl
    | some q =>
      simp only [Option.bind_some]
      cases numS q.1 <;> rfl
  · rfl
theorem rdO_bind {on : Prop} [Decidable on] (lo hi : Int) (r : List UInt8) (G : Int → List UInt8 → Option Nd) : (rdO on lo hi r).bind (fun q => G q.1 q.2) = if on then (nxtW r).bind fun q => (opS lo hi q.1).bind fun v => G v q.2 else G 0 r := by
  unfold rdO
  split
  · cases nxtW r with
    | none => rfl
    | some q =>
      simp only [Option.bind_some]
      cases opS lo hi q.1 <;> rfl
  · rfl
theorem rdT_bind {on : Prop} [Decidable on] (r : List UInt8) (G : List UInt8 → List UInt8 → Option Nd) : (rdT on r).bind (fun q => G q.1 q.2) = if on then (txtS (cutB r)).bind fun t => G t [] else G [] r := by
  unfold rdT
  split
  · cases txtS (cutB r) <;> rfl
  · rfl
/-- What the words say, word for word. -/
theorem words_eq (told : List UInt8) : wordsS told = (kndS (fstW told).1).bind fun k => g0 (shp (k : Int)).1 ⟨k, 0, ⟨#[]⟩, ⟨#[]⟩, ⟨#[]⟩, 0, 0, ⟨#[]⟩, 0⟩ (fstW told).2 := by
  unfold wordsS
  refine congrArg _ (funext fun k => ?_)
  generalize (shp (k : Int)).1 = s
  have e5 : ∀ (nm lb ty : List UInt8) (op it : Int) (r : List UInt8), ((rdT (0 < s.longest) r).bind fun q6 => if q6.2 = [] then some (⟨k, 0, bk nm, bk lb, bk ty, op, it, bk q6.1, 0⟩ : Nd) else none) = g5 s ⟨k, 0, bk nm, bk lb, bk ty, op, it, ⟨#[]⟩, 0⟩ r := fun nm lb ty op it r =>
    rdT_bind r (fun t r' => if r' = [] then some (⟨k, 0, bk nm, bk lb, bk ty, op, it, bk t, 0⟩ : Nd) else none)
  have e4 : ∀ (nm lb ty : List UInt8) (it : Int) (r : List UInt8), ((rdO (0 < s.lastOp) s.firstOp s.lastOp r).bind fun q5 => g5 s ⟨k, 0, bk nm, bk lb, bk ty, q5.1, it, ⟨#[]⟩, 0⟩ q5.2) = g4 s ⟨k, 0, bk nm, bk lb, bk ty, 0, it, ⟨#[]⟩, 0⟩ r := fun nm lb ty it r =>
    rdO_bind _ _ r (fun v r' => g5 s ⟨k, 0, bk nm, bk lb, bk ty, v, it, ⟨#[]⟩, 0⟩ r')
  have e3 : ∀ (nm lb : List UInt8) (it : Int) (r : List UInt8), ((rdW (s.typ ≠ 0) r).bind fun q4 => g4 s ⟨k, 0, bk nm, bk lb, bk q4.1, 0, it, ⟨#[]⟩, 0⟩ q4.2) = g3 s ⟨k, 0, bk nm, bk lb, ⟨#[]⟩, 0, it, ⟨#[]⟩, 0⟩ r := fun nm lb it r =>
    rdW_bind r (fun v r' => g4 s ⟨k, 0, bk nm, bk lb, bk v, 0, it, ⟨#[]⟩, 0⟩ r')
  have e2 : ∀ (lb : List UInt8) (it : Int) (r : List UInt8), ((rdW (s.name ≠ 0) r).bind fun q3 => g3 s ⟨k, 0, bk q3.1, bk lb, ⟨#[]⟩, 0, it, ⟨#[]⟩, 0⟩ q3.2) = g2 s ⟨k, 0, ⟨#[]⟩, bk lb, ⟨#[]⟩, 0, it, ⟨#[]⟩, 0⟩ r := fun lb it r =>
    rdW_bind r (fun v r' => g3 s ⟨k, 0, bk v, bk lb, ⟨#[]⟩, 0, it, ⟨#[]⟩, 0⟩ r')
  have e1 : ∀ (lb : List UInt8) (r : List UInt8), ((rdN (0 < s.mostInt) r).bind fun q2 => g2 s ⟨k, 0, ⟨#[]⟩, bk lb, ⟨#[]⟩, 0, q2.1, ⟨#[]⟩, 0⟩ q2.2) = g1 s ⟨k, 0, ⟨#[]⟩, bk lb, ⟨#[]⟩, 0, 0, ⟨#[]⟩, 0⟩ r := fun lb r =>
    rdN_bind r (fun v r' => g2 s ⟨k, 0, ⟨#[]⟩, bk lb, ⟨#[]⟩, 0, v, ⟨#[]⟩, 0⟩ r')
  have e0 : ∀ (r : List UInt8), ((rdW (s.label ≠ 0) r).bind fun q1 => g1 s ⟨k, 0, ⟨#[]⟩, bk q1.1, ⟨#[]⟩, 0, 0, ⟨#[]⟩, 0⟩ q1.2) = g0 s ⟨k, 0, ⟨#[]⟩, ⟨#[]⟩, ⟨#[]⟩, 0, 0, ⟨#[]⟩, 0⟩ r := fun r =>
    rdW_bind r (fun v r' => g1 s ⟨k, 0, ⟨#[]⟩, bk v, ⟨#[]⟩, 0, 0, ⟨#[]⟩, 0⟩ r')
  rw [← e0]
  refine congrArg _ (funext fun q1 => ?_)
  rw [← e1]
  refine congrArg _ (funext fun q2 => ?_)
  rw [← e2]
  refine congrArg _ (funext fun q3 => ?_)
  rw [← e3]
  refine congrArg _ (funext fun q4 => ?_)
  rw [← e4]
  refine congrArg _ (funext fun q5 => ?_)
  exact e5 _ _ _ _ _ _
theorem fst_len (t : List UInt8) : (fstW t).1.length ≤ t.length ∧ (fstW t).2.length ≤ t.length := by
  have := congrArg List.length (fst_join t)
  rw [List.length_append] at this
  omega
theorem nxt_len {r a b : List UInt8} (h : nxtW r = some (a, b)) : a.length ≤ r.length ∧ b.length ≤ r.length := by
  cases r with
  | nil => cases h
  | cons c r =>
    have e : fstW r = (a, b) := Option.some.inj h
    have := fst_len r
    rw [e] at this
    rw [List.length_cons]
    simp only at this
    omega
end Go.Proofs.YtekgnogjfggnmaaGreatDoor

namespace Go.Proofs.YtekgnogjfggnmaaGreatDoor
open Go.RowKit

/-! The reader's lists when some lines have been read. -/

theorem nd_modM (M : List Nd) (n m : Nat) (f : Nd → Nd) (hm : m < M.length) : nd (M.modify n f) m = if m = n then f (nd M m) else nd M m := by
  have h1 : m < (M.modify n f).length := by rw [List.length_modify]; exact hm
  unfold nd
  rw [List.getD_eq_getElem?_getD, List.getD_eq_getElem?_getD, List.getElem?_eq_getElem h1, List.getElem?_eq_getElem hm, Option.getD_some, Option.getD_some, List.getElem_modify]
  by_cases h : n = m
  · rw [if_pos h, if_pos h.symm]
  · rw [if_neg h, if_neg (fun e => h e.symm)]
theorem fSize_same (z : Int) (x : Nd) : fSize z (fSize z x) = fSize z x := rfl
theorem closeL_nd (L : List Nd) (O : List Nat) {m : Nat} (hm : m < L.length) : nd (closeL L O) m = if m ∈ O then fSize ((L.length : Int) - (m : Int)) (nd L m) else nd L m := by
  have key : ∀ (O : List Nat) (M : List Nd), M.length = L.length → nd (O.foldl (fun M n => M.modify n (fSize ((L.length : Int) - (n : Int)))) M) m = if m ∈ O then fSize ((L.length : Int) - (m : Int)) (nd M m) else nd M m := by
    intro O
    induction O with
    | nil => intro M _; rfl
    | cons n O ih =>
      intro M hM
      rw [List.foldl_cons, ih _ (by rw [List.length_modify]; exact hM), nd_modM _ _ _ _ (by omega)]
      by_cases h1 : m = n
      · subst h1
        rw [if_pos rfl, if_pos (List.mem_cons_self ..)]
        split
        · rfl
        · rfl
      · rw [if_neg h1]
        by_cases h2 : m ∈ O
        · rw [if_pos h2, if_pos (List.mem_cons_of_mem _ h2)]
        · rw [if_neg h2, if_neg (fun h => (List.mem_cons.1 h).elim (fun e => h1 e) h2)]
  exact key O L rfl

theorem ext_nd {A B : List Nd} (hl : A.length = B.length) (h : ∀ m, m < A.length → nd A m = nd B m) : A = B := by
  refine List.ext_getElem hl fun i h2 h3 => ?_
  have := h i h2
  unfold nd at this
  rw [List.getD_eq_getElem?_getD, List.getD_eq_getElem?_getD, List.getElem?_eq_getElem h2, List.getElem?_eq_getElem h3] at this
  exact this

theorem stk_app (ds es : List Nat) : ∀ k, k ≤ ds.length → stk (ds ++ es) k = stk ds k
  | 0, _ => rfl
  | k + 1, h => by
    unfold stk
    rw [stk_app ds es k (by omega), List.getD_eq_getElem?_getD, List.getD_eq_getElem?_getD, List.getElem?_append_left (by omega)]
theorem cls_app (ds es : List Nat) (m : Nat) : ∀ k, k ≤ ds.length → cls (ds ++ es) m k = cls ds m k
  | 0, _ => rfl
  | k + 1, h => by
    unfold cls
    rw [cls_app ds es m k (by omega), stk_app ds es (k + 1) h]
theorem dok_app {ds es : List Nat} (h : DOk (ds ++ es)) : DOk ds := fun k hk => by
  have := h k (by rw [List.length_append]; omega)
  rw [stk_app ds es k (by omega), List.getD_eq_getElem?_getD, List.getElem?_append_left hk, ← List.getD_eq_getElem?_getD] at this
  exact this
theorem dok_snoc {ds : List Nat} (h : DOk ds) {d : Nat} (hd : d ≤ (stk ds ds.length).length) : DOk (ds ++ [d]) := fun k hk => by
  rw [List.length_append, List.length_singleton] at hk
  rw [stk_app ds [d] k (by omega)]
  by_cases e : k = ds.length
  · subst e
    rw [List.getD_eq_getElem?_getD, List.getElem?_append_right (Nat.le_refl _), Nat.sub_self]
    exact hd
  · rw [List.getD_eq_getElem?_getD, List.getElem?_append_left (by omega), ← List.getD_eq_getElem?_getD]
    exact h k (by omega)
theorem dok_last {ds es : List Nat} {d : Nat} (h : DOk (ds ++ d :: es)) : d ≤ (stk ds ds.length).length := by
  have := h ds.length (by rw [List.length_append, List.length_cons]; omega)
  rw [stk_app ds _ ds.length (Nat.le_refl _), List.getD_eq_getElem?_getD, List.getElem?_append_right (Nat.le_refl _), Nat.sub_self] at this
  exact this
theorem stk_last (ds : List Nat) (d : Nat) : stk (ds ++ [d]) (ds.length + 1) = (stk ds ds.length).take d ++ [ds.length] := by
  show (stk (ds ++ [d]) ds.length).take ((ds ++ [d]).getD ds.length 0) ++ [ds.length] = _
  rw [stk_app ds _ ds.length (Nat.le_refl _), List.getD_eq_getElem?_getD, List.getElem?_append_right (Nat.le_refl _), Nat.sub_self]
  rfl

def dps (acc : List (Nd × Nat)) : List Nat := acc.map (·.2)
theorem dps_len (acc : List (Nd × Nat)) : (dps acc).length = acc.length := List.length_map ..
/-- The stack. -/
def stkA (acc : List (Nd × Nat)) : List Nat := stk (dps acc) acc.length
/-- The nodes, those on the stack without a size. -/
def half (acc : List (Nd × Nat)) : List Nd := (List.range acc.length).map fun m => { (acc.getD m default).1 with size := if m ∈ stkA acc then 0 else ((cls (dps acc) m acc.length : Nat) : Int) - (m : Int) }
theorem half_len (acc : List (Nd × Nat)) : (half acc).length = acc.length := by unfold half; rw [List.length_map, List.length_range]
theorem half_nd (acc : List (Nd × Nat)) {m : Nat} (hm : m < acc.length) : nd (half acc) m = { (acc.getD m default).1 with size := if m ∈ stkA acc then 0 else ((cls (dps acc) m acc.length : Nat) : Int) - (m : Int) } := by
  unfold nd half
  rw [List.getD_eq_getElem?_getD, List.getElem?_map, List.getElem?_range hm]
  rfl
theorem stkA_lt {acc : List (Nd × Nat)} {m : Nat} (h : m ∈ stkA acc) : m < acc.length := stk_lt h
theorem stkA_le (acc : List (Nd × Nat)) : (stkA acc).length ≤ acc.length := by
  have := (stk_sub (dps acc) acc.length).length_le
  rw [List.length_range] at this
  exact this
theorem cls_on {acc : List (Nd × Nat)} {m : Nat} (h : m ∈ stkA acc) : cls (dps acc) m acc.length = acc.length := by
  have h1 := stkA_lt h
  have := (cls_iff (ds := dps acc) (m := m) acc.length acc.length h1 (Nat.le_refl _)).1 h
  have := cls_le (ds := dps acc) (m := m) acc.length (by omega)
  omega
theorem half_end (acc : List (Nd × Nat)) : closeL (half acc) (stkA acc) = mkL acc := by
  refine ext_nd (by rw [closeL_len, half_len, mkL_len]) fun m hm => ?_
  rw [closeL_len, half_len] at hm
  rw [closeL_nd _ _ (by rw [half_len]; exact hm), half_nd _ hm, mkL_nd _ hm, half_len]
  by_cases h : m ∈ stkA acc
  · rw [if_pos h, if_pos h]
    have := cls_on h
    unfold dps at this
    rw [this]
    rfl
  · rw [if_neg h, if_neg h]
    rfl
theorem half_next (acc : List (Nd × Nat)) (x : Nd) (d : Nat) (hx : x.size = 0) : closeL (half acc) ((stkA acc).drop d) ++ [x] = half (acc ++ [(x, d)]) := by
  have hl : acc.length = (dps acc).length := (dps_len acc).symm
  have hdp : dps (acc ++ [(x, d)]) = dps acc ++ [d] := by unfold dps; rw [List.map_append]; rfl
  have hst : stkA (acc ++ [(x, d)]) = (stkA acc).take d ++ [acc.length] := by
    unfold stkA
    rw [hdp, List.length_append, List.length_singleton]
    have := stk_last (dps acc) d
    rw [dps_len] at this
    exact this
  have hnd : (stkA acc).Nodup := (stk_sub (dps acc) acc.length).nodup List.nodup_range
  refine ext_nd (by rw [List.length_append, closeL_len, half_len, half_len, List.length_append]; rfl) fun m hm => ?_
  rw [List.length_append, closeL_len, half_len, List.length_singleton] at hm
  rw [half_nd _ (by rw [List.length_append, List.length_singleton]; exact hm), hst, hdp, List.length_append, List.length_singleton]
  by_cases e : m = acc.length
  · subst e
    have h1 : nd (closeL (half acc) ((stkA acc).drop d) ++ [x]) acc.length = x := by
      unfold nd
      rw [List.getD_eq_getElem?_getD, List.getElem?_append_right (by rw [closeL_len, half_len]; exact Nat.le_refl _), closeL_len, half_len, Nat.sub_self]
      rfl
    have h2 : ((acc ++ [(x, d)]).getD acc.length default).1 = x := by
      rw [List.getD_eq_getElem?_getD, List.getElem?_append_right (Nat.le_refl _), Nat.sub_self]
      rfl
    rw [h1, h2, if_pos (by simp)]
    cases x
    simp only at hx
    subst hx
    rfl
  · have hm2 : m < acc.length := by omega
    have h1 : nd (closeL (half acc) ((stkA acc).drop d) ++ [x]) m = nd (closeL (half acc) ((stkA acc).drop d)) m := by
      unfold nd
      rw [List.getD_eq_getElem?_getD, List.getD_eq_getElem?_getD, List.getElem?_append_left (by rw [closeL_len, half_len]; exact hm2)]
    have h2 : ((acc ++ [(x, d)]).getD m default) = acc.getD m default := by
      rw [List.getD_eq_getElem?_getD, List.getD_eq_getElem?_getD, List.getElem?_append_left hm2]
    rw [h1, h2, closeL_nd _ _ (by rw [half_len]; exact hm2), half_nd _ hm2, half_len]
    have hsp : stkA acc = (stkA acc).take d ++ (stkA acc).drop d := (List.take_append_drop _ _).symm
    have hmem : m ∈ (stkA acc).take d ++ [acc.length] ↔ m ∈ (stkA acc).take d := by
      rw [List.mem_append, List.mem_singleton]
      exact ⟨fun h => h.elim id (fun h => absurd h e), Or.inl⟩
    have hcl : m ∉ (stkA acc).take d → cls (dps acc ++ [d]) m (acc.length + 1) = cls (dps acc) m acc.length := fun hn => by
      show (if m ∈ stk (dps acc ++ [d]) (acc.length + 1) then acc.length + 1 else cls (dps acc ++ [d]) m acc.length) = _
      rw [if_neg, cls_app _ _ _ _ (by omega)]
      intro hh
      apply hn
      apply hmem.1
      rw [← hst]
      unfold stkA
      rw [hdp, List.length_append, List.length_singleton]
      exact hh
    by_cases h3 : m ∈ (stkA acc).drop d
    · have h4 : m ∉ (stkA acc).take d := fun h5 => by
        rw [hsp] at hnd
        exact (List.nodup_append.1 hnd).2.2 m h5 m h3 rfl
      have h6 : m ∈ stkA acc := List.mem_of_mem_drop h3
      rw [if_pos h3, if_pos h6, if_neg (fun h => h4 (hmem.1 h)), hcl h4, cls_on h6]
      rfl
    · rw [if_neg h3]
      by_cases h4 : m ∈ (stkA acc).take d
      · rw [if_pos (List.mem_of_mem_take h4), if_pos (hmem.2 h4)]
      · have h6 : m ∉ stkA acc := fun h => by
          rw [hsp, List.mem_append] at h
          exact h.elim h4 h3
        rw [if_neg h6, if_neg (fun h => h4 (hmem.1 h)), hcl h4]

open Classical in
/-- What is answered when the lines acc have been read and t is left. -/
noncomputable def contS (f : Nat) (acc : List (Nd × Nat)) (t : List UInt8) : Option (List Nd) :=
  (rowsS f t).bind fun ps => if DOk (dps (acc ++ ps)) ∧ treeS nameS typeS (mkL (acc ++ ps)) = true then some (mkL (acc ++ ps)) else none
theorem cont_start (t : List UInt8) (h : t.length ≤ 4194304) : contS t.length [] t = readS t := by
  unfold contS readS
  rw [if_neg (by omega)]
  rfl
theorem cont_big (t : List UInt8) (h : 4194304 < t.length) : readS t = none := by
  unfold readS
  rw [if_pos h]
theorem cont_end (f : Nat) (acc : List (Nd × Nat)) (hd : DOk (dps acc)) : contS f acc [] = if treeS nameS typeS (mkL acc) = true then some (mkL acc) else none := by
  unfold contS
  have : rowsS f [] = some [] := by cases f <;> rfl
  rw [this, Option.bind_some, List.append_nil]
  by_cases h : treeS nameS typeS (mkL acc) = true
  · rw [if_pos h, if_pos ⟨hd, h⟩]
  · rw [if_neg h, if_neg (fun q => h q.2)]
theorem cont_nocut (f : Nat) (acc : List (Nd × Nat)) (c : UInt8) (t : List UInt8) (h : cut10 (c :: t) = none) : contS (f + 1) acc (c :: t) = none := by
  unfold contS rowsS
  rw [h]
  rfl
theorem cont_noline (f : Nat) (acc : List (Nd × Nat)) (c : UInt8) (t a b : List UInt8) (h : cut10 (c :: t) = some (a, b)) (hl : lineS a = none) : contS (f + 1) acc (c :: t) = none := by
  unfold contS rowsS
  rw [h, Option.bind_some]
  simp only
  rw [hl]
  rfl
theorem cont_deep (f : Nat) (acc : List (Nd × Nat)) (c : UInt8) (t a b : List UInt8) (x : Nd) (d : Nat) (h : cut10 (c :: t) = some (a, b)) (hl : lineS a = some (x, d)) (hd : (stkA acc).length < d) : contS (f + 1) acc (c :: t) = none := by
  unfold contS rowsS
  rw [h, Option.bind_some]
  simp only
  rw [hl, Option.bind_some]
  cases rowsS f b with
  | none => rfl
  | some ps =>
    simp only [Option.map_some, Option.bind_some]
    rw [if_neg]
    intro q
    have h1 : dps (acc ++ (x, d) :: ps) = dps acc ++ d :: dps ps := by unfold dps; rw [List.map_append]; rfl
    rw [h1] at q
    have := dok_last q.1
    rw [dps_len] at this
    unfold stkA at hd
    omega
theorem cont_next (f : Nat) (acc : List (Nd × Nat)) (c : UInt8) (t a b : List UInt8) (x : Nd) (d : Nat) (h : cut10 (c :: t) = some (a, b)) (hl : lineS a = some (x, d)) : contS (f + 1) acc (c :: t) = contS f (acc ++ [(x, d)]) b := by
  unfold contS
  conv => lhs; unfold rowsS
  rw [h, Option.bind_some]
  simp only
  rw [hl, Option.bind_some]
  cases rowsS f b with
  | none => rfl
  | some ps =>
    simp only [Option.map_some, Option.bind_some]
    rw [List.append_assoc]
    rfl
theorem dok_next {acc : List (Nd × Nat)} (h : DOk (dps acc)) (x : Nd) {d : Nat} (hd : d ≤ (stkA acc).length) : DOk (dps (acc ++ [(x, d)])) := by
  have h1 : dps (acc ++ [(x, d)]) = dps acc ++ [d] := by unfold dps; rw [List.map_append]; rfl
  rw [h1]
  refine dok_snoc h ?_
  rw [dps_len]
  exact hd
theorem stkA_next (acc : List (Nd × Nat)) (x : Nd) (d : Nat) : stkA (acc ++ [(x, d)]) = (stkA acc).take d ++ [acc.length] := by
  have hdp : dps (acc ++ [(x, d)]) = dps acc ++ [d] := by unfold dps; rw [List.map_append]; rfl
  unfold stkA
  rw [hdp, List.length_append, List.length_singleton]
  have := stk_last (dps acc) d
  rw [dps_len] at this
  exact this
end Go.Proofs.YtekgnogjfggnmaaGreatDoor

namespace Go.Proofs.YtekgnogjfggnmaaGreatDoor
open Go.RowKit

/-! What was read is no longer than the text; the first line of a text. -/

theorem fill_len {w f : List UInt8} (h : fillS w = some f) : f.length ≤ w.length := by
  unfold fillS at h
  split at h
  · cases h
  · split at h
    · cases h; simp
    · cases h; exact Nat.le_refl _
theorem rdW_len {on : Prop} [Decidable on] {r f r' : List UInt8} (h : rdW on r = some (f, r')) : f.length ≤ r.length ∧ r'.length ≤ r.length := by
  unfold rdW at h
  split at h
  · obtain ⟨⟨a, b⟩, h1, h2⟩ := Option.bind_eq_some_iff.1 h
    obtain ⟨g, h3, h4⟩ := Option.map_eq_some_iff.1 h2
    cases h4
    have := nxt_len h1
    have := fill_len h3
    simp only at *
    omega
  · cases h
    simp
theorem rdN_len {on : Prop} [Decidable on] {r r' : List UInt8} {v : Int} (h : rdN on r = some (v, r')) : r'.length ≤ r.length := by
  unfold rdN at h
  split at h
  · obtain ⟨⟨a, b⟩, h1, h2⟩ := Option.bind_eq_some_iff.1 h
    obtain ⟨g, h3, h4⟩ := Option.map_eq_some_iff.1 h2
    cases h4
    exact (nxt_len h1).2
  · cases h
    exact Nat.le_refl _
theorem rdT_len {on : Prop} [Decidable on] {r t r' : List UInt8} (h : rdT on r = some (t, r')) : t.length ≤ 200 := by
  unfold rdT at h
  split at h
  · obtain ⟨g, h3, h4⟩ := Option.map_eq_some_iff.1 h
    cases h4
    exact (txt_sound h3).2
  · cases h
    simp
/-- A node whose texts are not too long. -/
def FineN (x : Nd) : Prop := x.name.size ≤ 140737488355328 ∧ x.label.size ≤ 140737488355328 ∧ x.typ.size ≤ 140737488355328 ∧ x.text.size ≤ 140737488355328
theorem words_fine {told : List UInt8} {x : Nd} (ht : told.length ≤ 4194304) (h : wordsS told = some x) : FineN x := by
  unfold wordsS at h
  obtain ⟨k, _, h⟩ := Option.bind_eq_some_iff.1 h
  obtain ⟨⟨lb, r1⟩, h1, h⟩ := Option.bind_eq_some_iff.1 h
  obtain ⟨⟨it, r2⟩, h2, h⟩ := Option.bind_eq_some_iff.1 h
  obtain ⟨⟨nm, r3⟩, h3, h⟩ := Option.bind_eq_some_iff.1 h
  obtain ⟨⟨ty, r4⟩, h4, h⟩ := Option.bind_eq_some_iff.1 h
  obtain ⟨⟨op, r5⟩, _, h⟩ := Option.bind_eq_some_iff.1 h
  obtain ⟨⟨tx, r6⟩, h6, h⟩ := Option.bind_eq_some_iff.1 h
  simp only at h1 h2 h3 h4 h6 h
  have e0 := fst_len told
  have e1 := rdW_len h1
  have e2 := rdN_len h2
  have e3 := rdW_len h3
  have e4 := rdW_len h4
  have e6 := rdT_len h6
  split at h
  · cases h
    refine ⟨?_, ?_, ?_, ?_⟩
    all_goals
      rw [Lib.size_eq]
      show (List.toArray _).toList.length ≤ _
      simp only
      omega
  · cases h
theorem line_fine {line : List UInt8} {x : Nd} {d : Nat} (hl : line.length ≤ 4194304) (h : lineS line = some (x, d)) : FineN x := by
  unfold lineS at h
  split at h
  · cases h
  · obtain ⟨⟨a, b⟩, h1, h⟩ := Option.bind_eq_some_iff.1 h
    obtain ⟨y, h2, h⟩ := Option.bind_eq_some_iff.1 h
    obtain ⟨v, h3, h⟩ := Option.map_eq_some_iff.1 h
    cases h
    have e1 := congrArg List.length (last_sound h1)
    rw [List.length_append] at e1
    have e2 := told_le line
    exact (words_fine (by simp only; omega) h2 :)
theorem mkL_fine {acc : List (Nd × Nat)} (hl : acc.length ≤ 4194304) (h : ∀ p ∈ acc, FineN p.1) : Fine (mkL acc) := by
  refine ⟨by rw [mkL_len]; omega, fun i hi => ?_⟩
  rw [mkL_len] at hi
  rw [mkL_nd acc hi]
  refine h (acc.getD i default) ?_
  rw [List.getD_eq_getElem?_getD, List.getElem?_eq_getElem hi]
  exact List.getElem_mem hi

theorem cut_cases : ∀ l : List UInt8, (Lib.index l [10] = -1 ∧ cut10 l = none) ∨ ∃ k : Nat, Lib.index l [10] = (k : Int) ∧ k < l.length ∧ cut10 l = some (l.take k, l.drop (k + 1))
  | [] => Or.inl ⟨rfl, rfl⟩
  | c :: l => by
    by_cases hc : c = 10
    · subst hc
      refine Or.inr ⟨0, ?_, by simp, rfl⟩
      show (if _ then (0 : Int) else _) = _
      rw [if_pos (by simp [List.isPrefixOf])]
      rfl
    · have hb : (c != 10) = true := by simpa using hc
      have hb2 : (10 == c) = false := by simpa using fun e => hc e.symm
      have e2 : Lib.index (c :: l) [10] = if Lib.index l [10] == -1 then -1 else Lib.index l [10] + 1 := by
        show (if _ then (0 : Int) else _) = _
        rw [if_neg (by simp [List.isPrefixOf, hb2])]
      have e3 : cut10 (c :: l) = (cut10 l).map fun q => (c :: q.1, q.2) := by
        unfold cut10
        simp only [List.dropWhile_cons, List.takeWhile_cons, hb, if_true]
        cases List.dropWhile (fun c => c != 10) l <;> rfl
      rcases cut_cases l with ⟨h1, h2⟩ | ⟨k, h1, h2, h3⟩
      · exact Or.inl ⟨by rw [e2, h1]; rfl, by rw [e3, h2]; rfl⟩
      · refine Or.inr ⟨k + 1, ?_, by rw [List.length_cons]; omega, by rw [e3, h3]; rfl⟩
        rw [e2, h1, if_neg (by simp)]
        rfl
theorem cut_no {l : List UInt8} (h : cut10 l = none) : Lib.cut l [10] = (l, [], false) := by
  rcases cut_cases l with ⟨h1, _⟩ | ⟨k, _, _, h3⟩
  · unfold Lib.cut
    rw [h1]
    rfl
  · rw [h3] at h; cases h
theorem cut_yes {l a b : List UInt8} (h : cut10 l = some (a, b)) : Lib.cut l [10] = (a, b, true) := by
  rcases cut_cases l with ⟨_, h2⟩ | ⟨k, h1, _, h3⟩
  · rw [h2] at h; cases h
  · rw [h3] at h
    cases h
    unfold Lib.cut
    rw [h1, if_pos (by omega)]
    rfl
theorem cut_len {l a b : List UInt8} (h : cut10 l = some (a, b)) : a.length + b.length + 1 = l.length := by
  have := congrArg List.length (cut10_sound h)
  rw [List.length_append, List.length_cons] at this
  omega
theorem stkA_ne {acc : List (Nd × Nat)} (h : acc ≠ []) : stkA acc ≠ [] := by
  unfold stkA
  obtain ⟨k, hk⟩ : ∃ k, acc.length = k + 1 := ⟨acc.length - 1, by have := List.length_pos_iff.2 h; omega⟩
  rw [hk]
  intro e
  have := stk_self (dps acc) k
  rw [e] at this
  cases this
end Go.Proofs.YtekgnogjfggnmaaGreatDoor
