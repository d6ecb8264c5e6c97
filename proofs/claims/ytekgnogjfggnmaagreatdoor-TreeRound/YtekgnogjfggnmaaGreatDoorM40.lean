import Derived.Lib.IndexLaws
import Derived.WalkLawsBesides
import Derived.Deep.RegionHeld3
import Derived.Deep.MidRow
import Derived.KernelRfl
import Derived.Test.YtekgnogjfggnmaaGreatDoorM14
import Derived.Test.YtekgnogjfggnmaaGreatDoorM37
import Derived.Test.YtekgnogjfggnmaaGreatDoorM29
namespace Go.Proofs.YtekgnogjfggnmaaGreatDoor
open Go.RowKit

/-! The reader's small functions. -/

def bk (l : List UInt8) : ByteArray := ⟨l.toArray⟩
theorem bk_list (l : List UInt8) : (bk l).data.toList = l := rfl
theorem bk_of (s : ByteArray) : bk s.data.toList = s := by unfold bk; cases s; simp
theorem bk_size (l : List UInt8) : (bk l).size = l.length := by rw [Lib.size_eq]; rfl
theorem ext_take (s : ByteArray) (k : Nat) : s.extract 0 k = bk (s.data.toList.take k) := by
  apply ByteArray.ext
  apply Array.toList_inj.1
  simp [bk, ByteArray.data_extract, Array.toList_extract, List.extract]
theorem ext_drop (s : ByteArray) (k n : Nat) (h : s.size ≤ n) : s.extract k n = bk (s.data.toList.drop k) := by
  apply ByteArray.ext
  apply Array.toList_inj.1
  rw [Lib.size_eq] at h
  simp only [bk, ByteArray.data_extract, Array.toList_extract, List.extract]
  rw [List.take_of_length_le (by rw [List.length_drop]; omega)]

theorem fst_ix : ∀ (l : List UInt8), (Lib.indexByte l 32 = -1 ∧ fstW l = (l, [])) ∨ ∃ k : Nat, Lib.indexByte l 32 = (k : Int) ∧ k < l.length ∧ fstW l = (l.take k, l.drop k)
  | [] => Or.inl ⟨rfl, rfl⟩
  | c :: l => by
    by_cases hc : c = 32
    · subst hc
      exact Or.inr ⟨0, rfl, by simp, rfl⟩
    · have hb : (c != 32) = true := by simpa using hc
      have hb2 : (c == 32) = false := by simpa using hc
      have e1 : fstW (c :: l) = (c :: (fstW l).1, (fstW l).2) := by unfold fstW; simp only [List.takeWhile_cons, List.dropWhile_cons, hb, if_true]
      have e2 : Lib.indexByte (c :: l) 32 = if Lib.indexByte l 32 == -1 then -1 else Lib.indexByte l 32 + 1 := by
        show (if c == 32 then (0 : Int) else _) = _
        rw [hb2]
        rfl
      rcases fst_ix l with ⟨h1, h2⟩ | ⟨k, h1, h2, h3⟩
      · exact Or.inl ⟨by rw [e2, h1]; rfl, by rw [e1, h2]⟩
      · refine Or.inr ⟨k + 1, ?_, by rw [List.length_cons]; omega, by rw [e1, h3]; rfl⟩
        rw [e2, h1, if_neg (by simp)]
        rfl

set_option maxRecDepth 100000 in
set_option maxHeartbeats 400000 in
theorem firstWord_any (s : ByteArray) (w : World) :
    Calls Tryz.prog 91 #[.string s] w fun e w' => e = .returned (.tuple #[.string (bk (fstW s.data.toList).1), .string (bk (fstW s.data.toList).2)]) ∧ Below w.heap.size w w' := by
  have hz := Lib.size_eq s
  rcases fst_ix s.data.toList with ⟨h1, h2⟩ | ⟨k, h1, h2, h3⟩
  · rw [h2]
    have HB : Hid (bk s.data.toList = s) := bk_of s
    go_enter Tryz.func91, Tryz.ntmps91
    go_wp2_with (first
      | (go_at_call 113; refine (Tryz.strings_IndexByte s 32 _).mono ?_; rintro e w1 ⟨rfl, rfl⟩; rw [show (32 : Int).toNat.toUInt8 = 32 by rfl, h1])
      | go_in)
    go_ret2
    exact ⟨by rw [HB.out]; rfl, Below.refl _ _⟩
  · rw [h3]
    have e1 := ext_take s k
    have e2 := ext_drop s k s.size (Nat.le_refl _)
    have hk : (k : Int) ≤ (s.size : Int) := by omega
    have hk0 : (0 : Int) ≤ (k : Int) := by omega
    have R1 : ∀ wx : World, (Instr.slice 9 (.string s) none (some (.int .i64 (k : Int))) none).run Tryz.prog wx = .ok (.string (bk (s.data.toList.take k))) wx := fun wx => by
      rw [← e1]
      simp [go_sem, Tryz.underlying9, hk, hk0]
    have R2 : ∀ wx : World, (Instr.slice 9 (.string s) (some (.int .i64 (k : Int))) none none).run Tryz.prog wx = .ok (.string (bk (s.data.toList.drop k))) wx := fun wx => by
      rw [← e2]
      simp [go_sem, Tryz.underlying9, hk, hk0]
    clear e1 e2
    go_enter Tryz.func91, Tryz.ntmps91
    go_wp2_with (first
      | (go_at_call 113; refine (Tryz.strings_IndexByte s 32 _).mono ?_; rintro e w1 ⟨rfl, rfl⟩; rw [show (32 : Int).toNat.toUInt8 = 32 by rfl, h1])
      | go_in)
    go_region_held3 (fun w' => Below w1.heap.size w1 w') (first | assumption | exact (Below.refl _ _).drew | exact Below.drew (Below.refl _ _)) (fail)
    all_goals go_wp2
    all_goals go_ret2
    all_goals exact ⟨rfl, by assumption⟩

/-- The value that the reader panics with. -/
def NoD (w : World) (T : TypeId) (p : Value) : Prop := w.cell? ⟨0, 0, none⟩ = some (.iface T p)
theorem NoD.next {w w' : World} {T : TypeId} {p : Value} (h : NoD w T p) (hb : Below w.heap.size w w') : NoD w' T p := (hb.cell (p := ⟨0, 0, none⟩) (World.block_lt_of_cell? w _ h)).trans h
/-- How the reader ends that finds no dump. -/
def Out (e : Ending) (T : TypeId) (p : Value) : Prop := e = .panicked [{ v := .iface T p, recovered := false }]

/-- What a reader answers: v, or it finds no dump. -/
def Ans (e : Ending) (T : TypeId) (p : Value) (v : Option Value) : Prop := match v with | none => Out e T p | some v => e = .returned v

set_option maxRecDepth 100000 in
theorem nextWord_any (s : ByteArray) (w : World) (T : TypeId) (p : Value) (h : NoD w T p) :
    Calls Tryz.prog 93 #[.string s] w fun e w' => Hid (Ans e T p ((nxtW s.data.toList).map fun q => .tuple #[.string (bk q.1), .string (bk q.2)])) ∧ Below w.heap.size w w' := by
  have hn : w.cell? ⟨0, 0, none⟩ = some (.iface T p) := h
  clear h
  have hz := Lib.size_eq s
  cases hl : s.data.toList with
  | nil =>
    have he : s.toList.isEmpty = true := by rw [ByteArray.toList_eq, hl]; rfl
    go_enter Tryz.func93, Tryz.ntmps93
    go_wp2
    exact ⟨rfl, rfl, Below.refl _ _⟩
  | cons c r =>
    have he : s.toList.isEmpty = false := by rw [ByteArray.toList_eq, hl]; rfl
    have e2 := ext_drop s 1 s.size (Nat.le_refl _)
    rw [hl] at e2 hz
    have hk : (1 : Int) ≤ (s.size : Int) := by rw [List.length_cons] at hz; omega
    have e3 : s.extract 1 s.size = bk r := e2
    clear e2
    have HF : Hid (∀ w', Calls Tryz.prog 91 #[.string (bk r)] w' fun e w'' => e = .returned (.tuple #[.string (bk (fstW r).1), .string (bk (fstW r).2)]) ∧ Below w'.heap.size w' w'') := fun w' => by
      have := firstWord_any (bk r) w'
      rw [bk_list] at this
      exact this
    show Calls Tryz.prog 93 #[.string s] w fun e w' => Hid (Ans e T p (some (.tuple #[.string (bk (fstW r).1), .string (bk (fstW r).2)]))) ∧ Below w.heap.size w w'
    obtain ⟨a, ha⟩ : ∃ a, bk (fstW r).1 = a := ⟨_, rfl⟩
    obtain ⟨b, hb⟩ : ∃ b, bk (fstW r).2 = b := ⟨_, rfl⟩
    rw [ha, hb]
    rw [ha, hb] at HF
    clear ha hb hl hz
    go_enter Tryz.func93, Tryz.ntmps93
    go_wp2_with (first
      | (go_at_call 91; refine (HF.out _).mono ?_; rintro e w1 ⟨rfl, hw1⟩)
      | go_in)
    go_ret2
    exact ⟨rfl, hw1⟩

set_option maxRecDepth 100000 in
theorem readFilled_any (s : ByteArray) (w : World) (T : TypeId) (p : Value) (h : NoD w T p) (hs : s.size ≤ 140737488355328) :
    Calls Tryz.prog 94 #[.string s] w fun e w' => Hid (Ans e T p ((fillS s.data.toList).map fun q => .string (bk q))) ∧ Below w.heap.size w w' := by
  have hn : w.cell? ⟨0, 0, none⟩ = some (.iface T p) := h
  clear h
  have hz := Lib.size_eq s
  unfold fillS
  by_cases h0 : s.data.toList = []
  · rw [if_pos h0]
    have he : s.toList.isEmpty = true := by rw [ByteArray.toList_eq, h0]; rfl
    go_enter Tryz.func94, Tryz.ntmps94
    go_wp2
    exact ⟨rfl, rfl, Below.refl _ _⟩
  · rw [if_neg h0]
    have he : s.toList.isEmpty = false := by rw [ByteArray.toList_eq]; simpa using h0
    by_cases h1 : s.data.toList = [45]
    · rw [if_pos h1]
      have hd : (s.toList == [45]) = true := by rw [ByteArray.toList_eq, h1]; rfl
      go_enter Tryz.func94, Tryz.ntmps94
      go_wp2
      go_ret
      exact ⟨rfl, Below.refl _ _⟩
    · rw [if_neg h1]
      have hd : (s.toList == [45]) = false := by rw [ByteArray.toList_eq]; simpa using h1
      have HB : Hid (bk s.data.toList = s) := bk_of s
      have HC : Hid (∀ w', Calls Tryz.prog 114 #[.string s] w' fun e w'' => e = .returned (.string s) ∧ Below w'.heap.size w' w'') := fun w' => clone_any s w' (by omega)
      go_enter Tryz.func94, Tryz.ntmps94
      go_wp2_with (first
        | (go_at_call 114; refine (HC.out _).mono ?_; rintro e w1 ⟨rfl, hw1⟩)
        | go_in)
      go_ret
      exact ⟨congrArg (fun b => Ending.returned (.string b)) HB.out.symm, hw1⟩
end Go.Proofs.YtekgnogjfggnmaaGreatDoor

namespace Go.Proofs.YtekgnogjfggnmaaGreatDoor
open Go.RowKit

/-! readOp, readKind. -/

theorem find_hit {n k : Nat} {f : Nat → Bool} (hk : k < n) (h1 : f k = true) (h0 : ∀ j, j < k → f j = false) : (List.range n).find? f = some k := by
  rw [List.find?_range_eq_some]
  exact ⟨h1, List.mem_range.2 hk, fun j hj => by simp [h0 j hj]⟩
theorem find_miss {n : Nat} {f : Nat → Bool} (h0 : ∀ j, j < n → f j = false) : (List.range n).find? f = none := by
  rw [List.find?_eq_none]
  intro j hj
  simp [h0 j (List.mem_range.1 hj)]
theorem op_hit {lo hi : Int} {v : Nat} {l : List UInt8} (h0 : 1 ≤ lo) (h1 : lo ≤ (v : Int)) (h2 : (v : Int) ≤ hi) (he : (sgT.getD v ByteArray.empty).data.toList = l) (hn : ∀ j : Nat, lo ≤ (j : Int) → j < v → (sgT.getD j ByteArray.empty).data.toList ≠ l) : opS lo hi l = some (v : Int) := by
  unfold opS
  rw [find_hit (k := v - lo.toNat) (by omega) (by rw [show (lo + ((v - lo.toNat : Nat) : Int)).toNat = v by omega, he]; simp) (fun j hj => by
    have := hn (lo + (j : Int)).toNat (by omega) (by omega)
    simpa using this), Option.map_some]
  congr 1
  omega
theorem op_miss {lo hi : Int} {l : List UInt8} (h0 : 1 ≤ lo) (hn : ∀ j : Nat, lo ≤ (j : Int) → (j : Int) ≤ hi → (sgT.getD j ByteArray.empty).data.toList ≠ l) : opS lo hi l = none := by
  unfold opS
  rw [find_miss (fun j hj => by
    have := hn (lo + (j : Int)).toNat (by omega) (by omega)
    simpa using this), Option.map_none]
theorem knd_hit {v : Nat} {l : List UInt8} (h : v < 31) (he : (wds.getD v ByteArray.empty).data.toList = l) (hn : ∀ j : Nat, j < v → (wds.getD j ByteArray.empty).data.toList ≠ l) : kndS l = some v := by
  unfold kndS
  exact find_hit h (by rw [he]; simp) (fun j hj => by simpa using hn j hj)
theorem knd_miss {l : List UInt8} (hn : ∀ j : Nat, j < 31 → (wds.getD j ByteArray.empty).data.toList ≠ l) : kndS l = none := by
  unfold kndS
  exact find_miss (fun j hj => by simpa using hn j hj)

set_option maxRecDepth 100000 in
set_option maxHeartbeats 400000 in
theorem readOp_any (s : ByteArray) (lo hi : Int) (w : World) (T : TypeId) (p : Value) (h : NoD w T p) (ht : DTab w) (b1 : 1 ≤ lo) (b2 : lo ≤ hi) (b3 : hi ≤ 15) :
    Calls Tryz.prog 95 #[.string s, .int .i64 lo, .int .i64 hi] w fun e w' => Hid (Ans e T p ((opS lo hi s.data.toList).map fun v => .int .i64 v)) ∧ w = w' := by
  have hn : w.cell? ⟨0, 0, none⟩ = some (.iface T p) := h
  clear h
  have HT : Hid (∀ k, k < 16 → w.cell? ⟨2, k, none⟩ = some (.string (sgT.getD k ByteArray.empty))) := ht.sg
  clear ht
  go_enter Tryz.func95, Tryz.ntmps95
  go_wp2
  go_loop [7] (fun i => ∃ k : Nat, lo ≤ (k : Int) ∧ (k : Int) ≤ hi + 1 ∧ i = .int .i64 (k : Int) ∧ Hid (∀ j : Nat, lo ≤ (j : Int) → j < k → (sgT.getD j ByteArray.empty).data.toList ≠ s.data.toList)) (fun i => 16 - (intOf i).toNat)
  case atStart => exact ⟨lo.toNat, by omega, by omega, by rw [show ((lo.toNat : Nat) : Int) = lo by omega], fun j h1 h2 => by omega⟩
  case round =>
    obtain ⟨k, hk1, hk2, rfl, hj⟩ := hrel
    by_cases hlt : (k : Int) ≤ hi
    · have hi' := HT.out k (by omega)
      have k0 : (0 : Int) ≤ (k : Int) := by omega
      have k16 : (k : Int) < 16 := by omega
      obtain ⟨x, hx⟩ : ∃ x, x = sgT.getD k ByteArray.empty := ⟨_, rfl⟩
      rw [← hx] at hi'
      have HX : Hid (x = sgT.getD k ByteArray.empty) := hx
      clear hx
      go_wp2
      · have h1 : (s.toList == x.toList) = true := by assumption
        have he := op_hit (hi := hi) b1 hk1 hlt (by rw [← HX.out]; rw [toL, toL] at h1; exact (eq_of_beq h1).symm) hj.out
        go_ret
        refine ⟨?_, rfl⟩
        show Ans _ T p _
        rw [he]
        exact (rfl : _ = _)
      · have h1 : (s.toList == x.toList) = false := by assumption
        refine ⟨⟨k + 1, by omega, by omega, by go_num, fun j h2 h3 => ?_⟩, by simp [intOf]; omega⟩
        by_cases hjk : j < k
        · exact hj.out j h2 hjk
        · obtain rfl : j = k := by omega
          rw [← HX.out]
          rw [toL, toL, beq_eq_false_iff_ne] at h1
          exact fun e => h1 e.symm
    · have he := op_miss (hi := hi) (l := s.data.toList) b1 fun j h2 h3 => hj.out j h2 (by omega)
      have HE : Hid (opS lo hi s.data.toList = none) := he
      clear he
      go_wp2
      refine ⟨rfl, ?_, rfl⟩
      show Ans _ T p _
      rw [HE.out]
      exact (rfl : _ = _)

def wdCells : List Value := wds.map fun s => Value.string s
set_option maxRecDepth 100000 in
theorem wd_idx (k : Nat) (hk : k < 31) : ∀ w : World, (Instr.index 67 (.agg wdCells.toArray) (.int .i64 (k : Int))).run Tryz.prog w = .ok (.string (wds.getD k ByteArray.empty)) w := by
  have h : k = 0 ∨ k = 1 ∨ k = 2 ∨ k = 3 ∨ k = 4 ∨ k = 5 ∨ k = 6 ∨ k = 7 ∨ k = 8 ∨ k = 9 ∨ k = 10 ∨ k = 11 ∨ k = 12 ∨ k = 13 ∨ k = 14 ∨ k = 15 ∨ k = 16 ∨ k = 17 ∨ k = 18 ∨ k = 19 ∨ k = 20 ∨ k = 21 ∨ k = 22 ∨ k = 23 ∨ k = 24 ∨ k = 25 ∨ k = 26 ∨ k = 27 ∨ k = 28 ∨ k = 29 ∨ k = 30 := by omega
  rcases h with rfl | rfl | rfl | rfl | rfl | rfl | rfl | rfl | rfl | rfl | rfl | rfl | rfl | rfl | rfl | rfl | rfl | rfl | rfl | rfl | rfl | rfl | rfl | rfl | rfl | rfl | rfl | rfl | rfl | rfl | rfl
  all_goals exact fun w => by kernel_rfl
theorem wdInfo : (Tryz.prog.info? 67).map (·.size) = some wdCells.length := by kernel_rfl
theorem wd_range {w : World} (h : DTab w) : w.rangeAt 1 0 wdCells := by
  intro j v hv
  have hj : j < wds.length := by have := (List.getElem?_eq_some_iff.1 hv).1; simpa [wdCells] using this
  rw [Nat.zero_add, h.wd j hj]
  simp only [wdCells, List.getElem?_map, List.getElem?_eq_getElem hj, Option.map_some, Option.some.injEq] at hv
  rw [← hv, List.getD_eq_getElem?_getD, List.getElem?_eq_getElem hj]
  rfl

set_option maxRecDepth 100000 in
set_option maxHeartbeats 400000 in
theorem readKind_any (s : ByteArray) (w : World) (T : TypeId) (p : Value) (h : NoD w T p) (ht : DTab w) :
    Calls Tryz.prog 92 #[.string s] w fun e w' => Hid (Ans e T p ((kndS s.data.toList).map fun v => .int .i64 (v : Int))) ∧ w = w' := by
  have hn : w.cell? ⟨0, 0, none⟩ = some (.iface T p) := h
  clear h
  have HR : Hid (w.rangeAt 1 0 wdCells) := wd_range ht
  clear ht
  go_enter Tryz.func92, Tryz.ntmps92
  go_wp2_with (first | (refine wpList_load_mid (by rfl) 67 (.global 1) (by rfl) 1 0 (by rfl) wdCells _ HR.out Tryz.underlying67 (by rfl) wdInfo ?_) | go_in)
  go_loop [6] (fun i => ∃ k : Nat, k ≤ 31 ∧ i = .int .i64 (k : Int) ∧ Hid (∀ j : Nat, j < k → (wds.getD j ByteArray.empty).data.toList ≠ s.data.toList)) (fun i => 31 - (intOf i).toNat)
  case atStart => exact ⟨0, by omega, rfl, fun j hj => by omega⟩
  case round =>
    obtain ⟨k, hk, rfl, hj⟩ := hrel
    by_cases hlt : k < 31
    · have hi := wd_idx k hlt
      obtain ⟨x, hx⟩ : ∃ x, x = wds.getD k ByteArray.empty := ⟨_, rfl⟩
      rw [← hx] at hi
      have HX : Hid (x = wds.getD k ByteArray.empty) := hx
      clear hx
      go_wp2
      · have h1 : (s.toList == x.toList) = true := by assumption
        have he := knd_hit hlt (by rw [← HX.out]; rw [toL, toL] at h1; exact (eq_of_beq h1).symm) hj.out
        go_ret
        refine ⟨?_, rfl⟩
        show Ans _ T p _
        rw [he]
        exact (rfl : _ = _)
      · have h1 : (s.toList == x.toList) = false := by assumption
        refine ⟨⟨k + 1, by omega, by go_num, fun j h3 => ?_⟩, by simp [intOf]; omega⟩
        by_cases hjk : j < k
        · exact hj.out j hjk
        · obtain rfl : j = k := by omega
          rw [← HX.out]
          rw [toL, toL, beq_eq_false_iff_ne] at h1
          exact fun e => h1 e.symm
    · obtain rfl : k = 31 := by omega
      have he := knd_miss hj.out
      have HE : Hid (kndS s.data.toList = none) := he
      clear he
      go_wp2
      refine ⟨rfl, ?_, rfl⟩
      show Ans _ T p _
      rw [HE.out]
      exact (rfl : _ = _)
end Go.Proofs.YtekgnogjfggnmaaGreatDoor
