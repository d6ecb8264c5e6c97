import Derived.WalkLawsBesides
import Derived.Test.YtekgnogjfggnmaaGreatDoorN37
import Derived.Test.YtekgnogjfggnmaaGreatDoorN28
namespace Go.Proofs.YtekgnogjfggnmaaGreatDoor
open Go.RowKit
set_option maxRecDepth 100000
set_option maxHeartbeats 1000000
def bk (l : List UInt8) : ByteArray := ⟨l.toArray⟩
theorem bk_list (l : List UInt8) : (bk l).data.toList = l := rfl
theorem bk_of (s : ByteArray) : bk s.data.toList = s := by unfold bk; cases s; simp
theorem bk_size (l : List UInt8) : (bk l).size = l.length := by rw [Lib.size_eq]; rfl
theorem ext_take (s : ByteArray) (k : Nat) : s.extract 0 k = bk (s.data.toList.take k) := by
 apply ByteArray.ext
 apply Array.toList_inj.1
 simp [bk, ByteArray.data_extract, Array.toList_extract, List.extract]
theorem ext_drop (s : ByteArray) (k n : Nat) (h : s.size ≤ n) : s.extract k n = bk (s.data.toList.drop k) := by
 apply ByteArray.ext
 apply Array.toList_inj.1
 rw [Lib.size_eq] at h
 simp only [bk, ByteArray.data_extract, Array.toList_extract, List.extract]
 rw [List.take_of_length_le (by rw [List.length_drop]; omega)]
theorem fst_ix : ∀ (l : List UInt8), (Lib.indexByte l 32 = -1 ∧ fstW l = (l, [])) ∨ ∃ k : Nat, Lib.indexByte l 32 = (k : Int) ∧ k < l.length ∧ fstW l = (l.take k, l.drop k)
 | [] => Or.inl ⟨rfl, rfl⟩
 | c :: l => by
  by_cases hc : c = 32
  ·subst hc
   exact Or.inr ⟨0, rfl, by simp, rfl⟩
  ·have hb : (c != 32) = true := by simpa using hc
   have hb2 : (c == 32) = false := by simpa using hc
   have e1 : fstW (c :: l) = (c :: (fstW l).1, (fstW l).2) := by unfold fstW; simp only [List.takeWhile_cons, List.dropWhile_cons, hb, if_true]
   have e2 : Lib.indexByte (c :: l) 32 = if Lib.indexByte l 32 == -1 then -1 else Lib.indexByte l 32 + 1 := by
    show (if c == 32 then (0 : Int) else _) = _
    rw [hb2]
    rfl
   rcases fst_ix l with ⟨h1, h2⟩ | ⟨k, h1, h2, h3⟩
   ·exact Or.inl ⟨by rw [e2, h1]; rfl, by rw [e1, h2]⟩
   ·refine Or.inr ⟨k + 1, ?_, by rw [List.length_cons]; omega, by rw [e1, h3]; rfl⟩
    rw [e2, h1, if_neg (by simp)]
    rfl
theorem firstWord_any (s : ByteArray) (w : World) :
 Calls Tryz.prog 91 #[.string s] w fun e w' => e = .returned (.tuple #[.string (bk (fstW s.data.toList).1), .string (bk (fstW s.data.toList).2)]) ∧ Below w.heap.size w w' := by
 have hz := Lib.size_eq s
 rcases fst_ix s.data.toList with ⟨h1, h2⟩ | ⟨k, h1, h2, h3⟩
 ·rw [h2]
  have HB : Hid (bk s.data.toList = s) := bk_of s
  go_enter Tryz.func91, Tryz.ntmps91
  go_wp2_with (first
   | (go_at_call 113; refine (Tryz.strings_IndexByte s 32 _).mono ?_; rintro e w1 ⟨rfl, rfl⟩; rw [show (32 : Int).toNat.toUInt8 = 32 by rfl, h1])
   | go_in)
  go_ret2
  exact ⟨by rw [HB.out]; rfl, Below.refl _ _⟩
 ·rw [h3]
  have e1 := ext_take s k
  have e2 := ext_drop s k s.size (Nat.le_refl _)
  have hk : (k : Int) ≤ (s.size : Int) := by omega
  have hk0 : (0 : Int) ≤ (k : Int) := by omega
  have R1 : ∀ wx : World, (Instr.slice 9 (.string s) none (some (.int .i64 (k : Int))) none).run Tryz.prog wx = .ok (.string (bk (s.data.toList.take k))) wx := fun wx => by
   rw [← e1]
   simp [go_sem, Tryz.underlying9, hk, hk0]
  have R2 : ∀ wx : World, (Instr.slice 9 (.string s) (some (.int .i64 (k : Int))) none none).run Tryz.prog wx = .ok (.string (bk (s.data.toList.drop k))) wx := fun wx => by
   rw [← e2]
   simp [go_sem, Tryz.underlying9, hk, hk0]
  clear e1 e2
  go_enter Tryz.func91, Tryz.ntmps91
  go_wp2_with (first
   | (go_at_call 113; refine (Tryz.strings_IndexByte s 32 _).mono ?_; rintro e w1 ⟨rfl, rfl⟩; rw [show (32 : Int).toNat.toUInt8 = 32 by rfl, h1])
   | go_in)
  go_region_held3 (fun w' => Below w1.heap.size w1 w') (first | assumption | exact (Below.refl _ _).drew | exact Below.drew (Below.refl _ _)) (fail)
  all_goals go_wp2
  all_goals go_ret2
  all_goals exact ⟨rfl, by assumption⟩
def NoD (w : World) (T : TypeId) (p : Value) : Prop := w.cell? ⟨0, 0, none⟩ = some (.iface T p)
theorem NoD.next {w w' : World} {T : TypeId} {p : Value} (h : NoD w T p) (hb : Below w.heap.size w w') : NoD w' T p := (hb.cell (p := ⟨0, 0, none⟩) (World.block_lt_of_cell? w _ h)).trans h
def Out (e : Ending) (T : TypeId) (p : Value) : Prop := e = .panicked [{ v := .iface T p, recovered := false }]
def Ans (e : Ending) (T : TypeId) (p : Value) (v : Option Value) : Prop := match v with | none => Out e T p | some v => e = .returned v
theorem nextWord_any (s : ByteArray) (w : World) (T : TypeId) (p : Value) (h : NoD w T p) :
 Calls Tryz.prog 93 #[.string s] w fun e w' => Hid (Ans e T p ((nxtW s.data.toList).map fun q => .tuple #[.string (bk q.1), .string (bk q.2)])) ∧ Below w.heap.size w w' := by
 have hn : w.cell? ⟨0, 0, none⟩ = some (.iface T p) := h
 clear h
 have hz := Lib.size_eq s
 cases hl : s.data.toList with
 | nil =>
  have he : s.toList.isEmpty = true := by rw [ByteArray.toList_eq, hl]; rfl
  go_enter Tryz.func93, Tryz.ntmps93
  go_wp2
  exact ⟨rfl, rfl, Below.refl _ _⟩
 | cons c r =>
  have he : s.toList.isEmpty = false := by rw [ByteArray.toList_eq, hl]; rfl
  have e2 := ext_drop s 1 s.size (Nat.le_refl _)
  rw [hl] at e2 hz
  have hk : (1 : Int) ≤ (s.size : Int) := by rw [List.length_cons] at hz; omega
  have e3 : s.extract 1 s.size = bk r := e2
  clear e2
  have HF : Hid (∀ w', Calls Tryz.prog 91 #[.string (bk r)] w' fun e w'' => e = .returned (.tuple #[.string (bk (fstW r).1), .string (bk (fstW r).2)]) ∧ Below w'.heap.size w' w'') := fun w' => by
   have := firstWord_any (bk r) w'
   rw [bk_list] at this
   exact this
  show Calls Tryz.prog 93 #[.string s] w fun e w' => Hid (Ans e T p (some (.tuple #[.string (bk (fstW r).1), .string (bk (fstW r).2)]))) ∧ Below w.heap.size w w'
  obtain ⟨a, ha⟩ : ∃ a, bk (fstW r).1 = a := ⟨_, rfl⟩
  obtain ⟨b, hb⟩ : ∃ b, bk (fstW r).2 = b := ⟨_, rfl⟩
  rw [ha, hb]
  rw [ha, hb] at HF
  clear ha hb hl hz
  go_enter Tryz.func93, Tryz.ntmps93
  go_wp2_with (first
   | (go_at_call 91; refine (HF.out _).mono ?_; rintro e w1 ⟨rfl, hw1⟩)
   | go_in)
  go_ret2
  exact ⟨rfl, hw1⟩
theorem readFilled_any (s : ByteArray) (w : World) (T : TypeId) (p : Value) (h : NoD w T p) (hs : s.size ≤ 140737488355328) :
 Calls Tryz.prog 94 #[.string s] w fun e w' => Hid (Ans e T p ((fillS s.data.toList).map fun q => .string (bk q))) ∧ Below w.heap.size w w' := by
 have hn : w.cell? ⟨0, 0, none⟩ = some (.iface T p) := h
 clear h
 have hz := Lib.size_eq s
 unfold fillS
 by_cases h0 : s.data.toList = []
 ·rw [if_pos h0]
  have he : s.toList.isEmpty = true := by rw [ByteArray.toList_eq, h0]; rfl
  go_enter Tryz.func94, Tryz.ntmps94
  go_wp2
  exact ⟨rfl, rfl, Below.refl _ _⟩
 ·rw [if_neg h0]
  have he : s.toList.isEmpty = false := by rw [ByteArray.toList_eq]; simpa using h0
  by_cases h1 : s.data.toList = [45]
  ·rw [if_pos h1]
   have hd : (s.toList == [45]) = true := by rw [ByteArray.toList_eq, h1]; rfl
   go_enter Tryz.func94, Tryz.ntmps94
   go_wp2
   go_ret
   exact ⟨rfl, Below.refl _ _⟩
  ·rw [if_neg h1]
   have hd : (s.toList == [45]) = false := by rw [ByteArray.toList_eq]; simpa using h1
   have HB : Hid (bk s.data.toList = s) := bk_of s
   have HC : Hid (∀ w', Calls Tryz.prog 114 #[.string s] w' fun e w'' => e = .returned (.string s) ∧ Below w'.heap.size w' w'') := fun w' => clone_any s w' (by omega)
   go_enter Tryz.func94, Tryz.ntmps94
   go_wp2_with (first
    | (go_at_call 114; refine (HC.out _).mono ?_; rintro e w1 ⟨rfl, hw1⟩)
    | go_in)
   go_ret
   exact ⟨congrArg (fun b => Ending.returned (.string b)) HB.out.symm, hw1⟩
theorem find_hit {n k : Nat} {f : Nat → Bool} (hk : k < n) (h1 : f k = true) (h0 : ∀ j, j < k → f j = false) : (List.range n).find? f = some k := by
 rw [List.find?_range_eq_some]
 exact ⟨h1, List.mem_range.2 hk, fun j hj => by simp [h0 j hj]⟩
theorem find_miss {n : Nat} {f : Nat → Bool} (h0 : ∀ j, j < n → f j = false) : (List.range n).find? f = none := by
 rw [List.find?_eq_none]
 intro j hj
 simp [h0 j (List.mem_range.1 hj)]
theorem op_hit {lo hi : Int} {v : Nat} {l : List UInt8} (h0 : 1 ≤ lo) (h1 : lo ≤ (v : Int)) (h2 : (v : Int) ≤ hi) (he : (sgT.getD v ByteArray.empty).data.toList = l) (hn : ∀ j : Nat, lo ≤ (j : Int) → j < v → (sgT.getD j ByteArray.empty).data.toList ≠ l) : opS lo hi l = some (v : Int) := by
 unfold opS
 rw [find_hit (k := v - lo.toNat) (by omega) (by rw [show (lo + ((v - lo.toNat : Nat) : Int)).toNat = v by omega, he]; simp) (fun j hj => by
  have := hn (lo + (j : Int)).toNat (by omega) (by omega)
  simpa using this), Option.map_some]
 congr 1
 omega
theorem op_miss {lo hi : Int} {l : List UInt8} (h0 : 1 ≤ lo) (hn : ∀ j : Nat, lo ≤ (j : Int) → (j : Int) ≤ hi → (sgT.getD j ByteArray.empty).data.toList ≠ l) : opS lo hi l = none := by
 unfold opS
 rw [find_miss (fun j hj => by
  have := hn (lo + (j : Int)).toNat (by omega) (by omega)
  simpa using this), Option.map_none]
theorem knd_hit {v : Nat} {l : List UInt8} (h : v < 31) (he : (wds.getD v ByteArray.empty).data.toList = l) (hn : ∀ j : Nat, j < v → (wds.getD j ByteArray.empty).data.toList ≠ l) : kndS l = some v := by
 unfold kndS
 exact find_hit h (by rw [he]; simp) (fun j hj => by simpa using hn j hj)
theorem knd_miss {l : List UInt8} (hn : ∀ j : Nat, j < 31 → (wds.getD j ByteArray.empty).data.toList ≠ l) : kndS l = none := by
 unfold kndS
 exact find_miss (fun j hj => by simpa using hn j hj)
theorem readOp_any (s : ByteArray) (lo hi : Int) (w : World) (T : TypeId) (p : Value) (h : NoD w T p) (ht : DTab w) (b1 : 1 ≤ lo) (b2 : lo ≤ hi) (b3 : hi ≤ 15) :
 Calls Tryz.prog 95 #[.string s, .int .i64 lo, .int .i64 hi] w fun e w' => Hid (Ans e T p ((opS lo hi s.data.toList).map fun v => .int .i64 v)) ∧ w = w' := by
 have hn : w.cell? ⟨0, 0, none⟩ = some (.iface T p) := h
 clear h
 have HT : Hid (∀ k, k < 16 → w.cell? ⟨2, k, none⟩ = some (.string (sgT.getD k ByteArray.empty))) := ht.sg
 clear ht
 go_enter Tryz.func95, Tryz.ntmps95
 go_wp2
 go_loop [7] (fun i => ∃ k : Nat, lo ≤ (k : Int) ∧ (k : Int) ≤ hi + 1 ∧ i = .int .i64 (k : Int) ∧ Hid (∀ j : Nat, lo ≤ (j : Int) → j < k → (sgT.getD j ByteArray.empty).data.toList ≠ s.data.toList)) (fun i => 16 - (intOf i).toNat)
 case atStart => exact ⟨lo.toNat, by omega, by omega, by rw [show ((lo.toNat : Nat) : Int) = lo by omega], fun j h1 h2 => by omega⟩
 case round =>
  obtain ⟨k, hk1, hk2, rfl, hj⟩ := hrel
  by_cases hlt : (k : Int) ≤ hi
  ·have hi' := HT.out k (by omega)
   have k0 : (0 : Int) ≤ (k : Int) := by omega
   have k16 : (k : Int) < 16 := by omega
   obtain ⟨x, hx⟩ : ∃ x, x = sgT.getD k ByteArray.empty := ⟨_, rfl⟩
   rw [← hx] at hi'
   have HX : Hid (x = sgT.getD k ByteArray.empty) := hx
   clear hx
   go_wp2
   ·have h1 : (s.toList == x.toList) = true := by assumption
    have he := op_hit (hi := hi) b1 hk1 hlt (by rw [← HX.out]; rw [toL, toL] at h1; exact (eq_of_beq h1).symm) hj.out
    go_ret
    refine ⟨?_, rfl⟩
    show Ans _ T p _
    rw [he]
    exact (rfl : _ = _)
   ·have h1 : (s.toList == x.toList) = false := by assumption
    refine ⟨⟨k + 1, by omega, by omega, by go_num, fun j h2 h3 => ?_⟩, by simp [intOf]; omega⟩
    by_cases hjk : j < k
    ·exact hj.out j h2 hjk
    ·obtain rfl : j = k := by omega
     rw [← HX.out]
     rw [toL, toL, beq_eq_false_iff_ne] at h1
     exact fun e => h1 e.symm
  ·have he := op_miss (hi := hi) (l := s.data.toList) b1 fun j h2 h3 => hj.out j h2 (by omega)
   have HE : Hid (opS lo hi s.data.toList = none) := he
   clear he
   go_wp2
   refine ⟨rfl, ?_, rfl⟩
   show Ans _ T p _
   rw [HE.out]
   exact (rfl : _ = _)
def wdCells : List Value := wds.map fun s => Value.string s
theorem wd_idx (k : Nat) (hk : k < 31) : ∀ w : World, (Instr.index 67 (.agg wdCells.toArray) (.int .i64 (k : Int))).run Tryz.prog w = .ok (.string (wds.getD k ByteArray.empty)) w := by
 have h : k = 0 ∨ k = 1 ∨ k = 2 ∨ k = 3 ∨ k = 4 ∨ k = 5 ∨ k = 6 ∨ k = 7 ∨ k = 8 ∨ k = 9 ∨ k = 10 ∨ k = 11 ∨ k = 12 ∨ k = 13 ∨ k = 14 ∨ k = 15 ∨ k = 16 ∨ k = 17 ∨ k = 18 ∨ k = 19 ∨ k = 20 ∨ k = 21 ∨ k = 22 ∨ k = 23 ∨ k = 24 ∨ k = 25 ∨ k = 26 ∨ k = 27 ∨ k = 28 ∨ k = 29 ∨ k = 30 := by omega
 rcases h with rfl | rfl | rfl | rfl | rfl | rfl | rfl | rfl | rfl | rfl | rfl | rfl | rfl | rfl | rfl | rfl | rfl | rfl | rfl | rfl | rfl | rfl | rfl | rfl | rfl | rfl | rfl | rfl | rfl | rfl | rfl
 all_goals exact fun w => by kernel_rfl
theorem wdInfo : (Tryz.prog.info? 67).map (·.size) = some wdCells.length := by kernel_rfl
theorem wd_range {w : World} (h : DTab w) : w.rangeAt 1 0 wdCells := by
 intro j v hv
 have hj : j < wds.length := by have := (List.getElem?_eq_some_iff.1 hv).1; simpa [wdCells] using this
 rw [Nat.zero_add, h.wd j hj]
 simp only [wdCells, List.getElem?_map, List.getElem?_eq_getElem hj, Option.map_some, Option.some.injEq] at hv
 rw [← hv, List.getD_eq_getElem?_getD, List.getElem?_eq_getElem hj]
 rfl
theorem readKind_any (s : ByteArray) (w : World) (T : TypeId) (p : Value) (h : NoD w T p) (ht : DTab w) :
 Calls Tryz.prog 92 #[.string s] w fun e w' => Hid (Ans e T p ((kndS s.data.toList).map fun v => .int .i64 (v : Int))) ∧ w = w' := by
 have hn : w.cell? ⟨0, 0, none⟩ = some (.iface T p) := h
 clear h
 have HR : Hid (w.rangeAt 1 0 wdCells) := wd_range ht
 clear ht
 go_enter Tryz.func92, Tryz.ntmps92
 go_wp2_with (first | (refine wpList_load_mid (by rfl) 67 (.global 1) (by rfl) 1 0 (by rfl) wdCells _ HR.out Tryz.underlying67 (by rfl) wdInfo ?_) | go_in)
 go_loop [6] (fun i => ∃ k : Nat, k ≤ 31 ∧ i = .int .i64 (k : Int) ∧ Hid (∀ j : Nat, j < k → (wds.getD j ByteArray.empty).data.toList ≠ s.data.toList)) (fun i => 31 - (intOf i).toNat)
 case atStart => exact ⟨0, by omega, rfl, fun j hj => by omega⟩
 case round =>
  obtain ⟨k, hk, rfl, hj⟩ := hrel
  by_cases hlt : k < 31
  ·have hi := wd_idx k hlt
   obtain ⟨x, hx⟩ : ∃ x, x = wds.getD k ByteArray.empty := ⟨_, rfl⟩
   rw [← hx] at hi
   have HX : Hid (x = wds.getD k ByteArray.empty) := hx
   clear hx
   go_wp2
   ·have h1 : (s.toList == x.toList) = true := by assumption
    have he := knd_hit hlt (by rw [← HX.out]; rw [toL, toL] at h1; exact (eq_of_beq h1).symm) hj.out
    go_ret
    refine ⟨?_, rfl⟩
    show Ans _ T p _
    rw [he]
    exact (rfl : _ = _)
   ·have h1 : (s.toList == x.toList) = false := by assumption
    refine ⟨⟨k + 1, by omega, by go_num, fun j h3 => ?_⟩, by simp [intOf]; omega⟩
    by_cases hjk : j < k
    ·exact hj.out j hjk
    ·obtain rfl : j = k := by omega
     rw [← HX.out]
     rw [toL, toL, beq_eq_false_iff_ne] at h1
     exact fun e => h1 e.symm
  ·obtain rfl : k = 31 := by omega
   have he := knd_miss hj.out
   have HE : Hid (kndS s.data.toList = none) := he
   clear he
   go_wp2
   refine ⟨rfl, ?_, rfl⟩
   show Ans _ T p _
   rw [HE.out]
   exact (rfl : _ = _)
def nstep (v : Int) (c : UInt8) : Int := wrap64 (wrap64 (v * 10) + (((c.toNat : Int) - 48) % 256))
def numF (v : Int) (l : List UInt8) : Int := l.foldl nstep v
theorem numF_snoc (v : Int) (l : List UInt8) (c : UInt8) : numF v (l ++ [c]) = nstep (numF v l) c := by unfold numF; rw [List.foldl_append]; rfl
theorem wrap64_small {x : Int} (h0 : 0 ≤ x) (h1 : x ≤ 9223372036854775807) : wrap64 x = x := by unfold wrap64; omega
theorem wrap64_rng (x : Int) : -9223372036854775808 ≤ wrap64 x ∧ wrap64 x ≤ 9223372036854775807 := by unfold wrap64; omega
theorem numF_rng (l : List UInt8) : ∀ v : Int, (-9223372036854775808 ≤ v ∧ v ≤ 9223372036854775807) → -9223372036854775808 ≤ numF v l ∧ numF v l ≤ 9223372036854775807 := by
 induction l with
 | nil => intro v h; exact h
 | cons c l ih => intro v _; exact ih (nstep v c) (wrap64_rng _)
theorem numF_dv (D : List UInt8) (hd : ∀ c ∈ D, 48 ≤ c.toNat ∧ c.toNat ≤ 57) : ∀ acc : Nat, dv acc D ≤ 9223372036854775807 → numF (acc : Int) D = ((dv acc D : Nat) : Int) := by
 induction D with
 | nil => intro acc _; rfl
 | cons c D ih =>
  intro acc h
  rw [dv_cons] at h ⊢
  have hc := hd c (List.mem_cons_self ..)
  have hle := dv_le D (acc * 10 + (c.toNat - 48))
  have e : nstep (acc : Int) c = ((acc * 10 + (c.toNat - 48) : Nat) : Int) := by
   unfold nstep
   rw [wrap64_small (x := (acc : Int) * 10) (by omega) (by omega), wrap64_small (by omega) (by omega)]
   omega
  show numF (nstep (acc : Int) c) D = _
  rw [e]
  exact ih (fun d hd' => hd d (List.mem_cons_of_mem _ hd')) _ h
theorem numF_itoa {v : Int} (h0 : 0 ≤ v) (h1 : v ≤ 9223372036854775807) : numF 0 (Lib.itoa v) = v := by
 rw [itoa_nat h0]
 obtain ⟨d1, _, d3⟩ := dec_digits v.toNat
 have := numF_dv _ d1 0 (by rw [d3]; omega)
 rw [d3] at this
 rw [show ((0 : Nat) : Int) = 0 by rfl] at this
 rw [this]
 omega
theorem refNumber_any (s : ByteArray) (w : World) (hs : s.size ≤ 140737488355328) :
 Calls Tryz.prog 26 #[.string s] w fun e w' => e = .returned (.int .i64 (numF 0 s.data.toList)) ∧ w = w' := by
 obtain ⟨l, hl⟩ : ∃ l, s.data.toList = l := ⟨_, rfl⟩
 have HL : Hid (s.data.toList = l) := hl
 have HZ : Hid (s.size = l.length) := by rw [← hl]; exact Lib.size_eq s
 rw [hl]
 clear hl
 go_enter Tryz.func26, Tryz.ntmps26
 go_wp2
 go_loop [3, 4] (fun v i => ∃ k : Nat, k ≤ s.size ∧ i = .int .i64 (k : Int) ∧ v = .int .i64 (numF 0 (l.take k))) (fun _ i => s.size - (intOf i).toNat)
 case atStart => exact ⟨0, by omega, rfl, rfl⟩
 case round =>
  obtain ⟨k, hk, rfl, rfl⟩ := hrel
  by_cases hlt : k < s.size
  ·have k0 : (0 : Int) ≤ (k : Int) := by omega
   have k1 : (k : Int) < (s.size : Int) := by omega
   have hkl : k < l.length := by have := HZ.out; omega
   obtain ⟨c, hc⟩ : ∃ c, s[k]'hlt = c := ⟨_, rfl⟩
   have hcl : l[k] = c := by
    rw [← hc]
    have := HL.out
    subst this
    rfl
   have HST : Hid (numF 0 (l.take (k + 1)) = nstep (numF 0 (l.take k)) c) := by
    show _ = _
    rw [List.take_succ_eq_append_getElem hkl, numF_snoc, hcl]
   clear hcl
   go_wp2
   exact ⟨⟨k + 1, by omega, by go_num, by rw [HST.out]; rfl⟩, by simp [intOf]; omega⟩
  ·obtain rfl : k = s.size := by omega
   have e : l.take s.size = l := by rw [HZ.out, List.take_length]
   rw [e]
   clear e
   go_wp2
   go_ret
   exact ⟨rfl, rfl⟩
def noneF (l : List UInt8) : List UInt8 := if l = [45] then [] else l
theorem refNone_any (s : ByteArray) (w : World) : Calls Tryz.prog 49 #[.string s] w fun e w' => e = .returned (.string (bk (noneF s.data.toList))) ∧ w = w' := by
 unfold noneF
 by_cases h : s.data.toList = [45]
 ·rw [if_pos h]
  have hd : (s.toList == [45]) = true := by rw [ByteArray.toList_eq, h]; rfl
  go_enter Tryz.func49, Tryz.ntmps49
  go_wp2
  go_ret
  exact ⟨rfl, rfl⟩
 ·rw [if_neg h]
  have hd : (s.toList == [45]) = false := by rw [ByteArray.toList_eq]; simpa using h
  have HB : Hid (bk s.data.toList = s) := bk_of s
  go_enter Tryz.func49, Tryz.ntmps49
  go_wp2
  go_ret
  exact ⟨congrArg (fun b => Ending.returned (.string b)) HB.out.symm, rfl⟩
theorem refOper1_any (s : ByteArray) (w : World) : Calls Tryz.prog 51 #[.string s, .bool false] w fun e w' => (∃ v : Nat, e = .returned (.int .i64 (v : Int)) ∧ 1 ≤ v ∧ v ≤ 2 ∧ (s.data.toList = [33] → v = 2) ∧ (s.data.toList ≠ [33] → v = 1)) ∧ w = w' := by
 by_cases h : s.data.toList = [33]
 ·have hd : (s.toList == [33]) = true := by rw [ByteArray.toList_eq, h]; rfl
  have HH : Hid (s.data.toList = [33]) := h
  clear h
  go_enter Tryz.func51, Tryz.ntmps51
  go_wp2
  go_ret
  exact ⟨⟨2, rfl, by omega, by omega, fun _ => rfl, fun q => absurd HH.out q⟩, rfl⟩
 ·have hd : (s.toList == [33]) = false := by rw [ByteArray.toList_eq]; simpa using h
  have HH : Hid (s.data.toList ≠ [33]) := h
  clear h
  go_enter Tryz.func51, Tryz.ntmps51
  go_wp2
  go_ret
  exact ⟨⟨1, rfl, by omega, by omega, fun q => absurd q HH.out, fun _ => rfl⟩, rfl⟩
theorem refOper2_any (s : ByteArray) (w : World) : Calls Tryz.prog 51 #[.string s, .bool true] w fun e w' => (∃ v : Nat, e = .returned (.int .i64 (v : Int)) ∧ 3 ≤ v ∧ v ≤ 15 ∧ Hid ((v < 15 → (sgT.getD v ByteArray.empty).data.toList = s.data.toList) ∧ ∀ j, 3 ≤ j → j < v → (sgT.getD j ByteArray.empty).data.toList ≠ s.data.toList)) ∧ w = w' := by
 go_enter Tryz.func51, Tryz.ntmps51
 go_wp2
 go_loop [5] (fun i => ∃ k : Nat, 3 ≤ k ∧ k ≤ 15 ∧ i = .int .i64 (k : Int) ∧ Hid (∀ j : Nat, 3 ≤ j → j < k → (sgT.getD j ByteArray.empty).data.toList ≠ s.data.toList)) (fun i => 15 - (intOf i).toNat)
 case atStart => exact ⟨3, by omega, by omega, rfl, fun j h1 h2 => by omega⟩
 case round =>
  obtain ⟨k, hk1, hk2, rfl, hj⟩ := hrel
  by_cases hlt : k < 15
  ·have k1 : (k : Int) < 15 := by omega
   obtain ⟨x, hx⟩ : ∃ x, x = sgT.getD k ByteArray.empty := ⟨_, rfl⟩
   have HS : Hid (∀ w' : World, Calls Tryz.prog 44 #[.int .i64 (k : Int)] w' fun e w'' => e = .returned (.string x) ∧ w'' = w') := fun w' => by rw [hx]; exact sign_any k (by omega) (by omega) w'
   have HX : Hid (x = sgT.getD k ByteArray.empty) := hx
   clear hx
   go_wp2_with (first
    | (go_at_call 44; refine (HS.out _).mono ?_; rintro e w2 ⟨rfl, rfl⟩)
    | go_in)
   ·have h1 : (x.toList == s.toList) = true := by assumption
    go_ret
    exact ⟨⟨k, rfl, hk1, by omega, ⟨fun _ => (by rw [← HX.out]; rw [toL, toL] at h1; exact eq_of_beq h1), hj.out⟩⟩, rfl⟩
   ·have h1 : (x.toList == s.toList) = false := by assumption
    refine ⟨⟨k + 1, by omega, by omega, by go_num, fun j h2 h3 => ?_⟩, by simp [intOf]; omega⟩
    by_cases hjk : j < k
    ·exact hj.out j h2 hjk
    ·obtain rfl : j = k := by omega
     rw [← HX.out]
     rw [toL, toL, beq_eq_false_iff_ne] at h1
     exact h1
  ·obtain rfl : k = 15 := by omega
   go_wp2
   go_ret
   exact ⟨⟨15, rfl, by omega, by omega, ⟨fun h => absurd h (by omega), fun j h1 h2 e => hj.out j h1 h2 (by rw [List.getD_eq_getElem?_getD, e])⟩⟩, rfl⟩
def splA : List UInt8 → List UInt8 → List (List UInt8)
 | cur, [] => [cur]
 | cur, c :: r => if c = 32 then cur :: splA [] r else splA (cur ++ [c]) r
def splF (l : List UInt8) : List (List UInt8) := splA [] l
theorem splA_len : ∀ (l cur : List UInt8), 1 ≤ (splA cur l).length ∧ (splA cur l).length ≤ l.length + 1
 | [], cur => by unfold splA; simp
 | c :: r, cur => by
  unfold splA
  split
  ·have := splA_len r []
   simp only [List.length_cons]
   omega
  ·have := splA_len r (cur ++ [c])
   simp only [List.length_cons]
   omega
theorem splA_mem : ∀ (l cur : List UInt8), ∀ x ∈ splA cur l, x.length ≤ cur.length + l.length
 | [], cur, x, h => by unfold splA at h; rw [List.mem_singleton.1 h]; simp
 | c :: r, cur, x, h => by
  unfold splA at h
  split at h
  ·rcases List.mem_cons.1 h with rfl | h
   ·simp
   ·have := splA_mem r [] x h
    simp only [List.length_cons, List.length_nil] at this ⊢
    omega
  ·have := splA_mem r (cur ++ [c]) x h
   simp only [List.length_append, List.length_cons, List.length_nil] at this ⊢
   omega
theorem splA_app {a : List UInt8} (ha : ∀ c ∈ a, c ≠ 32) : ∀ (cur r : List UInt8), splA cur (a ++ r) = splA (cur ++ a) r := by
 induction a with
 | nil => intro cur r; simp
 | cons c a ih =>
  intro cur r
  show splA cur (c :: (a ++ r)) = _
  rw [splA, if_neg (ha c (List.mem_cons_self ..)), ih (fun d hd => ha d (List.mem_cons_of_mem _ hd))]
  simp
theorem splF_one {a : List UInt8} (ha : ∀ c ∈ a, c ≠ 32) : splF a = [a] := by
 have := splA_app ha [] []
 rw [List.append_nil, List.nil_append] at this
 exact this
theorem splF_cons {a r : List UInt8} (ha : ∀ c ∈ a, c ≠ 32) : splF (a ++ 32 :: r) = a :: splF r := by
 have := splA_app ha [] (32 :: r)
 rw [List.nil_append] at this
 unfold splF
 rw [this, splA, if_pos rfl]
theorem tw_all (p : UInt8 → Bool) : ∀ (l : List UInt8) (c : UInt8), c ∈ l.takeWhile p → p c = true
 | [], c, h => by simp at h
 | d :: l, c, h => by
  rw [List.takeWhile_cons] at h
  split at h
  ·rename_i hd
   rcases List.mem_cons.1 h with rfl | h
   ·exact hd
   ·exact tw_all p l c h
  ·simp at h
theorem splF_head (l : List UInt8) : ∃ r, splF l = (fstW l).1 :: r := by
 rcases fst_hd l with h | ⟨r0, h⟩
 ·have hj := fst_join l
  rw [h, List.append_nil] at hj
  have h32 : ∀ c ∈ (fstW l).1, c ≠ 32 := fun c hc e => by
   have := tw_all _ _ c hc
   simp [e] at this
  refine ⟨[], ?_⟩
  conv => lhs; rw [← hj]
  exact splF_one h32
 ·have hj := fst_join l
  rw [h] at hj
  have h32 : ∀ c ∈ (fstW l).1, c ≠ 32 := fun c hc e => by
   have := tw_all _ _ c hc
   simp [e] at this
  refine ⟨splF r0, ?_⟩
  conv => lhs; rw [← hj]
  exact splF_cons h32
def sv (l : List (List UInt8)) : List Value := l.map fun x => Value.string (bk x)
theorem sv_app (a b : List (List UInt8)) : sv (a ++ b) = sv a ++ sv b := List.map_append
theorem info9s : (Tryz.prog.info? 9).map (fun i => (i.zero, i.size, i.bytes)) = some (some (.string ⟨#[]⟩), 1, 16) := by kernel_rfl
theorem wpList_appStr {w : World} {ops : Array Oper} {rest : List Oper} {o : Oper} {a : Act} {Q : Exit → Act → World → Prop} (hgd : o.guard = none) (s x : Operand)
 (ho : o.op = .call { callee := .builtin .append, args := #[s, x], argTypes := #[55, 55] })
 (base : Nat) (v : Value) (l : List (List UInt8)) (n : Nat) (hn : l.length = n) (y : List UInt8) (hs : a.eval s = v) (hx : a.eval x = .slice (some ⟨w.heap.size, 0, none⟩) 1 1) (hown : Hid (w.ownsRow base 9 1 v n (sv l))) (h40 : n + 1 ≤ 1073741824) (hbase : base ≤ w.heap.size)
 (h : ∀ v' w', Hid (w'.ownsRow base 9 1 v' (n + 1) (sv (l ++ [y]))) → Hid (Below base w w' ∧ Lib.OthersKept 9 none w w') → wpList Tryz.prog ops Q rest (a.put o.dst v') w') : wpList Tryz.prog ops Q (o :: rest) a (w.alloc (.cells #[.string (bk y)] 9)) := by
 obtain ⟨i0, hi, hz0, hz1, hz2⟩ := info_parts info9s
 have ho2 := World.ownsRow.alloc hown.out (.cells #[.string (bk y)] 9)
 obtain ⟨v', w', hr, h2, h3, _⟩ := run_append_own (P := Tryz.prog) (w.alloc (.cells #[.string (bk y)] 9)) base 55 o.type 9 i0 _ 1 16 Tryz.underlying55 hi hz0 hz1 hz2 rfl (by decide) v n (sv l) ho2 ⟨w.heap.size, 0, none⟩ 1 1 [.string (bk y)] rfl
  (World.news_of_block (heap_alloc_new w _)) (by intro u hu; rw [List.mem_singleton.1 hu]; rfl) (by unfold maxLen; omega) (by omega) (by simp; omega)
 refine wpList_plain hgd fun K hK => ?_
 unfold Oper.wp execOp
 simp only [ho, resolve, invoke, builtin, Sem.run_bind, Sem.run_pure, Result.andThen_ok, List.map_toArray, List.map_cons, List.map_nil, hs, hx, hr]
 refine hK _ _ (h v' w' ?_ ?_)
 ·show w'.ownsRow base 9 1 v' (n + 1) (sv (l ++ [y]))
  rw [sv_app]
  exact h2
 ·exact ⟨((Below.refl base w).alloc hbase _).grown h3 (by simp; omega) (own_ge ho2), ((Lib.OthersKept.refl _ _ _).alloc _).grown h3 (Lib.ownsRow_kind ho2)⟩
end Go.Proofs.YtekgnogjfggnmaaGreatDoor
