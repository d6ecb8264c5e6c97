import Derived.Test.YtcjnejdemfemfaaGreatDoorCB1
namespace Go.Proofs.YtcjnejdemfemfaaGreatDoor
open Go.RowKit

theorem or_low (X b : Nat) (h : X % 256 = 0) (hb : b < 256) : X ||| b = X + b := by
  have e : X = (X / 256) <<< 8 := by rw [Nat.shiftLeft_eq]; omega
  rw [e, ← Nat.shiftLeft_add_eq_or_of_lt (i := 8) hb]
theorem bits_or (n : Int) (b : Nat) (hb : b < 256) : bits BinOp.or IntKind.i64 (wrap64 (n * 256)) (b : Int) = wrap64 (n * 256) + (b : Int) := by
  unfold bits
  simp only [BitVec.toNat_or, BitVec.toNat_ofInt]
  have h1 : (((b : Int) % ((2 ^ IntKind.i64.bits : Nat) : Int))).toNat = b := by
    show ((b : Int) % 18446744073709551616).toNat = b
    omega
  rw [h1]
  have h2 : ((wrap64 (n * 256) % ((2 ^ IntKind.i64.bits : Nat) : Int))).toNat = (wrap64 (n * 256) % 18446744073709551616).toNat := rfl
  rw [h2, or_low _ _ (by unfold wrap64; omega) hb, IntKind.wrap_i64]
  unfold wrap64
  omega

/-- The reader in memory. -/
def Rd (w : World) (rb : Nat) (st : Rs) : Prop := w.heap[rb]? = some (.cells #[.string (YtcjnejdemfemfaaGreatDoor.bk st.1), .bool st.2] 56) ∧ st.1.length ≤ 281474976710656
theorem Rd.box {w : World} {rb : Nat} {st : Rs} (h : Rd w rb st) : Box2 w rb (.string (YtcjnejdemfemfaaGreatDoor.bk st.1)) (.bool st.2) := by
  refine ⟨⟨?_, ?_⟩, ?_, ?_⟩
  all_goals first | (unfold World.cell?; rw [h.1]; rfl) | (unfold World.frozen?; rw [h.1]; rfl)
theorem Rd.lt {w : World} {rb : Nat} {st : Rs} (h : Rd w rb st) : rb < w.heap.size := (Array.getElem?_eq_some_iff.1 h.1).1
theorem Rd.same {w w' : World} {rb : Nat} {st : Rs} (h : Rd w rb st) (e : w'.heap[rb]? = w.heap[rb]?) : Rd w' rb st := ⟨e.trans h.1, h.2⟩
theorem Rd.next {w w' : World} {rb : Nat} {st : Rs} (h : Rd w rb st) (b : Below w.heap.size w w') : Rd w' rb st := h.same (b.block rb h.lt)
theorem set_blk {w : World} {g j : Nat} {C : Array Value} {t : TypeId} (h : w.heap[g]? = some (.cells C t)) (v : Value) : (w.setCell ⟨g, j, none⟩ v).heap[g]? = some (.cells (C.set! j v) t) := by
  unfold World.setCell
  simp only [Array.getElem?_modify]
  rw [if_pos trivial, h]
  simp
theorem Rd.rest {w : World} {rb : Nat} {st : Rs} (h : Rd w rb st) (l : List UInt8) (hl : l.length ≤ st.1.length) : Rd (w.setCell ⟨rb, 0, none⟩ (.string (YtcjnejdemfemfaaGreatDoor.bk l))) rb (l, st.2) := ⟨set_blk h.1 _, Nat.le_trans hl h.2⟩
theorem Rd.brk {w : World} {rb : Nat} {st : Rs} (h : Rd w rb st) : Rd (w.setCell ⟨rb, 1, none⟩ (.bool true)) rb (st.1, true) := ⟨set_blk h.1 _, h.2⟩
theorem kp_rb (w : World) (rb j : Nat) (v : Value) : Kp (fun x => x = rb) w (w.setCell ⟨rb, j, none⟩ v) := (Kp.refl (fun x => x = rb) w).setCell (p := ⟨rb, j, none⟩) (.inl rfl) _
theorem bk_cut (l : List UInt8) (n : Nat) : (YtcjnejdemfemfaaGreatDoor.bk l).extract 0 n = YtcjnejdemfemfaaGreatDoor.bk (l.take n) := by
  apply ByteArray.ext
  simp [YtcjnejdemfemfaaGreatDoor.bk, ByteArray.data_extract]
theorem bk_rest (l : List UInt8) (n : Nat) : (YtcjnejdemfemfaaGreatDoor.bk l).extract n (YtcjnejdemfemfaaGreatDoor.bk l).size = YtcjnejdemfemfaaGreatDoor.bk (l.drop n) := by
  apply ByteArray.ext
  simp [YtcjnejdemfemfaaGreatDoor.bk, ByteArray.data_extract, ByteArray.size, List.take_of_length_le]
set_option maxRecDepth 100000 in
set_option maxHeartbeats 2000000 in
theorem bytes_f (w : World) (rb n : Nat) (st : Rs) (h : Rd w rb st) (hn : n ≤ 9223372036854775807) :
    Calls Tryz.prog 45 #[.pointer (some ⟨rb, 0, none⟩), .int .i64 (n : Int)] w fun e w' => e = .returned (.string (YtcjnejdemfemfaaGreatDoor.bk (rdB n st).1)) ∧ Hid (Rd w' rb (rdB n st).2 ∧ Kp (fun x => x = rb) w w') := by
  obtain ⟨⟨h0, f0⟩, h1, f1⟩ := h.box
  have HR : Hid (Rd w rb st) := h
  have hz : ((YtcjnejdemfemfaaGreatDoor.bk st.1).size : Int) ≤ 281474976710656 := by rw [bk_size]; have := h.2; omega
  obtain ⟨l, bd⟩ := st
  simp only at *
  cases bd
  case true =>
    have e : rdB n (l, true) = ([], (l, true)) := by unfold rdB; rw [if_pos (by simp)]
    rw [e]
    have HB : Hid (Rd (w.setCell ⟨rb, 1, none⟩ (.bool true)) rb (l, true)) := HR.out.brk
    go_enter Tryz.func45, Tryz.ntmps45
    go_wp2
    go_ret
    exact ⟨rfl, HB.out, kp_rb _ _ _ _⟩
  by_cases hl : l.length < n
  · have e : rdB n (l, false) = ([], (l, true)) := by unfold rdB; rw [if_pos (by simp [hl])]
    rw [e]
    have HB : Hid (Rd (w.setCell ⟨rb, 1, none⟩ (.bool true)) rb (l, true)) := HR.out.brk
    have hl' : ((YtcjnejdemfemfaaGreatDoor.bk l).size : Int) < (n : Int) := by rw [bk_size]; omega
    generalize YtcjnejdemfemfaaGreatDoor.bk l = s at *
    go_enter Tryz.func45, Tryz.ntmps45
    go_wp2
    go_ret
    exact ⟨rfl, HB.out, kp_rb _ _ _ _⟩
  · have e : rdB n (l, false) = (l.take n, (l.drop n, false)) := by unfold rdB; rw [if_neg (by simp; omega)]
    rw [e]
    have e1 := bk_cut l n
    have e2 := bk_rest l n
    have HB : Hid (Rd (w.setCell ⟨rb, 0, none⟩ (.string (YtcjnejdemfemfaaGreatDoor.bk (l.drop n)))) rb (l.drop n, false)) := HR.out.rest _ (by simp)
    have hl' : (n : Int) ≤ ((YtcjnejdemfemfaaGreatDoor.bk l).size : Int) := by rw [bk_size]; omega
    have n0 : (0 : Int) ≤ (n : Int) := by omega
    clear e
    generalize YtcjnejdemfemfaaGreatDoor.bk (l.drop n) = sd at *
    generalize YtcjnejdemfemfaaGreatDoor.bk (l.take n) = st at *
    generalize YtcjnejdemfemfaaGreatDoor.bk l = s at *
    go_enter Tryz.func45, Tryz.ntmps45
    go_wp2
    go_ret
    exact ⟨rfl, HB.out, kp_rb _ _ _ _⟩
theorem take_snoc {α : Type} (l : List α) (d : α) (j : Nat) (hj : j < l.length) : l.take (j + 1) = l.take j ++ [l.getD j d] := by
  rw [List.take_succ_eq_append_getElem hj, List.getD_eq_getElem?_getD, List.getElem?_eq_getElem hj]
  rfl
set_option maxRecDepth 100000 in
set_option maxHeartbeats 2000000 in
theorem number_f (w : World) (rb n : Nat) (st : Rs) (h : Rd w rb st) (hn : n ≤ 8) :
    Calls Tryz.prog 23 #[.pointer (some ⟨rb, 0, none⟩), .int .i64 (n : Int)] w fun e w' => e = .returned (.int .i64 (rdN n st).1) ∧ Hid (Rd w' rb (rdN n st).2 ∧ Kp (fun x => x = rb) w w') := by
  have hby := bytes_f w rb n st h (by omega)
  have e1 : (rdN n st).1 = numV (rdB n st).1 := rfl
  have e2 : (rdN n st).2 = (rdB n st).2 := rfl
  have hal : ((rdB n st).1.length : Int) ≤ 8 := by have := rdB_len n st; omega
  rw [e1, e2]
  clear e1 e2
  generalize (rdB n st).1 = a at hby hal ⊢
  generalize (rdB n st).2 = s2 at hby ⊢
  have HCV : Hid (∀ W : World, (convert 9 66 (.string (YtcjnejdemfemfaaGreatDoor.bk a))).run Tryz.prog W = .ok (.slice (some ⟨W.heap.size, 0, none⟩) a.length (grownCap W a.length 0 5)) (Lib.bytesWorld W 5 (YtcjnejdemfemfaaGreatDoor.bk a))) := fun W => by
    have hcv := Lib.run_convert_string_bytes (P := Tryz.prog) W 9 66 5 (YtcjnejdemfemfaaGreatDoor.bk a) Tryz.underlying9 Tryz.underlying66 Tryz.underlying5
    rw [bk_size] at hcv
    exact hcv
  have HB : Hid (∀ W : World, Below W.heap.size W (Lib.bytesWorld W 5 (YtcjnejdemfemfaaGreatDoor.bk a)) ∧ ∀ j, j < a.length → (Lib.bytesWorld W 5 (YtcjnejdemfemfaaGreatDoor.bk a)).cell? ⟨W.heap.size, j, none⟩ = some (.int .u8 ((a.getD j 0).toNat : Int))) := fun W =>
    ⟨⟨rfl, rfl, rfl, by rw [Lib.bytesWorld_size]; omega, fun k hk => Lib.bytesWorld_at_old W 5 (YtcjnejdemfemfaaGreatDoor.bk a) k hk⟩, fun j hj => by
      have := Lib.bytesWorld_cell W 5 (YtcjnejdemfemfaaGreatDoor.bk a) j (by rw [bk_size]; exact hj)
      rwa [bk_data] at this⟩
  clear h
  go_enter Tryz.func23, Tryz.ntmps23
  go_wp2_with fail
  refine hby.mono ?_
  rintro e W ⟨rfl, hW⟩
  have hcv := HCV.out W
  obtain ⟨b1, b2⟩ := HB.out W
  have HC : Hid (∀ j, j < a.length → (Lib.bytesWorld W 5 (YtcjnejdemfemfaaGreatDoor.bk a)).cell? ⟨W.heap.size, j, none⟩ = some (.int .u8 ((a.getD j 0).toNat : Int))) := b2
  have HW : Hid (Below W.heap.size W (Lib.bytesWorld W 5 (YtcjnejdemfemfaaGreatDoor.bk a))) := b1
  clear b1 b2 HB HCV hby
  generalize Lib.bytesWorld W 5 (YtcjnejdemfemfaaGreatDoor.bk a) = W2 at *
  generalize grownCap W a.length 0 5 = cp at hcv
  go_wp2_with fail
  go_loopw [5, 13] (fun n v wr => ∃ j : Nat, j ≤ a.length ∧ v = .int .i64 (j : Int) ∧ n = .int .i64 (numV (a.take j)) ∧ wr = W2) (fun _ v _ => a.length - (intOf v).toNat)
  case atStart => exact ⟨0, Nat.zero_le _, rfl, rfl, rfl⟩
  case round =>
    obtain ⟨j, hj, rfl, rfl, hwr⟩ := hrel
    subst wr
    by_cases hlt : j < a.length
    case neg =>
      obtain rfl : j = a.length := by omega
      rw [List.take_length]
      go_wp2
      first | (change bodyPost Tryz.prog Tryz.f23 _ Exit.ret _ _) | (simp only [Exit.noGoto])
      go_ret
      exact ⟨rfl, hW.out.1.next HW.out, hW.out.2.next HW.out⟩
    have c := HC.out j hlt
    have j0 : (0 : Int) ≤ (j : Int) := by omega
    have j1 : (j : Int) < (a.length : Int) := by omega
    have HS : Hid (numV (a.take (j + 1)) = wrap64 (numV (a.take j) * 256) + ((a.getD j 0).toNat : Int)) := by
      show _ = _
      rw [take_snoc a 0 j hlt, numV_snoc]
    have hbb := UInt8.toNat_lt (a.getD j 0)
    generalize numV (a.take j) = nn at HS ⊢
    generalize (a.getD j 0).toNat = bb at HS hbb c
    go_wp2
    exact ⟨⟨j + 1, by omega, by go_num, by rw [bits_or nn bb hbb, HS.out], trivial⟩, by simp [intOf]; omega⟩
set_option maxRecDepth 100000 in
set_option maxHeartbeats 2000000 in
theorem count_f (w : World) (rb n m : Nat) (st : Rs) (h : Rd w rb st) (hn : n ≤ 7) :
    Calls Tryz.prog 46 #[.pointer (some ⟨rb, 0, none⟩), .int .i64 (n : Int), .int .i64 (m : Int)] w fun e w' => e = .returned (.int .i64 ((rdC n m st).1 : Int)) ∧ Hid (Rd w' rb (rdC n m st).2 ∧ Kp (fun x => x = rb) w w') := by
  have hc := number_f w rb n st h (by omega)
  have h0 := rdN_rng n hn st
  by_cases hm : (m : Int) < (rdN n st).1
  · have e : rdC n m st = (0, ((rdN n st).2.1, true)) := by unfold rdC; rw [if_pos hm]
    rw [e]
    generalize (rdN n st).1 = v at *
    generalize (rdN n st).2 = s2 at *
    clear h e
    go_enter Tryz.func46, Tryz.ntmps46
    go_wp2_with fail
    refine hc.mono ?_
    rintro e w1 ⟨rfl, hw⟩
    obtain ⟨⟨p0, q0⟩, p1, q1⟩ := hw.out.1.box
    go_wp2
    go_ret
    exact ⟨rfl, hw.out.1.brk, hw.out.2.trans (kp_rb _ _ _ _) (fun _ _ q => q)⟩
  · have e : rdC n m st = ((rdN n st).1.toNat, (rdN n st).2) := by unfold rdC; rw [if_neg hm]
    rw [e]
    have e2 : (((rdN n st).1.toNat : Nat) : Int) = (rdN n st).1 := Int.toNat_of_nonneg h0
    simp only [e2]
    generalize (rdN n st).1 = v at *
    generalize (rdN n st).2 = s2 at *
    clear h e e2
    go_enter Tryz.func46, Tryz.ntmps46
    go_wp2_with fail
    refine hc.mono ?_
    rintro e w1 ⟨rfl, hw⟩
    go_wp2
    go_ret
    exact ⟨rfl, hw⟩
end Go.Proofs.YtcjnejdemfemfaaGreatDoor
namespace Go.Proofs.YtcjnejdemfemfaaGreatDoor
open Go.RowKit

theorem blk_cell {w : World} {g : Nat} {C : Array Value} {t : TypeId} (h : w.heap[g]? = some (.cells C t)) (j : Nat) (v : Value) (hv : C[j]? = some v) : w.cell? ⟨g, j, none⟩ = some v ∧ w.frozen? ⟨g, j, none⟩ = false := by
  refine ⟨?_, ?_⟩
  · unfold World.cell?; rw [h]; simpa using hv
  · unfold World.frozen?; rw [h]; simp
theorem rep_succ {α : Type} (f : Rs → α × Rs) : ∀ (j : Nat) (s : Rs), (rep f (j + 1) s).1 = (rep f j s).1 ++ [(f (rep f j s).2).1] ∧ (rep f (j + 1) s).2 = (f (rep f j s).2).2
  | 0, s => ⟨rfl, rfl⟩
  | j + 1, s => by
    obtain ⟨h1, h2⟩ := rep_succ f j (f s).2
    refine ⟨?_, ?_⟩
    · show (f s).1 :: (rep f (j + 1) (f s).2).1 = ((f s).1 :: (rep f j (f s).2).1) ++ _
      rw [h1]
      rfl
    · exact h2
/-- A result and a value that are being made beside the reader. -/
structure Mk (w W : World) (rb p2 p3 : Nat) (Z C : Array Value) (t : TypeId) (st : Rs) : Prop where
  rd : Rd W rb st
  kp : Kp (fun x => x = rb) w W
  b2 : W.heap[p2]? = some (.cells Z t)
  b3 : W.heap[p3]? = some (.cells C t)
  n2 : p2 ≠ rb
  n3 : p3 ≠ rb
  ne : p2 ≠ p3
  l2 : w.heap.size ≤ p2
  l3 : w.heap.size ≤ p3
theorem Mk.lt3 {w W : World} {rb p2 p3 : Nat} {Z C : Array Value} {t : TypeId} {st : Rs} (h : Mk w W rb p2 p3 Z C t st) : p3 < W.heap.size := (Array.getElem?_eq_some_iff.1 h.b3).1
theorem Mk.lt2 {w W : World} {rb p2 p3 : Nat} {Z C : Array Value} {t : TypeId} {st : Rs} (h : Mk w W rb p2 p3 Z C t st) : p2 < W.heap.size := (Array.getElem?_eq_some_iff.1 h.b2).1
theorem Mk.call {w W W' : World} {rb p2 p3 : Nat} {Z C : Array Value} {t : TypeId} {st st' : Rs} (h : Mk w W rb p2 p3 Z C t st) (r : Rd W' rb st') (k : Kp (fun x => x = rb) W W') : Mk w W' rb p2 p3 Z C t st' :=
  ⟨r, h.kp.trans k (fun _ _ q => q), (k.block _ h.lt2 h.n2).trans h.b2, (k.block _ h.lt3 h.n3).trans h.b3, h.n2, h.n3, h.ne, h.l2, h.l3⟩
theorem Mk.next {w W W' : World} {rb p2 p3 : Nat} {Z C : Array Value} {t : TypeId} {st : Rs} (h : Mk w W rb p2 p3 Z C t st) (k : Below W.heap.size W W') : Mk w W' rb p2 p3 Z C t st := h.call (h.rd.next k) (Kp.of k)
theorem Mk.set {w W : World} {rb p2 p3 : Nat} {Z C : Array Value} {t : TypeId} {st : Rs} (h : Mk w W rb p2 p3 Z C t st) (j : Nat) (v : Value) : Mk w (W.setCell ⟨p3, j, none⟩ v) rb p2 p3 Z (C.set! j v) t st :=
  ⟨h.rd.same (set_heap (a := ⟨p3, j, none⟩) h.n3.symm), h.kp.setCell (p := ⟨p3, j, none⟩) (.inr h.l3) v, (set_heap (a := ⟨p3, j, none⟩) h.ne).trans h.b2, set_blk h.b3 v, h.n2, h.n3, h.ne, h.l2, h.l3⟩
theorem Mk.res {w W : World} {rb p2 p3 : Nat} {Z C : Array Value} {t : TypeId} {st : Rs} (h : Mk w W rb p2 p3 Z C t st) (j : Nat) (v : Value) : Mk w (W.setCell ⟨p2, j, none⟩ v) rb p2 p3 (Z.set! j v) C t st :=
  ⟨h.rd.same (set_heap (a := ⟨p2, j, none⟩) h.n2.symm), h.kp.setCell (p := ⟨p2, j, none⟩) (.inr h.l2) v, set_blk h.b2 v, (set_heap (a := ⟨p2, j, none⟩) (Ne.symm h.ne)).trans h.b3, h.n2, h.n3, h.ne, h.l2, h.l3⟩
theorem Mk.grown {w W W' : World} {rb p2 p3 : Nat} {Z C : Array Value} {t : TypeId} {st : Rs} (h : Mk w W rb p2 p3 Z C t st) {row : Option Nat} (hg : W.grownBy W' row) (hr : ∀ k, row = some k → w.heap.size ≤ k ∧ k ≠ p2 ∧ k ≠ p3 ∧ k ≠ rb) : Mk w W' rb p2 p3 Z C t st := by
  have e : ∀ b, b < W.heap.size → row ≠ some b → W'.heap[b]? = W.heap[b]? := fun b hb hn => hg.block b hb (fun q => hn q.symm)
  exact ⟨h.rd.same (e rb h.rd.lt (fun q => (hr _ q).2.2.2 rfl)), h.kp.grown hg (fun k hk => .inr (hr k hk).1), (e p2 h.lt2 (fun q => (hr _ q).2.1 rfl)).trans h.b2, (e p3 h.lt3 (fun q => (hr _ q).2.2.1 rfl)).trans h.b3, h.n2, h.n3, h.ne, h.l2, h.l3⟩
theorem number_v (w : World) (rb n : Nat) (st : Rs) (h : Rd w rb st) (hn : n ≤ 8) :
    Calls Tryz.prog 23 #[.pointer (some ⟨rb, 0, none⟩), .int .i64 (n : Int)] w fun e w' => ∃ v, e = .returned v ∧ (v = .int .i64 (rdN n st).1 ∧ Hid (Rd w' rb (rdN n st).2 ∧ Kp (fun x => x = rb) w w')) := (number_f w rb n st h hn).mono fun _ _ ⟨a, b⟩ => ⟨_, a, rfl, b⟩
theorem callr (a b : Value) (w : World) : (callFunc 23 #[a, b]).run Tryz.prog w = .ok (.enter 23 #[a, b]) w := by kernel_rfl
theorem infoSort : (Tryz.prog.info? 41).map (fun i => (i.zero, i.size, i.bytes)) = some (some (.int .i64 0), 1, 8) := by kernel_rfl
theorem sv_app (a b : List Int) : sv (a ++ b) = sv a ++ sv b := List.map_append
theorem range_new (w : World) (C : Array Value) (t : TypeId) : (w.alloc (.cells C t)).rangeAt w.heap.size 0 C.toList := fun j v hv => by
  rw [Nat.zero_add]
  exact (cells_new w C t j v (by simpa using hv)).1
theorem own_kp {w w' : World} {B : Nat} {e : TypeId} {sz : Nat} {v : Value} {n : Nat} {xs : List Value} {rb : Nat} {st : Rs} (h : w.ownsRow B e sz v n xs) (r : Rd w rb st) (he : e ≠ 56) (k : Kp (fun x => x = rb) w w') : w'.ownsRow B e sz v n xs :=
  own_same h fun g hg => k.block g (own_blk h g hg).lt (fun q => by
    subst q
    exact (own_ne h (b := g) (t := 56) (m := 2) ⟨_, r.1, Nat.le_refl _⟩ (Ne.symm he)) hg)
theorem own_setB {w : World} {B : Nat} {e t : TypeId} {sz : Nat} {v : Value} {n : Nat} {xs : List Value} {p j : Nat} {C : Array Value} (h : w.ownsRow B e sz v n xs) (hb : w.heap[p]? = some (.cells C t)) (ht : t ≠ e) (u : Value) : (w.setCell ⟨p, j, none⟩ u).ownsRow B e sz v n xs :=
  own_same h fun g hg => set_heap (a := ⟨p, j, none⟩) (fun q => by
    have q' : g = p := q
    subst q'
    exact (own_ne h (b := g) (t := t) (m := C.size) ⟨_, hb, Nat.le_refl _⟩ ht) hg)
end Go.Proofs.YtcjnejdemfemfaaGreatDoor
namespace Go.Proofs.YtcjnejdemfemfaaGreatDoor
open Go.RowKit

theorem rdI_eq (st : Rs) : rdI st = if 24 ≤ (rdN 1 st).1 then ((0, 0, 0), ((rdN 1 st).2.1, true)) else (((rdN 1 st).1, (rdN (shWd.getD (opA.getD (rdN 1 st).1.toNat 0) 0) (rdN 1 st).2).1, (rdN (shWd.getD (opB.getD (rdN 1 st).1.toNat 0) 0) (rdN (shWd.getD (opA.getD (rdN 1 st).1.toNat 0) 0) (rdN 1 st).2).2).1), (rdN (shWd.getD (opB.getD (rdN 1 st).1.toNat 0) 0) (rdN (shWd.getD (opA.getD (rdN 1 st).1.toNat 0) 0) (rdN 1 st).2).2).2) := rfl
theorem Kp.tabs {w W : World} {rb : Nat} (h : Tabs w) (k : Kp (fun x => x = rb) w W) (hr : 10 ≤ rb) : Tabs W := h.below (B := 10) (k.below (fun _ q => by omega) h.size) (Nat.le_refl _)
set_option maxRecDepth 100000 in
set_option maxHeartbeats 4000000 in
theorem instr_f (w : World) (rb : Nat) (st : Rs) (h : Rd w rb st) (ht : Tabs w) (hr : 10 ≤ rb) :
    Calls Tryz.prog 49 #[.pointer (some ⟨rb, 0, none⟩)] w fun e w' => e = .returned (.agg (ic (rdI st).1).toArray) ∧ Hid (Rd w' rb (rdI st).2 ∧ Kp (fun x => x = rb) w w') := by
  obtain ⟨R, HR⟩ : ∃ R, Hid (R = rdI st) := ⟨_, rfl⟩
  rw [← HR.out]
  have hE := rdI_eq st
  have hrb := h.lt
  have h0 := rdN_rng 1 (by decide) st
  obtain ⟨W0, hW0⟩ : ∃ W0, W0 = w.alloc (.cells #[.int .i64 0, .int .i64 0, .int .i64 0] 48) := ⟨_, rfl⟩
  have nb : Below w.heap.size w W0 := by rw [hW0]; exact (Below.refl _ w).alloc (Nat.le_refl _) _
  have P0 : W0.heap[w.heap.size]? = some (.cells #[.int .i64 0, .int .i64 0, .int .i64 0] 48) := by rw [hW0]; exact World.alloc_heap_new w _
  have hz0 : W0.heap.size = w.heap.size + 1 := by rw [hW0]; simp
  have n1 := number_f W0 rb 1 st (h.next nb) (by decide)
  generalize hq : rdN 1 st = N1 at *
  obtain ⟨op, st1⟩ := N1
  simp only at hE h0 n1
  have HE : Hid (R = _) := HR.out.trans hE
  clear hE HR hq
  go_enter Tryz.func49, Tryz.ntmps49
  go_upto_region 1 with fail
  rw [← hW0]
  clear hW0
  go_wp2_with fail
  refine n1.mono ?_
  rintro e W1 ⟨rfl, hw1⟩
  obtain ⟨r1, k1⟩ := hw1.out
  have P1 := (k1.block w.heap.size (by omega) (by omega)).trans P0
  have hz1 : w.heap.size < W1.heap.size := by have := k1.size; omega
  obtain ⟨W2, hW2⟩ : ∃ W2, W2 = W1.alloc (.cells #[.int .i64 op, .int .i64 0, .int .i64 0] 48) := ⟨_, rfl⟩
  have nb2 : Below W1.heap.size W1 W2 := by rw [hW2]; exact (Below.refl _ W1).alloc (Nat.le_refl _) _
  have M2 : Mk w W2 rb w.heap.size W1.heap.size #[.int .i64 0, .int .i64 0, .int .i64 0] #[.int .i64 op, .int .i64 0, .int .i64 0] 48 st1 :=
    ⟨r1.next nb2, ((Kp.of nb).trans k1 (fun _ _ q => q)).next nb2, (nb2.block _ hz1).trans P1, by rw [hW2]; exact World.alloc_heap_new W1 _, by omega, by omega, by omega, Nat.le_refl _, by omega⟩
  have HM2 : Hid (Mk w W2 rb w.heap.size W1.heap.size #[.int .i64 0, .int .i64 0, .int .i64 0] #[.int .i64 op, .int .i64 0, .int .i64 0] 48 st1) := M2
  obtain ⟨m0, -⟩ := blk_cell M2.b3 0 (.int .i64 op) rfl
  clear n1 P0 P1 hw1 k1 r1 nb nb2 M2
  go_upto_region 2 with fail
  rw [← hW2]
  clear hW2
  generalize W1.heap.size = p3 at *
  by_cases hop : 24 ≤ op
  case pos =>
    rw [if_pos hop] at HE
    obtain ⟨⟨c0, f0⟩, c1, f1⟩ := HM2.out.rd.box
    have HB := HM2.out.rd.brk
    have hMb : Mk w (W2.setCell ⟨rb, 1, none⟩ (.bool true)) rb w.heap.size p3 #[.int .i64 0, .int .i64 0, .int .i64 0] #[.int .i64 op, .int .i64 0, .int .i64 0] 48 (st1.1, true) := HM2.out.call HB (kp_rb _ _ _ _)
    have HMb : Hid (Mk w (W2.setCell ⟨rb, 1, none⟩ (.bool true)) rb w.heap.size p3 #[.int .i64 0, .int .i64 0, .int .i64 0] #[.int .i64 op, .int .i64 0, .int .i64 0] 48 (st1.1, true)) := hMb
    clear hMb HB
    go_upto_region 4 with fail
    obtain ⟨x0, y0⟩ := blk_cell HMb.out.b2 0 (.int .i64 0) rfl
    obtain ⟨x1, y1⟩ := blk_cell HMb.out.b2 1 (.int .i64 0) rfl
    obtain ⟨x2, y2⟩ := blk_cell HMb.out.b2 2 (.int .i64 0) rfl
    generalize W2.setCell ⟨rb, 1, none⟩ (.bool true) = W3 at *
    go_wp2
    have HF : Hid (Mk w (((W3.setCell ⟨w.heap.size, 0, none⟩ (.int .i64 0)).setCell ⟨w.heap.size, 1, none⟩ (.int .i64 0)).setCell ⟨w.heap.size, 2, none⟩ (.int .i64 0)) rb w.heap.size p3 #[.int .i64 0, .int .i64 0, .int .i64 0] #[.int .i64 op, .int .i64 0, .int .i64 0] 48 (st1.1, true)) := ((HMb.out.res 0 (.int .i64 0)).res 1 (.int .i64 0)).res 2 (.int .i64 0)
    generalize ((W3.setCell ⟨w.heap.size, 0, none⟩ (.int .i64 0)).setCell ⟨w.heap.size, 1, none⟩ (.int .i64 0)).setCell ⟨w.heap.size, 2, none⟩ (.int .i64 0) = W4 at HF ⊢
    obtain ⟨q0, -⟩ := blk_cell HF.out.b2 0 (.int .i64 0) rfl
    obtain ⟨q1, -⟩ := blk_cell HF.out.b2 1 (.int .i64 0) rfl
    obtain ⟨q2, -⟩ := blk_cell HF.out.b2 2 (.int .i64 0) rfl
    exact bodyPost_ret (v := .agg #[.int .i64 0, .int .i64 0, .int .i64 0]) (by simp [results, Tryz.results49, go_sem, q0, q1, q2]) rfl ⟨by rw [HE.out]; rfl, by rw [HE.out]; exact ⟨HF.out.rd, HF.out.kp⟩⟩
  rw [if_neg hop] at HE
  obtain ⟨k, rfl⟩ : ∃ k : Nat, op = (k : Int) := ⟨op.toNat, by omega⟩
  rw [Int.toNat_natCast] at HE
  have hk : k < 24 := by omega
  have tb := HM2.out.kp.tabs ht hr
  obtain ⟨i0, i1, i2⟩ := tb.ins k hk
  have hoa := opA_lt k
  have hob := opB_lt k
  have hwa := wd_le (opA.getD k 0)
  have hwb := wd_le (opB.getD k 0)
  have HSA : Hid (∀ W, Kp (fun x => x = rb) w W → W.cell? ⟨1, opA.getD k 0 * 3 + 2, none⟩ = some (.int .i64 ((shWd.getD (opA.getD k 0) 0 : Nat) : Int)) ∧ W.cell? ⟨1, opB.getD k 0 * 3 + 2, none⟩ = some (.int .i64 ((shWd.getD (opB.getD k 0) 0 : Nat) : Int))) := fun W hW => ⟨((hW.tabs ht hr).shp _ hoa).2.2, ((hW.tabs ht hr).shp _ hob).2.2⟩
  generalize shWd.getD (opA.getD k 0) 0 = wa at HE hwa HSA
  generalize shWd.getD (opB.getD k 0) 0 = wb at HE hwb HSA
  generalize opA.getD k 0 = oa at i1 hoa HSA
  generalize opB.getD k 0 = ob at i2 hob HSA
  generalize wdT.getD k e0 = wd at i0
  have a0 : (0 : Int) ≤ (oa : Int) := by omega
  have a1 : (oa : Int) < 13 := by omega
  have a2 : (0 : Int) ≤ (ob : Int) := by omega
  have a3 : (ob : Int) < 13 := by omega
  obtain ⟨W3, hW3⟩ : ∃ W3, W3 = W2.alloc (.cells #[.string wd, .int .i64 (oa : Int), .int .i64 (ob : Int)] 72) := ⟨_, rfl⟩
  have nb3 : Below W2.heap.size W2 W3 := by rw [hW3]; exact (Below.refl _ W2).alloc (Nat.le_refl _) _
  have P3 : W3.heap[W2.heap.size]? = some (.cells #[.string wd, .int .i64 (oa : Int), .int .i64 (ob : Int)] 72) := by rw [hW3]; exact World.alloc_heap_new W2 _
  have HM3 : Hid (Mk w W3 rb w.heap.size p3 #[.int .i64 0, .int .i64 0, .int .i64 0] #[.int .i64 (k : Int), .int .i64 0, .int .i64 0] 48 st1) := HM2.out.next nb3
  have hz2 : p3 < W2.heap.size := HM2.out.lt3
  have hz3 : W2.heap.size < W3.heap.size := by rw [hW3]; simp
  clear tb nb3 HM2 h ht
  go_upto_region 6 with fail
  rw [← hW3]
  clear hW3 m0 i0 i1 i2
  generalize W2.heap.size = p4 at *
  obtain ⟨u1, -⟩ := blk_cell P3 1 (.int .i64 (oa : Int)) rfl
  obtain ⟨s1, -⟩ := HSA.out W3 HM3.out.kp
  have n2 := number_f W3 rb wa st1 HM3.out.rd hwa
  generalize hq : rdN wa st1 = N2 at *
  obtain ⟨va, st2⟩ := N2
  simp only at n2
  have HE2 : Hid (R = (((k : Int), va, (rdN wb st2).1), (rdN wb st2).2)) := by
    show R = _
    rw [HE.out]
  clear hq HE
  go_wp2_with fail
  refine n2.mono ?_
  rintro e W4 ⟨rfl, hw4⟩
  have HM4 : Hid (Mk w W4 rb w.heap.size p3 #[.int .i64 0, .int .i64 0, .int .i64 0] #[.int .i64 (k : Int), .int .i64 0, .int .i64 0] 48 st2) := HM3.out.call hw4.out.1 hw4.out.2
  have P4 := (hw4.out.2.block p4 hz3 (by omega)).trans P3
  have hz4 : p4 < W4.heap.size := Nat.lt_of_lt_of_le hz3 hw4.out.2.size
  obtain ⟨x1, y1⟩ := blk_cell HM4.out.b3 1 (.int .i64 0) rfl
  have HM5 : Hid (Mk w (W4.setCell ⟨p3, 1, none⟩ (.int .i64 va)) rb w.heap.size p3 #[.int .i64 0, .int .i64 0, .int .i64 0] #[.int .i64 (k : Int), .int .i64 va, .int .i64 0] 48 st2) := HM4.out.set 1 _
  have P5 := (set_heap (w := W4) (a := ⟨p3, 1, none⟩) (v := .int .i64 va) (k := p4) (by show p4 ≠ p3; omega)).trans P4
  have hz5 : p4 < (W4.setCell ⟨p3, 1, none⟩ (.int .i64 va)).heap.size := by rw [set_size]; exact hz4
  clear n2 u1 s1 P3 P4 hw4 HM3 HM4
  go_upto_region 7 with fail
  generalize W4.setCell ⟨p3, 1, none⟩ (.int .i64 va) = W5 at *
  obtain ⟨u1, -⟩ := blk_cell P5 2 (.int .i64 (ob : Int)) rfl
  obtain ⟨-, s1⟩ := HSA.out W5 HM5.out.kp
  have n2 := number_f W5 rb wb st2 HM5.out.rd hwb
  generalize hq : rdN wb st2 = N2 at *
  obtain ⟨vb, st3⟩ := N2
  simp only at n2 HE2
  clear hq
  go_wp2_with fail
  refine n2.mono ?_
  rintro e W6 ⟨rfl, hw6⟩
  have HM6 : Hid (Mk w W6 rb w.heap.size p3 #[.int .i64 0, .int .i64 0, .int .i64 0] #[.int .i64 (k : Int), .int .i64 va, .int .i64 0] 48 st3) := HM5.out.call hw6.out.1 hw6.out.2
  obtain ⟨x1, y1⟩ := blk_cell HM6.out.b3 2 (.int .i64 0) rfl
  have HM7 : Hid (Mk w (W6.setCell ⟨p3, 2, none⟩ (.int .i64 vb)) rb w.heap.size p3 #[.int .i64 0, .int .i64 0, .int .i64 0] #[.int .i64 (k : Int), .int .i64 va, .int .i64 vb] 48 st3) := HM6.out.set 2 _
  clear n2 u1 s1 P5 hw6 HM5 HM6
  go_upto_region 8 with fail
  generalize W6.setCell ⟨p3, 2, none⟩ (.int .i64 vb) = W7 at *
  obtain ⟨c0, -⟩ := blk_cell HM7.out.b3 0 (.int .i64 (k : Int)) rfl
  obtain ⟨c1, -⟩ := blk_cell HM7.out.b3 1 (.int .i64 va) rfl
  obtain ⟨c2, -⟩ := blk_cell HM7.out.b3 2 (.int .i64 vb) rfl
  obtain ⟨x0, y0⟩ := blk_cell HM7.out.b2 0 (.int .i64 0) rfl
  obtain ⟨x1, y1⟩ := blk_cell HM7.out.b2 1 (.int .i64 0) rfl
  obtain ⟨x2, y2⟩ := blk_cell HM7.out.b2 2 (.int .i64 0) rfl
  go_wp2
  have HF : Hid (Mk w (((W7.setCell ⟨w.heap.size, 0, none⟩ (.int .i64 (k : Int))).setCell ⟨w.heap.size, 1, none⟩ (.int .i64 va)).setCell ⟨w.heap.size, 2, none⟩ (.int .i64 vb)) rb w.heap.size p3 #[.int .i64 (k : Int), .int .i64 va, .int .i64 vb] #[.int .i64 (k : Int), .int .i64 va, .int .i64 vb] 48 st3) := ((HM7.out.res 0 _).res 1 _).res 2 _
  generalize ((W7.setCell ⟨w.heap.size, 0, none⟩ (.int .i64 (k : Int))).setCell ⟨w.heap.size, 1, none⟩ (.int .i64 va)).setCell ⟨w.heap.size, 2, none⟩ (.int .i64 vb) = W8 at HF ⊢
  obtain ⟨q0, -⟩ := blk_cell HF.out.b2 0 (.int .i64 (k : Int)) rfl
  obtain ⟨q1, -⟩ := blk_cell HF.out.b2 1 (.int .i64 va) rfl
  obtain ⟨q2, -⟩ := blk_cell HF.out.b2 2 (.int .i64 vb) rfl
  exact bodyPost_ret (v := .agg #[.int .i64 (k : Int), .int .i64 va, .int .i64 vb]) (by simp [results, Tryz.results49, go_sem, q0, q1, q2]) rfl ⟨by rw [HE2.out]; rfl, by rw [HE2.out]; exact ⟨HF.out.rd, HF.out.kp⟩⟩
end Go.Proofs.YtcjnejdemfemfaaGreatDoor

