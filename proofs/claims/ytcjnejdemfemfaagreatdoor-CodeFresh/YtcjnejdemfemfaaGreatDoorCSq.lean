import Derived.Test.YtcjnejdemfemfaaGreatDoorCSp
namespace Go.Proofs.YtcjnejdemfemfaaGreatDoor
open Go.RowKit

structure AsW (w W : World) (s : St) : Prop where
  b : Below w.heap.size w W
  res : W.heap[w.heap.size]? = some (.cells zc 26)
  sa : AsX W (w.heap.size + 1) (w.heap.size + 1) s
theorem AsW.next {w W W' : World} {s : St} (h : AsW w W s) (k : Below W.heap.size W W') : AsW w W' s := ⟨below2 h.b k, (k.block _ (Array.getElem?_eq_some_iff.1 h.res).1).trans h.res, h.sa.next k⟩
theorem AsW.step {w W W' : World} {s s' : St} (h : AsW w W s) (k : Below (w.heap.size + 1) W W') (ha : AsX W' (w.heap.size + 1) (w.heap.size + 1) s') : AsW w W' s' := ⟨h.b.trans (k.mono (Nat.le_succ _)), (k.block _ (Nat.lt_succ_self _)).trans h.res, ha⟩
def asmC (l : Bs) : Cd := match asmS l with | .inl c => c | .inr _ => cz
def asmE (l : Bs) : Int := match asmS l with | .inl _ => 0 | .inr _ => 131
def asmN (l : Bs) : Int := match asmS l with | .inl _ => 0 | .inr n => (n : Int)
/-- What Assemble gives. -/
structure RowsF (w W : World) (iq : Option Addr) (ia : Nat) (eq : Option Addr) (ea : Nat) (tq : Option Addr) (ta : Nat) (Es : List Em) (c : Cd) : Prop where
  bel : Below w.heap.size w W
  rows : Rows W w.heap.size (.slice iq c.ins.length ia) (.slice eq c.ens.length ea) (.slice tq c.txs.length ta) c.ins Es c.txs
  en : Es.map (·.1) = c.ens
theorem asm_r {l : Bs} {n : Nat} (h : asmF (l.length + 1) 1 st0 l = .inr n) : asmC l = cz ∧ asmE l = 131 ∧ asmN l = (n : Int) := by
  have e : asmS l = .inr n := by unfold asmS; rw [h]
  unfold asmC asmE asmN
  rw [e]
  exact ⟨rfl, rfl, rfl⟩
theorem asm_l {l : Bs} {s : St} (h : asmF (l.length + 1) 1 st0 l = .inl s) : (lackS s = true → asmC l = cz ∧ asmE l = 131 ∧ asmN l = ((l.count 10 : Nat) : Int) + 2) ∧ (lackS s = false → asmC l = s.c ∧ asmE l = 0 ∧ asmN l = 0) := by
  have e : asmS l = if lackS s then .inr (l.count 10 + 2) else .inl s.c := by unfold asmS; rw [h]
  refine ⟨fun q => ?_, fun q => ?_⟩
  · rw [if_pos q] at e
    unfold asmC asmE asmN
    rw [e]
    exact ⟨rfl, rfl, by simp⟩
  · rw [if_neg (by rw [q]; decide)] at e
    unfold asmC asmE asmN
    rw [e]
    exact ⟨rfl, rfl, rfl⟩
theorem asmF_nil (f k : Nat) (s : St) : asmF f k s [] = .inl s := by cases f <;> rfl
theorem asmF_c (f k : Nat) (s : St) (l : Bs) (h : l ≠ []) : asmF (f + 1) k s l = match stepS s (lineOf l) with | none => .inr k | some s' => asmF f (k + 1) s' (restOf l) := by
  rw [asmF, if_neg h]
  rfl
theorem AsW.start (w : World) : AsW w ((w.alloc (.cells zc 26)).alloc (.cells #[.slice none 0 0, .slice none 0 0, .slice none 0 0, .int .i64 0, .bool false] 59)) st0 := by
  have n1 : Below w.heap.size w (w.alloc (.cells zc 26)) := (Below.refl _ w).alloc (Nat.le_refl _) _
  have z1 : (w.alloc (.cells zc 26)).heap.size = w.heap.size + 1 := by simp
  have P1 : (w.alloc (.cells zc 26)).heap[w.heap.size]? = some (.cells zc 26) := World.alloc_heap_new w _
  generalize w.alloc (.cells zc 26) = X at *
  have n2 : Below X.heap.size X (X.alloc (.cells #[.slice none 0 0, .slice none 0 0, .slice none 0 0, .int .i64 0, .bool false] 59)) := (Below.refl _ X).alloc (Nat.le_refl _) _
  refine ⟨below2 n1 n2, (n2.block _ (by omega)).trans P1, none, none, none, 0, 0, 0, [], ?_, Rows.nil _ _, rfl, Nat.le_refl _, by decide, by decide, by decide, List.Pairwise.nil⟩
  rw [← z1]
  exact World.alloc_heap_new X _
set_option maxRecDepth 100000 in
set_option maxHeartbeats 8000000 in
theorem assemble_sep (t : ByteArray) (w : World) (hb : t.size ≤ 281474976710656) (ht : Tabs w) :
    Calls Tryz.prog 9 #[.string t] w fun e w' => ∃ iq ia eq ea tq ta, e = .returned (.tuple #[codeV iq eq tq ia ea ta (asmC (lt t)), .int .i64 (asmE (lt t)), .int .i64 (asmN (lt t))]) ∧ Hid (∃ Es, RowsF w w' iq ia eq ea tq ta Es (asmC (lt t)) ∧ SepE Es) := by
  obtain ⟨R, HR⟩ : ∃ R, Hid (R = asmF ((lt t).length + 1) 1 st0 (lt t)) := ⟨_, rfl⟩
  obtain ⟨Cc, HCc⟩ : ∃ Cc, Hid (Cc = asmC (lt t)) := ⟨_, rfl⟩
  obtain ⟨Ee, HEe⟩ : ∃ Ee, Hid (Ee = asmE (lt t)) := ⟨_, rfl⟩
  obtain ⟨Nn, HNn⟩ : ∃ Nn, Hid (Nn = asmN (lt t)) := ⟨_, rfl⟩
  rw [← HCc.out, ← HEe.out, ← HNn.out]
  have HRr : Hid (∀ n, R = .inr n → Cc = cz ∧ Ee = 131 ∧ Nn = (n : Int)) := fun n h => by rw [HCc.out, HEe.out, HNn.out]; exact asm_r (HR.out.symm.trans h)
  have HRl : Hid (∀ s, R = .inl s → (lackS s = true → Cc = cz ∧ Ee = 131 ∧ Nn = (((lt t).count 10 : Nat) : Int) + 2) ∧ (lackS s = false → Cc = s.c ∧ Ee = 0 ∧ Nn = 0)) := fun s h => by rw [HCc.out, HEe.out, HNn.out]; exact asm_l (HR.out.symm.trans h)
  have HT : Hid (∀ W, Below w.heap.size w W → Tabs W) := fun W hW => ht.next hW
  have hlen := lt_len t
  have HI0 : Hid (asmF (t.size + 1) 1 st0 (lt t) = R) := by show _ = R; rw [HR.out, hlen]
  have ebk : YtcjnejdemfemfaaGreatDoor.bk (lt t) = t := bk_all t
  have cN := fun W => count_any t W
  have HcN : Hid ((((lt t).count 10 : Nat) : Int) + 2 ≤ 281474976710658) := by
    have := List.count_le_length (a := (10 : UInt8)) (l := lt t)
    show _ ≤ _
    omega
  obtain ⟨X, hX⟩ : ∃ X, X = w.alloc (.cells zc 26) := ⟨_, rfl⟩
  obtain ⟨X1, hX1⟩ : ∃ X1, X1 = X.alloc (.cells #[.slice none 0 0, .slice none 0 0, .slice none 0 0, .int .i64 0, .bool false] 59) := ⟨_, rfl⟩
  have HA0 : Hid (AsW w X1 st0) := by rw [hX1, hX]; exact AsW.start w
  have hzX : X.heap.size = w.heap.size + 1 := by rw [hX]; simp
  clear HCc HEe HNn HR ht
  go_enter Tryz.func9, Tryz.ntmps9
  go_upto_region 1 with fail
  rw [← hX]
  clear hX
  have HX1 : Hid (X1 = X.alloc (.cells #[.slice none 0 0, .slice none 0 0, .slice none 0 0, .int .i64 0, .bool false] 59)) := hX1
  clear hX1
  go_upto_region 2 with fail
  rw [← HX1.out]
  try rw [hzX]
  clear HX1 hzX
  generalize lt t = lt0 at *
  generalize hN : t.size = N at *
  have HNt : Hid (t.size = N) := hN
  clear hN
  go_wp2_with fail
  go_loopw [6, 7] (fun v i wr => ∃ (l : Bs) (k f : Nat) (s : St), v = .string (YtcjnejdemfemfaaGreatDoor.bk l) ∧ i = .int .i64 (k : Int) ∧ 1 ≤ k ∧ k + l.length ≤ N + 1 ∧ l.length < f ∧ Hid (asmF f k s l = R) ∧ Hid (AsW w wr s)) (fun _ i _ => N + 2 - (intOf i).toNat)
  case atStart => exact ⟨lt0, 1, N + 1, st0, by rw [ebk], rfl, Nat.le_refl _, by omega, by omega, HI0, HA0⟩
  case round =>
    clear HA0 HI0
    obtain ⟨l, k, f, s, rfl, rfl, hk1, hk, hf, hI, hA⟩ := hrel
    by_cases hl : l = []
    case pos =>
      subst hl
      rw [asmF_nil] at hI
      obtain ⟨L1, L2⟩ := HRl.out s hI.out.symm
      obtain ⟨iq, eq, tq, ia, ea, ta, Es, ha⟩ := hA.out.sa
      have lk := lacks_any ha
      have HAs : Hid (As wr (w.heap.size + 1) (w.heap.size + 1) s iq eq tq ia ea ta Es) := ha
      have eb : YtcjnejdemfemfaaGreatDoor.bk ([] : Bs) = e0 := rfl
      have he : e0.toList.isEmpty = true := by rw [toL]; rfl
      rw [eb]
      cases hlk : lackS s with
      | true =>
        have HF : Hid (Cc = cz ∧ Ee = 131 ∧ Nn = ((lt0.count 10 : Nat) : Int) + 2) := L1 hlk
        rw [hlk] at lk
        clear L1 L2 ha hI hk hf HRl HRr
        generalize lt0.count 10 = cc at *
        have hc2 : (cc : Int) + 2 ≤ 281474976710658 := HcN.out
        go_upto_region 12 with (first
          | (go_at_call 29; refine lk.mono ?_; rintro e W8 ⟨rfl, hw8⟩)
          | go_in)
        have A8 := hA.out.next hw8
        obtain ⟨x0, y0⟩ := blk_cell A8.res 0 (.slice none 0 0) rfl
        obtain ⟨x1, y1⟩ := blk_cell A8.res 1 (.slice none 0 0) rfl
        obtain ⟨x2, y2⟩ := blk_cell A8.res 2 (.slice none 0 0) rfl
        obtain ⟨x3, y3⟩ := blk_cell A8.res 3 (.int .i64 0) rfl
        have HP : Hid ((((((W8.setCell ⟨w.heap.size, 0, none⟩ (.slice none 0 0)).setCell ⟨w.heap.size, 1, none⟩ (.slice none 0 0)).setCell ⟨w.heap.size, 2, none⟩ (.slice none 0 0)).setCell ⟨w.heap.size, 3, none⟩ (.int .i64 0))).heap[w.heap.size]? = some (.cells zc 26) ∧ Below w.heap.size w ((((W8.setCell ⟨w.heap.size, 0, none⟩ (.slice none 0 0)).setCell ⟨w.heap.size, 1, none⟩ (.slice none 0 0)).setCell ⟨w.heap.size, 2, none⟩ (.slice none 0 0)).setCell ⟨w.heap.size, 3, none⟩ (.int .i64 0))) := ⟨put4 A8.res, below_put4 A8.b (Nat.le_refl _)⟩
        have cW := cN W8
        clear A8 hw8 lk cN hA HAs
        go_wp2_with (first
          | (go_at_call 30; refine cW.mono ?_; rintro e W9 ⟨rfl, hw9⟩; obtain rfl : W9 = W8 := hw9)
          | go_in)
        first | (change bodyPost Tryz.prog Tryz.f9 _ Exit.ret _ _) | (simp only [Exit.noGoto]) | skip
        generalize (((W9.setCell ⟨w.heap.size, 0, none⟩ (.slice none 0 0)).setCell ⟨w.heap.size, 1, none⟩ (.slice none 0 0)).setCell ⟨w.heap.size, 2, none⟩ (.slice none 0 0)).setCell ⟨w.heap.size, 3, none⟩ (.int .i64 0) = WF at HP ⊢
        obtain ⟨q0, -⟩ := blk_cell HP.out.1 0 (.slice none 0 0) rfl
        obtain ⟨q1, -⟩ := blk_cell HP.out.1 1 (.slice none 0 0) rfl
        obtain ⟨q2, -⟩ := blk_cell HP.out.1 2 (.slice none 0 0) rfl
        obtain ⟨q3, -⟩ := blk_cell HP.out.1 3 (.int .i64 0) rfl
        refine bodyPost_ret (v := .tuple #[.agg zc, .int .i64 131, .int .i64 ((cc : Int) + 2)]) (by simp [results, Tryz.results9, go_sem, q0, q1, q2, q3]) rfl ⟨none, 0, none, 0, none, 0, ?_, [], ?_⟩
        · rw [HF.out.1, HF.out.2.1, HF.out.2.2]; rfl
        · rw [HF.out.1]; exact ⟨⟨HP.out.2, Rows.nil _ _, rfl⟩, List.Pairwise.nil⟩
      | false =>
        have HF : Hid (Cc = s.c ∧ Ee = 0 ∧ Nn = 0) := L2 hlk
        rw [hlk] at lk
        clear L1 L2 ha hI hk hf HRl HRr cN
        go_upto_region 13 with (first
          | (go_at_call 29; refine lk.mono ?_; rintro e W8 ⟨rfl, hw8⟩)
          | go_in)
        have A8 := hA.out.next hw8
        have G8 := HAs.out.next hw8
        obtain ⟨x0, y0⟩ := blk_cell A8.res 0 (.slice none 0 0) rfl
        obtain ⟨x1, y1⟩ := blk_cell A8.res 1 (.slice none 0 0) rfl
        obtain ⟨x2, y2⟩ := blk_cell A8.res 2 (.slice none 0 0) rfl
        obtain ⟨x3, y3⟩ := blk_cell A8.res 3 (.int .i64 0) rfl
        obtain ⟨d0, -⟩ := blk_cell G8.box 0 (.slice iq s.c.ins.length ia) rfl
        obtain ⟨d1, -⟩ := blk_cell G8.box 1 (.slice eq s.c.ens.length ea) rfl
        obtain ⟨d2, -⟩ := blk_cell G8.box 2 (.slice tq s.c.txs.length ta) rfl
        obtain ⟨d3, -⟩ := blk_cell G8.box 3 (.int .i64 s.c.main) rfl
        have HP : Hid ((((((W8.setCell ⟨w.heap.size, 0, none⟩ (.slice iq s.c.ins.length ia)).setCell ⟨w.heap.size, 1, none⟩ (.slice eq s.c.ens.length ea)).setCell ⟨w.heap.size, 2, none⟩ (.slice tq s.c.txs.length ta)).setCell ⟨w.heap.size, 3, none⟩ (.int .i64 s.c.main))).heap[w.heap.size]? = some (.cells (cv (.slice iq s.c.ins.length ia) (.slice eq s.c.ens.length ea) (.slice tq s.c.txs.length ta) s.c.main) 26) ∧ RowsF w ((((W8.setCell ⟨w.heap.size, 0, none⟩ (.slice iq s.c.ins.length ia)).setCell ⟨w.heap.size, 1, none⟩ (.slice eq s.c.ens.length ea)).setCell ⟨w.heap.size, 2, none⟩ (.slice tq s.c.txs.length ta)).setCell ⟨w.heap.size, 3, none⟩ (.int .i64 s.c.main)) iq ia eq ea tq ta Es s.c) := ⟨put4 A8.res, below_put4 A8.b (Nat.le_refl _), ((((G8.rows.base (Nat.le_succ _)).set A8.res _).set (set_blk A8.res _) _).set (set_blk (set_blk A8.res _) _) _).set (set_blk (set_blk (set_blk A8.res _) _) _) _, G8.en⟩
        have HSP : Hid (SepE Es) := G8.sp
        clear A8 G8 hw8 lk hA HAs
        go_wp2
        first | (change bodyPost Tryz.prog Tryz.f9 _ Exit.ret _ _) | (simp only [Exit.noGoto]) | skip
        generalize (((W8.setCell ⟨w.heap.size, 0, none⟩ (.slice iq s.c.ins.length ia)).setCell ⟨w.heap.size, 1, none⟩ (.slice eq s.c.ens.length ea)).setCell ⟨w.heap.size, 2, none⟩ (.slice tq s.c.txs.length ta)).setCell ⟨w.heap.size, 3, none⟩ (.int .i64 s.c.main) = WF at HP ⊢
        obtain ⟨q0, -⟩ := blk_cell HP.out.1 0 (.slice iq s.c.ins.length ia) rfl
        obtain ⟨q1, -⟩ := blk_cell HP.out.1 1 (.slice eq s.c.ens.length ea) rfl
        obtain ⟨q2, -⟩ := blk_cell HP.out.1 2 (.slice tq s.c.txs.length ta) rfl
        obtain ⟨q3, -⟩ := blk_cell HP.out.1 3 (.int .i64 s.c.main) rfl
        refine bodyPost_ret (v := .tuple #[.agg (cv (.slice iq s.c.ins.length ia) (.slice eq s.c.ens.length ea) (.slice tq s.c.txs.length ta) s.c.main), .int .i64 0, .int .i64 0]) (by simp [results, Tryz.results9, go_sem, q0, q1, q2, q3]) rfl ⟨iq, ia, eq, ea, tq, ta, ?_, Es, ?_⟩
        · rw [HF.out.1, HF.out.2.1, HF.out.2.2]; rfl
        · rw [HF.out.1]; exact ⟨HP.out.2, HSP.out⟩
    obtain ⟨f', rfl⟩ : ∃ f', f = f' + 1 := ⟨f - 1, by omega⟩
    rw [asmF_c _ _ _ _ hl] at hI
    have hrl := rest_len l hl
    have hll := line_len l
    have hlx : lt (YtcjnejdemfemfaaGreatDoor.bk l) = l := bk_data _
    have hly : lt (YtcjnejdemfemfaaGreatDoor.bk (lineOf l)) = lineOf l := bk_data _
    have he : (YtcjnejdemfemfaaGreatDoor.bk l).toList.isEmpty = false := by
      rw [toL]
      show l.isEmpty = false
      cases l with
      | nil => exact absurd rfl hl
      | cons a b => rfl
    have cA := cut_any (YtcjnejdemfemfaaGreatDoor.bk l) (by rw [bk_size]; omega) wr
    rw [hlx] at cA
    have wA := fun W => wordsOf_any (YtcjnejdemfemfaaGreatDoor.bk (lineOf l)) (by rw [bk_size]; omega) W
    rw [hly] at wA
    have hWds : Hid (∀ (W W' : World) (q : Option Addr) (cap : Nat), W'.ownsRow W.heap.size 9 1 (.slice q (wdsS (lineOf l)).length cap) (wdsS (lineOf l)).length (wV (wdsS (lineOf l))) → Wds W' W'.heap.size q (wdsS (lineOf l)).length cap (wdsS (lineOf l))) := fun W W' q cap h => wds_of_own (by omega) h
    have hne : Hid (∀ x ∈ wdsS (lineOf l), x ≠ []) := fun x hx => (wdsF_mem _ _ _ x hx).1
    have HU : Hid (stepS s (lineOf l) = if wdsS (lineOf l) = [] then some s else takeS s (wdsS (lineOf l))) := rfl
    have HK : Hid (k + 1 + (restOf l).length ≤ N + 1 ∧ (restOf l).length < f') := ⟨by omega, by omega⟩
    have hkb : (k : Int) + 1 ≤ 281474976710658 := by omega
    clear hl hrl hll hlx hly hk hf HRl
    generalize YtcjnejdemfemfaaGreatDoor.bk l = x at *
    generalize YtcjnejdemfemfaaGreatDoor.bk (lineOf l) = y at *
    generalize wdsS (lineOf l) = ws at *
    generalize stepS s (lineOf l) = SS at *
    generalize restOf l = rl at *
    by_cases hws : ws = []
    · subst hws
      rw [if_pos rfl] at HU
      rw [HU.out] at hI
      clear hWds hne HU
      go_wp2_with (first
        | (go_at_call 26; refine cA.mono ?_; rintro e W1 ⟨fb, rfl, hw1⟩)
        | (go_at_call 27; refine (wA W1).mono ?_; rintro e W2 ⟨qw, cw, rfl, hw2⟩; have A2 : Hid (AsW w W2 s) := hA.out.next (below2 hw1 hw2.out.2); clear hw2)
        | go_in)
      exact ⟨⟨rl, k + 1, f', s, rfl, by go_num, by omega, HK.out.1, HK.out.2, hI, A2⟩, by have := HK.out.1; simp [intOf]; omega⟩
    · rw [if_neg hws] at HU
      have hn0 : 0 < ws.length := List.length_pos_iff.2 hws
      have HTk : Hid (∀ (W W1 W2 : World) (q : Option Addr) (cap : Nat), W = wr → Below W.heap.size W W1 → W2.ownsRow W1.heap.size 9 1 (.slice q ws.length cap) ws.length (wV ws) → Below W1.heap.size W1 W2 → Calls Tryz.prog 28 #[.pointer (some ⟨w.heap.size + 1, 0, none⟩), .slice q ws.length cap] W2 fun e w' => e = .returned (.bool SS.isSome) ∧ Hid ((∀ s', SS = some s' → AsW w w' s') ∧ Below w.heap.size w w' ∧ w'.heap[w.heap.size]? = some (.cells zc 26))) := fun W W1 W2 q cap e h1 h2 h3 => by
        subst e
        have A2 := hA.out.next (below2 h1 h3)
        rw [HU.out]
        refine (takes_any A2.sa (HT.out W2 A2.b) (hWds.out W1 W2 q cap h2) hn0 hne.out).mono ?_
        rintro e w' ⟨rfl, hh⟩
        exact ⟨rfl, fun s' hs => A2.step hh.out.2 (hh.out.1 s' hs), A2.b.trans (hh.out.2.mono (Nat.le_succ _)), (hh.out.2.block _ (Nat.lt_succ_self _)).trans A2.res⟩
      obtain ⟨nw, HNw⟩ : ∃ nw, Hid (nw = ws.length) := ⟨_, rfl⟩
      rw [← HNw.out] at wA HTk hn0
      have hn1 : (0 : Int) < (nw : Int) := by omega
      have HRn : Hid (SS = none → R = .inr k) := fun e => by have h := hI.out; rw [e] at h; exact h.symm
      have HRs : Hid (∀ s', SS = some s' → asmF f' (k + 1) s' rl = R) := fun s' e => by have h := hI.out; rw [e] at h; exact h
      clear hWds hne HU hI hws HNw hA
      cases SS with
      | none =>
        have HF := HRr.out k (HRn.out rfl)
        have HF' : Hid (Cc = cz ∧ Ee = 131 ∧ Nn = (k : Int)) := HF
        clear HF HRn HRs HRr
        go_upto_region 9 with (first
          | (go_at_call 26; refine cA.mono ?_; rintro e W1 ⟨fb, rfl, hw1⟩)
          | (go_at_call 27; refine (wA W1).mono ?_; rintro e W2 ⟨qw, cw, rfl, hw2⟩; have tk := HTk.out wr W1 W2 qw cw rfl hw1 hw2.out.1 hw2.out.2; clear hw2)
          | (go_at_call 28; refine tk.mono ?_; rintro e W8 ⟨rfl, hw8⟩)
          | go_in)
        obtain ⟨-, b8, r8⟩ := hw8.out
        obtain ⟨x0, y0⟩ := blk_cell r8 0 (.slice none 0 0) rfl
        obtain ⟨x1, y1⟩ := blk_cell r8 1 (.slice none 0 0) rfl
        obtain ⟨x2, y2⟩ := blk_cell r8 2 (.slice none 0 0) rfl
        obtain ⟨x3, y3⟩ := blk_cell r8 3 (.int .i64 0) rfl
        have HP : Hid ((((((W8.setCell ⟨w.heap.size, 0, none⟩ (.slice none 0 0)).setCell ⟨w.heap.size, 1, none⟩ (.slice none 0 0)).setCell ⟨w.heap.size, 2, none⟩ (.slice none 0 0)).setCell ⟨w.heap.size, 3, none⟩ (.int .i64 0))).heap[w.heap.size]? = some (.cells zc 26) ∧ Below w.heap.size w ((((W8.setCell ⟨w.heap.size, 0, none⟩ (.slice none 0 0)).setCell ⟨w.heap.size, 1, none⟩ (.slice none 0 0)).setCell ⟨w.heap.size, 2, none⟩ (.slice none 0 0)).setCell ⟨w.heap.size, 3, none⟩ (.int .i64 0))) := ⟨put4 r8, below_put4 b8 (Nat.le_refl _)⟩
        clear b8 r8 hw8 tk hw1 cA wA HTk
        go_wp2
        first | (change bodyPost Tryz.prog Tryz.f9 _ Exit.ret _ _) | (simp only [Exit.noGoto]) | skip
        generalize (((W8.setCell ⟨w.heap.size, 0, none⟩ (.slice none 0 0)).setCell ⟨w.heap.size, 1, none⟩ (.slice none 0 0)).setCell ⟨w.heap.size, 2, none⟩ (.slice none 0 0)).setCell ⟨w.heap.size, 3, none⟩ (.int .i64 0) = WF at HP ⊢
        obtain ⟨q0, -⟩ := blk_cell HP.out.1 0 (.slice none 0 0) rfl
        obtain ⟨q1, -⟩ := blk_cell HP.out.1 1 (.slice none 0 0) rfl
        obtain ⟨q2, -⟩ := blk_cell HP.out.1 2 (.slice none 0 0) rfl
        obtain ⟨q3, -⟩ := blk_cell HP.out.1 3 (.int .i64 0) rfl
        refine bodyPost_ret (v := .tuple #[.agg zc, .int .i64 131, .int .i64 (k : Int)]) (by simp [results, Tryz.results9, go_sem, q0, q1, q2, q3]) rfl ⟨none, 0, none, 0, none, 0, ?_, [], ?_⟩
        · rw [HF'.out.1, HF'.out.2.1, HF'.out.2.2]; rfl
        · rw [HF'.out.1]; exact ⟨⟨HP.out.2, Rows.nil _ _, rfl⟩, List.Pairwise.nil⟩
      | some s' =>
        have HF : Hid (asmF f' (k + 1) s' rl = R) := HRs.out s' rfl
        clear HRn HRs HRr
        go_wp2_with (first
          | (go_at_call 26; refine cA.mono ?_; rintro e W1 ⟨fb, rfl, hw1⟩)
          | (go_at_call 27; refine (wA W1).mono ?_; rintro e W2 ⟨qw, cw, rfl, hw2⟩; have tk := HTk.out wr W1 W2 qw cw rfl hw1 hw2.out.1 hw2.out.2; clear hw2)
          | (go_at_call 28; refine tk.mono ?_; rintro e W8 ⟨rfl, hw8⟩; have A8 : Hid (AsW w W8 s') := hw8.out.1 s' rfl; clear hw8)
          | go_in)
        exact ⟨⟨rl, k + 1, f', s', rfl, by go_num, by omega, HK.out.1, HK.out.2, HF, A8⟩, by have := HK.out.1; simp [intOf]; omega⟩
theorem assemble_any (t : ByteArray) (w : World) (hb : t.size ≤ 281474976710656) (ht : Tabs w) :
    Calls Tryz.prog 9 #[.string t] w fun e w' => ∃ iq ia eq ea tq ta, e = .returned (.tuple #[codeV iq eq tq ia ea ta (asmC (lt t)), .int .i64 (asmE (lt t)), .int .i64 (asmN (lt t))]) ∧ Hid (∃ Es, RowsF w w' iq ia eq ea tq ta Es (asmC (lt t))) := (assemble_sep t w hb ht).mono fun e w' ⟨iq, ia, eq, ea, tq, ta, h1, h2⟩ => ⟨iq, ia, eq, ea, tq, ta, h1, by obtain ⟨Es, h3, -⟩ := h2.out; exact ⟨Es, h3⟩⟩
end Go.Proofs.YtcjnejdemfemfaaGreatDoor

