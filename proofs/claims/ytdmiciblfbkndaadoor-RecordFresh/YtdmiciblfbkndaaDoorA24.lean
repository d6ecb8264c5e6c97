import Derived.Test.YtdmiciblfbkndaaDoorA23
import Derived.Test.YtdmiciblfbkndaaDoorA20
import Derived.Test.YtdmiciblfbkndaaDoorA13
import Derived.Test.YtdmiciblfbkndaaDoorA17
import Derived.Test.YtdmiciblfbkndaaDoorA19
namespace Go.Proofs.YtdmiciblfbkndaaDoor
open Go.RowKit

set_option maxRecDepth 100000 in
set_option maxHeartbeats 1000000 in
theorem rv_any (W : World) (vk vn : Int) (vs : ByteArray) (hz : vs.size ≤ 140737488355328) : Calls Tryd.prog 39 #[.agg #[.int .i64 vk, .int .i64 vn, .string vs]] W fun e w' => e = .returned (.bool (valOk vk vn vs.data.toList)) ∧ Below W.heap.size W w' := by
  have hsz : vs.size = vs.toList.length := by rw [toL]; exact Lib.size_eq vs
  have hq : (vs.size : Int) ≤ 140737488355328 := by omega
  have hk : vk = 0 ∨ vk = 1 ∨ vk = 2 ∨ vk = 3 ∨ vk = 4 ∨ (vk ≠ 0 ∧ vk ≠ 1 ∧ vk ≠ 2 ∧ vk ≠ 3 ∧ vk ≠ 4) := by omega
  clear hz
  rcases hk with rfl | rfl | rfl | rfl | rfl | ⟨k0, k1, k2, k3, k4⟩
  all_goals
    go_enter Tryd.func39, Tryd.ntmps39
    go_wp2_with fail
    all_goals
      go_ret
      refine ⟨congrArg (fun b => Ending.returned (.bool b)) ?_, (Below.refl _ W).alloc (Nat.le_refl _) _⟩
      rw [Bool.eq_iff_iff]
      unfold valOk
      rw [← toL]
      simp_all
      try omega
set_option maxRecDepth 100000 in
set_option maxHeartbeats 1000000 in
theorem rev_any (W : World) (k n vk vn : Int) (nm vs : ByteArray) (hn : nm.size ≤ 140737488355328) (hz : vs.size ≤ 140737488355328) : Calls Tryd.prog 21 #[.agg #[.int .i64 k, .int .i64 n, .string nm, .int .i64 vk, .int .i64 vn, .string vs]] W fun e w' => e = .returned (.bool (evOk ⟨k, n, nm.data.toList, vk, vn, vs.data.toList⟩)) ∧ Below W.heap.size W w' := by
  obtain ⟨X, hX⟩ : ∃ X, W.alloc (.cells #[.int .i64 k, .int .i64 n, .string nm, .int .i64 vk, .int .i64 vn, .string vs] 37) = X := ⟨_, rfl⟩
  obtain ⟨A, hA⟩ : ∃ A, W.heap.size = A := ⟨_, rfl⟩
  have fX : Full X A 37 [.int .i64 k, .int .i64 n, .string nm, .int .i64 vk, .int .i64 vn, .string vs] := by rw [← hX, ← hA]; exact Full.new W _ _
  have bX : Below W.heap.size W X := by rw [← hX]; exact (Below.refl _ W).alloc (Nat.le_refl _) _
  have HF : Hid (Full X A 37 [.int .i64 k, .int .i64 n, .string nm, .int .i64 vk, .int .i64 vn, .string vs] ∧ Below W.heap.size W X ∧ W.heap.size = A) := ⟨fX, bX, hA⟩
  have HC := rv_any X vk vn vs hz
  have HSz : Hid (nm.size = nm.data.toList.length) := Lib.size_eq nm
  have hq : (nm.size : Int) ≤ 140737488355328 := by omega
  have HE : Hid (evOk ⟨k, n, nm.data.toList, vk, vn, vs.data.toList⟩ = (valOk vk vn vs.data.toList && decide (1 ≤ k) && decide (k ≤ 8) && decide (0 ≤ n) && decide (n < 40000) && decide (nm.data.toList.length ≤ 24))) := rfl
  obtain ⟨-, -, -, e3, e4, e5⟩ := fX.six
  generalize valOk vk vn vs.data.toList = m at HC HE
  clear fX bX hn hz
  go_enter Tryd.func21, Tryd.ntmps21
  go_wp2_with fail
  refine HC.mono ?_
  rintro e w2 ⟨rfl, hb2⟩
  have H2 : Hid (Full w2 A 37 [.int .i64 k, .int .i64 n, .string nm, .int .i64 vk, .int .i64 vn, .string vs] ∧ Below W.heap.size W w2) := ⟨HF.out.1.next hb2, HF.out.2.1.trans (hb2.mono HF.out.2.1.size)⟩
  clear HC hb2 e3 e4 e5 hX
  obtain ⟨e0, e1, e2, -, -, -⟩ := H2.out.1.six
  cases m with
  | false =>
    go_wp2_with fail
    go_ret
    exact ⟨congrArg (fun b => Ending.returned (.bool b)) (by rw [HE.out]; rfl), (by first | exact H2.out.2 | (rw [← HF.out.2.2]; exact H2.out.2))⟩
  | true =>
    have hcase : k < 1 ∨ (1 ≤ k ∧ 8 < k) ∨ (1 ≤ k ∧ k ≤ 8 ∧ n < 0) ∨ (1 ≤ k ∧ k ≤ 8 ∧ 0 ≤ n ∧ 40000 ≤ n) ∨ (1 ≤ k ∧ k ≤ 8 ∧ 0 ≤ n ∧ n < 40000 ∧ 24 < (nm.size : Int)) ∨ (1 ≤ k ∧ k ≤ 8 ∧ 0 ≤ n ∧ n < 40000 ∧ (nm.size : Int) ≤ 24) := by omega
    rcases hcase with y1 | ⟨y1, y2⟩ | ⟨y1, y2, y3⟩ | ⟨y1, y2, y3, y4⟩ | ⟨y1, y2, y3, y4, y5⟩ | ⟨y1, y2, y3, y4, y5⟩
    all_goals
      go_wp2
      go_ret
      refine ⟨congrArg (fun b => Ending.returned (.bool b)) ?_, (by first | exact H2.out.2 | (rw [← HF.out.2.2]; exact H2.out.2))⟩
      have hsz := HSz.out
      rw [HE.out, Bool.eq_iff_iff]
      simp
      try omega
end Go.Proofs.YtdmiciblfbkndaaDoor

namespace Go.Proofs.YtdmiciblfbkndaaDoor
open Go.RowKit

/-- Where the reading of a body's events stands. -/
structure EsI (W : World) (rb : Nat) (b : ByteArray) (lv nv : Value) (L : List Ev) (nd : Int) (ns : List (List UInt8)) (q : Nat) (wr : World) : Prop where
  bel : Below W.heap.size W wr
  rd : Rr wr rb b q
  own : wr.ownsRow W.heap.size 37 6 lv L.length (L.flatMap ec)
  nms : wr.ownsRow W.heap.size 9 1 nv ns.length (ns.map sV)
  low : W.heap.size ≤ rb
  cnt : L.length + (b.data.toList.drop q).length ≤ b.size
  nsl : ns.length ≤ L.length
  sz : ∀ x ∈ ns, x.length ≤ b.size
theorem EsI.next {W : World} {rb : Nat} {b : ByteArray} {lv nv : Value} {L : List Ev} {nd : Int} {ns : List (List UInt8)} {q : Nat} {wr w' : World} (h : EsI W rb b lv nv L nd ns q wr) (k : Below wr.heap.size wr w') : EsI W rb b lv nv L nd ns q w' :=
  ⟨h.bel.trans (k.mono h.bel.size), h.rd.next k, own_next h.own k, own_next h.nms k, h.low, h.cnt, h.nsl, h.sz⟩
set_option maxRecDepth 100000 in
set_option maxHeartbeats 4000000 in
theorem revents_f (W : World) (b : ByteArray) (hb : b.size ≤ 4294967296) (h1 : 1 ≤ b.size) :
    Calls Tryd.prog 29 #[.string b] W fun e w' => ∃ lv, e = .returned lv ∧ Hid (w'.ownsRow W.heap.size 37 6 lv (bodyD b.data.toList).length ((bodyD b.data.toList).flatMap ec) ∧ Below W.heap.size W w') := by
  have hbl : b.data.toList.length = b.size := (Lib.size_eq b).symm
  obtain ⟨LL, hLL⟩ : ∃ LL, bodyD b.data.toList = LL := ⟨_, rfl⟩
  have hLD : LL = evsD b.size ⟨0, [], b.data.toList.drop 1⟩ := by rw [← hLL, ← hbl]; rfl
  rw [hLL]
  obtain ⟨X, hX⟩ : ∃ X, W.alloc (.cells #[.string b, .int .i64 1] 70) = X := ⟨_, rfl⟩
  obtain ⟨rb, hrb⟩ : ∃ rb, W.heap.size = rb := ⟨_, rfl⟩
  have bX : Below W.heap.size W X := by rw [← hX]; exact (Below.refl _ W).alloc (Nat.le_refl _) _
  have rX : Rr X rb b 1 := by rw [← hX, ← hrb]; exact Rr.new W b 1
  have H0 : Hid (EsI W rb b (.slice none 0 0) (.slice none 0 0) [] 0 [] 1 X ∧ LL = [] ++ evsD b.size ⟨0, [], b.data.toList.drop 1⟩ ∧ (b.data.toList.drop 1).length < b.size) :=
    ⟨⟨bX, rX, ⟨rfl, .inl ⟨rfl, rfl⟩⟩, ⟨rfl, .inl ⟨rfl, rfl⟩⟩, Nat.le_of_eq hrb, by rw [List.length_drop, hbl]; show 0 + (b.size - 1) ≤ _; omega, Nat.le_refl _, fun x h => absurd h List.not_mem_nil⟩, hLD, by rw [List.length_drop]; omega⟩
  have qb : (b.size : Int) ≤ 4294967296 := by omega
  have HS : Hid (b.data.toList.length = b.size ∧ b.size ≤ 4294967296 ∧ W.heap.size = rb) := ⟨hbl, hb, hrb⟩
  clear hbl hLL hLD bX rX h1 hb
  go_enter Tryd.func29, Tryd.ntmps29
  go_wp2_with fail
  go_loopg [4, 5, 6] (b.size) (fun gq lv nv ndv wr => ∃ (L : List Ev) (nd : Int) (ns : List (List UInt8)) (q : Nat), ndv = .int .i64 nd ∧ Hid (EsI W rb b lv nv L nd ns q wr ∧ LL = L ++ evsD gq ⟨nd, ns, b.data.toList.drop q⟩ ∧ (b.data.toList.drop q).length ≤ gq))
  case atStart => exact ⟨[], 0, [], 1, rfl, H0.out.1, H0.out.2.1, Nat.le_of_lt H0.out.2.2⟩
  case round =>
    clear H0
    obtain ⟨L, nd, ns, q, rfl, HI⟩ := hrel
    obtain ⟨⟨c0, c1⟩, c2⟩ := HI.out.1.rd.cells
    have q0 : (0 : Int) ≤ (q : Int) := by omega
    by_cases hq : b.size ≤ q
    · have g1 : ¬ (q : Int) < (b.size : Int) := by omega
      have hd : b.data.toList.drop q = [] := List.drop_eq_nil_of_le (by rw [HS.out.1]; exact hq)
      have hL : LL = L := by
        rw [HI.out.2.1, hd]
        cases gk <;> simp [evsD]
      obtain ⟨ql, cl, e1, -, -⟩ := own_slice HI.out.1.own
      have HF : Hid (wr.ownsRow W.heap.size 37 6 u4 LL.length (LL.flatMap ec) ∧ Below W.heap.size W wr) := ⟨by rw [hL]; exact HI.out.1.own, HI.out.1.bel⟩
      subst e1
      clear HI hd hL
      go_wp2
      first | (change bodyPost Tryd.prog Tryd.f29 _ Exit.ret _ _) | (simp only [Exit.noGoto])
      go_ret
      rw [HS.out.2.2] at HF
      exact ⟨_, rfl, HF⟩
    · have g1 : (q : Int) < (b.size : Int) := by omega
      have hne : b.data.toList.drop q ≠ [] := fun e => by
        have := congrArg List.length e
        rw [List.length_drop, HS.out.1] at this
        simp at this
        omega
      cases gk with
      | zero =>
        have := HI.out.2.2
        exact absurd (List.length_eq_zero_iff.1 (by omega)) hne
      | succ kk =>
        have HC := revent_f wr rb q W.heap.size b nd ns u5 HI.out.1.rd (by have := HS.out.2.1; omega) (by have := HS.out.2.1; omega) HI.out.1.bel.size HI.out.1.nms (by have := HI.out.1.nsl; have := HI.out.1.cnt; have := HS.out.2.1; omega)
        obtain ⟨ed, hed⟩ : ∃ ed, evD ⟨nd, ns, b.data.toList.drop q⟩ = ed := ⟨_, rfl⟩
        rw [hed] at HC
        have hsz := evD_sz b.size ⟨nd, ns, b.data.toList.drop q⟩ (by show (b.data.toList.drop q).length ≤ _; rw [List.length_drop, HS.out.1]; omega) HI.out.1.sz
        rw [hed] at hsz
        have hLL : LL = (L ++ [ed.1]) ++ evsD kk ed.2 := by
          rw [HI.out.2.1, List.append_assoc]
          congr 1
          show (if b.data.toList.drop q = [] then [] else (evD ⟨nd, ns, b.data.toList.drop q⟩).1 :: evsD kk (evD ⟨nd, ns, b.data.toList.drop q⟩).2) = _
          rw [if_neg hne, hed]
          rfl
        have HE : Hid (LL = (L ++ [ed.1]) ++ evsD kk ed.2 ∧ ed.2.nd = ed.1.n ∧ (∀ x ∈ ed.2.ns, x.length ≤ b.size) ∧ ed.2.r.length < (b.data.toList.drop q).length ∧ ed.2.ns.length ≤ ns.length + 1) := ⟨hLL, hsz.2.2.2.2.2.2, hsz.2.2.1, hsz.2.2.2.2.1 hne, hsz.2.2.2.2.2.1⟩
        clear hed hsz hLL hne hq
        obtain ⟨⟨ek, en, enm, evk, evn, evs⟩, erd⟩ := ed
        obtain ⟨nb, hnb⟩ : ∃ nb : ByteArray, sV enm = .string nb := ⟨_, rfl⟩
        obtain ⟨vb, hvb⟩ : ∃ vb : ByteArray, sV evs = .string vb := ⟨_, rfl⟩
        have hec : ec ⟨ek, en, enm, evk, evn, evs⟩ = [.int .i64 ek, .int .i64 en, .string nb, .int .i64 evk, .int .i64 evn, .string vb] := by unfold ec; rw [hnb, hvb]
        have HEC : Hid (ec ⟨ek, en, enm, evk, evn, evs⟩ = [.int .i64 ek, .int .i64 en, .string nb, .int .i64 evk, .int .i64 evn, .string vb]) := hec
        simp only at HC
        rw [hec] at HC
        obtain ⟨q5, n5, e5, -, -⟩ := own_slice HI.out.1.nms
        obtain ⟨q4, n4, e4, -, -⟩ := own_slice HI.out.1.own
        subst e5 e4
        clear hec hnb hvb
        go_wp2_with fail
        refine HC.mono ?_
        rintro e w2 ⟨nv', rfl, hw2⟩
        clear HC c0 c1 c2
        obtain ⟨hn2, hk2, q2, hr2, hd2, -⟩ := hw2.out
        have ho2 : w2.ownsRow W.heap.size 37 6 (.slice q4 L.length n4) L.length (L.flatMap ec) := own_same HI.out.1.own fun g hg => hk2.block g (own_blk HI.out.1.own g hg).lt (by
          rintro (e | e)
          · exact own_ne HI.out.1.own HI.out.1.rd.blk (by decide) (by rw [← e]; exact hg)
          · exact (own_blk HI.out.1.own g hg).ne (own_blk HI.out.1.nms g e) (by decide) rfl)
        have hb2 : Below W.heap.size W w2 := HI.out.1.bel.trans (hk2.below (by
          rintro g (e | e)
          · rw [e]; exact HI.out.1.low
          · exact (HI.out.1.nms.lt g e).1) HI.out.1.bel.size)
        obtain ⟨C, hC⟩ : ∃ C : Array Value, #[.int .i64 ek, .int .i64 en, .string nb, .int .i64 evk, .int .i64 evn, .string vb] = C := ⟨_, rfl⟩
        have n3 : Below w2.heap.size w2 ((w2.alloc (.cells C 37)).alloc (.cells C 37)) := ((Below.refl _ w2).alloc (Nat.le_refl _) _).alloc (by simp) _
        have fZ : Full ((w2.alloc (.cells C 37)).alloc (.cells C 37)) (w2.heap.size + 1) 37 C.toList := by
          have := Full.new (w2.alloc (.cells C 37)) C 37
          rw [World.size_alloc] at this
          exact this
        have hCl : C.toList = ec ⟨ek, en, enm, evk, evn, evs⟩ := by rw [HEC.out, ← hC]
        have hcnt : L.length + 1 ≤ 4294967296 := by
          have := HI.out.1.cnt
          have := HS.out.2.1
          have := HE.out.2.2.2.1
          omega
        obtain ⟨lv', wA, rA, oA, gA⟩ := app_anyW (P := Tryd.prog) 26 26 _ 64 Tryd.underlying26 infoE rfl (by decide) (.slice q4 L.length n4) L.length _ (own_next ho2 n3) (w2.heap.size + 1) C.toList (by rw [hCl]; rfl) (by rw [hCl]; exact oneE _) (by have h := fZ; rw [← List.append_nil C.toList] at h; exact h.range) (by omega) (by omega) (by have := hb2.size; have := n3.size; omega)
        have hbA : Below W.heap.size W wA := (hb2.trans (n3.mono hb2.size)).trans ((Below.refl W.heap.size _).grown gA (by have := hb2.size; have := n3.size; omega) fun g hg => (ho2.lt g hg).1)
        have kR : ∀ {g : Nat} {t : TypeId} {vs : List Value}, Full w2 g t vs → t ≠ 37 → Full wA g t vs := fun f ht => (gA.block _ (f.next n3).lt (fun e => own_ne (own_next ho2 n3) (b := _) (t := _) (m := _) ⟨_, f.next n3, by simp; exact Nat.le_refl _⟩ ht e.symm)).trans (f.next n3)
        have hN : Hid (EsI W rb b lv' nv' (L ++ [⟨ek, en, enm, evk, evn, evs⟩]) en erd.ns q2 wA ∧ LL = (L ++ [⟨ek, en, enm, evk, evn, evs⟩]) ++ evsD kk ⟨en, erd.ns, b.data.toList.drop q2⟩ ∧ (b.data.toList.drop q2).length ≤ kk) := by
          refine ⟨⟨hbA, kR (t := 70) (vs := [.string b, .int .i64 (q2 : Int)]) hr2 (by decide), ?_, ?_, HI.out.1.low, ?_, ?_, HE.out.2.2.1⟩, ?_, ?_⟩
          · rw [List.length_append, List.length_singleton, List.flatMap_append, List.flatMap_singleton, ← hCl]
            exact oA
          · exact own_same (own_next hn2 n3) fun g hg => gA.block g (own_blk (own_next hn2 n3) g hg).lt (fun e => (own_blk (own_next hn2 n3) g hg).ne (own_blk (own_next ho2 n3) g e.symm) (by decide) rfl)
          · have := HI.out.1.cnt
            have := HE.out.2.2.2.1
            rw [hd2, List.length_append, List.length_singleton]
            omega
          · have := HI.out.1.nsl
            have := HE.out.2.2.2.2
            rw [List.length_append, List.length_singleton]
            omega
          · have e : (⟨en, erd.ns, erd.r⟩ : Rd) = erd := by rw [← HE.out.2.1]
            rw [hd2, e]
            exact HE.out.1
          · have := HI.out.2.2
            have := HE.out.2.2.2.1
            rw [hd2]
            omega
        subst hC
        clear hn2 hk2 hr2 hd2 ho2 hb2 n3 fZ hCl hcnt oA gA hbA kR hw2 HI
        go_wp2_with (first | (at_builtin; refine wpList_apr rfl (.tmp 29) (.tmp 31) 26 rfl rA ?_))
        go_roundg kk
        case measure => exact Nat.lt_succ_self kk
        case rel => exact ⟨_, _, _, _, rfl, hN⟩
end Go.Proofs.YtdmiciblfbkndaaDoor

namespace Go.Proofs.YtdmiciblfbkndaaDoor
open Go.RowKit

/-- A name stands among those of some events. -/
theorem nsA_mem : ∀ (l : List Ev) (ns : List (List UInt8)) (x : List UInt8), x ≠ [] → (x ∈ nsA ns l ↔ x ∈ ns ∨ ∃ e ∈ l, e.nm = x)
  | [], ns, x, _ => by simp [nsA]
  | e :: l, ns, x, hx => by
    have h := nsA_mem l (nmN ns e.nm) x hx
    have h2 : x ∈ nmN ns e.nm ↔ x ∈ ns ∨ e.nm = x := by
      unfold nmN
      split
      · rename_i h0
        constructor
        · exact .inl
        · rintro (h1 | h1)
          · exact h1
          · exact absurd (h1 ▸ h0) hx
      · split
        · rename_i h0
          constructor
          · exact .inl
          · rintro (h1 | h1)
            · exact h1
            · exact h1 ▸ h0
        · rw [List.mem_append, List.mem_singleton]
          exact or_congr Iff.rfl eq_comm
    show x ∈ nsA (nmN ns e.nm) l ↔ _
    rw [h, h2, or_assoc]
    simp
theorem nsA_take (L : List Ev) (i : Nat) (e : Ev) (h : L[i]? = some e) : nsA [] (L.take (i + 1)) = nmN (nsA [] (L.take i)) e.nm := by
  rw [List.take_add_one, h]
  exact nsA_app _ _ _
/-- The place of a name when one more is laid. -/
theorem plc_next (ns : List (List UInt8)) (x y : List UInt8) (hy : y ∉ ns) : plc (ns ++ [y]) x = if y = x then (ns ++ [y]).length else plc ns x := by
  unfold plc
  by_cases h : y = x
  · subst h
    rw [if_pos (show y ∈ ns ++ [y] by simp), if_pos rfl, List.idxOf_append, if_neg hy]
    simp
  · rw [if_neg h]
    by_cases hx : x ∈ ns
    · rw [if_pos (show x ∈ ns ++ [y] by simp [hx]), if_pos hx, List.idxOf_append, if_pos hx]
    · have : x ∉ ns ++ [y] := by
        rw [List.mem_append, List.mem_singleton]
        rintro (h1 | h1)
        · exact hx h1
        · exact h h1.symm
      rw [if_neg this, if_neg hx]
theorem ev_at2 {w : World} {B g o : Nat} {L : List Ev} (h : Row w B (some ⟨g, o, none⟩) L.length (L.flatMap ec)) (i : Nat) (e : Ev) (he : L[i]? = some e) (j : Nat) (v : Value) (hv : (ec e)[j]? = some v) : w.cell? ⟨g, o + i * 6 + j, none⟩ = some v := by
  obtain ⟨g', o', hq, -, hr⟩ := ev_at h i e he
  injection hq with hq
  injection hq with h1 h2
  rw [h1, h2]
  exact hr j v hv
set_option maxRecDepth 100000 in
set_option maxHeartbeats 2000000 in
theorem rnamed_any (W : World) (q : Option Addr) (cap : Nat) (L : List Ev) (m : Nat) (x : ByteArray) (hR : Row W W.heap.size q L.length (L.flatMap ec)) (hn : L.length ≤ 140737488355328) (hm : m ≤ L.length) :
    Calls Tryd.prog 41 #[.slice q L.length cap, .int .i64 (m : Int), .string x] W fun e w' => e = .returned (.tuple #[.int .i64 (plc (nsA [] (L.take m)) x.data.toList : Int), .int .i64 ((nsA [] (L.take m)).length : Int)]) ∧ Below W.heap.size W w' := by
  obtain ⟨n, hln⟩ : ∃ n, L.length = n := ⟨_, rfl⟩
  have HN : Hid (L.length = n) := hln
  have H0 : Hid (Row W W.heap.size q L.length (L.flatMap ec) ∧ Below W.heap.size W W) := ⟨hR, Below.refl _ _⟩
  rw [hln] at hn hm ⊢
  have qm : (m : Int) ≤ (n : Int) := by omega
  have qn : (n : Int) ≤ 140737488355328 := by omega
  clear hR hln
  go_enter Tryd.func41, Tryd.ntmps41
  go_wp2_with fail
  go_loopw [8, 9, 10] (fun c p v wr => ∃ j cn pl : Nat, v = .int .i64 (j : Int) ∧ c = .int .i64 (cn : Int) ∧ p = .int .i64 (pl : Int) ∧ j ≤ m ∧ cn ≤ j ∧ pl ≤ j ∧ Hid (cn = (nsA [] (L.take j)).length ∧ pl = plc (nsA [] (L.take j)) x.data.toList ∧ Row wr W.heap.size q L.length (L.flatMap ec) ∧ Below W.heap.size W wr)) (fun _ _ v _ => m - (intOf v).toNat)
  case atStart => exact ⟨0, 0, 0, rfl, rfl, rfl, Nat.zero_le _, Nat.le_refl _, Nat.le_refl _, rfl, rfl, H0.out.1, H0.out.2⟩
  case round =>
    obtain ⟨j, cn, pl, rfl, rfl, rfl, hj, hcn, hpl, HI⟩ := hrel
    clear H0
    by_cases hlt : j < m
    case neg =>
      obtain rfl : j = m := by omega
      have qi : ¬ (j : Int) < (j : Int) := by omega
      have HV : Hid (plc (nsA [] (L.take j)) x.data.toList = pl ∧ (nsA [] (L.take j)).length = cn ∧ Below W.heap.size W wr) := ⟨HI.out.2.1.symm, HI.out.1.symm, HI.out.2.2.2⟩
      clear HI hlt
      go_wp2
      go_ret2
      rw [HV.out.1, HV.out.2.1]
      exact ⟨rfl, HV.out.2.2⟩
    case pos =>
      have qj : (j : Int) < (m : Int) := by omega
      have qjn : (j : Int) < (n : Int) := by omega
      have q0 : (0 : Int) ≤ (j : Int) := by omega
      obtain ⟨e, he⟩ : ∃ e, L[j]? = some e := ⟨L[j]'(by have := HN.out; omega), List.getElem?_eq_getElem _⟩
      obtain ⟨g, o, rfl, hgB, hr⟩ := ev_at HI.out.2.2.1 j e he
      have y2 := hr 2 _ rfl
      obtain ⟨yb, hyb⟩ : ∃ b : ByteArray, b.data.toList = e.nm := ⟨⟨e.nm.toArray⟩, rfl⟩
      rw [sV_at hyb] at y2
      have HE : Hid (L[j]? = some e ∧ yb.data.toList = e.nm) := ⟨he, hyb⟩
      obtain ⟨b0, hb0⟩ : ∃ b0, yb.toList.isEmpty = b0 := ⟨_, rfl⟩
      have HB0 : Hid ((b0 = true ↔ (e.nm = [] ∨ ∃ d ∈ L.take 0, d.nm = e.nm))) := by
        show b0 = true ↔ _
        rw [← hb0, toL, hyb, List.isEmpty_iff]
        simp
      have HK : Hid (Row wr W.heap.size (some ⟨g, o, none⟩) L.length (L.flatMap ec) ∧ Below W.heap.size W wr) := HI.out.2.2
      have HC : Hid (cn = (nsA [] (L.take j)).length ∧ pl = plc (nsA [] (L.take j)) x.data.toList) := ⟨HI.out.1, HI.out.2.1⟩
      clear hr he hyb hgB HI
      go_wp2_with fail
      clear y2
      go_loopw [11, 12] (fun b v wr => ∃ (k : Nat) (t : Bool), v = .int .i64 (k : Int) ∧ b = .bool t ∧ k ≤ j ∧ Hid ((t = true ↔ (e.nm = [] ∨ ∃ d ∈ L.take k, d.nm = e.nm)) ∧ Row wr W.heap.size (some ⟨g, o, none⟩) L.length (L.flatMap ec) ∧ Below W.heap.size W wr)) (fun _ v _ => j - (intOf v).toNat)
      case atStart => exact ⟨0, b0, rfl, rfl, Nat.zero_le _, HB0.out, HK.out.1, HK.out.2⟩
      case round =>
        obtain ⟨k, t, rfl, rfl, hk, HJ⟩ := hrel
        clear HK HB0 hb0
        have y2 := ev_at2 HJ.out.2.1 j e HE.out.1 2 _ rfl
        rw [sV_at HE.out.2] at y2
        by_cases hkj : k < j
        · have qk : (k : Int) < (j : Int) := by omega
          have qk0 : (0 : Int) ≤ (k : Int) := by omega
          have qkn : (k : Int) < (n : Int) := by omega
          obtain ⟨d, hd⟩ : ∃ d, L[k]? = some d := ⟨L[k]'(by have := HN.out; omega), List.getElem?_eq_getElem _⟩
          have x2 := ev_at2 HJ.out.2.1 k d hd 2 _ rfl
          obtain ⟨xb, hxb⟩ : ∃ b : ByteArray, b.data.toList = d.nm := ⟨⟨d.nm.toArray⟩, rfl⟩
          rw [sV_at hxb] at x2
          have HD : Hid (Row wr.drew W.heap.size (some ⟨g, o, none⟩) L.length (L.flatMap ec) ∧ Below W.heap.size W wr.drew) := by
            have nb : Below wr.heap.size wr wr.drew := (Below.refl _ wr).drew
            exact ⟨HJ.out.2.1.below nb HJ.out.2.2.size, HJ.out.2.2.trans (nb.mono HJ.out.2.2.size)⟩
          have hstep : (∃ c ∈ L.take (k + 1), c.nm = e.nm) ↔ (∃ c ∈ L.take k, c.nm = e.nm) ∨ d.nm = e.nm := by
            rw [List.take_add_one, hd]
            simp
          by_cases hq : d.nm = e.nm
          · have qe : (xb.toList == yb.toList) = true := by rw [toL, toL, hxb, HE.out.2, hq]; exact beq_self_eq_true _
            have HJ2 : Hid ((true = true ↔ (e.nm = [] ∨ ∃ c ∈ L.take (k + 1), c.nm = e.nm))) := by
              show true = true ↔ _
              rw [hstep]
              exact ⟨fun _ => .inr (.inr hq), fun _ => rfl⟩
            clear hd hxb hstep HJ hq
            go_upto_region 10 with fail
            go_region
            all_goals
              clear x2 y2
              go_wp2
              exact ⟨⟨k + 1, true, by go_num, rfl, by omega, HJ2.out, HD.out.1, HD.out.2⟩, by simp [intOf]; omega⟩
          · have qe : (xb.toList == yb.toList) = false := by rw [toL, toL, hxb, HE.out.2, beq_eq_false_iff_ne]; exact hq
            have HJ2 : Hid ((t = true ↔ (e.nm = [] ∨ ∃ c ∈ L.take (k + 1), c.nm = e.nm))) := by
              show t = true ↔ _
              rw [HJ.out.1, hstep]
              exact or_congr Iff.rfl ⟨.inl, fun h => h.resolve_right hq⟩
            clear hd hxb hstep HJ hq
            go_upto_region 10 with fail
            go_region
            all_goals
              clear x2 y2
              go_wp2
              exact ⟨⟨k + 1, t, by go_num, rfl, by omega, HJ2.out, HD.out.1, HD.out.2⟩, by simp [intOf]; omega⟩
        · obtain rfl : k = j := by omega
          have qk : ¬ (k : Int) < (k : Int) := by omega
          have hnx := nsA_take L k e HE.out.1
          have hmem := nsA_mem (L.take k) [] e.nm
          cases t with
          | true =>
            have HV : Hid (cn = (nsA [] (L.take (k + 1))).length ∧ pl = plc (nsA [] (L.take (k + 1))) x.data.toList) := by
              have h1 := HJ.out.1.1 rfl
              have h2 : nsA [] (L.take (k + 1)) = nsA [] (L.take k) := by
                rw [hnx]
                unfold nmN
                split
                · rfl
                · rename_i h0
                  rw [if_pos]
                  exact (hmem h0).2 (.inr (h1.resolve_left h0))
              rw [h2]
              exact HC.out
            have HW : Hid (Row wr W.heap.size (some ⟨g, o, none⟩) L.length (L.flatMap ec) ∧ Below W.heap.size W wr) := HJ.out.2
            clear hnx hmem HJ HC
            go_wp2
            exact ⟨⟨k + 1, cn, pl, by go_num, rfl, rfl, by omega, by omega, by omega, HV.out.1, HV.out.2, HW.out⟩, by simp [intOf]; omega⟩
          | false =>
            have hf : ¬ (e.nm = [] ∨ ∃ d ∈ L.take k, d.nm = e.nm) := by
              intro h
              exact absurd (HJ.out.1.2 h) (by decide)
            have hne : e.nm ≠ [] := fun h => hf (.inl h)
            have hni : e.nm ∉ nsA [] (L.take k) := fun h => by
              rcases (hmem hne).1 h with h | h
              · simp at h
              · exact hf (.inr h)
            have h2 : nsA [] (L.take (k + 1)) = nsA [] (L.take k) ++ [e.nm] := by
              rw [hnx]
              unfold nmN
              rw [if_neg hne, if_neg hni]
            have h3 := plc_next (nsA [] (L.take k)) x.data.toList e.nm hni
            rw [← h2] at h3
            have h4 : (nsA [] (L.take (k + 1))).length = cn + 1 := by rw [h2, List.length_append, HC.out.1]; rfl
            rw [h4, ← HC.out.2] at h3
            have HW : Hid (Row wr W.heap.size (some ⟨g, o, none⟩) L.length (L.flatMap ec) ∧ Below W.heap.size W wr) := HJ.out.2
            by_cases hx : e.nm = x.data.toList
            · have qe : (yb.toList == x.toList) = true := by rw [toL, toL, HE.out.2, hx]; exact beq_self_eq_true _
              rw [if_pos hx] at h3
              have HV : Hid (cn + 1 = (nsA [] (L.take (k + 1))).length ∧ cn + 1 = plc (nsA [] (L.take (k + 1))) x.data.toList) := ⟨h4.symm, h3.symm⟩
              clear hnx hmem HJ HC hf hne hni h2 h3 h4 hx
              go_wp2
              exact ⟨⟨k + 1, cn + 1, cn + 1, by go_num, by go_num, by go_num, by omega, by omega, by omega, HV.out.1, HV.out.2, HW.out⟩, by simp [intOf]; omega⟩
            · have qe : (yb.toList == x.toList) = false := by rw [toL, toL, HE.out.2, beq_eq_false_iff_ne]; exact hx
              rw [if_neg hx] at h3
              have HV : Hid (cn + 1 = (nsA [] (L.take (k + 1))).length ∧ pl = plc (nsA [] (L.take (k + 1))) x.data.toList) := ⟨h4.symm, h3.symm⟩
              clear hnx hmem HJ HC hf hne hni h2 h3 h4 hx
              go_wp2
              exact ⟨⟨k + 1, cn + 1, pl, by go_num, by go_num, rfl, by omega, by omega, by omega, HV.out.1, HV.out.2, HW.out⟩, by simp [intOf]; omega⟩
end Go.Proofs.YtdmiciblfbkndaaDoor

namespace Go.Proofs.YtdmiciblfbkndaaDoor
open Go.RowKit

def rightS (L : List Ev) : Bool := decide (1 ≤ L.length ∧ L.length ≤ 64) && L.all evOk
set_option maxRecDepth 100000 in
set_option maxHeartbeats 2000000 in
theorem right_any (W : World) (q : Option Addr) (cap : Nat) (L : List Ev) (hR : Row W W.heap.size q L.length (L.flatMap ec)) (hz : ∀ e ∈ L, EvSz e) (hn : L.length ≤ 140737488355328) :
    Calls Tryd.prog 30 #[.slice q L.length cap] W fun e w' => e = .returned (.bool (rightS L)) ∧ Below W.heap.size W w' := by
  obtain ⟨n, hln⟩ : ∃ n, L.length = n := ⟨_, rfl⟩
  obtain ⟨T, hT⟩ : ∃ T, rightS L = T := ⟨_, rfl⟩
  have HH : Hid (Row W W.heap.size q L.length (L.flatMap ec) ∧ L.length = n ∧ (∀ e ∈ L, EvSz e) ∧ rightS L = T) := ⟨hR, hln, hz, hT⟩
  have HTd : Hid (T = (decide (1 ≤ n ∧ n ≤ 64) && L.all evOk)) := by show T = _; rw [← hT, ← hln]; rfl
  rw [hln, hT]
  have qn : (n : Int) ≤ 140737488355328 := by omega
  have qn0 : (0 : Int) ≤ (n : Int) := by omega
  have H0 : Hid (Below W.heap.size W W) := Below.refl _ W
  clear hR hz hn hln hT
  by_cases hb : n < 1 ∨ 64 < n
  · have hF : T = false := by rw [HTd.out, decide_eq_false (by omega)]; rfl
    rw [hF]
    by_cases h1 : n < 1
    · have q1 : (n : Int) < 1 := by omega
      clear hF hb h1
      go_enter Tryd.func30, Tryd.ntmps30
      go_wp2
      first | (change bodyPost Tryd.prog Tryd.f30 _ Exit.ret _ _) | (simp only [Exit.noGoto])
      go_ret
      exact ⟨rfl, H0.out⟩
    · have q1 : ¬ (n : Int) < 1 := by omega
      have q2 : (64 : Int) < (n : Int) := by omega
      clear hF hb h1
      go_enter Tryd.func30, Tryd.ntmps30
      go_wp2
      first | (change bodyPost Tryd.prog Tryd.f30 _ Exit.ret _ _) | (simp only [Exit.noGoto])
      go_ret
      exact ⟨rfl, H0.out⟩
  have q1 : ¬ (n : Int) < 1 := by omega
  have q2 : ¬ (64 : Int) < (n : Int) := by omega
  have HTa : Hid (T = L.all evOk) := by show T = _; rw [HTd.out, decide_eq_true (by omega)]; rfl
  clear hb HTd
  go_enter Tryd.func30, Tryd.ntmps30
  go_wp2_with fail
  go_loopw [3] (fun v wr => ∃ i : Nat, v = .int .i64 (i : Int) ∧ i ≤ n ∧ Hid ((L.take i).all evOk = true ∧ Below W.heap.size W wr)) (fun v _ => n - (intOf v).toNat)
  case atStart => exact ⟨0, rfl, Nat.zero_le _, rfl, H0.out⟩
  case round =>
    obtain ⟨i, rfl, him, HI⟩ := hrel
    clear H0
    by_cases hlt : i < n
    · have qi : (i : Int) < (n : Int) := by omega
      have q0 : (0 : Int) ≤ (i : Int) := by omega
      obtain ⟨e, he⟩ : ∃ e, L[i]? = some e := ⟨L[i]'(by rw [HH.out.2.1]; exact hlt), List.getElem?_eq_getElem _⟩
      obtain ⟨g, o, rfl, hgB, hr1⟩ := ev_at (HH.out.1.below HI.out.2 (Nat.le_refl _)) i e he
      have hez := HH.out.2.2.1 e (List.mem_of_getElem? he)
      have hnx := all_next L i e he
      have hno := all_no L i e he
      obtain ⟨k, en, nm, vk, vn, vs⟩ := e
      obtain ⟨nb, hnb⟩ : ∃ nb : ByteArray, nb.data.toList = nm := ⟨⟨nm.toArray⟩, rfl⟩
      obtain ⟨vb, hvb⟩ : ∃ vb : ByteArray, vb.data.toList = vs := ⟨⟨vs.toArray⟩, rfl⟩
      have HC := rev_any wr k en vk vn nb vb (by rw [Lib.size_eq, hnb]; exact hez.1) (by rw [Lib.size_eq, hvb]; exact hez.2)
      rw [hnb, hvb] at HC
      have x0 := hr1 0 _ rfl
      have x1 := hr1 1 _ rfl
      have x2 := hr1 2 _ rfl
      have x3 := hr1 3 _ rfl
      have x4 := hr1 4 _ rfl
      have x5 := hr1 5 _ rfl
      rw [sV_at hnb] at x2
      rw [sV_at hvb] at x5
      simp only [Nat.add_zero] at x0
      obtain ⟨ok, hok⟩ : ∃ ok, evOk ⟨k, en, nm, vk, vn, vs⟩ = ok := ⟨_, rfl⟩
      rw [hok] at HC hnx hno
      have HN : Hid ((L.take (i + 1)).all evOk = ((L.take i).all evOk && ok) ∧ (ok = false → L.all evOk = false)) := ⟨hnx, hno⟩
      clear hr1 he hgB hez hnx hno hnb hvb hok
      go_wp2_with fail
      refine HC.mono ?_
      rintro e w2 ⟨rfl, hb2⟩
      have HB2 : Hid (Below W.heap.size W w2) := HI.out.2.trans (hb2.mono HI.out.2.size)
      have HA : Hid ((L.take i).all evOk = true) := HI.out.1
      clear HC hb2 HI x0 x1 x2 x3 x4 x5
      cases ok with
      | true =>
        have HX : Hid ((L.take (i + 1)).all evOk = true ∧ Below W.heap.size W w2) := ⟨by rw [HN.out.1, HA.out]; rfl, HB2.out⟩
        clear HN HA HB2
        go_wp2
        exact ⟨⟨i + 1, by go_num, by omega, HX⟩, by simp [intOf]; omega⟩
      | false =>
        have HF : Hid (T = false) := by show T = false; rw [HTa.out]; exact HN.out.2 rfl
        clear HN HA
        go_wp2
        first | (change bodyPost Tryd.prog Tryd.f30 _ Exit.ret _ _) | (simp only [Exit.noGoto])
        go_ret
        rw [HF.out]
        exact ⟨rfl, HB2.out⟩
    · obtain rfl : i = n := by omega
      have HF : Hid (T = true) := by
        show T = true
        rw [HTa.out]
        have := HI.out.1
        rw [List.take_of_length_le (by rw [HH.out.2.1]; exact Nat.le_refl _)] at this
        exact this
      have HB : Hid (Below W.heap.size W wr) := HI.out.2
      clear HI
      go_wp2
      first | (change bodyPost Tryd.prog Tryd.f30 _ Exit.ret _ _) | (simp only [Exit.noGoto])
      go_ret
      rw [HF.out]
      exact ⟨rfl, HB.out⟩
end Go.Proofs.YtdmiciblfbkndaaDoor

namespace Go.Proofs.YtdmiciblfbkndaaDoor
open Go.RowKit Go.Shelf
attribute [local go_sem] Oper.semAt_some

theorem full_grown {W W' : World} {row : Option Nat} {g : Nat} {t : TypeId} {vs : List Value} (f : Full W g t vs) (hg : W.grownBy W' row) (hr : ∀ r, row = some r → ∃ o : Obj, W.heap[r]? = some o ∧ o.isCells = false) : Full W' g t vs := by
  refine (hg.block g f.lt fun e => ?_).trans f
  obtain ⟨o, h1, h2⟩ := hr g e.symm
  have h3 : W.heap[g]? = some (.cells vs.toArray t (0, 0)) := f
  rw [h3] at h1
  rw [← Option.some.inj h1] at h2
  cases h2
theorem own_grown {W W' : World} {row : Option Nat} {b : Nat} {e : TypeId} {sz : Nat} {v : Value} {n : Nat} {xs : List Value} (h : W.ownsRow b e sz v n xs) (hg : W.grownBy W' row) (hr : ∀ r, row = some r → ∃ o : Obj, W.heap[r]? = some o ∧ o.isCells = false) : W'.ownsRow b e sz v n xs :=
  own_same h fun g hgb => hg.block g (own_blk h g hgb).lt fun e => by
    obtain ⟨cur, hv, -⟩ := own_blk h g hgb
    obtain ⟨o, h1, h2⟩ := hr g e.symm
    rw [hv] at h1
    rw [← Option.some.inj h1] at h2
    cases h2
/-- A way's seven cells. -/
def wyC (w : Wy) (nv : Value) : List Value := [.int .i64 w.rc.ph, .int .i64 w.rc.tr, sV w.rc.out, .int .i64 w.rc.inp, nv, .int .i64 (w.len : Int), .bool w.fin]
def wyZ : List Value := [.int .i64 0, .int .i64 0, .string ⟨#[]⟩, .int .i64 0, .slice none 0 0, .int .i64 0, .bool false]
/-- follow's contract. -/
def FollowOf (W : World) (b : ByteArray) : Prop := Calls Tryd.prog 17 #[.string b] W fun e w' => Below W.heap.size W w' ∧ match followS b.data.toList with
  | none => e = .returned (.tuple #[.agg wyZ.toArray, .bool false])
  | some w => ∃ nv, e = .returned (.tuple #[.agg (wyC w nv).toArray, .bool true]) ∧ w'.ownsRow W.heap.size 37 6 nv w.rc.evs.length (w.rc.evs.flatMap ec)
/-- Where follow stands in its loop. -/
structure FlI (W : World) (R : Nat) (w : Wy) (wr : World) : Prop where
  way : ∃ nv, Wyr (R + 1) wr (R + 1) w nv
  res : Full wr R 53 wyZ
  bel : Below W.heap.size W wr
theorem FlI.own {W : World} {R B : Nat} {w : Wy} {a b : World} {row : Option Nat} (h : FlI W R w a) (hg : a.grownBy b row) (hB : W.heap.size ≤ B) (hr : ∀ r, row = some r → B ≤ r ∧ ∃ o : Obj, a.heap[r]? = some o ∧ o.isCells = false) : FlI W R w b := by
  obtain ⟨⟨nv, h1⟩, h2, h3⟩ := h
  exact ⟨⟨nv, h1.low, full_grown h1.box hg fun r e => (hr r e).2, own_grown h1.evs hg fun r e => (hr r e).2⟩, full_grown h2 hg fun r e => (hr r e).2, h3.grown hg h3.size fun k e => Nat.le_trans hB (hr k e).1⟩
theorem FlI.take {W : World} {R : Nat} {w w' : Wy} {a b : World} (h : FlI W R w a) (q : WyQ (R + 1) a (R + 1) w' b) (hR : W.heap.size = R) : FlI W R w' b :=
  ⟨q.out.1, (q.out.2.1.block R (Nat.lt_succ_self R)).trans h.res, h.bel.trans (q.out.2.1.mono (by omega))⟩
/-- The temporaries behind the iterator's making. -/
def flT (R : Nat) (b rest : ByteArray) (u v : Value) : Array Value := #[.string b, undef, .pointer (some ⟨R, 0, none⟩), .bool false, .string rest, .bool true, .pointer (some ⟨R + 1, 0, none⟩), u, .tuple #[.string rest, .bool true], .string b, .tuple #[.string rest, .bool true], .string rest, .bool true, .bool true, .bool false, undef, .agg #[.int .i64 0, .int .i64 0, .string ⟨#[]⟩, .int .i64 0, .slice none 0 0, .int .i64 2, .bool false], .string rest, .func (.func 45) #[] #[.pointer (some ⟨R + 2, 0, none⟩)], v, undef, undef, undef, undef, undef, undef, undef, undef, undef, undef, undef]
theorem cutP_yes {b : List UInt8} (h : b.take 2 = [82, 1]) : cutP b [82, 1] = (b.drop 2, true) := by
  unfold cutP
  rw [if_pos (by exact h)]
  rfl
theorem cutP_no {b : List UInt8} (h : b.take 2 ≠ [82, 1]) : (cutP b [82, 1]).2 = false := by
  unfold cutP
  rw [if_neg (by exact h)]
theorem ret_fol {w : World} {R : Nat} {a b c d e f g : Value} {x : Bool} {tm : Array Value} (h : Full w R 53 [a, b, c, d, e, f, g]) (h2 : tm[2]?.getD undef = .pointer (some ⟨R, 0, none⟩)) (h3 : tm[3]?.getD undef = .bool x) : (results Tryd.f17 tm).run Tryd.prog w = .ok (.tuple #[.agg #[a, b, c, d, e, f, g], .bool x]) w := by
  obtain ⟨⟨⟨⟨r0, g0⟩, ⟨r1, g1⟩, r2, g2⟩, ⟨r3, g3⟩, ⟨r4, g4⟩, r5, g5⟩, r6, g6⟩ := h.seven2
  simp [results, Tryd.results17, go_sem, h2, h3, r0, r1, r2, r3, r4, r5, r6]
set_option maxRecDepth 100000 in
set_option maxHeartbeats 2000000 in
theorem follow_no (W : World) (b : ByteArray) (hb : b.size ≤ 140737488355328) (h2 : b.data.toList.take 2 ≠ [82, 1]) : FollowOf W b := by
  unfold FollowOf followS
  rw [if_neg h2]
  obtain ⟨X1, hX1⟩ : ∃ X, W.alloc (.cells wyZ.toArray 53) = X := ⟨_, rfl⟩
  obtain ⟨R, hR⟩ : ∃ R, W.heap.size = R := ⟨_, rfl⟩
  have b1 : Below W.heap.size W X1 := by rw [← hX1]; exact (Below.refl _ W).alloc (Nat.le_refl _) _
  have f1 : Full X1 R 53 wyZ := by rw [← hX1, ← hR]; exact Full.new W _ _
  have HCu := cut_any X1 b ⟨#[82, 1]⟩ (by omega) (by decide)
  have hc2 := cutP_no h2
  obtain ⟨pr, hpr⟩ : ∃ pr, cutP b.data.toList [82, 1] = pr := ⟨_, rfl⟩
  rw [hpr] at hc2
  obtain ⟨pa, pb⟩ := pr
  simp only at hc2
  subst hc2
  rw [show (⟨#[82, 1]⟩ : ByteArray).data.toList = [82, 1] from rfl, hpr] at HCu
  simp only at HCu
  have H1 : Hid (Below W.heap.size W X1 ∧ Full X1 R 53 wyZ ∧ W.heap.size ≤ R) := ⟨b1, f1, Nat.le_of_eq hR⟩
  obtain ⟨⟨⟨⟨r0, g0⟩, ⟨r1, g1⟩, r2, g2⟩, ⟨r3, g3⟩, ⟨r4, g4⟩, r5, g5⟩, r6, g6⟩ := f1.seven2
  clear b1 f1 hpr hb h2
  simp only [wyZ] at hX1
  unfold sV at HCu
  go_enter Tryd.func17, Tryd.ntmps17
  go_wp2_with fail
  refine HCu.mono ?_
  rintro e w2 ⟨rfl, rfl⟩
  clear HCu
  go_wp2_with fail
  have f2 : Full (w2.setCells R 0 wyZ) R 53 wyZ := Full.put (a := []) (b := wyZ) (d := []) wyZ H1.out.2.1 rfl
  have b2 : Below W.heap.size W (w2.setCells R 0 wyZ) := below_sets H1.out.1 H1.out.2.2 0 _
  simp only [World.setCells, wyZ, Nat.zero_add, Nat.reduceAdd] at f2 b2
  refine bodyPost_ret (ret_fol f2 rfl rfl) rfl ?_
  exact ⟨b2, rfl⟩
set_option maxRecDepth 100000 in
set_option maxHeartbeats 2000000 in
theorem follow_any (hE : AllEv) (W : World) (b : ByteArray) (hT : SumT W) (hb : b.size ≤ 140737488355328) : FollowOf W b := by
  by_cases h2 : b.data.toList.take 2 = [82, 1]
  case neg => exact follow_no W b hb h2
  unfold FollowOf followS
  rw [if_pos h2]
  obtain ⟨rest, hrest⟩ : ∃ x : ByteArray, x.data.toList = b.data.toList.drop 2 := ⟨⟨(b.data.toList.drop 2).toArray⟩, rfl⟩
  obtain ⟨X1, hX1⟩ : ∃ X, W.alloc (.cells wyZ.toArray 53) = X := ⟨_, rfl⟩
  obtain ⟨R, hR⟩ : ∃ R, W.heap.size = R := ⟨_, rfl⟩
  have b1 : Below W.heap.size W X1 := by rw [← hX1]; exact (Below.refl _ W).alloc (Nat.le_refl _) _
  have f1 : Full X1 R 53 wyZ := by rw [← hX1, ← hR]; exact Full.new W _ _
  have z1 : X1.heap.size = R + 1 := by rw [← hX1, World.size_alloc, hR]
  have HCu := cut_any X1 b ⟨#[82, 1]⟩ (by omega) (by decide)
  rw [show (⟨#[82, 1]⟩ : ByteArray).data.toList = [82, 1] from rfl, cutP_yes h2] at HCu
  simp only at HCu
  rw [sV_at hrest] at HCu
  obtain ⟨Xh, hXh⟩ : ∃ X, X1.alloc (.cells #[.int .i64 0, .int .i64 0, .string ⟨#[]⟩, .int .i64 0, .slice none 0 0, .int .i64 2, .bool false] 53) = X := ⟨_, rfl⟩
  have bh : Below X1.heap.size X1 Xh := by rw [← hXh]; exact (Below.refl _ _).alloc (Nat.le_refl _) _
  have fh : Full Xh (R + 1) 53 [.int .i64 0, .int .i64 0, .string ⟨#[]⟩, .int .i64 0, .slice none 0 0, .int .i64 2, .bool false] := by rw [← hXh, ← z1]; exact Full.new X1 _ _
  have zh : Xh.heap.size = R + 2 := by rw [← hXh, World.size_alloc, z1]
  obtain ⟨-, k6, l6⟩ := fh.seven2
  obtain ⟨X2, hX2⟩ : ∃ X, Xh.setCell ⟨R + 1, 6, none⟩ (.bool false) = X := ⟨_, rfl⟩
  have b2 : Below X1.heap.size X1 X2 := by rw [← hX2]; exact bh.setCell (p := ⟨R + 1, 6, none⟩) (by show _ ≤ R + 1; omega) _
  have f2 : Full X2 (R + 1) 53 [.int .i64 0, .int .i64 0, .string ⟨#[]⟩, .int .i64 0, .slice none 0 0, .int .i64 2, .bool false] := by rw [← hX2]; exact Full.put1 (a := [.int .i64 0, .int .i64 0, .string ⟨#[]⟩, .int .i64 0, .slice none 0 0, .int .i64 2]) (d := []) fh _
  have z2 : X2.heap.size = R + 2 := by rw [← hX2]; show (Xh.heap.modify _ _).size = _; rw [Array.size_modify, zh]
  clear fh bh
  have HB := bodies_any rest X2
  rw [z2] at HB
  simp only [wyZ] at hX1
  refine (callsIn_wide (n := 6)).1 ?_
  refine callsIn_of_wp_marks Tryd.func17 rfl trivial ?_ rfl
  simp only [Tryd.ntmps17, List.size_toArray, List.length_cons, List.length_nil, Nat.reduceAdd, Nat.reduceSub, Array.replicate_succ, Array.replicate_zero, List.push_toArray, List.append_toArray, List.nil_append, List.cons_append]
  gi_wp2_with (first | (refine ⟨trivial, ?_⟩; gi_at_call 25; refine (callsIn_wide.2 HCu).mono ?_; rintro e w' ⟨rfl, rfl⟩) | (refine ⟨trivial, ?_⟩; gi_at_call 26; refine (callsIn_wide.2 HB).mono ?_; rintro e w' ⟨rfl, rfl⟩))
  have HT : Hid (SumT W) := hT
  have HH : Hid (rest.data.toList = b.data.toList.drop 2 ∧ b.size ≤ 140737488355328 ∧ W.heap.size = R ∧ b.data.toList.length = b.size) := ⟨hrest, hb, hR, (Lib.size_eq b).symm⟩
  have b3 : Below W.heap.size W (X2.alloc (.cells #[.string rest] 9)) := (b1.trans (b2.mono b1.size)).alloc (by omega) _
  have h0 : FlI W R wy0 (X2.alloc (.cells #[.string rest] 9)) := by
    have nb : Below X2.heap.size X2 (X2.alloc (.cells #[.string rest] 9)) := (Below.refl _ X2).alloc (Nat.le_refl _) _
    exact ⟨⟨.slice none 0 0, Nat.le_refl _, f2.next nb, ⟨rfl, .inl ⟨rfl, rfl⟩⟩⟩, (f1.next b2).next nb, b3⟩
  have hbt : (X2.alloc (.cells #[.string rest] 9)).cell? ⟨R + 2, 0, none⟩ = some (.string rest) := by
    have h := (Full.new X2 #[.string rest] 9).cell 0 (.string rest) rfl
    rw [z2] at h
    exact h.1
  have hzr : rest.size ≤ 140737488355328 := by rw [Lib.size_eq, hrest, List.length_drop, ← Lib.size_eq]; omega
  have hF0 : FoI b.data.toList [] wy0 := FoI.zero h2
  have z3 : (X2.alloc (.cells #[.string rest] 9)).heap.size = R + 3 := by rw [World.size_alloc, z2]
  obtain ⟨X3, hX3⟩ : ∃ X, X2.alloc (.cells #[.string rest] 9) = X := ⟨_, rfl⟩
  rw [hX3] at b3 h0 hbt z3 ⊢
  clear hX3 hX2 hXh hX1 b1 f1 z1 b2 f2 z2 zh HCu HB k6 l6 hT hb hrest hR
  have HRA : Hid (W.heap.size ≤ R + 1) := by have := HH.out.2.2.1; show W.heap.size ≤ R + 1; omega
  obtain ⟨FW, HFW⟩ : ∃ FW, Hid (folW b.data.toList.length wy0 (b.data.toList.drop 2) = FW) := ⟨_, (rfl : folW b.data.toList.length wy0 (b.data.toList.drop 2) = _)⟩
  refine wpIn_range_guard rfl (by omega) (gf := 45) (lb := #[.pointer (some ⟨R + 2, 0, none⟩)]) rfl trivial (enters_of Tryd.func45 (by kernel_rfl) rfl)
    (bodies_seq 5 (by omega) (R + 2) rest X3 hzr (by omega) hbt (HT.out.next b3)) (Below.refl _ _) (fun _ => rfl)
    (fun pre wr => ∃ w, FoI b.data.toList pre w ∧ FlI W R w wr)
    (fun c _ wr => c = Code.exit 0 ∧ FlI W R FW wr)
    (fun s A B' row hs hg hr => by
      obtain ⟨w, k1, k2⟩ := hs
      exact ⟨w, k1, k2.own hg b3.size hr⟩)
    (fun c s A B' row hs hg hr => ⟨hs.1, hs.2.own hg b3.size hr⟩)
    ⟨wy0, hF0, h0⟩
    (fun pre wr hs => by
      obtain ⟨w, k1, k2⟩ := hs
      exact HT.out.next k2.bel)
    (fun _ _ _ _ => trivial)
    (fun x => { tmps := flT R b rest (.string x) (.string x), defers := [] }) ?assign ?body ?done ?stop
  case assign =>
    intro l x Wc K hK
    gi_wp2
    simpa [flT] using hK
  case body =>
    rintro l pre x Wc ⟨w, hF, hL⟩ hnx
    rw [HH.out.1] at hnx
    obtain ⟨hx0, hxl⟩ := first_le hnx
    have hxs := Lib.size_eq x
    have hxz : x.size ≤ 140737488355328 := by rw [List.length_drop, List.length_drop] at hxl; have := HH.out; omega
    have hxp : 0 < x.size := by have := List.length_pos_iff.2 hx0; omega
    obtain ⟨nv, hw⟩ := hL.way
    have HC := take_all hE hw x hxz hxp hF.evs
    have HLh : Hid (FlI W R w Wc) := hL
    have HFh : Hid (FoI b.data.toList pre w) := hF
    have HNx : Hid (firstS ((b.data.toList.drop 2).drop (totB pre)) = some x.data.toList) := hnx
    clear hw hL hF hnx hx0 hxl hxs hxp b3 h0 hbt z3 hF0 hzr h2
    unfold flT
    cases ht : takeS w x.data.toList with
    | none =>
      rw [ht] at HC
      simp only [Option.isSome_none, Option.getD_none] at HC
      have HTk : Hid (takeS w x.data.toList = none) := ht
      clear ht
      gi_wp2_with (refine ⟨trivial, ?_⟩; gi_at_call 27; refine (callsIn_wide.2 HC).mono ?_; rintro e w3 ⟨rfl, hq⟩)
      refine ⟨hq.out.2.2.2, rfl, ?_⟩
      rw [← HFW.out, HFh.out.halt HNx.out HTk.out]
      exact HLh.out.take hq HH.out.2.2.1
    | some w' =>
      rw [ht] at HC
      simp only [Option.isSome_some, Option.getD_some] at HC
      have HTk : Hid (takeS w x.data.toList = some w') := ht
      clear ht
      obtain ⟨kl, -⟩ := takeS_keep HTk.out
      have hwl : w'.len ≤ 140737488355328 := by
        have h1 := HFh.out.len
        have h3 := HH.out
        omega
      have qx : (x.size : Int) ≤ 140737488355328 := by omega
      have qw : (w'.len : Int) ≤ 140737488355328 := by omega
      have qw0 : (0 : Int) ≤ (w'.len : Int) := by omega
      clear kl hwl hxz
      gi_wp2_with (refine ⟨trivial, ?_⟩; gi_at_call 27; refine (callsIn_wide.2 HC).mono ?_; rintro e w3 ⟨rfl, hq⟩; obtain ⟨nv2, hw2⟩ := hq.out.1; obtain ⟨⟨-, -, -, c5, f5⟩, -⟩ := hw2.box.seven2)
      have hk := HLh.out.take hq HH.out.2.2.1
      have ef : (w'.len : Int) + (8 + (x.size : Int)) = ((w'.len + (8 + x.size) : Nat) : Int) := by omega
      refine ⟨hq.out.2.2.2.trans (KeepsOthers.setCell _ _ _), ⟨w'.rc, w'.len + (8 + x.size), w'.fin⟩, HFh.out.go HNx.out HTk.out, ⟨nv2, Nat.le_refl _, ?_, own_oth hw2.evs hw2.box (by decide) 5 _⟩, hk.res.other1 (Nat.ne_of_lt (Nat.lt_succ_self R)), hk.bel.setCell (p := ⟨R + 1, 5, none⟩) HRA.out _⟩
      rw [ef]
      exact Full.put1 (a := [.int .i64 w'.rc.ph, .int .i64 w'.rc.tr, sV w'.rc.out, .int .i64 w'.rc.inp, nv2]) (d := [.bool w'.fin]) hw2.box _
  case done =>
    rintro D xs Wd hD hS ⟨w, hF, hL⟩ hK
    rw [HH.out.1] at hS
    rw [← hF.end_ hS, HFW.out] at hL
    clear hS hF
    obtain ⟨nv', hw⟩ := hL.way
    obtain ⟨qe, ce, rfl, -, -⟩ := own_slice hw.evs
    obtain ⟨ne, hne⟩ : ∃ ne, FW.rc.evs.length = ne := ⟨_, rfl⟩
    have HNE : Hid (FW.rc.evs.length = ne) := hne
    rw [hne] at hw
    clear hne
    obtain ⟨⟨⟨⟨r0, g0⟩, ⟨r1, g1⟩, r2, g2⟩, ⟨r3, g3⟩, ⟨r4, g4⟩, r5, g5⟩, r6, g6⟩ := hL.res.seven2
    obtain ⟨⟨⟨⟨c0, -⟩, ⟨c1, -⟩, c2, -⟩, ⟨c3, -⟩, ⟨c4, -⟩, c5, -⟩, c6, -⟩ := hw.box.seven2
    have HLh : Hid (FlI W R FW Wd) := hL
    have HW : Hid (Wyr (R + 1) Wd (R + 1) FW (.slice qe ne ce)) := hw
    have HD : Hid (W.heap.size ≤ D ∧ Wd.heap[D]? = some (.deferred (some []))) := ⟨Nat.le_trans b3.size hD, hK⟩
    clear hw hL hD hK b3 h0 hbt z3 hF0 hzr h2
    unfold sV at c2
    gi_wp2
    have f9 : Full (Wd.setCells R 0 (wyC FW (.slice qe ne ce))) R 53 (wyC FW (.slice qe ne ce)) := Full.put (a := []) (b := wyZ) (d := []) (wyC FW (.slice qe ne ce)) HLh.out.res rfl
    have b9 : Below W.heap.size W (Wd.setCells R 0 (wyC FW (.slice qe ne ce))) := below_sets HLh.out.bel (Nat.le_of_eq HH.out.2.2.1) 0 _
    have k9 : (Wd.setCells R 0 (wyC FW (.slice qe ne ce))).heap[D]? = some (.deferred (some [])) := (keeps_sets _ Wd R 0).same D _ HD.out.2 rfl
    have o9 : (Wd.setCells R 0 (wyC FW (.slice qe ne ce))).ownsRow (R + 1) 37 6 (.slice qe ne ce) FW.rc.evs.length (FW.rc.evs.flatMap ec) := own_same HW.out.evs fun g hg => sets_heap (fun e => (own_blk HW.out.evs g hg).ne (⟨_, HLh.out.res, Nat.zero_le _⟩ : Blk Wd R 53 0) (by decide) e) _ 0 Wd
    have HO : Hid (Full (Wd.setCells R 0 (wyC FW (.slice qe ne ce))) R 53 (wyC FW (.slice qe ne ce)) ∧ Below W.heap.size W (Wd.setCells R 0 (wyC FW (.slice qe ne ce))) ∧ (Wd.setCells R 0 (wyC FW (.slice qe ne ce))).heap[D]? = some (.deferred (some [])) ∧ (Wd.setCells R 0 (wyC FW (.slice qe ne ce))).ownsRow (R + 1) 37 6 (.slice qe ne ce) FW.rc.evs.length (FW.rc.evs.flatMap ec)) := ⟨f9, b9, k9, o9⟩
    clear f9 b9 k9 o9
    obtain ⟨Z, hZ⟩ : ∃ Z, Wd.setCells R 0 (wyC FW (.slice qe ne ce)) = Z := ⟨_, rfl⟩
    rw [hZ] at HO
    simp only [World.setCells, wyC, sV, Nat.zero_add, Nat.reduceAdd] at hZ
    rw [hZ]
    refine ⟨by simp, .inl ⟨_, _, rfl, run_takeDeferred HO.out.2.2.1, ?_⟩⟩
    have gr := grownBy_putObj' Z D (.deferred none)
    have hr : ∀ r, some D = some r → ∃ o : Obj, Z.heap[r]? = some o ∧ o.isCells = false := fun r e => by cases e; exact ⟨_, HO.out.2.2.1, rfl⟩
    simp only [HFW.out]
    exact ⟨_, ret_fol (full_grown HO.out.1 gr hr) rfl rfl, HO.out.2.1.grown gr HO.out.2.1.size (fun k e => by cases e; exact HD.out.1), .slice qe ne ce, rfl, own_down (own_grown HO.out.2.2.2 gr hr) HRA.out⟩
  case stop =>
    rintro D c pre Wd hD ⟨rfl, hL⟩ hK
    obtain ⟨nv', hw⟩ := hL.way
    obtain ⟨qe, ce, rfl, -, -⟩ := own_slice hw.evs
    obtain ⟨ne, hne⟩ : ∃ ne, FW.rc.evs.length = ne := ⟨_, rfl⟩
    have HNE : Hid (FW.rc.evs.length = ne) := hne
    rw [hne] at hw
    clear hne
    obtain ⟨⟨⟨⟨r0, g0⟩, ⟨r1, g1⟩, r2, g2⟩, ⟨r3, g3⟩, ⟨r4, g4⟩, r5, g5⟩, r6, g6⟩ := hL.res.seven2
    obtain ⟨⟨⟨⟨c0, -⟩, ⟨c1, -⟩, c2, -⟩, ⟨c3, -⟩, ⟨c4, -⟩, c5, -⟩, c6, -⟩ := hw.box.seven2
    have HLh : Hid (FlI W R FW Wd) := hL
    have HW : Hid (Wyr (R + 1) Wd (R + 1) FW (.slice qe ne ce)) := hw
    have HD : Hid (W.heap.size ≤ D ∧ Wd.heap[D]? = some (.deferred (some []))) := ⟨Nat.le_trans b3.size hD, hK⟩
    clear hw hL hD hK b3 h0 hbt z3 hF0 hzr h2
    unfold sV at c2
    gi_wp2
    have f9 : Full (Wd.setCells R 0 (wyC FW (.slice qe ne ce))) R 53 (wyC FW (.slice qe ne ce)) := Full.put (a := []) (b := wyZ) (d := []) (wyC FW (.slice qe ne ce)) HLh.out.res rfl
    have b9 : Below W.heap.size W (Wd.setCells R 0 (wyC FW (.slice qe ne ce))) := below_sets HLh.out.bel (Nat.le_of_eq HH.out.2.2.1) 0 _
    have k9 : (Wd.setCells R 0 (wyC FW (.slice qe ne ce))).heap[D]? = some (.deferred (some [])) := (keeps_sets _ Wd R 0).same D _ HD.out.2 rfl
    have o9 : (Wd.setCells R 0 (wyC FW (.slice qe ne ce))).ownsRow (R + 1) 37 6 (.slice qe ne ce) FW.rc.evs.length (FW.rc.evs.flatMap ec) := own_same HW.out.evs fun g hg => sets_heap (fun e => (own_blk HW.out.evs g hg).ne (⟨_, HLh.out.res, Nat.zero_le _⟩ : Blk Wd R 53 0) (by decide) e) _ 0 Wd
    have HO : Hid (Full (Wd.setCells R 0 (wyC FW (.slice qe ne ce))) R 53 (wyC FW (.slice qe ne ce)) ∧ Below W.heap.size W (Wd.setCells R 0 (wyC FW (.slice qe ne ce))) ∧ (Wd.setCells R 0 (wyC FW (.slice qe ne ce))).heap[D]? = some (.deferred (some [])) ∧ (Wd.setCells R 0 (wyC FW (.slice qe ne ce))).ownsRow (R + 1) 37 6 (.slice qe ne ce) FW.rc.evs.length (FW.rc.evs.flatMap ec)) := ⟨f9, b9, k9, o9⟩
    clear f9 b9 k9 o9
    obtain ⟨Z, hZ⟩ : ∃ Z, Wd.setCells R 0 (wyC FW (.slice qe ne ce)) = Z := ⟨_, rfl⟩
    rw [hZ] at HO
    simp only [World.setCells, wyC, sV, Nat.zero_add, Nat.reduceAdd] at hZ
    rw [hZ]
    refine ⟨by simp, .inl ⟨_, _, rfl, run_takeDeferred HO.out.2.2.1, ?_⟩⟩
    have gr := grownBy_putObj' Z D (.deferred none)
    have hr : ∀ r, some D = some r → ∃ o : Obj, Z.heap[r]? = some o ∧ o.isCells = false := fun r e => by cases e; exact ⟨_, HO.out.2.2.1, rfl⟩
    simp only [HFW.out]
    exact ⟨_, ret_fol (full_grown HO.out.1 gr hr) rfl rfl, HO.out.2.1.grown gr HO.out.2.1.size (fun k e => by cases e; exact HD.out.1), .slice qe ne ce, rfl, own_down (own_grown HO.out.2.2.2 gr hr) HRA.out⟩
end Go.Proofs.YtdmiciblfbkndaaDoor
