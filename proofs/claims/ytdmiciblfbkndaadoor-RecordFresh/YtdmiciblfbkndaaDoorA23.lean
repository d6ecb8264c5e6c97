import Derived.BigQuiet
import Derived.Lib.QuietBelow
import Derived.Test.YtdmiciblfbkndaaDoorA22
import Derived.Test.YtdmiciblfbkndaaDoorA18
import Derived.Test.YtdmiciblfbkndaaDoorA13
import Derived.Test.YtdmiciblfbkndaaDoorA09
namespace Go.Proofs.YtdmiciblfbkndaaDoor
open Go.RowKit Go.Shelf
attribute [local go_sem] Oper.semAt_some

/-- A record that is asked about: what is known of its list. -/
structure RcIn (W : World) (q : Option Addr) (cap : Nat) (L : List Ev) : Prop where
  row : Row W W.heap.size q L.length (L.flatMap ec)
  cap : L.length ≤ cap
  sz : ∀ e ∈ L, EvSz e
  vn : ∀ e ∈ L, -9223372036854775808 ≤ e.vn ∧ e.vn ≤ 9223372036854775807
  most : L.length ≤ 140737488355328
section
variable (W : World) (ph tr : Int) (out : ByteArray) (inp : Int) (q : Option Addr) (cap : Nat) (L : List Ev)
/-- What Encode answers. -/
def EncP (e : Ending) (w' : World) : Prop := e = .returned (.tuple #[.string ⟨(encS ⟨ph, tr, out.data.toList, inp, L⟩).1.toArray⟩, .int .i64 (encS ⟨ph, tr, out.data.toList, inp, L⟩).2]) ∧ Below W.heap.size W w'
set_option maxRecDepth 100000 in
set_option maxHeartbeats 2000000 in
theorem encode_size (hn : L.length ≤ 140737488355328) (ho : out.size ≤ 140737488355328) (hb : 1048576 < L.length ∨ 16777216 < out.size) :
    Calls Tryd.prog 20 #[.agg (recC ph tr out inp q L.length cap)] W (EncP W ph tr out inp L) := by
  have HV : Hid (encS ⟨ph, tr, out.data.toList, inp, L⟩ = ([], 2)) := by
    show encS _ = _
    unfold encS
    rw [if_pos (by rw [← Lib.size_eq]; exact hb)]
  have HN : Hid (L.length = L.length) := rfl
  unfold recC
  generalize L.length = n at *
  have qo : (out.size : Int) ≤ 140737488355328 := by omega
  have qn : (n : Int) ≤ 140737488355328 := by omega
  have H1 : Hid (Below W.heap.size W (W.alloc (.cells #[.int .i64 ph, .int .i64 tr, .string out, .int .i64 inp, .slice q n cap] 28))) := (Below.refl _ W).alloc (Nat.le_refl _) _
  rcases Nat.lt_or_ge 1048576 n with h | h
  · have q1 : (1048576 : Int) < (n : Int) := by omega
    clear hb h hn ho
    go_enter Tryd.func20, Tryd.ntmps20
    go_wp2_with fail
    go_ret2
    unfold EncP
    rw [HV.out]
    exact ⟨rfl, H1.out⟩
  · have q1 : (n : Int) ≤ 1048576 := by omega
    have q2 : (16777216 : Int) < (out.size : Int) := by omega
    clear hb h hn ho
    go_enter Tryd.func20, Tryd.ntmps20
    go_wp2_with fail
    go_ret2
    unfold EncP
    rw [HV.out]
    exact ⟨rfl, H1.out⟩
set_option maxRecDepth 100000 in
set_option maxHeartbeats 2000000 in
theorem encode_bad (hI : RcIn W q cap L) (h1 : L.length ≤ 1048576) (h2 : out.size ≤ 16777216) (hb : (endOk ph tr inp && L.all evOk) = false) :
    Calls Tryd.prog 20 #[.agg (recC ph tr out inp q L.length cap)] W (EncP W ph tr out inp L) := by
  have HV : Hid (encS ⟨ph, tr, out.data.toList, inp, L⟩ = ([], 1)) := by
    show encS _ = _
    unfold encS
    rw [if_neg (by rw [← Lib.size_eq]; show ¬ (1048576 < L.length ∨ _); omega)]
    simp only [hb]
    rfl
  obtain ⟨X1, hX1⟩ : ∃ X, W.alloc (.cells (recC ph tr out inp q L.length cap) 28) = X := ⟨_, rfl⟩
  obtain ⟨R, hR⟩ : ∃ R, W.heap.size = R := ⟨_, rfl⟩
  have b1 : Below W.heap.size W X1 := by rw [← hX1]; exact (Below.refl _ W).alloc (Nat.le_refl _) _
  have f1 : Full X1 R 28 [.int .i64 ph, .int .i64 tr, .string out, .int .i64 inp, .slice q L.length cap] := by rw [← hX1, ← hR]; exact Full.new W _ _
  have HE := end_any X1 ph tr out inp q L.length cap
  have HM : ∀ w2, Below X1.heap.size X1 w2 → Calls Tryd.prog 32 #[.slice q L.length cap] w2 fun e w' => e = .returned (.bool (L.all evOk)) ∧ Below w2.heap.size w2 w' := fun w2 hb2 =>
    evm_any w2 q cap L ((hI.row.below b1 (Nat.le_refl _)).below (hb2.mono b1.size) (Nat.le_refl _) |>.up (Nat.le_trans b1.size hb2.size)) hI.sz hI.most
  unfold recC at hX1 HE ⊢
  obtain ⟨n, hn⟩ : ∃ n, L.length = n := ⟨_, rfl⟩
  rw [hn] at hX1 HE f1 h1 ⊢
  simp only [hn] at HM
  have H1 : Hid (Below W.heap.size W X1 ∧ Full X1 R 28 [.int .i64 ph, .int .i64 tr, .string out, .int .i64 inp, .slice q n cap]) := ⟨b1, f1⟩
  have q1 : (n : Int) ≤ 1048576 := by omega
  have q2 : (out.size : Int) ≤ 16777216 := by omega
  obtain ⟨⟨⟨r0, -⟩, ⟨r1, -⟩, r2, -⟩, ⟨r3, -⟩, r4, -⟩ := f1.five2
  have HMh : Hid (∀ w2, Below X1.heap.size X1 w2 → Calls Tryd.prog 32 #[.slice q n cap] w2 fun e w' => e = .returned (.bool (L.all evOk)) ∧ Below w2.heap.size w2 w') := HM
  clear b1 f1 hI h1 h2 hn HM
  cases he : endOk ph tr inp with
  | false =>
    rw [he] at HE
    clear he hb
    go_enter Tryd.func20, Tryd.ntmps20
    go_wp2_with fail
    refine HE.mono ?_
    rintro e w2 ⟨rfl, hb2⟩
    have H2 : Hid (Below W.heap.size W w2) := H1.out.1.trans (hb2.mono H1.out.1.size)
    clear HE hb2 r0 r1 r2 r3 r4
    go_wp2_with fail
    go_ret2
    unfold EncP
    rw [HV.out]
    exact ⟨rfl, H2.out⟩
  | true =>
    rw [he] at HE hb
    have HL : Hid (L.all evOk = false) := by rw [Bool.true_and] at hb; exact hb
    clear he hb
    go_enter Tryd.func20, Tryd.ntmps20
    go_wp2_with fail
    refine HE.mono ?_
    rintro e w2 ⟨rfl, hb2⟩
    have H2 : Hid (Below W.heap.size W w2) := H1.out.1.trans (hb2.mono H1.out.1.size)
    have HM := HMh.out w2 hb2
    rw [HL.out] at HM
    have f2 := H1.out.2.next hb2
    clear HE hb2 r0 r1 r2 r3 r4
    obtain ⟨-, -, r4, -⟩ := f2.five2
    clear f2
    go_wp2_with fail
    refine HM.mono ?_
    rintro e w3 ⟨rfl, hb3⟩
    have H3 : Hid (Below W.heap.size W w3) := H2.out.trans (hb3.mono H2.out.size)
    clear HM hb3 r4
    go_wp2_with fail
    go_ret2
    unfold EncP
    rw [HV.out]
    exact ⟨rfl, H3.out⟩
end
end Go.Proofs.YtdmiciblfbkndaaDoor

namespace Go.Proofs.YtdmiciblfbkndaaDoor
open Go.RowKit

set_option maxRecDepth 100000 in
theorem ret_sg {w : World} {R : Nat} {a b c d e f : Value} {tm : Array Value} (h : Full w R 37 [a, b, c, d, e, f]) (h2 : tm[4]?.getD undef = .pointer (some ⟨R, 0, none⟩)) : (results Tryd.f18 tm).run Tryd.prog w = .ok (.agg #[a, b, c, d, e, f]) w := by
  obtain ⟨⟨⟨r0, g0⟩, ⟨r1, g1⟩, r2, g2⟩, ⟨r3, g3⟩, ⟨r4, g4⟩, r5, g5⟩ := h.six2
  simp [results, Tryd.results18, go_sem, h2, r0, r1, r2, r3, r4, r5]
set_option maxRecDepth 100000 in
set_option maxHeartbeats 1000000 in
/-- The law's sign: of a list and a place. -/
theorem sign_any (W : World) (a b : Int) :
    Calls Tryd.prog 18 #[.int .i64 a, .int .i64 b] W fun e w' => e = .returned (.agg #[.int .i64 a, .int .i64 b, .string ⟨#[]⟩, .int .i64 0, .int .i64 0, .string ⟨#[]⟩]) ∧ Below W.heap.size W w' := by
  obtain ⟨X, hX⟩ : ∃ X, W.alloc (.cells #[.int .i64 0, .int .i64 0, .string ⟨#[]⟩, .int .i64 0, .int .i64 0, .string ⟨#[]⟩] 37) = X := ⟨_, rfl⟩
  obtain ⟨A, hA⟩ : ∃ A, W.heap.size = A := ⟨_, rfl⟩
  have f : Full X A 37 [.int .i64 0, .int .i64 0, .string ⟨#[]⟩, .int .i64 0, .int .i64 0, .string ⟨#[]⟩] := by rw [← hX, ← hA]; exact Full.new W _ _
  have bX : Below W.heap.size W X := by rw [← hX]; exact (Below.refl _ W).alloc (Nat.le_refl _) _
  obtain ⟨⟨⟨r0, g0⟩, ⟨r1, g1⟩, r2, g2⟩, ⟨r3, g3⟩, ⟨r4, g4⟩, r5, g5⟩ := f.six2
  have H : Hid (Full X A 37 [.int .i64 0, .int .i64 0, .string ⟨#[]⟩, .int .i64 0, .int .i64 0, .string ⟨#[]⟩] ∧ Below W.heap.size W X ∧ W.heap.size = A) := ⟨f, bX, hA⟩
  clear f bX
  go_enter Tryd.func18, Tryd.ntmps18
  go_wp2_with fail
  have f6 : Full (X.setCells A 0 [.int .i64 a, .int .i64 b, .string ⟨#[]⟩, .int .i64 0, .int .i64 0, .string ⟨#[]⟩]) A 37 [.int .i64 a, .int .i64 b, .string ⟨#[]⟩, .int .i64 0, .int .i64 0, .string ⟨#[]⟩] := Full.put (a := []) (b := [.int .i64 0, .int .i64 0, .string ⟨#[]⟩, .int .i64 0, .int .i64 0, .string ⟨#[]⟩]) (d := []) _ H.out.1 rfl
  have b6 : Below W.heap.size W (X.setCells A 0 [.int .i64 a, .int .i64 b, .string ⟨#[]⟩, .int .i64 0, .int .i64 0, .string ⟨#[]⟩]) := below_sets H.out.2.1 (Nat.le_of_eq H.out.2.2) 0 _
  simp only [World.setCells, Nat.zero_add, Nat.reduceAdd] at f6 b6
  refine bodyPost_ret (ret_sg f6 rfl) rfl ?_
  exact ⟨rfl, (by first | exact b6 | (rw [H.out.2.2] at b6; exact b6))⟩
end Go.Proofs.YtdmiciblfbkndaaDoor

namespace Go.Proofs.YtdmiciblfbkndaaDoor
open Go.RowKit

section
variable {T : Type} {c : T → List Value} {k : Nat} {E SE : TypeId} {mk : Nat → Nat → T}

/-- Lists of their own: a row of slices, each a row of its own, no two in one block. -/
structure Ans (c : T → List Value) (k : Nat) (E SE : TypeId) (w : World) (b : Nat) (Ls : List (List T)) (v : Value) (vs : List Value) : Prop where
  len : vs.length = Ls.length
  out : w.ownsRow b SE 1 v Ls.length vs
  own : ∀ i (hi : i < Ls.length), ∃ q cp, vs[i]? = some (.slice q Ls[i].length cp) ∧ w.ownsRow b E k (.slice q Ls[i].length cp) Ls[i].length (Ls[i].flatMap c)
  sep : vs.Pairwise fun x y => ∀ g, x.ownBlock = some g → y.ownBlock ≠ some g
theorem Ans.same {w w' : World} {b : Nat} {Ls : List (List T)} {v : Value} {vs : List Value} (h : Ans c k E SE w b Ls v vs) (hk : ∀ g, b ≤ g → g < w.heap.size → w'.heap[g]? = w.heap[g]?) : Ans c k E SE w' b Ls v vs where
  len := h.len
  out := own_same h.out fun g hg => hk g (h.out.lt g hg).1 (h.out.lt g hg).2
  own i hi := by obtain ⟨q, cp, h1, h2⟩ := h.own i hi; exact ⟨q, cp, h1, own_same h2 fun g hg => hk g (h2.lt g hg).1 (h2.lt g hg).2⟩
  sep := h.sep
theorem Ans.next {w w' : World} {b : Nat} {Ls : List (List T)} {v : Value} {vs : List Value} (h : Ans c k E SE w b Ls v vs) (q : Below w.heap.size w w') : Ans c k E SE w' b Ls v vs := h.same fun g _ hl => q.block g hl
theorem sep_at {vs : List Value} (h : vs.Pairwise fun x y => ∀ g, x.ownBlock = some g → y.ownBlock ≠ some g) {i j : Nat} {x y : Value} {g : Nat} (hi : vs[i]? = some x) (hj : vs[j]? = some y) (hx : x.ownBlock = some g) (hy : y.ownBlock = some g) : i = j := by
  obtain ⟨hi', rfl⟩ := List.getElem?_eq_some_iff.1 hi
  obtain ⟨hj', rfl⟩ := List.getElem?_eq_some_iff.1 hj
  have hp := List.pairwise_iff_getElem.1 h
  rcases Nat.lt_trichotomy i j with q | q | q
  · exact absurd hy (hp i j hi' hj' q g hx)
  · exact q
  · exact absurd hx (hp j i hj' hi' q g hy)
theorem Ans.put (hc : ∀ x, (c x).length = k) (hE : SE ≠ E) {w : World} {b : Nat} {Ls : List (List T)} {v : Value} {vs : List Value} (h : Ans c k E SE w b Ls v vs) (i j g cp : Nat) (hi : i < Ls.length) (hj : j < Ls[i].length) (hv : vs[i]? = some (.slice (some ⟨g, 0, none⟩) Ls[i].length cp)) (x : T) : Ans c k E SE (w.setCells g (j * k) (c x)) b (Ls.set i (Ls[i].set j x)) v vs := by
  obtain ⟨q, cp', h1, hel⟩ := h.own i hi
  rw [hv] at h1
  cases h1
  have hbk := own_blk hel g rfl
  have hs : ∀ m, m ≠ g → (w.setCells g (j * k) (c x)).heap[m]? = w.heap[m]? := fun m hm => sets_heap hm _ _ _
  refine ⟨by rw [List.length_set]; exact h.len, by rw [List.length_set]; exact own_same h.out fun m hm => hs m ((own_blk h.out m hm).ne hbk hE), fun m hm => ?_, h.sep⟩
  have hm' : m < Ls.length := by rw [List.length_set] at hm; exact hm
  by_cases e : m = i
  · subst e
    rw [List.getElem_set_self]
    simp only [List.length_set]
    exact ⟨_, _, hv, own_setT hc rfl hel j hj x⟩
  · rw [List.getElem_set_ne (Ne.symm e)]
    obtain ⟨q', cq, h1', h2'⟩ := h.own m hm'
    refine ⟨q', cq, h1', own_same h2' fun k' hk2 => hs k' (fun e2 => ?_)⟩
    subst e2
    exact e (sep_at h.sep h1' hv hk2 rfl)

/-- The marks of the first n places of the list i. -/
def mks (mk : Nat → Nat → T) (i n : Nat) : List T := (List.range n).map fun j => mk i j
theorem mks_len (i n : Nat) : (mks mk i n).length = n := by simp [mks]
theorem mks_succ (i n : Nat) : mks mk i (n + 1) = mks mk i n ++ [mk i n] := by simp [mks, List.range_succ]
theorem mks_at (i n j : Nat) (h : j < (mks mk i n).length) : (mks mk i n)[j] = mk i j := by simp [mks]
theorem mks_get (hc : ∀ x, (c x).length = k) {w : World} {g i n : Nat} (h : w.rangeAt g 0 ((mks mk i n).flatMap c)) (j : Nat) (hj : j < n) : w.rangeAt g (j * k) (c (mk i j)) := fun m v hv => by
  have hm : m < k := by have := (List.getElem?_eq_some_iff.1 hv).1; rwa [hc] at this
  have := flat_at c k hc (mks mk i n) j m (by rw [mks_len]; exact hj) hm
  rw [mks_at] at this
  have h2 := h _ v (this.trans hv)
  rwa [Nat.zero_add] at h2
theorem mks_pre (i n t : Nat) : ∃ r, mks mk i (n + t) = mks mk i n ++ r := by
  induction t with
  | zero => exact ⟨[], by simp⟩
  | succ t ih =>
    obtain ⟨r, hr⟩ := ih
    exact ⟨r ++ [mk i (n + t)], by rw [show n + (t + 1) = n + t + 1 by omega, mks_succ, hr, List.append_assoc]⟩
theorem range_pre {w : World} {g o : Nat} {xs ys : List Value} (h : w.rangeAt g o (xs ++ ys)) : w.rangeAt g o xs := fun j v hv => h j v (by rw [List.getElem?_append_left (List.getElem?_eq_some_iff.1 hv).1]; exact hv)

/-- The lists up to i are marked, the next one up to j. -/
def Mkd (mk : Nat → Nat → T) (Ls C : List (List T)) (i j : Nat) : Prop := C.map List.length = Ls.map List.length ∧ ∀ m l (hm : m < C.length) (hl : l < C[m].length), (m < i ∨ (m = i ∧ l < j)) → C[m][l] = mk m l
theorem Mkd.len {Ls C : List (List T)} {i j : Nat} (h : Mkd mk Ls C i j) : C.length = Ls.length := by have := congrArg List.length h.1; simpa using this
theorem Mkd.lenAt {Ls C : List (List T)} {i j : Nat} (h : Mkd mk Ls C i j) (m : Nat) (hm : m < Ls.length) : (C[m]'(by rw [h.len]; exact hm)).length = Ls[m].length := by
  have hm' : m < C.length := by rw [h.len]; exact hm
  have e : (C.map List.length)[m]? = (Ls.map List.length)[m]? := by rw [h.1]
  rw [List.getElem?_map, List.getElem?_map, List.getElem?_eq_getElem hm, List.getElem?_eq_getElem hm'] at e
  simpa using e
theorem Mkd.start (Ls : List (List T)) : Mkd mk Ls Ls 0 0 := ⟨rfl, fun m l hm hl h => by omega⟩
theorem Mkd.step {Ls C : List (List T)} {i j : Nat} (h : Mkd mk Ls C i j) (hi : i < C.length) : Mkd mk Ls (C.set i (C[i].set j (mk i j))) i (j + 1) := by
  refine ⟨?_, fun m l hm hl hh => ?_⟩
  · rw [← h.1, List.map_set, List.length_set]
    apply List.ext_getElem?
    intro m
    rw [List.getElem?_set]
    split
    · rename_i e
      subst e
      rw [if_pos (by rw [List.length_map]; exact hi), List.getElem?_map, List.getElem?_eq_getElem hi]
      rfl
    · rfl
  · have hm' : m < C.length := by rw [List.length_set] at hm; exact hm
    by_cases e : i = m
    · subst e
      simp only [List.getElem_set_self] at hl ⊢
      rw [List.length_set] at hl
      rw [List.getElem_set]
      split
      · rename_i e2
        rw [e2]
      · exact h.2 i l hm' hl (by omega)
    · simp only [List.getElem_set_ne e] at hl ⊢
      exact h.2 m l hm' hl (by omega)
theorem Mkd.next {Ls C : List (List T)} {i j : Nat} (h : Mkd mk Ls C i j) (hj : ∀ hi : i < C.length, C[i].length ≤ j) : Mkd mk Ls C (i + 1) 0 := ⟨h.1, fun m l hm hl hh => h.2 m l hm hl (by
  by_cases e : m = i
  · subst e
    have := hj hm
    omega
  · omega)⟩
theorem Mkd.all {Ls C : List (List T)} (h : Mkd mk Ls C Ls.length 0) (m : Nat) (hm : m < C.length) : C[m] = mks mk m C[m].length := by
  apply List.ext_getElem
  · rw [mks_len]
  · intro l hl hl2
    rw [mks_at]
    exact h.2 m l hm hl (.inl (by rw [← h.len]; exact hm))
theorem Ans.at {w : World} {b O cap : Nat} {Ls C : List (List T)} {vs : List Value} {i j : Nat} (h : Ans c k E SE w b C (.slice (some ⟨O, 0, none⟩) Ls.length cap) vs) (hM : Mkd mk Ls C i j) (m : Nat) (hm : m < Ls.length) : ∃ q cp, vs[m]? = some (.slice q Ls[m].length cp) ∧ w.cell? ⟨O, m, none⟩ = some (.slice q Ls[m].length cp) ∧ (0 < Ls[m].length → ∃ g, q = some ⟨g, 0, none⟩) ∧ w.ownsRow b E k (.slice q Ls[m].length cp) Ls[m].length ((C[m]'(by rw [hM.len]; exact hm)).flatMap c) := by
  have hm' : m < C.length := by rw [hM.len]; exact hm
  obtain ⟨q, cp, h1, h2⟩ := h.own m hm'
  have e := hM.lenAt m hm
  rw [e] at h1 h2
  refine ⟨q, cp, h1, ?_, ?_, h2⟩
  · have ho := h.out
    rw [hM.len] at ho
    exact (ho.cellAt (g := O) m (by omega)).trans h1
  · intro h0
    obtain ⟨q', cq, e1, _, hr⟩ := own_slice h2
    cases e1
    obtain ⟨g, rfl, _⟩ := hr h0
    exact ⟨g, rfl⟩

/-- The blocks of the lists. -/
def bkL (vs : List Value) (g : Nat) : Prop := ∃ (i : Nat) (x : Value), vs[i]? = some x ∧ x.ownBlock = some g

/-- A list x that is being lengthened: s, by t marks. -/
structure Mo (c : T → List Value) (k : Nat) (E : TypeId) (mk : Nat → Nat → T) (wc : World) (b : Nat) (x : Value) (i q t : Nat) (s : Value) (w : World) : Prop where
  own : w.ownsRow b E k s (q + t) ((mks mk i (q + t)).flatMap c)
  at' : ∀ g, s.ownBlock = some g → x.ownBlock = some g ∨ wc.heap.size ≤ g
  lo : Hold w x q ((mks mk i q).flatMap c)
  lt : ∀ g, x.ownBlock = some g → g < wc.heap.size
  blk : ∀ g, x.ownBlock = some g → Blk w g E 0
  kp : Kp (fun g => x.ownBlock = some g) wc w
theorem Mo.start {wc : World} {b : Nat} {x : Value} {i q : Nat} (h : wc.ownsRow b E k x q ((mks mk i q).flatMap c)) : Mo c k E mk wc b x i q 0 x wc := ⟨h, fun _ hg => .inl hg, .of h, fun g hg => (h.lt g hg).2, fun g hg => (own_blk h g hg).le (Nat.zero_le _), Kp.refl _ _⟩
theorem Mo.next {wc w w' : World} {b : Nat} {x s : Value} {i q t : Nat} (h : Mo c k E mk wc b x i q t s w) (n : Below w.heap.size w w') : Mo c k E mk wc b x i q t s w' := ⟨own_next h.own n, h.at', h.lo.same fun g hg => n.block g (Nat.lt_of_lt_of_le (h.lt g hg) h.kp.size), h.lt, fun g hg => (h.blk g hg).next n, h.kp.next n⟩
theorem Mo.app {P : Program} (ts ty : TypeId) (z : Value) (bytes : Nat) (ht : P.underlying ts = some (.slice E)) (hinf : (P.info? E).map (fun i => (i.zero, i.size, i.bytes)) = some (some z, k, bytes)) (hzs : z.cells.size = k) (hsz : 0 < k) (hby : bytes ≤ 1000)
    (hc : ∀ x, (c x).length = k) (h1 : ∀ x, ∀ u ∈ c x, u.oneCell' = true) {wc w : World} {b : Nat} {x s : Value} {i q t : Nat} (h : Mo c k E mk wc b x i q t s w) (g : Nat) (hr : w.rangeAt g 0 (c (mk i (q + t)))) (h40 : q + t + 1 ≤ 100000000) (hbase : b ≤ w.heap.size) :
    ∃ v' w', (Builtin.append_ #[ts, ts] ty #[s, .slice (some ⟨g, 0, none⟩) 1 1]).run P w = .ok v' w' ∧ Mo c k E mk wc b x i q (t + 1) v' w' := by
  obtain ⟨v', w', e1, e2, e3⟩ := app_two ts ty z bytes ht hinf hzs hsz hby s (q + t) _ h.own g _ (hc _) (h1 _) hr h40 hbase
  have em : (mks mk i (q + t)).flatMap c ++ c (mk i (q + t)) = (mks mk i (q + (t + 1))).flatMap c := by rw [show q + (t + 1) = q + t + 1 by omega, mks_succ, List.flatMap_append]; simp
  rw [em] at e2
  refine ⟨v', w', e1, ?_⟩
  have e2' : w'.ownsRow b E k v' (q + (t + 1)) ((mks mk i (q + (t + 1))).flatMap c) := e2
  rcases e3 with ⟨hb, hg⟩ | ⟨hb, hB⟩
  · refine ⟨e2', fun G hG => h.at' G (hb ▸ hG), ?_, h.lt, fun G hG => ?_, h.kp.grown hg fun G hG => ?_⟩
    · obtain ⟨xq, cp, rfl, hl⟩ := h.lo
      refine ⟨xq, cp, rfl, fun h0 => ?_⟩
      obtain ⟨G, rfl, hG⟩ := hl h0
      refine ⟨G, rfl, ?_⟩
      by_cases hs : s.ownBlock = some G
      · obtain ⟨q', c', ev, _, hr'⟩ := own_slice e2'
        obtain ⟨G', rfl, hR⟩ := hr' (by omega)
        subst ev
        rw [hs] at hb
        cases hb
        obtain ⟨r, hr2⟩ := mks_pre (mk := mk) i q (t + 1)
        rw [hr2, List.flatMap_append] at hR
        exact range_pre hR
      · exact range_same hG (hg.block G (Nat.lt_of_lt_of_le (h.lt G rfl) h.kp.size) (fun e => hs e.symm))
    · by_cases hs : s.ownBlock = some G
      · exact (own_blk e2' G (hb.trans hs)).le (Nat.zero_le _)
      · exact (h.blk G hG).same (hg.block G (Nat.lt_of_lt_of_le (h.lt G hG) h.kp.size) (fun e => hs e.symm))
    · rcases h.at' G hG with q | q
      · exact .inl q
      · exact .inr q
  · exact ⟨e2', fun G hG => .inr (Nat.le_trans h.kp.size (hb G hG)), h.lo.same fun G hG => hB.block G (Nat.lt_of_lt_of_le (h.lt G hG) h.kp.size), h.lt, fun G hG => (h.blk G hG).next hB, h.kp.next hB⟩

/-- The lists while they are lengthened: us are those that are. -/
structure Lg (c : T → List Value) (k : Nat) (E : TypeId) (mk : Nat → Nat → T) (z : Nat) (w : World) (b : Nat) (ns : List Nat) (vs us : List Value) : Prop where
  lo : ∀ (i : Nat) (x : Value) (n : Nat), vs[i]? = some x → ns[i]? = some n → Hold w x n ((mks mk i n).flatMap c)
  re : ∀ (i : Nat) (x : Value) (n : Nat), us.length ≤ i → vs[i]? = some x → ns[i]? = some n → w.ownsRow b E k x n ((mks mk i n).flatMap c)
  up : ∀ (i : Nat) (u : Value) (n : Nat), us[i]? = some u → ns[i]? = some n → w.ownsRow b E k u (n + 70) ((mks mk i (n + 70)).flatMap c)
  ub : ∀ (i : Nat) (u : Value) (g : Nat), us[i]? = some u → u.ownBlock = some g → (∃ x : Value, vs[i]? = some x ∧ x.ownBlock = some g) ∨ z ≤ g
  vb : ∀ (i : Nat) (x : Value) (g : Nat), vs[i]? = some x → x.ownBlock = some g → g < z ∧ Blk w g E 0
  zs : z ≤ w.heap.size
  sep : vs.Pairwise fun x y => ∀ g, x.ownBlock = some g → y.ownBlock ≠ some g
theorem Lg.keep {z : Nat} {w w' : World} {b : Nat} {ns : List Nat} {vs us : List Value} (h : Lg c k E mk z w b ns vs us) (hk : ∀ g n, Blk w g E n → w'.heap[g]? = w.heap[g]?) (hz : z ≤ w'.heap.size) : Lg c k E mk z w' b ns vs us where
  lo i x n h1 h2 := (h.lo i x n h1 h2).same fun g hg => hk g _ (h.vb i x g h1 hg).2
  re i x n h0 h1 h2 := own_same (h.re i x n h0 h1 h2) fun g hg => hk g _ (h.vb i x g h1 hg).2
  up i u n h1 h2 := own_same (h.up i u n h1 h2) fun g hg => hk g _ (own_blk (h.up i u n h1 h2) g hg)
  ub := h.ub
  vb i x g h1 h2 := ⟨(h.vb i x g h1 h2).1, (h.vb i x g h1 h2).2.same (hk g _ (h.vb i x g h1 h2).2)⟩
  zs := hz
  sep := h.sep
theorem Lg.next {z : Nat} {w w' : World} {b : Nat} {ns : List Nat} {vs us : List Value} (h : Lg c k E mk z w b ns vs us) (q : Below w.heap.size w w') : Lg c k E mk z w' b ns vs us := h.keep (fun g _ hb => q.block g hb.lt) (Nat.le_trans h.zs q.size)
theorem Lg.more {z : Nat} {wc w : World} {b : Nat} {ns : List Nat} {vs us : List Value} {x s : Value} {i q : Nat} (h : Lg c k E mk z wc b ns vs us) (hi : us.length = i) (hx : vs[i]? = some x) (hn : ns[i]? = some q) (m : Mo c k E mk wc b x i q 70 s w) : Lg c k E mk z w b ns vs (us ++ [s]) := by
  have kv : ∀ (j : Nat) (y : Value) (g : Nat), vs[j]? = some y → y.ownBlock = some g → j ≠ i → w.heap[g]? = wc.heap[g]? := fun j y g hy hg hj => m.kp.block g (Nat.lt_of_lt_of_le (h.vb j y g hy hg).1 h.zs) (fun e => hj (sep_at h.sep hy hx hg e))
  have ul : ∀ (j : Nat) (u : Value), us[j]? = some u → j < i := fun j u hu => by have := (List.getElem?_eq_some_iff.1 hu).1; omega
  have us_at : ∀ (j : Nat) (u : Value), (us ++ [s])[j]? = some u → (us[j]? = some u) ∨ (j = i ∧ u = s) := fun j u hu => by
    by_cases hj : j < us.length
    · rw [List.getElem?_append_left hj] at hu
      exact .inl hu
    · rw [List.getElem?_append_right (by omega)] at hu
      have hk2 : j - us.length = 0 := by
        have := (List.getElem?_eq_some_iff.1 hu).1
        simp at this
        omega
      rw [hk2] at hu
      simp only [List.getElem?_cons_zero, Option.some.injEq] at hu
      exact .inr ⟨by omega, hu.symm⟩
  refine ⟨fun j y n h1 h2 => ?_, fun j y n h0 h1 h2 => ?_, fun j u n h1 h2 => ?_, fun j u g h1 h2 => ?_, fun j y g h1 h2 => ⟨(h.vb j y g h1 h2).1, ?_⟩, Nat.le_trans h.zs m.kp.size, h.sep⟩
  · by_cases e : j = i
    · subst e
      rw [hx] at h1
      rw [hn] at h2
      cases h1
      cases h2
      exact m.lo
    · exact (h.lo j y n h1 h2).same fun g hg => kv j y g h1 hg e
  · rw [List.length_append] at h0
    simp at h0
    exact own_same (h.re j y n (by omega) h1 h2) fun g hg => kv j y g h1 hg (by omega)
  · rcases us_at j u h1 with e | ⟨rfl, rfl⟩
    · have hlt := ul j u e
      refine own_same (h.up j u n e h2) fun g hg => m.kp.block g ((h.up j u n e h2).lt g hg).2 (fun ex => ?_)
      rcases h.ub j u g e hg with ⟨y, hy, hyg⟩ | hz
      · have := sep_at h.sep hy hx hyg ex
        omega
      · have := (h.vb i x g hx ex).1
        omega
    · rw [hn] at h2
      cases h2
      exact m.own
  · rcases us_at j u h1 with e | ⟨rfl, rfl⟩
    · exact h.ub j u g e h2
    · rcases m.at' g h2 with q | q
      · exact .inl ⟨x, hx, q⟩
      · exact .inr (Nat.le_trans h.zs q)
  · by_cases e : j = i
    · subst e
      rw [hx] at h1
      cases h1
      exact m.blk g h2
    · exact (h.vb j y g h1 h2).2.same (kv j y g h1 h2 e)
end
theorem Lg.start {T : Type} {c : T → List Value} {k : Nat} {E SE : TypeId} {mk : Nat → Nat → T} {w : World} {b O cap : Nat} {Ls C : List (List T)} {vs : List Value} (h : Ans c k E SE w b C (.slice (some ⟨O, 0, none⟩) Ls.length cap) vs) (hM : Mkd mk Ls C Ls.length 0) : Lg c k E mk w.heap.size w b (Ls.map List.length) vs [] := by
  have key : ∀ (i : Nat) (x : Value) (n : Nat), vs[i]? = some x → (Ls.map List.length)[i]? = some n → w.ownsRow b E k x n ((mks mk i n).flatMap c) := fun i x n h1 h2 => by
    have hi : i < Ls.length := by have := (List.getElem?_eq_some_iff.1 h2).1; simpa using this
    rw [List.getElem?_map, List.getElem?_eq_getElem hi] at h2
    obtain rfl : Ls[i].length = n := by simpa using h2
    obtain ⟨q, cp, e1, -, -, e2⟩ := h.at hM i hi
    rw [h1] at e1
    cases e1
    have e := hM.all i (by rw [hM.len]; exact hi)
    rw [e, hM.lenAt i hi] at e2
    exact e2
  have kb : ∀ (i : Nat) (x : Value) (g : Nat), vs[i]? = some x → x.ownBlock = some g → g < w.heap.size ∧ Blk w g E 0 := fun i x g h1 h2 => by
    have hi : i < vs.length := (List.getElem?_eq_some_iff.1 h1).1
    have hi2 : i < Ls.length := by rw [← hM.len, ← h.len]; exact hi
    have := key i x Ls[i].length h1 (by rw [List.getElem?_map, List.getElem?_eq_getElem hi2]; rfl)
    exact ⟨(this.lt g h2).2, (own_blk this g h2).le (Nat.zero_le _)⟩
  exact ⟨fun i x n h1 h2 => .of (key i x n h1 h2), fun i x n _ h1 h2 => key i x n h1 h2, fun i u n h1 => by simp at h1, fun i u g h1 => by simp at h1, kb, Nat.le_refl _, h.sep⟩
end Go.Proofs.YtdmiciblfbkndaaDoor

namespace Go.Proofs.YtdmiciblfbkndaaDoor
open Go.RowKit

theorem oneE : ∀ x, ∀ u ∈ ec x, u.oneCell' = true := fun x u hu => by
  simp only [ec, List.mem_cons, List.not_mem_nil, or_false] at hu
  rcases hu with rfl | rfl | rfl | rfl | rfl | rfl <;> rfl
theorem hcE : ∀ x, (ec x).length = 6 := fun _ => rfl

theorem callSg2 (a b : Value) (w : World) : (callFunc 18 #[a, b]).run Tryd.prog w = .ok (.enter 18 #[a, b]) w := by kernel_rfl
theorem infoLE : (Tryd.prog.info? 26).map (fun i => (i.zero, i.size, i.bytes)) = some (some (.slice none 0 0), 1, 24) := by kernel_rfl
theorem neqEF (a b : Int) : ∀ w : World, (binOp BinOp.neq 37 (.agg #[.int .i64 a, .int .i64 b, .string ⟨#[]⟩, .int .i64 0, .int .i64 0, .string ⟨#[]⟩]) (.agg #[.int .i64 a, .int .i64 b, .string ⟨#[]⟩, .int .i64 0, .int .i64 0, .string ⟨#[]⟩])).run Tryd.prog w = .ok (.bool false) w := by
  intro w
  simp [go_sem]
theorem there6 {W : World} {g o : Nat} (h : W.there g o 6) : ∃ x0 x1 x2 x3 x4 x5, (W.cell? ⟨g, o, none⟩ = some x0 ∧ W.cell? ⟨g, o + 1, none⟩ = some x1 ∧ W.cell? ⟨g, o + 2, none⟩ = some x2 ∧ W.cell? ⟨g, o + 3, none⟩ = some x3 ∧ W.cell? ⟨g, o + 4, none⟩ = some x4 ∧ W.cell? ⟨g, o + 5, none⟩ = some x5) ∧ W.frozen? ⟨g, o, none⟩ = false ∧ W.frozen? ⟨g, o + 1, none⟩ = false ∧ W.frozen? ⟨g, o + 2, none⟩ = false ∧ W.frozen? ⟨g, o + 3, none⟩ = false ∧ W.frozen? ⟨g, o + 4, none⟩ = false ∧ W.frozen? ⟨g, o + 5, none⟩ = false := by
  have h0 := h 0 (by decide)
  have h1 := h 1 (by decide)
  have h2 := h 2 (by decide)
  have h3 := h 3 (by decide)
  have h4 := h 4 (by decide)
  have h5 := h 5 (by decide)
  rw [Nat.add_zero] at h0
  obtain ⟨x0, e0⟩ := Option.isSome_iff_exists.1 h0.1
  obtain ⟨x1, e1⟩ := Option.isSome_iff_exists.1 h1.1
  obtain ⟨x2, e2⟩ := Option.isSome_iff_exists.1 h2.1
  obtain ⟨x3, e3⟩ := Option.isSome_iff_exists.1 h3.1
  obtain ⟨x4, e4⟩ := Option.isSome_iff_exists.1 h4.1
  obtain ⟨x5, e5⟩ := Option.isSome_iff_exists.1 h5.1
  exact ⟨x0, x1, x2, x3, x4, x5, ⟨e0, e1, e2, e3, e4, e5⟩, h0.2, h1.2, h2.2, h3.2, h4.2, h5.2⟩

/-- The marks. -/
def mkE (i j : Nat) : Ev := ⟨(i : Int), (j : Int), [], 0, 0, []⟩
set_option maxRecDepth 100000 in
set_option maxHeartbeats 4000000 in
theorem apartE_any (w : World) (O cap b : Nat) (Ls : List (List Ev)) (vs : List Value) (h : Ans ec 6 37 26 w b Ls (.slice (some ⟨O, 0, none⟩) Ls.length cap) vs) (hm : Ls.length ≤ 1000) (hn : ∀ l ∈ Ls, l.length ≤ 2000000) (hbw : b ≤ w.heap.size) :
    Calls Tryd.prog 9 #[.slice (some ⟨O, 0, none⟩) Ls.length cap] w fun e w' => e = .returned (.bool true) ∧ Kp (bkL vs) w w' := by
  have H0 : Hid (Mkd mkE Ls Ls 0 0 ∧ Ans ec 6 37 26 w b Ls (.slice (some ⟨O, 0, none⟩) Ls.length cap) vs ∧ Kp (bkL vs) w w) := ⟨Mkd.start Ls, h, Kp.refl _ _⟩
  clear h
  go_enter Tryd.func9, Tryd.ntmps9
  go_wp2_with fail
  go_loopw [3] (fun s3 wr => ∃ (i : Nat) (C : List (List _)), i ≤ Ls.length ∧ s3 = .int .i64 (i : Int) ∧ Hid (Mkd mkE Ls C i 0 ∧ Ans ec 6 37 26 wr b C (.slice (some ⟨O, 0, none⟩) Ls.length cap) vs ∧ Kp (bkL vs) w wr)) (fun s3 _ => Ls.length - (intOf s3).toNat)
  case atStart => exact ⟨0, Ls, Nat.zero_le _, rfl, H0⟩
  case round =>
    clear H0
    obtain ⟨i, C, hi, rfl, hS⟩ := hrel
    by_cases hlt : i < Ls.length
    · have hlt1 : (i : Int) < (Ls.length : Int) := by omega
      have i0 : (0 : Int) ≤ (i : Int) := by omega
      obtain ⟨qi, ci, hvi, -, hgi, -⟩ := hS.out.2.1.at hS.out.1 i hlt
      have hq := hn Ls[i] (List.getElem_mem hlt)
      obtain ⟨q, hqe⟩ : ∃ q, Ls[i].length = q := ⟨_, rfl⟩
      have HQ : Hid (Ls[i].length = q) := hqe
      have HV : Hid (vs[i]? = some (.slice qi Ls[i].length ci)) := hvi
      rw [hqe] at hq hgi
      clear hqe hvi
      go_wp2_with fail
      go_loopw [4] (fun s4 wr => ∃ (j : Nat) (C : List (List _)), j ≤ q ∧ s4 = .int .i64 (j : Int) ∧ Hid (Mkd mkE Ls C i j ∧ Ans ec 6 37 26 wr b C (.slice (some ⟨O, 0, none⟩) Ls.length cap) vs ∧ Kp (bkL vs) w wr)) (fun s4 _ => q - (intOf s4).toNat)
      case atStart => exact ⟨0, C, Nat.zero_le _, rfl, hS⟩
      case round =>
        clear hS
        obtain ⟨j, C2, hj, rfl, hT⟩ := hrel
        obtain ⟨hM, hA, hK⟩ := hT.out
        obtain ⟨q', c', h1, h2, -, h4⟩ := hA.at hM i hlt
        rw [HV.out] at h1
        cases h1
        rw [HQ.out] at h2 h4
        by_cases hjq : j < q
        · obtain ⟨g, rfl⟩ := hgi (by omega)
          have hjq1 : (j : Int) < (q : Int) := by omega
          have j0 : (0 : Int) ≤ (j : Int) := by omega
          have hiC : i < C2.length := by rw [hM.len]; exact hlt
          have hCl : C2[i].length = q := (hM.lenAt i hlt).trans HQ.out
          have hbk := own_blk h4 g rfl
          have HST : Hid (∀ W, Below wr.heap.size wr W → (W.cell? ⟨O, i, none⟩ = some (.slice (some ⟨g, 0, none⟩) q ci) ∧ W.there g (j * 6) 6) ∧ Hid (∃ C3, Mkd mkE Ls C3 i (j + 1) ∧ Ans ec 6 37 26 (W.setCells g (j * 6) (ec (mkE i j))) b C3 (.slice (some ⟨O, 0, none⟩) Ls.length cap) vs ∧ Kp (bkL vs) w (W.setCells g (j * 6) (ec (mkE i j))))) := fun W hW => by
            refine ⟨⟨(hW.cell (p := ⟨O, i, none⟩) (block_lt_of_cell h2)).trans h2, (hbk.next hW).there _ _ (by omega)⟩, _, hM.step hiC, ?_, ?_⟩
            · have := (hA.next hW).put hcE (by decide) i j g ci hiC (by omega) (by rw [hCl, ← HQ.out]; exact HV.out) (mkE i j)
              exact this
            · exact Kp.setCells (.inl ⟨i, _, HV.out, rfl⟩) _ _ (hK.next hW)
          have HSG : Hid (∀ W, Calls Tryd.prog 18 #[.int .i64 (i : Int), .int .i64 (j : Int)] W fun e w' => ∃ v, e = .returned v ∧ (v = .agg #[.int .i64 (i : Int), .int .i64 (j : Int), .string ⟨#[]⟩, .int .i64 0, .int .i64 0, .string ⟨#[]⟩] ∧ Below W.heap.size W w')) := fun W => (sign_any W (i : Int) (j : Int)).mono fun e w' ⟨e1, e2⟩ => ⟨_, e1, rfl, e2⟩
          clear hM hA hK hT h4 hbk hCl hiC hgi
          go_wp2_with fail
          go_region_law (first
            | (refine step_call (by rfl) 18 [.tmp 31, .tmp 32] #[3, 3] [.int .i64 (i : Int), .int .i64 (j : Int)] (by rfl) (by rfl) (callSg2 _ _) _ (HSG.out _) ?_; rintro v w3 ⟨rfl, hb3⟩; obtain ⟨⟨d1, TH⟩, HNX⟩ := HST.out w3 (by first | exact hb3 | exact ((Below.refl _ wr).drew).trans hb3); obtain ⟨y0, y1, y2, y3, y4, y5, ⟨a0, a1, a2, a3, a4, a5⟩, f0, f1, f2, f3, f4, f5⟩ := there6 TH))
          all_goals
            obtain ⟨C3, HC3⟩ : ∃ C3, Hid (Mkd mkE Ls C3 i (j + 1) ∧ Ans ec 6 37 26 (w3.setCells g (j * 6) (ec (mkE i j))) b C3 (.slice (some ⟨O, 0, none⟩) Ls.length cap) vs ∧ Kp (bkL vs) w (w3.setCells g (j * 6) (ec (mkE i j)))) := HNX.out
            clear HNX HST HSG d1 TH
            generalize hY : (((((w3.setCell ⟨g, j * 6, none⟩ (.int .i64 (i : Int))).setCell ⟨g, j * 6 + 1, none⟩ (.int .i64 (j : Int))).setCell ⟨g, j * 6 + 2, none⟩ (.string ⟨#[]⟩)).setCell ⟨g, j * 6 + 3, none⟩ (.int .i64 0)).setCell ⟨g, j * 6 + 4, none⟩ (.int .i64 0)).setCell ⟨g, j * 6 + 5, none⟩ (.string ⟨#[]⟩) = Y
            have HC4 : Hid (Mkd mkE Ls C3 i (j + 1) ∧ Ans ec 6 37 26 Y b C3 (.slice (some ⟨O, 0, none⟩) Ls.length cap) vs ∧ Kp (bkL vs) w Y) := by rw [← hY]; exact HC3
            clear HC3 hY a0 a1 a2 a3 a4 a5 f0 f1 f2 f3 f4 f5 h2 hb3
            go_wp2
            exact ⟨⟨j + 1, C3, by omega, by go_num, HC4⟩, by simp [intOf]; omega⟩
        · obtain rfl : j = q := by omega
          have HT2 : Hid (Mkd mkE Ls C2 (i + 1) 0 ∧ Ans ec 6 37 26 wr b C2 (.slice (some ⟨O, 0, none⟩) Ls.length cap) vs ∧ Kp (bkL vs) w wr) := ⟨hM.next (fun hi' => Nat.le_of_eq ((hM.lenAt i hlt).trans HQ.out)), hA, hK⟩
          clear hM hA hK hT h4
          go_wp2
          exact ⟨⟨i + 1, C2, by omega, by go_num, HT2⟩, by simp [intOf]; omega⟩
    obtain rfl : i = Ls.length := by omega
    have HL0 : Hid (Lg ec 6 37 mkE wr.heap.size wr b (Ls.map List.length) vs []) := Lg.start hS.out.2.1 hS.out.1
    have HK2 : Hid (Kp (bkL vs) w wr) := hS.out.2.2
    have HO : Hid (∀ W : World, Kp (bkL vs) wr W → ∀ m (hm : m < Ls.length), ∃ q cp, vs[m]? = some (.slice q Ls[m].length cp) ∧ W.cell? ⟨O, m, none⟩ = some (.slice q Ls[m].length cp)) := fun W hW m hm => by
      obtain ⟨q, cp, h1, h2, -, -⟩ := hS.out.2.1.at hS.out.1 m hm
      have hb := own_blk hS.out.2.1.out O rfl
      refine ⟨q, cp, h1, (World.cell?_of_block (w := wr) (w' := W) (a := ⟨O, m, none⟩) (hW.block O hb.lt ?_)).trans h2⟩
      rintro ⟨n, y, hy, hg⟩
      exact hb.ne (HL0.out.vb n y O hy hg).2 (by decide) rfl
    have hbz : b ≤ wr.heap.size := Nat.le_trans hbw hS.out.2.2.size
    clear hS hlt hi
    generalize wr = w2 at *
    go_wp2_with fail
    go_loopw [5, 6] (fun s5 s6 wr => ∃ (c : Nat) (us : List Value), c ≤ Ls.length ∧ us.length = c ∧ s6 = .int .i64 (c : Int) ∧ Hid (wr.ownsRow w2.heap.size 26 1 s5 c us) ∧ Hid (Lg ec 6 37 mkE w2.heap.size wr b (Ls.map List.length) vs us) ∧ Hid (Kp (bkL vs) w2 wr)) (fun _ s6 _ => Ls.length - (intOf s6).toNat)
    case atStart => exact ⟨0, [], Nat.zero_le _, rfl, rfl, World.ownsRow_nil _ _ _ _, HL0, Kp.refl _ _⟩
    case round =>
      clear HL0
      obtain ⟨c, us, hc, hus, rfl, hO5, hG, hB⟩ := hrel
      have HUS : Hid (us.length = c) := hus
      clear hus
      by_cases hci : c < Ls.length
      · have hci1 : (c : Int) < (Ls.length : Int) := by omega
        have c0 : (0 : Int) ≤ (c : Int) := by omega
        obtain ⟨qc, cc, hvc, ho⟩ := HO.out wr hB.out c hci
        have hq := hn Ls[c] (List.getElem_mem hci)
        have hns : (Ls.map List.length)[c]? = some Ls[c].length := by rw [List.getElem?_map, List.getElem?_eq_getElem hci]; rfl
        have HCc : Hid (∀ W, Kp (fun g => (Value.slice qc Ls[c].length cc).ownBlock = some g) wr W → W.cell? ⟨O, c, none⟩ = some (.slice qc Ls[c].length cc)) := fun W hW => by
          obtain ⟨q', c', h1, h2⟩ := HO.out W (hB.out.trans hW fun i _ e => ⟨c, _, hvc, e⟩) c hci
          rw [hvc] at h1
          cases h1
          exact h2
        obtain ⟨q, hqe⟩ : ∃ q, Ls[c].length = q := ⟨_, rfl⟩
        have HNS : Hid ((Ls.map List.length)[c]? = some q) := by rw [hqe] at hns; exact hns
        have HVC : Hid (vs[c]? = some (.slice qc q cc)) := by rw [hqe] at hvc; exact hvc
        rw [hqe] at ho hq HCc
        clear hqe hns hvc
        have hzc := hB.out.size
        go_wp2_with fail
        clear ho
        generalize wr = wc at *
        have HM0 : Hid (Mo ec 6 37 mkE wc b (.slice qc q cc) c q 0 (.slice qc q cc) wc) := Mo.start (hG.out.re c _ q (Nat.le_of_eq HUS.out) HVC.out HNS.out)
        go_loopw [7, 8] (fun s7 s8 wr => ∃ (t : Nat), t ≤ 70 ∧ s8 = .int .i64 (t : Int) ∧ Hid (Mo ec 6 37 mkE wc b (.slice qc q cc) c q t s7 wr)) (fun _ s8 _ => 70 - (intOf s8).toNat)
        case atStart => exact ⟨0, by omega, rfl, HM0⟩
        case round =>
          clear HM0
          obtain ⟨t, ht, rfl, hu⟩ := hrel
          have ho := HCc.out _ hu.out.kp
          by_cases h70 : t < 70
          · have h70' : (t : Int) < 70 := by omega
            have iqt : IntKind.i64.wrap ((q : Int) + (t : Int)) = (q : Int) + (t : Int) := by rw [IntKind.wrap_i64]; omega
            have hsg := sign_any wr (c : Int) ((q + t : Nat) : Int)
            rw [Int.natCast_add] at hsg
            have hz7 := hu.out.kp.size
            have HAP : Hid (∀ wS, Below wr.heap.size wr wS → ∃ v' w', (Builtin.append_ #[26, 26] 26 #[u7, .slice (some ⟨wS.heap.size, 0, none⟩) 1 1]).run Tryd.prog (wS.alloc (.cells #[.int .i64 (c : Int), .int .i64 ((q : Int) + (t : Int)), .string ⟨#[]⟩, .int .i64 0, .int .i64 0, .string ⟨#[]⟩] 37)) = .ok v' w' ∧ Hid (Mo ec 6 37 mkE wc b (.slice qc q cc) c q (t + 1) v' w')) := fun wS hbS => by
              have nb : Below wS.heap.size wS (wS.alloc (.cells #[.int .i64 (c : Int), .int .i64 ((q : Int) + (t : Int)), .string ⟨#[]⟩, .int .i64 0, .int .i64 0, .string ⟨#[]⟩] 37)) := (Below.refl _ wS).alloc (Nat.le_refl _) _
              have hr : (wS.alloc (.cells #[.int .i64 (c : Int), .int .i64 ((q : Int) + (t : Int)), .string ⟨#[]⟩, .int .i64 0, .int .i64 0, .string ⟨#[]⟩] 37)).rangeAt wS.heap.size 0 (ec (mkE c (q + t))) := fun j u hj => by
                have e := World.alloc_heap_new wS (.cells #[.int .i64 (c : Int), .int .i64 ((q : Int) + (t : Int)), .string ⟨#[]⟩, .int .i64 0, .int .i64 0, .string ⟨#[]⟩] 37)
                rw [Nat.zero_add]
                simp only [World.cell?, e]
                simpa [ec, mkE, sV] using hj
              have hM := (hu.out.next hbS).next nb
              exact hM.app 26 26 (.agg #[.int .i64 0, .int .i64 0, .string ⟨#[]⟩, .int .i64 0, .int .i64 0, .string ⟨#[]⟩]) 64 Tryd.underlying26 infoE rfl (by decide) (by decide) hcE oneE wS.heap.size hr (by omega) (Nat.le_trans hbz (Nat.le_trans hzc hM.kp.size))
            clear hu
            go_wp2_with (first
              | (go_at_call 18; refine hsg.mono ?_; rintro e wS ⟨rfl, hbS⟩; obtain ⟨v', w', hrun, how'⟩ := HAP.out wS hbS; clear HAP)
              | (at_builtin; refine wpList_apr rfl (.tmp 49) (.tmp 59) 26 rfl hrun ?_)
              | go_in)
            exact ⟨⟨t + 1, by omega, by go_num, how'⟩, by simp [intOf]; omega⟩
          · obtain rfl : t = 70 := by omega
            obtain ⟨o7, c7, rfl, -, -⟩ := own_slice hu.out.own
            have HAP : Hid (∃ v' w', (Builtin.append_ #[44, 44] 44 #[u5, .slice (some ⟨wr.heap.size, 0, none⟩) 1 1]).run Tryd.prog (wr.alloc (.cells #[.slice o7 (q + 70) c7] 26)) = .ok v' w' ∧ Hid (w'.ownsRow w2.heap.size 26 1 v' (c + 1) (us ++ [.slice o7 (q + 70) c7])) ∧ Hid (Lg ec 6 37 mkE w2.heap.size w' b (Ls.map List.length) vs (us ++ [.slice o7 (q + 70) c7])) ∧ Hid (Kp (bkL vs) w2 w')) := by
              have nb : Below wr.heap.size wr (wr.alloc (.cells #[.slice o7 (q + 70) c7] 26)) := (Below.refl _ wr).alloc (Nat.le_refl _) _
              have hL := (hG.out.more HUS.out HVC.out HNS.out hu.out).next nb
              have hK : Kp (bkL vs) w2 (wr.alloc (.cells #[.slice o7 (q + 70) c7] 26)) := (hB.out.trans hu.out.kp fun i _ e => ⟨c, _, HVC.out, e⟩).next nb
              have h5 : wr.ownsRow w2.heap.size 26 1 u5 c us := own_same hO5.out fun g hg => hu.out.kp.block g (own_blk hO5.out g hg).lt fun e => (own_blk hO5.out g hg).ne (hG.out.vb c _ g HVC.out e).2 (by decide) rfl
              have ho5 := own_next h5 nb
              obtain ⟨v', w', e1, e2, e3⟩ := app_any (P := Tryd.prog) 44 44 (.slice none 0 0) 24 Tryd.underlying44 infoLE rfl (by decide) (by decide) u5 c us ho5 wr.heap.size [.slice o7 (q + 70) c7] rfl (fun u hu => by obtain rfl := List.mem_singleton.1 hu; rfl) (fun j u hj => by
                have e := World.alloc_heap_new wr (.cells #[.slice o7 (q + 70) c7] 26)
                rw [Nat.zero_add]
                simp only [World.cell?, e]
                simpa using hj) (by omega) hK.size
              exact ⟨v', w', e1, e2, hL.keep (fun g n hb => e3.block g hb.lt fun e => own_ne ho5 hb (by decide) e.symm) (Nat.le_trans hK.size e3.size), hK.grown e3 fun k hk => .inr (ho5.lt k hk).1⟩
            obtain ⟨v', w', hrun, e2, e3, e4⟩ := HAP.out
            have HUS2 : Hid ((us ++ [Value.slice o7 (q + 70) c7]).length = c + 1) := by show (us ++ [Value.slice o7 (q + 70) c7]).length = c + 1; rw [List.length_append, HUS.out]; rfl
            clear HAP hu ho
            go_wp2_with (at_builtin; refine wpList_apr rfl (.tmp 61) (.tmp 63) 44 rfl hrun ?_)
            exact ⟨⟨c + 1, _, by omega, HUS2.out, by go_num, e2, e3, e4⟩, by simp [intOf]; omega⟩
      obtain rfl : c = Ls.length := by omega
      obtain ⟨o5, cap5, rfl, -, -⟩ := own_slice hO5.out
      have H3 : Hid (∀ d (hd : d < Ls.length), ∃ h5 gx cx qd cd, o5 = some ⟨h5, 0, none⟩ ∧ wr.cell? ⟨h5, d, none⟩ = some (.slice (some ⟨gx, 0, none⟩) (Ls[d].length + 70) cx) ∧ wr.rangeAt gx 0 ((mks mkE d (Ls[d].length + 70)).flatMap ec) ∧ wr.cell? ⟨O, d, none⟩ = some (.slice qd Ls[d].length cd) ∧ (0 < Ls[d].length → ∃ g, qd = some ⟨g, 0, none⟩ ∧ wr.rangeAt g 0 ((mks mkE d Ls[d].length).flatMap ec))) := fun d hd => by
        obtain ⟨q5, c5, e5, _, hr5⟩ := own_slice hO5.out
        cases e5
        obtain ⟨h5, rfl, hr⟩ := hr5 (by omega)
        have hdl : d < us.length := by rw [HUS.out]; exact hd
        have hx := List.getElem?_eq_getElem hdl
        have hnd : (Ls.map List.length)[d]? = some Ls[d].length := by rw [List.getElem?_map, List.getElem?_eq_getElem hd]; rfl
        have hox := hG.out.up d us[d] Ls[d].length hx hnd
        obtain ⟨qx, cx, ex, _, hrx⟩ := own_slice hox
        obtain ⟨gx, rfl, hrr⟩ := hrx (by omega)
        have hcell := hr d us[d] hx
        rw [Nat.zero_add, ex] at hcell
        obtain ⟨qd, cd, hv, ho⟩ := HO.out wr hB.out d hd
        obtain ⟨q', c', e', hl⟩ := hG.out.lo d _ _ hv hnd
        cases e'
        exact ⟨h5, gx, cx, qd, cd, rfl, hcell, hrr, ho, hl⟩
      have HK3 : Hid (Kp (bkL vs) w2 wr) := hB
      clear hO5 hG HUS hci hc hB HO
      generalize wr = w3 at *
      go_wp2_with fail
      go_loopw [9] (fun s9 wr => ∃ d : Nat, d ≤ Ls.length ∧ s9 = .int .i64 (d : Int) ∧ Hid (Below w3.heap.size w3 wr)) (fun s9 _ => Ls.length - (intOf s9).toNat)
      case atStart => exact ⟨0, Nat.zero_le _, rfl, Below.refl _ _⟩
      case round =>
        obtain ⟨d, hd, rfl, hB⟩ := hrel
        by_cases hdl : d < Ls.length
        · have hdl1 : (d : Int) < (Ls.length : Int) := by omega
          have d0 : (0 : Int) ≤ (d : Int) := by omega
          obtain ⟨h5, gx, cx, qd, cd, rfl, k5, kx, kO, kv⟩ := H3.out d hdl
          have hq := hn Ls[d] (List.getElem_mem hdl)
          generalize Ls[d].length = q at k5 kx kO kv hq
          have HX : Hid (∀ W, Below w3.heap.size w3 W → W.cell? ⟨h5, d, none⟩ = some (.slice (some ⟨gx, 0, none⟩) (q + 70) cx) ∧ W.cell? ⟨O, d, none⟩ = some (.slice qd q cd) ∧ (∀ j, j < q + 70 → W.cell? ⟨gx, j * 6, none⟩ = some (.int .i64 (d : Int)) ∧ W.cell? ⟨gx, j * 6 + 1, none⟩ = some (.int .i64 (j : Int)) ∧ W.cell? ⟨gx, j * 6 + 2, none⟩ = some (.string ⟨#[]⟩) ∧ W.cell? ⟨gx, j * 6 + 3, none⟩ = some (.int .i64 0) ∧ W.cell? ⟨gx, j * 6 + 4, none⟩ = some (.int .i64 0) ∧ W.cell? ⟨gx, j * 6 + 5, none⟩ = some (.string ⟨#[]⟩)) ∧ (0 < q → ∃ g, qd = some ⟨g, 0, none⟩ ∧ ∀ j, j < q → W.cell? ⟨g, j * 6, none⟩ = some (.int .i64 (d : Int)) ∧ W.cell? ⟨g, j * 6 + 1, none⟩ = some (.int .i64 (j : Int)) ∧ W.cell? ⟨g, j * 6 + 2, none⟩ = some (.string ⟨#[]⟩) ∧ W.cell? ⟨g, j * 6 + 3, none⟩ = some (.int .i64 0) ∧ W.cell? ⟨g, j * 6 + 4, none⟩ = some (.int .i64 0) ∧ W.cell? ⟨g, j * 6 + 5, none⟩ = some (.string ⟨#[]⟩))) := fun W hW => by
            refine ⟨(hW.cell (p := ⟨h5, d, none⟩) (block_lt_of_cell k5)).trans k5, (hW.cell (p := ⟨O, d, none⟩) (block_lt_of_cell kO)).trans kO, fun j hj => ?_, fun h0 => ?_⟩
            · have e := mks_get hcE kx j hj
              have a0 : w3.cell? ⟨gx, j * 6, none⟩ = some (.int .i64 (d : Int)) := e 0 _ rfl
              have a1 : w3.cell? ⟨gx, j * 6 + 1, none⟩ = some (.int .i64 (j : Int)) := e 1 _ rfl
              have a2 : w3.cell? ⟨gx, j * 6 + 2, none⟩ = some (.string ⟨#[]⟩) := e 2 _ rfl
              have a3 : w3.cell? ⟨gx, j * 6 + 3, none⟩ = some (.int .i64 0) := e 3 _ rfl
              have a4 : w3.cell? ⟨gx, j * 6 + 4, none⟩ = some (.int .i64 0) := e 4 _ rfl
              have a5 : w3.cell? ⟨gx, j * 6 + 5, none⟩ = some (.string ⟨#[]⟩) := e 5 _ rfl
              exact ⟨(hW.cell (p := ⟨gx, j * 6, none⟩) (block_lt_of_cell a0)).trans a0, (hW.cell (p := ⟨gx, j * 6 + 1, none⟩) (block_lt_of_cell a1)).trans a1, (hW.cell (p := ⟨gx, j * 6 + 2, none⟩) (block_lt_of_cell a2)).trans a2, (hW.cell (p := ⟨gx, j * 6 + 3, none⟩) (block_lt_of_cell a3)).trans a3, (hW.cell (p := ⟨gx, j * 6 + 4, none⟩) (block_lt_of_cell a4)).trans a4, (hW.cell (p := ⟨gx, j * 6 + 5, none⟩) (block_lt_of_cell a5)).trans a5⟩
            · obtain ⟨g, rfl, hr⟩ := kv h0
              refine ⟨g, rfl, fun j hj => ?_⟩
              have e := mks_get hcE hr j hj
              have a0 : w3.cell? ⟨g, j * 6, none⟩ = some (.int .i64 (d : Int)) := e 0 _ rfl
              have a1 : w3.cell? ⟨g, j * 6 + 1, none⟩ = some (.int .i64 (j : Int)) := e 1 _ rfl
              have a2 : w3.cell? ⟨g, j * 6 + 2, none⟩ = some (.string ⟨#[]⟩) := e 2 _ rfl
              have a3 : w3.cell? ⟨g, j * 6 + 3, none⟩ = some (.int .i64 0) := e 3 _ rfl
              have a4 : w3.cell? ⟨g, j * 6 + 4, none⟩ = some (.int .i64 0) := e 4 _ rfl
              have a5 : w3.cell? ⟨g, j * 6 + 5, none⟩ = some (.string ⟨#[]⟩) := e 5 _ rfl
              exact ⟨(hW.cell (p := ⟨g, j * 6, none⟩) (block_lt_of_cell a0)).trans a0, (hW.cell (p := ⟨g, j * 6 + 1, none⟩) (block_lt_of_cell a1)).trans a1, (hW.cell (p := ⟨g, j * 6 + 2, none⟩) (block_lt_of_cell a2)).trans a2, (hW.cell (p := ⟨g, j * 6 + 3, none⟩) (block_lt_of_cell a3)).trans a3, (hW.cell (p := ⟨g, j * 6 + 4, none⟩) (block_lt_of_cell a4)).trans a4, (hW.cell (p := ⟨g, j * 6 + 5, none⟩) (block_lt_of_cell a5)).trans a5⟩
          clear k5 kx kO kv
          obtain ⟨k5, -, -, -⟩ := HX.out _ hB.out
          go_wp2_with fail
          clear k5
          go_loopw [10] (fun s10 wr => ∃ j : Nat, j ≤ q + 70 ∧ s10 = .int .i64 (j : Int) ∧ Hid (Below w3.heap.size w3 wr)) (fun s10 _ => q + 70 - (intOf s10).toNat)
          case atStart => exact ⟨0, Nat.zero_le _, rfl, hB⟩
          case round =>
            clear hB
            obtain ⟨j, hj, rfl, hB⟩ := hrel
            obtain ⟨k5, kO, kx, kq⟩ := HX.out _ hB.out
            by_cases hjq : j < q + 70
            · have hjq1 : (j : Int) < ((q + 70 : Nat) : Int) := by omega
              have hjq2 : (j : Int) < (q : Int) + 70 := by omega
              have j0 : (0 : Int) ≤ (j : Int) := by omega
              obtain ⟨p0, p1, p2, p3, p4, p5⟩ := kx j hjq
              have nv := neqEF (d : Int) (j : Int)
              have c42 : ∀ e os, Calls Tryd.prog 18 #[.int .i64 (d : Int), .int .i64 (j : Int)] (Sort.grow (redrawn wr e) os) fun e w'' => e = .returned (.agg #[.int .i64 (d : Int), .int .i64 (j : Int), .string ⟨#[]⟩, .int .i64 0, .int .i64 0, .string ⟨#[]⟩]) ∧ ∃ z : Regrown, w'' = Sort.grow (redrawn wr z.d) z.os := fun e os => Calls.regrown_of (sign_any _ (d : Int) (j : Int))
              by_cases hjn : j < q
              · obtain ⟨g, rfl, kg'⟩ := kq (by omega)
                have hjn1 : (j : Int) < (q : Int) := by omega
                have hjn2 : decide ((j : Int) < (q : Int)) = true := decide_eq_true hjn1
                have hjn3 : decide (j < q) = true := decide_eq_true hjn
                obtain ⟨r0, r1, r2, r3, r4, r5⟩ := kg' j hjn
                clear kx kq kg'
                have y1 := cell_regrown k5
                have y2 := cell_regrown kO
                have y3 := cell_regrown p0
                have y4 := cell_regrown p1
                have y5 := cell_regrown p2
                have x3 := cell_regrown p3
                have x4 := cell_regrown p4
                have x5 := cell_regrown p5
                have y6 := cell_regrown r0
                have y7 := cell_regrown r1
                have y8 := cell_regrown r2
                have z3 := cell_regrown r3
                have z4 := cell_regrown r4
                have z5 := cell_regrown r5
                go_wp2_with fail
                clear k5 kO p0 p1 p2 p3 p4 p5 r0 r1 r2 r3 r4 r5
                refine wp_region_quiet_below (by kernel_rfl) (by kernel_rfl) ?_
                repeat (first | go_big_quiet_step (first | with_reducible exact c42 _ _) | quiet_step (first | with_reducible exact c42 _ _))
                refine wpQuiet_nil ?_
                intro _ hw'
                obtain ⟨⟨dq, osq⟩, hw''⟩ := hw'
                subst hw''
                have hY := below_regrown wr dq osq
                change Exit.then _ _ Exit.normal _ (Sort.grow (redrawn wr dq) osq)
                generalize Sort.grow (redrawn wr dq) osq = Y at hY ⊢
                clear c42
                have hB8 : Hid (Below w3.heap.size w3 Y) := hB.out.trans (hY.mono hB.out.size)
                clear hY y1 y2 y3 y4 y5 y6 y7 y8 x3 x4 x5 z3 z4 z5 nv
                go_wp2
                exact ⟨⟨j + 1, by omega, by go_num, hB8⟩, by simp [intOf]; omega⟩
              · have hjn1 : ¬ ((j : Int) < (q : Int)) := by omega
                have hjn2 : decide ((j : Int) < (q : Int)) = false := decide_eq_false hjn1
                have hjn3 : decide (j < q) = false := decide_eq_false hjn
                clear kx kq
                have y1 := cell_regrown k5
                have y2 := cell_regrown kO
                have y3 := cell_regrown p0
                have y4 := cell_regrown p1
                have y5 := cell_regrown p2
                have x3 := cell_regrown p3
                have x4 := cell_regrown p4
                have x5 := cell_regrown p5
                go_wp2_with fail
                clear k5 kO p0 p1 p2 p3 p4 p5
                refine wp_region_quiet_below (by kernel_rfl) (by kernel_rfl) ?_
                repeat (first | go_big_quiet_step (first | with_reducible exact c42 _ _) | quiet_step (first | with_reducible exact c42 _ _))
                refine wpQuiet_nil ?_
                intro _ hw'
                obtain ⟨⟨dq, osq⟩, hw''⟩ := hw'
                subst hw''
                have hY := below_regrown wr dq osq
                change Exit.then _ _ Exit.normal _ (Sort.grow (redrawn wr dq) osq)
                generalize Sort.grow (redrawn wr dq) osq = Y at hY ⊢
                clear c42
                have hB8 : Hid (Below w3.heap.size w3 Y) := hB.out.trans (hY.mono hB.out.size)
                clear hY y1 y2 y3 y4 y5 x3 x4 x5 nv
                go_wp2
                exact ⟨⟨j + 1, by omega, by go_num, hB8⟩, by simp [intOf]; omega⟩
            · obtain rfl : j = q + 70 := by omega
              clear kx kq
              go_wp2
              exact ⟨⟨d + 1, by omega, by go_num, hB⟩, by simp [intOf]; omega⟩
        · obtain rfl : d = Ls.length := by omega
          have hji : ¬ ((Ls.length : Int) < (Ls.length : Int)) := by omega
          go_wp2
          first | (change bodyPost Tryd.prog Tryd.f9 _ Exit.ret _ _) | (simp only [Exit.noGoto])
          go_ret
          exact ⟨rfl, ((HK2.out.trans HK3.out fun _ _ q => q).next hB.out)⟩
end Go.Proofs.YtdmiciblfbkndaaDoor

namespace Go.Proofs.YtdmiciblfbkndaaDoor
open Go.RowKit

theorem neSameE (a b : Int) (c : ByteArray) (d e : Int) (f : ByteArray) : ∀ w : World, (binOp BinOp.neq 37 (.agg #[.int .i64 a, .int .i64 b, .string c, .int .i64 d, .int .i64 e, .string f]) (.agg #[.int .i64 a, .int .i64 b, .string c, .int .i64 d, .int .i64 e, .string f])).run Tryd.prog w = .ok (.bool false) w := by
  intro w
  simp [go_sem]
theorem neSameO (a b : Int) : ∀ w : World, (binOp BinOp.neq 25 (.agg #[.int .i64 a, .int .i64 b]) (.agg #[.int .i64 a, .int .i64 b])).run Tryd.prog w = .ok (.bool false) w := by
  intro w
  simp [go_sem]
theorem neSameS (a : ByteArray) : ∀ w : World, (binOp BinOp.neq 9 (.string a) (.string a)).run Tryd.prog w = .ok (.bool false) w := by
  intro w
  simp [go_sem]
/-- An event of a row. -/
theorem ev_at {w : World} {B : Nat} {q : Option Addr} {L : List Ev} (h : Row w B q L.length (L.flatMap ec)) (i : Nat) (e : Ev) (he : L[i]? = some e) : ∃ g o, q = some ⟨g, o, none⟩ ∧ g < B ∧ ∀ j v, (ec e)[j]? = some v → w.cell? ⟨g, o + i * 6 + j, none⟩ = some v := by
  obtain ⟨g, o, hq, hg, hr⟩ := h (by have := (List.getElem?_eq_some_iff.1 he).1; omega)
  refine ⟨g, o, hq, hg, fun j v hv => ?_⟩
  rw [Nat.add_assoc]
  exact hr _ v (ec_at L i e he j v hv)
set_option maxRecDepth 100000 in
set_option maxHeartbeats 2000000 in
/-- Same, of two records that read alike. -/
theorem same_yes (W : World) (ph tr : Int) (out : ByteArray) (inp : Int) (L : List Ev) (q1 q2 : Option Addr) (c1 c2 : Nat) (h1 : Row W W.heap.size q1 L.length (L.flatMap ec)) (h2 : Row W W.heap.size q2 L.length (L.flatMap ec)) (hn : L.length ≤ 140737488355328) :
    Calls Tryd.prog 8 #[.agg (recC ph tr out inp q1 L.length c1), .agg (recC ph tr out inp q2 L.length c2)] W fun e w' => e = .returned (.bool true) ∧ Below W.heap.size W w' := by
  obtain ⟨X2, hX2⟩ : ∃ X, (W.alloc (.cells (recC ph tr out inp q1 L.length c1) 28)).alloc (.cells (recC ph tr out inp q2 L.length c2) 28) = X := ⟨_, rfl⟩
  obtain ⟨A, hA⟩ : ∃ A, W.heap.size = A := ⟨_, rfl⟩
  have b2 : Below W.heap.size W X2 := by rw [← hX2]; exact ((Below.refl _ W).alloc (Nat.le_refl _) _).alloc (by simp) _
  have fA : Full X2 A 28 [.int .i64 ph, .int .i64 tr, .string out, .int .i64 inp, .slice q1 L.length c1] := by
    rw [← hX2, ← hA]
    exact (Full.new W _ _).next ((Below.refl _ _).alloc (Nat.le_refl _) _)
  have fB : Full X2 (A + 1) 28 [.int .i64 ph, .int .i64 tr, .string out, .int .i64 inp, .slice q2 L.length c2] := by
    have h := Full.new (W.alloc (.cells (recC ph tr out inp q1 L.length c1) 28)) (recC ph tr out inp q2 L.length c2) 28
    rw [World.size_alloc, hX2, hA] at h
    exact h
  have R1 := h1.below b2 (Nat.le_refl _)
  have R2 := h2.below b2 (Nat.le_refl _)
  obtain ⟨n, hln⟩ : ∃ n, L.length = n := ⟨_, rfl⟩
  have HH : Hid (Row X2 W.heap.size q1 L.length (L.flatMap ec) ∧ Row X2 W.heap.size q2 L.length (L.flatMap ec) ∧ L.length = n ∧ Below W.heap.size W X2 ∧ Below W.heap.size W X2.drew) := ⟨R1, R2, hln, b2, b2.drew⟩
  have z2 : X2.heap.size = A + 2 := by rw [← hX2, World.size_alloc, World.size_alloc, hA]
  unfold recC at hX2 ⊢
  rw [hln] at hX2 fA fB hn ⊢
  obtain ⟨⟨⟨a0, -⟩, ⟨a1, -⟩, a2, -⟩, ⟨a3, -⟩, a4, -⟩ := fA.five2
  obtain ⟨⟨⟨b0, -⟩, ⟨b1, -⟩, b2', -⟩, ⟨b3, -⟩, b4, -⟩ := fB.five2
  have HF : Hid (Full X2 A 28 [.int .i64 ph, .int .i64 tr, .string out, .int .i64 inp, .slice q1 n c1] ∧ Full X2 (A + 1) 28 [.int .i64 ph, .int .i64 tr, .string out, .int .i64 inp, .slice q2 n c2]) := ⟨fA, fB⟩
  have K1 := neSameO ph tr
  have K2 := neSameS out
  clear R1 R2 h1 h2 b2 fA fB hln
  go_enter Tryd.func8, Tryd.ntmps8
  go_wp2_with fail
  have H0 : Hid (Full X2 A 28 [.int .i64 ph, .int .i64 tr, .string out, .int .i64 inp, .slice q1 n c1] ∧ Full X2 (A + 1) 28 [.int .i64 ph, .int .i64 tr, .string out, .int .i64 inp, .slice q2 n c2] ∧ Row X2 W.heap.size q1 L.length (L.flatMap ec) ∧ Row X2 W.heap.size q2 L.length (L.flatMap ec) ∧ Below W.heap.size W X2) := ⟨HF.out.1, HF.out.2, HH.out.1, HH.out.2.1, HH.out.2.2.2.1⟩
  have HN : Hid (L.length = n) := HH.out.2.2.1
  clear HH HF K1 K2 a0 a1 a2 a3 a4 b0 b1 b2' b3 b4 hX2 z2
  go_loopw [5] (fun v wr => ∃ i : Nat, v = .int .i64 (i : Int) ∧ i ≤ n ∧ Hid (Full wr A 28 [.int .i64 ph, .int .i64 tr, .string out, .int .i64 inp, .slice q1 n c1] ∧ Full wr (A + 1) 28 [.int .i64 ph, .int .i64 tr, .string out, .int .i64 inp, .slice q2 n c2] ∧ Row wr W.heap.size q1 L.length (L.flatMap ec) ∧ Row wr W.heap.size q2 L.length (L.flatMap ec) ∧ Below W.heap.size W wr)) (fun v _ => n - (intOf v).toNat)
  case atStart => exact ⟨0, rfl, Nat.zero_le _, H0⟩
  case round =>
    obtain ⟨i, rfl, him, HI⟩ := hrel
    clear H0
    obtain ⟨-, -, a4, -⟩ := HI.out.1.five2
    obtain ⟨-, -, b4, -⟩ := HI.out.2.1.five2
    by_cases hlt : i < n
    · have qi : (i : Int) < (n : Int) := by omega
      have q0 : (0 : Int) ≤ (i : Int) := by omega
      obtain ⟨e, he⟩ : ∃ e, L[i]? = some e := ⟨L[i]'(by rw [HN.out]; exact hlt), List.getElem?_eq_getElem _⟩
      obtain ⟨g, o, rfl, hgB, hr1⟩ := ev_at HI.out.2.2.1 i e he
      obtain ⟨g', o', rfl, hgB', hr2⟩ := ev_at HI.out.2.2.2.1 i e he
      obtain ⟨k, en, nm, vk, vn, vs⟩ := e
      have x0 := hr1 0 _ rfl
      have x1 := hr1 1 _ rfl
      have x2 := hr1 2 _ rfl
      have x3 := hr1 3 _ rfl
      have x4 := hr1 4 _ rfl
      have x5 := hr1 5 _ rfl
      have y0 := hr2 0 _ rfl
      have y1 := hr2 1 _ rfl
      have y2 := hr2 2 _ rfl
      have y3 := hr2 3 _ rfl
      have y4 := hr2 4 _ rfl
      have y5 := hr2 5 _ rfl
      unfold sV at x2 x5 y2 y5
      simp only [Nat.add_zero] at x0 y0
      have K := neSameE k en ⟨nm.toArray⟩ vk vn ⟨vs.toArray⟩
      have HId : Hid (Full wr.drew A 28 [.int .i64 ph, .int .i64 tr, .string out, .int .i64 inp, .slice (some ⟨g, o, none⟩) n c1] ∧ Full wr.drew (A + 1) 28 [.int .i64 ph, .int .i64 tr, .string out, .int .i64 inp, .slice (some ⟨g', o', none⟩) n c2] ∧ Row wr.drew W.heap.size (some ⟨g, o, none⟩) L.length (L.flatMap ec) ∧ Row wr.drew W.heap.size (some ⟨g', o', none⟩) L.length (L.flatMap ec) ∧ Below W.heap.size W wr.drew) := by
        have nb : Below wr.heap.size wr wr.drew := (Below.refl _ wr).drew
        have hs := HI.out.2.2.2.2.size
        exact ⟨HI.out.1.next nb, HI.out.2.1.next nb, HI.out.2.2.1.below nb hs, HI.out.2.2.2.1.below nb hs, HI.out.2.2.2.2.trans (nb.mono hs)⟩
      clear hr1 hr2 he hgB hgB'
      go_upto_region 6 with fail
      go_region
      all_goals
        clear x0 x1 x2 x3 x4 x5 y0 y1 y2 y3 y4 y5 a4 b4 K HI
        go_wp2
        exact ⟨⟨i + 1, by go_num, by omega, HId⟩, by simp [intOf]; omega⟩
    · obtain rfl : i = n := by omega
      have qi : ¬ (i : Int) < (i : Int) := by omega
      have HB : Hid (Below W.heap.size W wr) := HI.out.2.2.2.2
      clear HI hlt
      go_wp2
      go_ret
      exact ⟨rfl, hA ▸ HB.out⟩
end Go.Proofs.YtdmiciblfbkndaaDoor
