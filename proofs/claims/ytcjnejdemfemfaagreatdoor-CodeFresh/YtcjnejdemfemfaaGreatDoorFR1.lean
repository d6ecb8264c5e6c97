import Derived.Test.YtcjnejdemfemfaaGreatDoorCRf
import Derived.Test.YtcjnejdemfemfaaGreatDoorCRg
namespace Go.Proofs.YtcjnejdemfemfaaGreatDoor
open Go.RowKit

theorem flat_lenF {α β : Type} (f : α → List β) (sz : Nat) (hf : ∀ a, (f a).length = sz) (l : List α) : (l.flatMap f).length = l.length * sz := by
  induction l with
  | nil => simp
  | cons a l ih => rw [List.flatMap_cons, List.length_append, ih, hf, List.length_cons, Nat.succ_mul, Nat.add_comm]
theorem flat_set {α β : Type} (f : α → List β) (sz : Nat) (hf : ∀ a, (f a).length = sz) (l : List α) (i : Nat) (hi : i < l.length) (x : α) (j : Nat) : ((l.set i x).flatMap f)[j]? = if i * sz ≤ j ∧ j < i * sz + sz then (f x)[j - i * sz]? else (l.flatMap f)[j]? := by
  have hl := flat_lenF f sz hf (l.set i x)
  have hl' := flat_lenF f sz hf l
  rw [List.length_set] at hl
  rcases Nat.eq_zero_or_pos sz with rfl | hs
  · rw [if_neg (by omega), List.getElem?_eq_none (by omega), List.getElem?_eq_none (by omega)]
  by_cases hj : j < l.length * sz
  · have hd : j / sz < l.length := by rw [Nat.div_lt_iff_lt_mul hs]; exact hj
    have hm := Nat.mod_lt j hs
    have he : j / sz * sz + j % sz = j := Nat.div_add_mod' j sz
    have e1 := flat_at f sz hf (l.set i x) (j / sz) (j % sz) (by simpa using hd) hm
    have e2 := flat_at f sz hf l (j / sz) (j % sz) hd hm
    rw [he] at e1 e2
    rw [e1, e2]
    by_cases hi2 : i = j / sz
    · subst hi2
      rw [if_pos ⟨by omega, by omega⟩, List.getElem_set_self, show j - j / sz * sz = j % sz by omega]
    · rw [List.getElem_set_ne hi2, if_neg]
      rintro ⟨q1, q2⟩
      apply hi2
      symm
      rw [Nat.div_eq_iff hs]
      omega
  · have := Nat.mul_le_mul_right sz (show i + 1 ≤ l.length from hi)
    rw [Nat.succ_mul] at this
    rw [if_neg (by omega), List.getElem?_eq_none (by omega), List.getElem?_eq_none (by omega)]
theorem sets_self (g : Nat) {e : TypeId} {fz : Nat × Nat} : ∀ (vs : List Value) (o : Nat) (w : World) (cur : Array Value), w.heap[g]? = some (.cells cur e fz) → ∃ c, (w.setCells g o vs).heap[g]? = some (.cells c e fz) ∧ c.size = cur.size
  | [], _, _, cur, h => ⟨cur, h, rfl⟩
  | v :: r, o, w, cur, h => by
    have h2 : (w.setCell ⟨g, o, none⟩ v).heap[g]? = some (.cells (cur.setIfInBounds o v) e fz) := by
      simp only [World.setCell, Array.getElem?_modify, h]
      simp
    obtain ⟨c, q1, q2⟩ := sets_self g r (o + 1) _ _ h2
    exact ⟨c, q1, by rw [q2]; simp⟩
theorem own_sets {w : World} {B : Nat} {e : TypeId} {sz : Nat} {g n cap : Nat} {xs : List Value} (h : w.ownsRow B e sz (.slice (some ⟨g, 0, none⟩) n cap) n xs) (o : Nat) (vs xs' : List Value) (hl : xs'.length = n * sz) (hx : ∀ j, j < n * sz → (w.setCells g o vs).cell? ⟨g, j, none⟩ = xs'[j]?) :
    (w.setCells g o vs).ownsRow B e sz (.slice (some ⟨g, 0, none⟩) n cap) n xs' := by
  rcases h.2 with ⟨q, _⟩ | ⟨g', cap', cur, hv, h1, h2, h3, h4, h5, h6⟩
  · cases q
  · cases hv
    obtain ⟨c, q1, q2⟩ := sets_self g vs o w cur h2
    refine ⟨hl, .inr ⟨g, cap, c, rfl, h1, q1, h3, h4, q2.trans h5, ?_⟩⟩
    apply List.ext_getElem?
    intro j
    rw [List.getElem?_take]
    split
    · rename_i hj
      have := hx j hj
      simp only [World.cell?, q1] at this
      simpa using this
    · rename_i hj
      rw [List.getElem?_eq_none (by omega)]

/-- One element more: in the room that is there, all else as it was; or in a new block, all as it was. -/
theorem app_two {P : Program} {w : World} {base : Nat} {e : TypeId} {size : Nat} (t ty : TypeId) (z : Value) (bytes : Nat) (ht : P.underlying t = some (.slice e)) (hinf : (P.info? e).map (fun i => (i.zero, i.size, i.bytes)) = some (some z, size, bytes)) (hzs : z.cells.size = size) (hsz : 0 < size) (hby : bytes ≤ 100)
    (v : Value) (n : Nat) (xs : List Value) (hown : w.ownsRow base e size v n xs) (g : Nat) (C : List Value) (hC : C.length = size) (h1 : ∀ u ∈ C, u.oneCell' = true) (hr : w.rangeAt g 0 C) (h40 : n + 1 ≤ 1000000000) (hbase : base ≤ w.heap.size) :
    ∃ v' w', (Builtin.append_ #[t, t] ty #[v, .slice (some ⟨g, 0, none⟩) 1 1]).run P w = .ok v' w' ∧ w'.ownsRow base e size v' (n + 1) (xs ++ C) ∧ ((v'.ownBlock = v.ownBlock ∧ w.grownBy w' v.ownBlock) ∨ ((∀ G, v'.ownBlock = some G → w.heap.size ≤ G) ∧ Below w.heap.size w w')) := by
  obtain ⟨q, cap, rfl, hcap, -⟩ := own_slice hown
  rcases Nat.lt_or_ge n cap with hlt | hge
  · rcases hown.2 with ⟨hv, _⟩ | ⟨G, cap', cur, hv, -⟩
    · cases hv
      omega
    · cases hv
      obtain ⟨w', e1, e2, e3⟩ := app_in t ty z bytes ht hinf hzs hsz hby G n cap xs hown g C hC h1 hr h40 hbase hlt
      exact ⟨_, w', e1, e2, .inl ⟨rfl, e3⟩⟩
  · obtain rfl : cap = n := by omega
    obtain ⟨v', w', e1, e2, e3⟩ := app_new t ty z bytes ht hinf hzs hsz hby q cap xs hown g C hC h1 hr h40 hbase
    exact ⟨v', w', e1, own_down e2 hbase, .inr ⟨fun G hG => (e2.lt G hG).1, e3⟩⟩

/-- A list reads so, whatever lies behind it. -/
def Hold (w : World) (x : Value) (n : Nat) (xs : List Value) : Prop := ∃ q cp, x = .slice q n cp ∧ (0 < n → ∃ g, q = some ⟨g, 0, none⟩ ∧ w.rangeAt g 0 xs)
theorem Hold.of {w : World} {B : Nat} {e : TypeId} {sz : Nat} {v : Value} {n : Nat} {xs : List Value} (h : w.ownsRow B e sz v n xs) : Hold w v n xs := by
  obtain ⟨q, cp, e1, _, h2⟩ := own_slice h
  exact ⟨q, cp, e1, h2⟩
theorem Hold.same {w w' : World} {x : Value} {n : Nat} {xs : List Value} (h : Hold w x n xs) (hk : ∀ g, x.ownBlock = some g → w'.heap[g]? = w.heap[g]?) : Hold w' x n xs := by
  obtain ⟨q, cp, rfl, h2⟩ := h
  refine ⟨q, cp, rfl, fun h0 => ?_⟩
  obtain ⟨g, rfl, hr⟩ := h2 h0
  exact ⟨g, rfl, range_same hr (hk g rfl)⟩

section
variable {T : Type} {c : T → List Value} {k : Nat} {E SE : TypeId} {mk : Nat → Nat → T}

/-- An element of a list of its own is written. -/
theorem own_setT (hc : ∀ x, (c x).length = k) {w : World} {B g n cap : Nat} {l : List T} (hl : l.length = n) (h : w.ownsRow B E k (.slice (some ⟨g, 0, none⟩) n cap) n (l.flatMap c)) (N : Nat) (hN : N < n) (x : T) : (w.setCells g (N * k) (c x)).ownsRow B E k (.slice (some ⟨g, 0, none⟩) n cap) n ((l.set N x).flatMap c) := by
  have hbk := own_blk h g rfl
  have hNk := Nat.mul_le_mul_right k (show N + 1 ≤ n from hN)
  rw [Nat.succ_mul] at hNk
  refine own_sets h _ _ _ (by rw [flat_lenF c k hc, List.length_set, hl]) fun i hi => ?_
  have hfs := flat_set c k hc l N (by omega) x i
  rw [hfs]
  split
  · rename_i hu
    obtain ⟨y, hy⟩ : ∃ y, (c x)[i - N * k]? = some y := ⟨_, List.getElem?_eq_getElem (show i - N * k < (c x).length by rw [hc]; omega)⟩
    have := World.rangeAt_setCells_same w g (N * k) (c x) (hbk.there _ _ (by rw [hc]; omega)) (i - N * k) y hy
    rw [show N * k + (i - N * k) = i by omega] at this
    rw [this, hy]
  · rename_i hu
    rw [World.cell?_setCells_out _ _ _ _ _ (fun _ _ => by show i < N * k ∨ N * k + (c x).length ≤ i; rw [hc]; omega)]
    exact h.cellAt (g := g) i hi

/-- Lists of their own: a row of slices, each a row of its own, no two in one block. -/
structure Ans (c : T → List Value) (k : Nat) (E SE : TypeId) (w : World) (b : Nat) (Ls : List (List T)) (v : Value) (vs : List Value) : Prop where
  len : vs.length = Ls.length
  out : w.ownsRow b SE 1 v Ls.length vs
  own : ∀ i (hi : i < Ls.length), ∃ q cp, vs[i]? = some (.slice q Ls[i].length cp) ∧ w.ownsRow b E k (.slice q Ls[i].length cp) Ls[i].length (Ls[i].flatMap c)
  sep : vs.Pairwise fun x y => ∀ g, x.ownBlock = some g → y.ownBlock ≠ some g
theorem Ans.same {w w' : World} {b : Nat} {Ls : List (List T)} {v : Value} {vs : List Value} (h : Ans c k E SE w b Ls v vs) (hk : ∀ g, b ≤ g → g < w.heap.size → w'.heap[g]? = w.heap[g]?) : Ans c k E SE w' b Ls v vs where
  len := h.len
  out := own_same h.out fun g hg => hk g (h.out.lt g hg).1 (h.out.lt g hg).2
  own i hi := by obtain ⟨q, cp, h1, h2⟩ := h.own i hi; exact ⟨q, cp, h1, own_same h2 fun g hg => hk g (h2.lt g hg).1 (h2.lt g hg).2⟩
  sep := h.sep
theorem Ans.next {w w' : World} {b : Nat} {Ls : List (List T)} {v : Value} {vs : List Value} (h : Ans c k E SE w b Ls v vs) (q : Below w.heap.size w w') : Ans c k E SE w' b Ls v vs := h.same fun g _ hl => q.block g hl
theorem sep_at {vs : List Value} (h : vs.Pairwise fun x y => ∀ g, x.ownBlock = some g → y.ownBlock ≠ some g) {i j : Nat} {x y : Value} {g : Nat} (hi : vs[i]? = some x) (hj : vs[j]? = some y) (hx : x.ownBlock = some g) (hy : y.ownBlock = some g) : i = j := by
  obtain ⟨hi', rfl⟩ := List.getElem?_eq_some_iff.1 hi
  obtain ⟨hj', rfl⟩ := List.getElem?_eq_some_iff.1 hj
  have hp := List.pairwise_iff_getElem.1 h
  rcases Nat.lt_trichotomy i j with q | q | q
  · exact absurd hy (hp i j hi' hj' q g hx)
  · exact q
  · exact absurd hx (hp j i hj' hi' q g hy)
theorem Ans.put (hc : ∀ x, (c x).length = k) (hE : SE ≠ E) {w : World} {b : Nat} {Ls : List (List T)} {v : Value} {vs : List Value} (h : Ans c k E SE w b Ls v vs) (i j g cp : Nat) (hi : i < Ls.length) (hj : j < Ls[i].length) (hv : vs[i]? = some (.slice (some ⟨g, 0, none⟩) Ls[i].length cp)) (x : T) : Ans c k E SE (w.setCells g (j * k) (c x)) b (Ls.set i (Ls[i].set j x)) v vs := by
  obtain ⟨q, cp', h1, hel⟩ := h.own i hi
  rw [hv] at h1
  cases h1
  have hbk := own_blk hel g rfl
  have hs : ∀ m, m ≠ g → (w.setCells g (j * k) (c x)).heap[m]? = w.heap[m]? := fun m hm => sets_heap hm _ _ _
  refine ⟨by rw [List.length_set]; exact h.len, by rw [List.length_set]; exact own_same h.out fun m hm => hs m ((own_blk h.out m hm).ne hbk hE), fun m hm => ?_, h.sep⟩
  have hm' : m < Ls.length := by rw [List.length_set] at hm; exact hm
  by_cases e : m = i
  · subst e
    rw [List.getElem_set_self]
    simp only [List.length_set]
    exact ⟨_, _, hv, own_setT hc rfl hel j hj x⟩
  · rw [List.getElem_set_ne (Ne.symm e)]
    obtain ⟨q', cq, h1', h2'⟩ := h.own m hm'
    refine ⟨q', cq, h1', own_same h2' fun k' hk2 => hs k' (fun e2 => ?_)⟩
    subst e2
    exact e (sep_at h.sep h1' hv hk2 rfl)

/-- The marks of the first n places of the list i. -/
def mks (mk : Nat → Nat → T) (i n : Nat) : List T := (List.range n).map fun j => mk i j
theorem mks_len (i n : Nat) : (mks mk i n).length = n := by simp [mks]
theorem mks_succ (i n : Nat) : mks mk i (n + 1) = mks mk i n ++ [mk i n] := by simp [mks, List.range_succ]
theorem mks_at (i n j : Nat) (h : j < (mks mk i n).length) : (mks mk i n)[j] = mk i j := by simp [mks]
theorem mks_get (hc : ∀ x, (c x).length = k) {w : World} {g i n : Nat} (h : w.rangeAt g 0 ((mks mk i n).flatMap c)) (j : Nat) (hj : j < n) : w.rangeAt g (j * k) (c (mk i j)) := fun m v hv => by
  have hm : m < k := by have := (List.getElem?_eq_some_iff.1 hv).1; rwa [hc] at this
  have := flat_at c k hc (mks mk i n) j m (by rw [mks_len]; exact hj) hm
  rw [mks_at] at this
  have h2 := h _ v (this.trans hv)
  rwa [Nat.zero_add] at h2
theorem mks_pre (i n t : Nat) : ∃ r, mks mk i (n + t) = mks mk i n ++ r := by
  induction t with
  | zero => exact ⟨[], by simp⟩
  | succ t ih =>
    obtain ⟨r, hr⟩ := ih
    exact ⟨r ++ [mk i (n + t)], by rw [show n + (t + 1) = n + t + 1 by omega, mks_succ, hr, List.append_assoc]⟩
theorem range_pre {w : World} {g o : Nat} {xs ys : List Value} (h : w.rangeAt g o (xs ++ ys)) : w.rangeAt g o xs := fun j v hv => h j v (by rw [List.getElem?_append_left (List.getElem?_eq_some_iff.1 hv).1]; exact hv)

/-- The lists up to i are marked, the next one up to j. -/
def Mkd (mk : Nat → Nat → T) (Ls C : List (List T)) (i j : Nat) : Prop := C.map List.length = Ls.map List.length ∧ ∀ m l (hm : m < C.length) (hl : l < C[m].length), (m < i ∨ (m = i ∧ l < j)) → C[m][l] = mk m l
theorem Mkd.len {Ls C : List (List T)} {i j : Nat} (h : Mkd mk Ls C i j) : C.length = Ls.length := by have := congrArg List.length h.1; simpa using this
theorem Mkd.lenAt {Ls C : List (List T)} {i j : Nat} (h : Mkd mk Ls C i j) (m : Nat) (hm : m < Ls.length) : (C[m]'(by rw [h.len]; exact hm)).length = Ls[m].length := by
  have hm' : m < C.length := by rw [h.len]; exact hm
  have e : (C.map List.length)[m]? = (Ls.map List.length)[m]? := by rw [h.1]
  rw [List.getElem?_map, List.getElem?_map, List.getElem?_eq_getElem hm, List.getElem?_eq_getElem hm'] at e
  simpa using e
theorem Mkd.start (Ls : List (List T)) : Mkd mk Ls Ls 0 0 := ⟨rfl, fun m l hm hl h => by omega⟩
theorem Mkd.step {Ls C : List (List T)} {i j : Nat} (h : Mkd mk Ls C i j) (hi : i < C.length) : Mkd mk Ls (C.set i (C[i].set j (mk i j))) i (j + 1) := by
  refine ⟨?_, fun m l hm hl hh => ?_⟩
  · rw [← h.1, List.map_set, List.length_set]
    apply List.ext_getElem?
    intro m
    rw [List.getElem?_set]
    split
    · rename_i e
      subst e
      rw [if_pos (by rw [List.length_map]; exact hi), List.getElem?_map, List.getElem?_eq_getElem hi]
      rfl
    · rfl
  · have hm' : m < C.length := by rw [List.length_set] at hm; exact hm
    by_cases e : i = m
    · subst e
      simp only [List.getElem_set_self] at hl ⊢
      rw [List.length_set] at hl
      rw [List.getElem_set]
      split
      · rename_i e2
        rw [e2]
      · exact h.2 i l hm' hl (by omega)
    · simp only [List.getElem_set_ne e] at hl ⊢
      exact h.2 m l hm' hl (by omega)
theorem Mkd.next {Ls C : List (List T)} {i j : Nat} (h : Mkd mk Ls C i j) (hj : ∀ hi : i < C.length, C[i].length ≤ j) : Mkd mk Ls C (i + 1) 0 := ⟨h.1, fun m l hm hl hh => h.2 m l hm hl (by
  by_cases e : m = i
  · subst e
    have := hj hm
    omega
  · omega)⟩
theorem Mkd.all {Ls C : List (List T)} (h : Mkd mk Ls C Ls.length 0) (m : Nat) (hm : m < C.length) : C[m] = mks mk m C[m].length := by
  apply List.ext_getElem
  · rw [mks_len]
  · intro l hl hl2
    rw [mks_at]
    exact h.2 m l hm hl (.inl (by rw [← h.len]; exact hm))
theorem Ans.at {w : World} {b O cap : Nat} {Ls C : List (List T)} {vs : List Value} {i j : Nat} (h : Ans c k E SE w b C (.slice (some ⟨O, 0, none⟩) Ls.length cap) vs) (hM : Mkd mk Ls C i j) (m : Nat) (hm : m < Ls.length) : ∃ q cp, vs[m]? = some (.slice q Ls[m].length cp) ∧ w.cell? ⟨O, m, none⟩ = some (.slice q Ls[m].length cp) ∧ (0 < Ls[m].length → ∃ g, q = some ⟨g, 0, none⟩) ∧ w.ownsRow b E k (.slice q Ls[m].length cp) Ls[m].length ((C[m]'(by rw [hM.len]; exact hm)).flatMap c) := by
  have hm' : m < C.length := by rw [hM.len]; exact hm
  obtain ⟨q, cp, h1, h2⟩ := h.own m hm'
  have e := hM.lenAt m hm
  rw [e] at h1 h2
  refine ⟨q, cp, h1, ?_, ?_, h2⟩
  · have ho := h.out
    rw [hM.len] at ho
    exact (ho.cellAt (g := O) m (by omega)).trans h1
  · intro h0
    obtain ⟨q', cq, e1, _, hr⟩ := own_slice h2
    cases e1
    obtain ⟨g, rfl, _⟩ := hr h0
    exact ⟨g, rfl⟩

/-- The blocks of the lists. -/
def bkL (vs : List Value) (g : Nat) : Prop := ∃ (i : Nat) (x : Value), vs[i]? = some x ∧ x.ownBlock = some g

/-- A list x that is being lengthened: s, by t marks. -/
structure Mo (c : T → List Value) (k : Nat) (E : TypeId) (mk : Nat → Nat → T) (wc : World) (b : Nat) (x : Value) (i q t : Nat) (s : Value) (w : World) : Prop where
  own : w.ownsRow b E k s (q + t) ((mks mk i (q + t)).flatMap c)
  at' : ∀ g, s.ownBlock = some g → x.ownBlock = some g ∨ wc.heap.size ≤ g
  lo : Hold w x q ((mks mk i q).flatMap c)
  lt : ∀ g, x.ownBlock = some g → g < wc.heap.size
  blk : ∀ g, x.ownBlock = some g → Blk w g E 0
  kp : Kp (fun g => x.ownBlock = some g) wc w
theorem Mo.start {wc : World} {b : Nat} {x : Value} {i q : Nat} (h : wc.ownsRow b E k x q ((mks mk i q).flatMap c)) : Mo c k E mk wc b x i q 0 x wc := ⟨h, fun _ hg => .inl hg, .of h, fun g hg => (h.lt g hg).2, fun g hg => (own_blk h g hg).le (Nat.zero_le _), Kp.refl _ _⟩
theorem Mo.next {wc w w' : World} {b : Nat} {x s : Value} {i q t : Nat} (h : Mo c k E mk wc b x i q t s w) (n : Below w.heap.size w w') : Mo c k E mk wc b x i q t s w' := ⟨own_next h.own n, h.at', h.lo.same fun g hg => n.block g (Nat.lt_of_lt_of_le (h.lt g hg) h.kp.size), h.lt, fun g hg => (h.blk g hg).next n, h.kp.next n⟩
theorem Mo.app {P : Program} (ts ty : TypeId) (z : Value) (bytes : Nat) (ht : P.underlying ts = some (.slice E)) (hinf : (P.info? E).map (fun i => (i.zero, i.size, i.bytes)) = some (some z, k, bytes)) (hzs : z.cells.size = k) (hsz : 0 < k) (hby : bytes ≤ 100)
    (hc : ∀ x, (c x).length = k) (h1 : ∀ x, ∀ u ∈ c x, u.oneCell' = true) {wc w : World} {b : Nat} {x s : Value} {i q t : Nat} (h : Mo c k E mk wc b x i q t s w) (g : Nat) (hr : w.rangeAt g 0 (c (mk i (q + t)))) (h40 : q + t + 1 ≤ 1000000000) (hbase : b ≤ w.heap.size) :
    ∃ v' w', (Builtin.append_ #[ts, ts] ty #[s, .slice (some ⟨g, 0, none⟩) 1 1]).run P w = .ok v' w' ∧ Mo c k E mk wc b x i q (t + 1) v' w' := by
  obtain ⟨v', w', e1, e2, e3⟩ := app_two ts ty z bytes ht hinf hzs hsz hby s (q + t) _ h.own g _ (hc _) (h1 _) hr h40 hbase
  have em : (mks mk i (q + t)).flatMap c ++ c (mk i (q + t)) = (mks mk i (q + (t + 1))).flatMap c := by rw [show q + (t + 1) = q + t + 1 by omega, mks_succ, List.flatMap_append]; simp
  rw [em] at e2
  refine ⟨v', w', e1, ?_⟩
  have e2' : w'.ownsRow b E k v' (q + (t + 1)) ((mks mk i (q + (t + 1))).flatMap c) := e2
  rcases e3 with ⟨hb, hg⟩ | ⟨hb, hB⟩
  · refine ⟨e2', fun G hG => h.at' G (hb ▸ hG), ?_, h.lt, fun G hG => ?_, h.kp.grown hg fun G hG => ?_⟩
    · obtain ⟨xq, cp, rfl, hl⟩ := h.lo
      refine ⟨xq, cp, rfl, fun h0 => ?_⟩
      obtain ⟨G, rfl, hG⟩ := hl h0
      refine ⟨G, rfl, ?_⟩
      by_cases hs : s.ownBlock = some G
      · obtain ⟨q', c', ev, _, hr'⟩ := own_slice e2'
        obtain ⟨G', rfl, hR⟩ := hr' (by omega)
        subst ev
        rw [hs] at hb
        cases hb
        obtain ⟨r, hr2⟩ := mks_pre (mk := mk) i q (t + 1)
        rw [hr2, List.flatMap_append] at hR
        exact range_pre hR
      · exact range_same hG (hg.block G (Nat.lt_of_lt_of_le (h.lt G rfl) h.kp.size) (fun e => hs e.symm))
    · by_cases hs : s.ownBlock = some G
      · exact (own_blk e2' G (hb.trans hs)).le (Nat.zero_le _)
      · exact (h.blk G hG).same (hg.block G (Nat.lt_of_lt_of_le (h.lt G hG) h.kp.size) (fun e => hs e.symm))
    · rcases h.at' G hG with q | q
      · exact .inl q
      · exact .inr q
  · exact ⟨e2', fun G hG => .inr (Nat.le_trans h.kp.size (hb G hG)), h.lo.same fun G hG => hB.block G (Nat.lt_of_lt_of_le (h.lt G hG) h.kp.size), h.lt, fun G hG => (h.blk G hG).next hB, h.kp.next hB⟩

/-- The lists while they are lengthened: us are those that are. -/
structure Lg (c : T → List Value) (k : Nat) (E : TypeId) (mk : Nat → Nat → T) (z : Nat) (w : World) (b : Nat) (ns : List Nat) (vs us : List Value) : Prop where
  lo : ∀ (i : Nat) (x : Value) (n : Nat), vs[i]? = some x → ns[i]? = some n → Hold w x n ((mks mk i n).flatMap c)
  re : ∀ (i : Nat) (x : Value) (n : Nat), us.length ≤ i → vs[i]? = some x → ns[i]? = some n → w.ownsRow b E k x n ((mks mk i n).flatMap c)
  up : ∀ (i : Nat) (u : Value) (n : Nat), us[i]? = some u → ns[i]? = some n → w.ownsRow b E k u (n + 70) ((mks mk i (n + 70)).flatMap c)
  ub : ∀ (i : Nat) (u : Value) (g : Nat), us[i]? = some u → u.ownBlock = some g → (∃ x : Value, vs[i]? = some x ∧ x.ownBlock = some g) ∨ z ≤ g
  vb : ∀ (i : Nat) (x : Value) (g : Nat), vs[i]? = some x → x.ownBlock = some g → g < z ∧ Blk w g E 0
  zs : z ≤ w.heap.size
  sep : vs.Pairwise fun x y => ∀ g, x.ownBlock = some g → y.ownBlock ≠ some g
theorem Lg.keep {z : Nat} {w w' : World} {b : Nat} {ns : List Nat} {vs us : List Value} (h : Lg c k E mk z w b ns vs us) (hk : ∀ g n, Blk w g E n → w'.heap[g]? = w.heap[g]?) (hz : z ≤ w'.heap.size) : Lg c k E mk z w' b ns vs us where
  lo i x n h1 h2 := (h.lo i x n h1 h2).same fun g hg => hk g _ (h.vb i x g h1 hg).2
  re i x n h0 h1 h2 := own_same (h.re i x n h0 h1 h2) fun g hg => hk g _ (h.vb i x g h1 hg).2
  up i u n h1 h2 := own_same (h.up i u n h1 h2) fun g hg => hk g _ (own_blk (h.up i u n h1 h2) g hg)
  ub := h.ub
  vb i x g h1 h2 := ⟨(h.vb i x g h1 h2).1, (h.vb i x g h1 h2).2.same (hk g _ (h.vb i x g h1 h2).2)⟩
  zs := hz
  sep := h.sep
theorem Lg.next {z : Nat} {w w' : World} {b : Nat} {ns : List Nat} {vs us : List Value} (h : Lg c k E mk z w b ns vs us) (q : Below w.heap.size w w') : Lg c k E mk z w' b ns vs us := h.keep (fun g _ hb => q.block g hb.lt) (Nat.le_trans h.zs q.size)
theorem Lg.more {z : Nat} {wc w : World} {b : Nat} {ns : List Nat} {vs us : List Value} {x s : Value} {i q : Nat} (h : Lg c k E mk z wc b ns vs us) (hi : us.length = i) (hx : vs[i]? = some x) (hn : ns[i]? = some q) (m : Mo c k E mk wc b x i q 70 s w) : Lg c k E mk z w b ns vs (us ++ [s]) := by
  have kv : ∀ (j : Nat) (y : Value) (g : Nat), vs[j]? = some y → y.ownBlock = some g → j ≠ i → w.heap[g]? = wc.heap[g]? := fun j y g hy hg hj => m.kp.block g (Nat.lt_of_lt_of_le (h.vb j y g hy hg).1 h.zs) (fun e => hj (sep_at h.sep hy hx hg e))
  have ul : ∀ (j : Nat) (u : Value), us[j]? = some u → j < i := fun j u hu => by have := (List.getElem?_eq_some_iff.1 hu).1; omega
  have us_at : ∀ (j : Nat) (u : Value), (us ++ [s])[j]? = some u → (us[j]? = some u) ∨ (j = i ∧ u = s) := fun j u hu => by
    by_cases hj : j < us.length
    · rw [List.getElem?_append_left hj] at hu
      exact .inl hu
    · rw [List.getElem?_append_right (by omega)] at hu
      have hk2 : j - us.length = 0 := by
        have := (List.getElem?_eq_some_iff.1 hu).1
        simp at this
        omega
      rw [hk2] at hu
      simp only [List.getElem?_cons_zero, Option.some.injEq] at hu
      exact .inr ⟨by omega, hu.symm⟩
  refine ⟨fun j y n h1 h2 => ?_, fun j y n h0 h1 h2 => ?_, fun j u n h1 h2 => ?_, fun j u g h1 h2 => ?_, fun j y g h1 h2 => ⟨(h.vb j y g h1 h2).1, ?_⟩, Nat.le_trans h.zs m.kp.size, h.sep⟩
  · by_cases e : j = i
    · subst e
      rw [hx] at h1
      rw [hn] at h2
      cases h1
      cases h2
      exact m.lo
    · exact (h.lo j y n h1 h2).same fun g hg => kv j y g h1 hg e
  · rw [List.length_append] at h0
    simp at h0
    exact own_same (h.re j y n (by omega) h1 h2) fun g hg => kv j y g h1 hg (by omega)
  · rcases us_at j u h1 with e | ⟨rfl, rfl⟩
    · have hlt := ul j u e
      refine own_same (h.up j u n e h2) fun g hg => m.kp.block g ((h.up j u n e h2).lt g hg).2 (fun ex => ?_)
      rcases h.ub j u g e hg with ⟨y, hy, hyg⟩ | hz
      · have := sep_at h.sep hy hx hyg ex
        omega
      · have := (h.vb i x g hx ex).1
        omega
    · rw [hn] at h2
      cases h2
      exact m.own
  · rcases us_at j u h1 with e | ⟨rfl, rfl⟩
    · exact h.ub j u g e h2
    · rcases m.at' g h2 with q | q
      · exact .inl ⟨x, hx, q⟩
      · exact .inr (Nat.le_trans h.zs q)
  · by_cases e : j = i
    · subst e
      rw [hx] at h1
      cases h1
      exact m.blk g h2
    · exact (h.vb j y g h1 h2).2.same (kv j y g h1 h2 e)
end
end Go.Proofs.YtcjnejdemfemfaaGreatDoor
namespace Go.Proofs.YtcjnejdemfemfaaGreatDoor
open Go.RowKit

/-- The marks. -/
def mkS (i j : Nat) : Int := 1048576 * (j : Int) + (i : Int)
def mkI (i j : Nat) : In := (0, (j : Int), (i : Int))
def mkT (i j : Nat) : ByteArray := ⟨#[UInt8.ofNat (i % 256), UInt8.ofNat (i / 256 % 256), UInt8.ofNat (j % 256), UInt8.ofNat (j / 256 % 256), UInt8.ofNat (j / 65536 % 256), UInt8.ofNat (j / 16777216 % 256)]⟩
def cS (n : Int) : List Value := [.int .i64 n]
def cT (s : ByteArray) : List Value := [.string s]

set_option maxRecDepth 100000 in
set_option maxHeartbeats 1000000 in
theorem signS_any (w : World) (i j : Nat) (hi : i ≤ 1000000000) (hj : j ≤ 1000000000) :
    Calls Tryz.prog 62 #[.int .i64 (i : Int), .int .i64 (j : Int)] w fun e w' => e = .returned (.int .i64 (mkS i j)) ∧ Below w.heap.size w w' := by
  have e1 : IntKind.i64.wrap (1048576 * (j : Int)) = 1048576 * (j : Int) := by rw [IntKind.wrap_i64]; omega
  have e2 : IntKind.i64.wrap (1048576 * (j : Int) + (i : Int)) = 1048576 * (j : Int) + (i : Int) := by rw [IntKind.wrap_i64]; omega
  go_enter Tryz.func62, Tryz.ntmps62
  go_wp2
  go_ret
  exact ⟨rfl, Below.refl _ _⟩

set_option maxRecDepth 100000 in
set_option maxHeartbeats 1000000 in
theorem signI_any (w : World) (i j : Nat) (_hi : i ≤ 1000000000) (_hj : j ≤ 1000000000) :
    Calls Tryz.prog 63 #[.int .i64 (i : Int), .int .i64 (j : Int)] w fun e w' => e = .returned (.agg #[.int .i64 0, .int .i64 (j : Int), .int .i64 (i : Int)]) ∧ Below w.heap.size w w' := by
  obtain ⟨X, hX⟩ : ∃ X, w.alloc (.cells #[.int .i64 0, .int .i64 0, .int .i64 0] 48) = X := ⟨_, rfl⟩
  have bX : Below w.heap.size w X := by rw [← hX]; exact (Below.refl _ w).alloc (Nat.le_refl _) _
  have h0 : X.heap[w.heap.size]? = some (.cells #[.int .i64 0, .int .i64 0, .int .i64 0] 48) := by rw [← hX]; exact World.alloc_heap_new w _
  obtain ⟨x0, y0⟩ := blk_cell h0 0 (.int .i64 0) rfl
  obtain ⟨x1, y1⟩ := blk_cell h0 1 (.int .i64 0) rfl
  obtain ⟨x2, y2⟩ := blk_cell h0 2 (.int .i64 0) rfl
  have bk : Blk X w.heap.size 48 3 := ⟨_, h0, by decide⟩
  have TH := bk.there 0 3 (by omega)
  have HS : Hid (Below w.heap.size w (X.setCells w.heap.size 0 (ic (mkI i j))) ∧ (X.setCells w.heap.size 0 (ic (mkI i j))).rangeAt w.heap.size 0 (ic (mkI i j))) := ⟨bX.trans ((Kp.setCells (F := fun b => b = w.heap.size) (.inl rfl) _ _ (Kp.refl _ X)).below (fun k hk => by omega) bX.size), World.rangeAt_setCells_same X w.heap.size 0 _ TH⟩
  clear bX bk TH h0
  go_enter Tryz.func63, Tryz.ntmps63
  go_wp2
  obtain ⟨hb, hr⟩ := HS.out
  have p0 : (X.setCells w.heap.size 0 (ic (mkI i j))).cell? ⟨w.heap.size, 0, none⟩ = some (.int .i64 0) := hr 0 _ rfl
  have p1 : (X.setCells w.heap.size 0 (ic (mkI i j))).cell? ⟨w.heap.size, 1, none⟩ = some (.int .i64 (j : Int)) := hr 1 _ rfl
  have p2 : (X.setCells w.heap.size 0 (ic (mkI i j))).cell? ⟨w.heap.size, 2, none⟩ = some (.int .i64 (i : Int)) := hr 2 _ rfl
  change bodyPost _ _ _ _ _ (X.setCells w.heap.size 0 (ic (mkI i j)))
  generalize X.setCells w.heap.size 0 (ic (mkI i j)) = Y at p0 p1 p2 hb ⊢
  exact bodyPost_ret (v := .agg #[.int .i64 0, .int .i64 (j : Int), .int .i64 (i : Int)]) (by simp [results, Tryz.results63, go_sem, p0, p1, p2]) rfl ⟨rfl, hb⟩

set_option maxRecDepth 100000 in
set_option maxHeartbeats 1000000 in
theorem signT_any (w : World) (i j : Nat) (_hi : i ≤ 1000000000) (hj : j ≤ 1000000000) :
    Calls Tryz.prog 64 #[.int .i64 (i : Int), .int .i64 (j : Int)] w fun e w' => e = .returned (.string (mkT i j)) ∧ Below w.heap.size w w' := by
  obtain ⟨X, hX⟩ : ∃ X, w.alloc (.cells #[.int .u8 ((i : Int) % 256), .int .u8 ((i : Int) / 256 % 256), .int .u8 ((j : Int) % 256), .int .u8 ((j : Int) / 256 % 256), .int .u8 ((j : Int) / 65536 % 256), .int .u8 ((j : Int) / 16777216)] 5) = X := ⟨_, rfl⟩
  have bX : Below w.heap.size w X := by rw [← hX]; exact (Below.refl _ w).alloc (Nat.le_refl _) _
  have h0 : X.heap[w.heap.size]? = some (.cells #[.int .u8 ((i : Int) % 256), .int .u8 ((i : Int) / 256 % 256), .int .u8 ((j : Int) % 256), .int .u8 ((j : Int) / 256 % 256), .int .u8 ((j : Int) / 65536 % 256), .int .u8 ((j : Int) / 16777216)] 5) := by rw [← hX]; exact World.alloc_heap_new w _
  have hcv : (convert 66 9 (.slice (some ⟨w.heap.size, 0, none⟩) 6 6)).run Tryz.prog X = .ok (.string (mkT i j)) X := by
    refine run_convert_bytes_back (P := Tryz.prog) X 66 9 5 ⟨w.heap.size, 0, none⟩ 6 [UInt8.ofNat (i % 256), UInt8.ofNat (i / 256 % 256), UInt8.ofNat (j % 256), UInt8.ofNat (j / 256 % 256), UInt8.ofNat (j / 65536 % 256), UInt8.ofNat (j / 16777216 % 256)] Tryz.underlying66 Tryz.underlying5 Tryz.underlying9 (fun m hm => ?_)
    have hm6 : m < 6 := hm
    rw [Addr.add_mid]
    have : m = 0 ∨ m = 1 ∨ m = 2 ∨ m = 3 ∨ m = 4 ∨ m = 5 := by omega
    rcases this with rfl | rfl | rfl | rfl | rfl | rfl
    · simp only [World.cell?, h0]
      simp
    · simp only [World.cell?, h0]
      simp
    · simp only [World.cell?, h0]
      simp
    · simp only [World.cell?, h0]
      simp
    · simp only [World.cell?, h0]
      simp
    · have e5 : ((UInt8.ofNat (j / 16777216 % 256)).toNat : Int) = (j : Int) / 16777216 := by simp; omega
      simp only [World.cell?, h0]
      simp only [List.getElem_cons_succ, List.getElem_cons_zero, e5]
      rfl
  have HB : Hid (Below w.heap.size w X) := bX
  clear h0 bX
  go_enter Tryz.func64, Tryz.ntmps64
  go_wp2
  go_ret
  exact ⟨rfl, HB.out⟩
theorem there1 {W : World} {g o : Nat} (h : W.there g o 1) : ∃ x0, W.cell? ⟨g, o, none⟩ = some x0 ∧ W.frozen? ⟨g, o, none⟩ = false := by
  have h0 := h 0 (by decide)
  rw [Nat.add_zero] at h0
  obtain ⟨x0, e0⟩ := Option.isSome_iff_exists.1 h0.1
  exact ⟨x0, e0, h0.2⟩
theorem Lg.start {T : Type} {c : T → List Value} {k : Nat} {E SE : TypeId} {mk : Nat → Nat → T} {w : World} {b O cap : Nat} {Ls C : List (List T)} {vs : List Value} (h : Ans c k E SE w b C (.slice (some ⟨O, 0, none⟩) Ls.length cap) vs) (hM : Mkd mk Ls C Ls.length 0) : Lg c k E mk w.heap.size w b (Ls.map List.length) vs [] := by
  have key : ∀ (i : Nat) (x : Value) (n : Nat), vs[i]? = some x → (Ls.map List.length)[i]? = some n → w.ownsRow b E k x n ((mks mk i n).flatMap c) := fun i x n h1 h2 => by
    have hi : i < Ls.length := by have := (List.getElem?_eq_some_iff.1 h2).1; simpa using this
    rw [List.getElem?_map, List.getElem?_eq_getElem hi] at h2
    obtain rfl : Ls[i].length = n := by simpa using h2
    obtain ⟨q, cp, e1, -, -, e2⟩ := h.at hM i hi
    rw [h1] at e1
    cases e1
    have e := hM.all i (by rw [hM.len]; exact hi)
    rw [e, hM.lenAt i hi] at e2
    exact e2
  have kb : ∀ (i : Nat) (x : Value) (g : Nat), vs[i]? = some x → x.ownBlock = some g → g < w.heap.size ∧ Blk w g E 0 := fun i x g h1 h2 => by
    have hi : i < vs.length := (List.getElem?_eq_some_iff.1 h1).1
    have hi2 : i < Ls.length := by rw [← hM.len, ← h.len]; exact hi
    have := key i x Ls[i].length h1 (by rw [List.getElem?_map, List.getElem?_eq_getElem hi2]; rfl)
    exact ⟨(this.lt g h2).2, (own_blk this g h2).le (Nat.zero_le _)⟩
  exact ⟨fun i x n h1 h2 => .of (key i x n h1 h2), fun i x n _ h1 h2 => key i x n h1 h2, fun i u n h1 => by simp at h1, fun i u g h1 => by simp at h1, kb, Nat.le_refl _, h.sep⟩
end Go.Proofs.YtcjnejdemfemfaaGreatDoor
namespace Go.Proofs.YtcjnejdemfemfaaGreatDoor
open Go.RowKit

/-- Lists of their own, no two in one block. -/
structure Anq {T : Type} (c : T → List Value) (k : Nat) (E : TypeId) (w : World) (b : Nat) (Ls : List (List T)) (vs : List Value) : Prop where
  len : vs.length = Ls.length
  own : ∀ i (hi : i < Ls.length), ∃ q cp, vs[i]? = some (.slice q Ls[i].length cp) ∧ w.ownsRow b E k (.slice q Ls[i].length cp) Ls[i].length (Ls[i].flatMap c)
  sep : vs.Pairwise fun x y => ∀ g, x.ownBlock = some g → y.ownBlock ≠ some g
section
variable {T : Type} {c : T → List Value} {k : Nat} {E SE : TypeId} {mk : Nat → Nat → T}
theorem Anq.next {w w' : World} {b : Nat} {Ls : List (List T)} {vs : List Value} (h : Anq c k E w b Ls vs) (q : Below w.heap.size w w') : Anq c k E w' b Ls vs := ⟨h.len, fun i hi => by obtain ⟨p, cp, h1, h2⟩ := h.own i hi; exact ⟨p, cp, h1, own_next h2 q⟩, h.sep⟩
theorem Anq.keep {w w' : World} {b : Nat} {Ls : List (List T)} {vs : List Value} (h : Anq c k E w b Ls vs) (hk : ∀ g n, Blk w g E n → w'.heap[g]? = w.heap[g]?) : Anq c k E w' b Ls vs := ⟨h.len, fun i hi => by obtain ⟨p, cp, h1, h2⟩ := h.own i hi; exact ⟨p, cp, h1, own_same h2 fun g hg => hk g _ (own_blk h2 g hg)⟩, h.sep⟩
theorem Anq.ans {w : World} {b : Nat} {Ls : List (List T)} {v : Value} {vs : List Value} (h : Anq c k E w b Ls vs) (ho : w.ownsRow b SE 1 v Ls.length vs) : Ans c k E SE w b Ls v vs := ⟨h.len, ho, h.own, h.sep⟩
theorem Anq.put (hc : ∀ x, (c x).length = k) {w : World} {b : Nat} {Ls : List (List T)} {vs : List Value} (h : Anq c k E w b Ls vs) (i j g cp : Nat) (hi : i < Ls.length) (hj : j < Ls[i].length) (hv : vs[i]? = some (.slice (some ⟨g, 0, none⟩) Ls[i].length cp)) (x : T) : Anq c k E (w.setCells g (j * k) (c x)) b (Ls.set i (Ls[i].set j x)) vs := by
  obtain ⟨q, cp', h1, hel⟩ := h.own i hi
  rw [hv] at h1
  cases h1
  have hs : ∀ m, m ≠ g → (w.setCells g (j * k) (c x)).heap[m]? = w.heap[m]? := fun m hm => sets_heap hm _ _ _
  refine ⟨by rw [List.length_set]; exact h.len, fun m hm => ?_, h.sep⟩
  have hm' : m < Ls.length := by rw [List.length_set] at hm; exact hm
  by_cases e : m = i
  · subst e
    rw [List.getElem_set_self]
    simp only [List.length_set]
    exact ⟨_, _, hv, own_setT hc rfl hel j hj x⟩
  · rw [List.getElem_set_ne (Ne.symm e)]
    obtain ⟨q', cq, h1', h2'⟩ := h.own m hm'
    refine ⟨q', cq, h1', own_same h2' fun k' hk2 => hs k' (fun e2 => ?_)⟩
    subst e2
    exact e (sep_at h.sep h1' hv hk2 rfl)
theorem Anq.at {w : World} {b : Nat} {Ls C : List (List T)} {vs : List Value} {i j : Nat} (h : Anq c k E w b C vs) (hM : Mkd mk Ls C i j) (m : Nat) (hm : m < Ls.length) : ∃ q cp, vs[m]? = some (.slice q Ls[m].length cp) ∧ (0 < Ls[m].length → ∃ g, q = some ⟨g, 0, none⟩) ∧ w.ownsRow b E k (.slice q Ls[m].length cp) Ls[m].length ((C[m]'(by rw [hM.len]; exact hm)).flatMap c) := by
  have hm' : m < C.length := by rw [hM.len]; exact hm
  obtain ⟨q, cp, h1, h2⟩ := h.own m hm'
  have e := hM.lenAt m hm
  rw [e] at h1 h2
  refine ⟨q, cp, h1, ?_, h2⟩
  intro h0
  obtain ⟨q', cq, e1, _, hr⟩ := own_slice h2
  cases e1
  obtain ⟨g, rfl, _⟩ := hr h0
  exact ⟨g, rfl⟩
theorem Lg.startQ {w : World} {b : Nat} {Ls C : List (List T)} {vs : List Value} (h : Anq c k E w b C vs) (hM : Mkd mk Ls C Ls.length 0) : Lg c k E mk w.heap.size w b (Ls.map List.length) vs [] := by
  have key : ∀ (i : Nat) (x : Value) (n : Nat), vs[i]? = some x → (Ls.map List.length)[i]? = some n → w.ownsRow b E k x n ((mks mk i n).flatMap c) := fun i x n h1 h2 => by
    have hi : i < Ls.length := by have := (List.getElem?_eq_some_iff.1 h2).1; simpa using this
    rw [List.getElem?_map, List.getElem?_eq_getElem hi] at h2
    obtain rfl : Ls[i].length = n := by simpa using h2
    obtain ⟨q, cp, e1, -, e2⟩ := h.at hM i hi
    rw [h1] at e1
    cases e1
    have e := hM.all i (by rw [hM.len]; exact hi)
    rw [e, hM.lenAt i hi] at e2
    exact e2
  have kb : ∀ (i : Nat) (x : Value) (g : Nat), vs[i]? = some x → x.ownBlock = some g → g < w.heap.size ∧ Blk w g E 0 := fun i x g h1 h2 => by
    have hi : i < vs.length := (List.getElem?_eq_some_iff.1 h1).1
    have hi2 : i < Ls.length := by rw [← hM.len, ← h.len]; exact hi
    have := key i x Ls[i].length h1 (by rw [List.getElem?_map, List.getElem?_eq_getElem hi2]; rfl)
    exact ⟨(this.lt g h2).2, (own_blk this g h2).le (Nat.zero_le _)⟩
  exact ⟨fun i x n h1 h2 => .of (key i x n h1 h2), fun i x n _ h1 h2 => key i x n h1 h2, fun i u n h1 => by simp at h1, fun i u g h1 => by simp at h1, kb, Nat.le_refl _, h.sep⟩
end

/-- A code in memory: where its lists lie. -/
structure Cm where
  iq : Option Addr
  ia : Nat
  eq : Option Addr
  ea : Nat
  tq : Option Addr
  ta : Nat
  Es : List Em
  c : Cd
  lo : Nat
  hi : Nat
def Cm.iv (x : Cm) : Value := .slice x.iq x.c.ins.length x.ia
def Cm.ev (x : Cm) : Value := .slice x.eq x.c.ens.length x.ea
def Cm.tv (x : Cm) : Value := .slice x.tq x.c.txs.length x.ta
def sval (y : Em) : Value := .slice y.2.1 y.1.sorts.length y.2.2
def Cm.cells (x : Cm) : List Value := [x.iv, x.ev, x.tv, .int .i64 x.c.main]
structure CmOk (w : World) (x : Cm) : Prop where
  rows : Rows w x.lo x.iv x.ev x.tv x.c.ins x.Es x.c.txs
  en : x.Es.map (·.1) = x.c.ens
  sp : SepE x.Es
  ih : ∀ g, x.iv.ownBlock = some g → g < x.hi
  eh : ∀ g, x.ev.ownBlock = some g → g < x.hi
  th : ∀ g, x.tv.ownBlock = some g → g < x.hi
  sh : ∀ y ∈ x.Es, ∀ g, (sval y).ownBlock = some g → g < x.hi
theorem CmOk.of {w W : World} {iq eq tq : Option Addr} {ia ea ta : Nat} {Es : List Em} {c : Cd} (h : Rows W w.heap.size (.slice iq c.ins.length ia) (.slice eq c.ens.length ea) (.slice tq c.txs.length ta) c.ins Es c.txs) (en : Es.map (·.1) = c.ens) (sp : SepE Es) : CmOk W ⟨iq, ia, eq, ea, tq, ta, Es, c, w.heap.size, W.heap.size⟩ :=
  ⟨h, en, sp, fun g hg => (h.ir.lt g hg).2, fun g hg => (h.er.lt g hg).2, fun g hg => (h.tr.lt g hg).2, fun y hy g hg => ((h.sr y hy).lt g hg).2⟩
theorem CmOk.next {w w' : World} {x : Cm} (h : CmOk w x) (q : Below w.heap.size w w') : CmOk w' x := ⟨h.rows.next q, h.en, h.sp, h.ih, h.eh, h.th, h.sh⟩
/-- Codes in memory, apart. -/
structure Cms (w : World) (b : Nat) (K : List Cm) : Prop where
  ok : ∀ x ∈ K, CmOk w x
  lo : ∀ x ∈ K, b ≤ x.lo
  sep : K.Pairwise fun x y => x.hi ≤ y.lo
theorem Cms.next {w w' : World} {b : Nat} {K : List Cm} (h : Cms w b K) (q : Below w.heap.size w w') : Cms w' b K := ⟨fun x hx => (h.ok x hx).next q, h.lo, h.sep⟩
theorem tv_flat (l : List ByteArray) : tv l = l.flatMap cT := by
  unfold tv
  induction l with
  | nil => rfl
  | cons a l ih => rw [List.map_cons, ih, List.flatMap_cons]; rfl
theorem sv_flat (l : List Int) : sv l = l.flatMap cS := by
  unfold sv
  induction l with
  | nil => rfl
  | cons a l ih => rw [List.map_cons, ih, List.flatMap_cons]; rfl
theorem Cms.ins {w : World} {b : Nat} {K : List Cm} (h : Cms w b K) : Anq ic 3 48 w b (K.map (·.c.ins)) (K.map Cm.iv) := by
  refine ⟨by simp, fun i hi => ?_, ?_⟩
  · have hi' : i < K.length := by simpa using hi
    have hm := List.getElem_mem hi'
    refine ⟨K[i].iq, K[i].ia, by rw [List.getElem?_map, List.getElem?_eq_getElem hi', List.getElem_map]; rfl, ?_⟩
    rw [List.getElem_map]
    exact own_down (h.ok _ hm).rows.ir (h.lo _ hm)
  · rw [List.pairwise_map]
    refine h.sep.imp_of_mem fun {x y} hx hy hxy g h1 h2 => ?_
    have := (h.ok x hx).ih g h1
    have := ((h.ok y hy).rows.ir.lt g h2).1
    omega
theorem Cms.txs {w : World} {b : Nat} {K : List Cm} (h : Cms w b K) : Anq cT 1 9 w b (K.map (·.c.txs)) (K.map Cm.tv) := by
  refine ⟨by simp, fun i hi => ?_, ?_⟩
  · have hi' : i < K.length := by simpa using hi
    have hm := List.getElem_mem hi'
    refine ⟨K[i].tq, K[i].ta, by rw [List.getElem?_map, List.getElem?_eq_getElem hi', List.getElem_map]; rfl, ?_⟩
    rw [List.getElem_map, ← tv_flat]
    exact own_down (h.ok _ hm).rows.tr (h.lo _ hm)
  · rw [List.pairwise_map]
    refine h.sep.imp_of_mem fun {x y} hx hy hxy g h1 h2 => ?_
    have := (h.ok x hx).th g h1
    have := ((h.ok y hy).rows.tr.lt g h2).1
    omega
theorem Cms.ens {w : World} {b : Nat} {K : List Cm} (h : Cms w b K) : Anq ec 5 43 w b (K.map (·.Es)) (K.map Cm.ev) := by
  refine ⟨by simp, fun i hi => ?_, ?_⟩
  · have hi' : i < K.length := by simpa using hi
    have hm := List.getElem_mem hi'
    have hl : K[i].Es.length = K[i].c.ens.length := by rw [← (h.ok _ hm).en, List.length_map]
    refine ⟨K[i].eq, K[i].ea, by rw [List.getElem?_map, List.getElem?_eq_getElem hi', List.getElem_map, hl]; rfl, ?_⟩
    rw [List.getElem_map]
    have := own_down (h.ok _ hm).rows.er (h.lo _ hm)
    unfold Cm.ev at this
    rw [← hl] at this
    exact this
  · rw [List.pairwise_map]
    refine h.sep.imp_of_mem fun {x y} hx hy hxy g h1 h2 => ?_
    have := (h.ok x hx).eh g h1
    have := ((h.ok y hy).rows.er.lt g h2).1
    omega
theorem Cms.sorts {w : World} {b : Nat} {K : List Cm} (h : Cms w b K) : Anq cS 1 41 w b ((K.flatMap (·.Es)).map (·.1.sorts)) ((K.flatMap (·.Es)).map sval) := by
  have mem : ∀ y ∈ K.flatMap (·.Es), ∃ x ∈ K, y ∈ x.Es := fun y hy => List.mem_flatMap.1 hy
  refine ⟨by simp, fun i hi => ?_, ?_⟩
  · have hi' : i < (K.flatMap (·.Es)).length := by simpa using hi
    obtain ⟨x, hx, hy⟩ := mem _ (List.getElem_mem hi')
    refine ⟨_, _, by rw [List.getElem?_map, List.getElem?_eq_getElem hi', List.getElem_map]; rfl, ?_⟩
    rw [List.getElem_map, ← sv_flat]
    exact own_down ((h.ok x hx).rows.sr _ hy) (h.lo x hx)
  · rw [List.pairwise_map, List.pairwise_flatMap]
    refine ⟨fun x hx => ?_, ?_⟩
    · refine (h.ok x hx).sp.imp fun {y z} hyz g h1 h2 => ?_
      unfold sval at h1 h2
      rw [own_eb] at h1 h2
      exact hyz g h1 h2
    · refine h.sep.imp_of_mem fun {x y} hx hy hxy z hz u hu g h1 h2 => ?_
      have := (h.ok x hx).sh z hz g h1
      have := (((h.ok y hy).rows.sr u hu).lt g h2).1
      omega
end Go.Proofs.YtcjnejdemfemfaaGreatDoor

