import Derived.Test.YtichbejmelkjeaaDoorEMa
import Derived.Laws.MakeOwn
namespace Go.Proofs.YtichbejmelkjeaaDoor
open Go.RowKit

theorem flat_lenF {α β : Type} (f : α → List β) (sz : Nat) (hf : ∀ a, (f a).length = sz) (l : List α) : (l.flatMap f).length = l.length * sz := by
  induction l with
  | nil => simp
  | cons a l ih => rw [List.flatMap_cons, List.length_append, ih, hf, List.length_cons, Nat.succ_mul, Nat.add_comm]
theorem flat_set {α β : Type} (f : α → List β) (sz : Nat) (hf : ∀ a, (f a).length = sz) (l : List α) (i : Nat) (hi : i < l.length) (x : α) (j : Nat) : ((l.set i x).flatMap f)[j]? = if i * sz ≤ j ∧ j < i * sz + sz then (f x)[j - i * sz]? else (l.flatMap f)[j]? := by
  have hl := flat_lenF f sz hf (l.set i x)
  have hl' := flat_lenF f sz hf l
  rw [List.length_set] at hl
  rcases Nat.eq_zero_or_pos sz with rfl | hs
  · rw [if_neg (by omega), List.getElem?_eq_none (by omega), List.getElem?_eq_none (by omega)]
  by_cases hj : j < l.length * sz
  · have hd : j / sz < l.length := by rw [Nat.div_lt_iff_lt_mul hs]; exact hj
    have hm := Nat.mod_lt j hs
    have he : j / sz * sz + j % sz = j := Nat.div_add_mod' j sz
    have e1 := flat_at f sz hf (l.set i x) (j / sz) (j % sz) (by simpa using hd) hm
    have e2 := flat_at f sz hf l (j / sz) (j % sz) hd hm
    rw [he] at e1 e2
    rw [e1, e2]
    by_cases hi2 : i = j / sz
    · subst hi2
      rw [if_pos ⟨by omega, by omega⟩, List.getElem_set_self, show j - j / sz * sz = j % sz by omega]
    · rw [List.getElem_set_ne hi2, if_neg]
      rintro ⟨q1, q2⟩
      apply hi2
      symm
      rw [Nat.div_eq_iff hs]
      omega
  · have := Nat.mul_le_mul_right sz (show i + 1 ≤ l.length from hi)
    rw [Nat.succ_mul] at this
    rw [if_neg (by omega), List.getElem?_eq_none (by omega), List.getElem?_eq_none (by omega)]
theorem sets_self (g : Nat) {e : TypeId} {fz : Nat × Nat} : ∀ (vs : List Value) (o : Nat) (w : World) (cur : Array Value), w.heap[g]? = some (.cells cur e fz) → ∃ c, (w.setCells g o vs).heap[g]? = some (.cells c e fz) ∧ c.size = cur.size
  | [], _, _, cur, h => ⟨cur, h, rfl⟩
  | v :: r, o, w, cur, h => by
    have h2 : (w.setCell ⟨g, o, none⟩ v).heap[g]? = some (.cells (cur.setIfInBounds o v) e fz) := by
      simp only [World.setCell, Array.getElem?_modify, h]
      simp
    obtain ⟨c, q1, q2⟩ := sets_self g r (o + 1) _ _ h2
    exact ⟨c, q1, by rw [q2]; simp⟩
theorem own_sets {w : World} {B : Nat} {e : TypeId} {sz : Nat} {g n cap : Nat} {xs : List Value} (h : w.ownsRow B e sz (.slice (some ⟨g, 0, none⟩) n cap) n xs) (o : Nat) (vs xs' : List Value) (hl : xs'.length = n * sz) (hx : ∀ j, j < n * sz → (w.setCells g o vs).cell? ⟨g, j, none⟩ = xs'[j]?) :
    (w.setCells g o vs).ownsRow B e sz (.slice (some ⟨g, 0, none⟩) n cap) n xs' := by
  rcases h.2 with ⟨q, _⟩ | ⟨g', cap', cur, hv, h1, h2, h3, h4, h5, h6⟩
  · cases q
  · cases hv
    obtain ⟨c, q1, q2⟩ := sets_self g vs o w cur h2
    refine ⟨hl, .inr ⟨g, cap, c, rfl, h1, q1, h3, h4, q2.trans h5, ?_⟩⟩
    apply List.ext_getElem?
    intro j
    rw [List.getElem?_take]
    split
    · rename_i hj
      have := hx j hj
      simp only [World.cell?, q1] at this
      simpa using this
    · rename_i hj
      rw [List.getElem?_eq_none (by omega)]

/-- One element more: in the room that is there, all else as it was; or in a new block, all as it was. -/
theorem app_two {P : Program} {w : World} {base : Nat} {e : TypeId} {size : Nat} (t ty : TypeId) (z : Value) (bytes : Nat) (ht : P.underlying t = some (.slice e)) (hinf : (P.info? e).map (fun i => (i.zero, i.size, i.bytes)) = some (some z, size, bytes)) (hzs : z.cells.size = size) (hsz : 0 < size) (hby : bytes ≤ 1000)
    (v : Value) (n : Nat) (xs : List Value) (hown : w.ownsRow base e size v n xs) (g : Nat) (C : List Value) (hC : C.length = size) (h1 : ∀ u ∈ C, u.oneCell' = true) (hr : w.rangeAt g 0 C) (h40 : n + 1 ≤ 100000000) (hbase : base ≤ w.heap.size) :
    ∃ v' w', (Builtin.append_ #[t, t] ty #[v, .slice (some ⟨g, 0, none⟩) 1 1]).run P w = .ok v' w' ∧ w'.ownsRow base e size v' (n + 1) (xs ++ C) ∧ ((v'.ownBlock = v.ownBlock ∧ w.grownBy w' v.ownBlock) ∨ ((∀ G, v'.ownBlock = some G → w.heap.size ≤ G) ∧ Below w.heap.size w w')) := by
  obtain ⟨q, cap, rfl, hcap, -⟩ := own_slice hown
  rcases Nat.lt_or_ge n cap with hlt | hge
  · rcases hown.2 with ⟨hv, _⟩ | ⟨G, cap', cur, hv, -⟩
    · cases hv
      omega
    · cases hv
      obtain ⟨w', e1, e2, e3⟩ := app_in t ty z bytes ht hinf hzs hsz hby G n cap xs hown g C hC h1 hr h40 hbase hlt
      exact ⟨_, w', e1, e2, .inl ⟨rfl, e3⟩⟩
  · obtain rfl : cap = n := by omega
    obtain ⟨v', w', e1, e2, e3⟩ := app_new t ty z bytes ht hinf hzs hsz hby q cap xs hown g C hC h1 hr h40 hbase
    exact ⟨v', w', e1, own_down e2 hbase, .inr ⟨fun G hG => (e2.lt G hG).1, e3⟩⟩

/-- A list reads so, whatever lies behind it. -/
def Hold (w : World) (x : Value) (n : Nat) (xs : List Value) : Prop := ∃ q cp, x = .slice q n cp ∧ (0 < n → ∃ g, q = some ⟨g, 0, none⟩ ∧ w.rangeAt g 0 xs)
theorem Hold.of {w : World} {B : Nat} {e : TypeId} {sz : Nat} {v : Value} {n : Nat} {xs : List Value} (h : w.ownsRow B e sz v n xs) : Hold w v n xs := by
  obtain ⟨q, cp, e1, _, h2⟩ := own_slice h
  exact ⟨q, cp, e1, h2⟩
theorem Hold.same {w w' : World} {x : Value} {n : Nat} {xs : List Value} (h : Hold w x n xs) (hk : ∀ g, x.ownBlock = some g → w'.heap[g]? = w.heap[g]?) : Hold w' x n xs := by
  obtain ⟨q, cp, rfl, h2⟩ := h
  refine ⟨q, cp, rfl, fun h0 => ?_⟩
  obtain ⟨g, rfl, hr⟩ := h2 h0
  exact ⟨g, rfl, range_same hr (hk g rfl)⟩

section
variable {T : Type} {c : T → List Value} {k : Nat} {E : TypeId}

/-- An element of a list of its own is written. -/
theorem own_setT (hc : ∀ x, (c x).length = k) {w : World} {B g n cap : Nat} {l : List T} (hl : l.length = n) (h : w.ownsRow B E k (.slice (some ⟨g, 0, none⟩) n cap) n (l.flatMap c)) (N : Nat) (hN : N < n) (x : T) : (w.setCells g (N * k) (c x)).ownsRow B E k (.slice (some ⟨g, 0, none⟩) n cap) n ((l.set N x).flatMap c) := by
  have hbk := own_blk h g rfl
  have hNk := Nat.mul_le_mul_right k (show N + 1 ≤ n from hN)
  rw [Nat.succ_mul] at hNk
  refine own_sets h _ _ _ (by rw [flat_lenF c k hc, List.length_set, hl]) fun i hi => ?_
  have hfs := flat_set c k hc l N (by omega) x i
  rw [hfs]
  split
  · rename_i hu
    obtain ⟨y, hy⟩ : ∃ y, (c x)[i - N * k]? = some y := ⟨_, List.getElem?_eq_getElem (show i - N * k < (c x).length by rw [hc]; omega)⟩
    have := World.rangeAt_setCells_same w g (N * k) (c x) (hbk.there _ _ (by rw [hc]; omega)) (i - N * k) y hy
    rw [show N * k + (i - N * k) = i by omega] at this
    rw [this, hy]
  · rename_i hu
    rw [World.cell?_setCells_out _ _ _ _ _ (fun _ _ => by show i < N * k ∨ N * k + (c x).length ≤ i; rw [hc]; omega)]
    exact h.cellAt (g := g) i hi

end
/-! Blocks whose content is known in full. -/
theorem set_blk {w : World} {g j : Nat} {C : Array Value} {t : TypeId} (h : w.heap[g]? = some (.cells C t)) (v : Value) : (w.setCell ⟨g, j, none⟩ v).heap[g]? = some (.cells (C.set! j v) t) := by
  unfold World.setCell
  simp only [Array.getElem?_modify]
  rw [if_pos trivial, h]
  simp
theorem blk_cell {w : World} {g : Nat} {C : Array Value} {t : TypeId} (h : w.heap[g]? = some (.cells C t)) (j : Nat) (v : Value) (hv : C[j]? = some v) : w.cell? ⟨g, j, none⟩ = some v ∧ w.frozen? ⟨g, j, none⟩ = false := by
  refine ⟨?_, ?_⟩
  · unfold World.cell?; rw [h]; simpa using hv
  · unfold World.frozen?; rw [h]; simp
def Full (W : World) (g : Nat) (t : TypeId) (vs : List Value) : Prop := W.heap[g]? = some (.cells vs.toArray t)
theorem Full.new (W : World) (C : Array Value) (t : TypeId) : Full (W.alloc (.cells C t)) W.heap.size t C.toList := by
  unfold Full
  rw [Array.toArray_toList]
  exact World.alloc_heap_new W _
theorem Full.cell {W : World} {g : Nat} {t : TypeId} {vs : List Value} (h : Full W g t vs) (j : Nat) (v : Value) (hv : vs[j]? = some v) : W.cell? ⟨g, j, none⟩ = some v ∧ W.frozen? ⟨g, j, none⟩ = false := blk_cell h j v (by simpa using hv)
theorem Full.lt {W : World} {g : Nat} {t : TypeId} {vs : List Value} (h : Full W g t vs) : g < W.heap.size := (Array.getElem?_eq_some_iff.1 h).1
theorem Full.next {W W' : World} {g : Nat} {t : TypeId} {vs : List Value} (h : Full W g t vs) (k : Below W.heap.size W W') : Full W' g t vs := (k.block _ h.lt).trans h
theorem Full.low {W W' : World} {g B : Nat} {t : TypeId} {vs : List Value} (h : Full W g t vs) (k : Below B W W') (hg : g < B) : Full W' g t vs := (k.block _ hg).trans h
theorem Full.other {W : World} {g b o : Nat} {t : TypeId} {vs us : List Value} (h : Full W g t vs) (hne : g ≠ b) : Full (W.setCells b o us) g t vs := (sets_heap hne us o W).trans h
theorem Full.other1 {W : World} {g : Nat} {a : Addr} {u : Value} {t : TypeId} {vs : List Value} (h : Full W g t vs) (hne : g ≠ a.block) : Full (W.setCell a u) g t vs := (set_heap hne).trans h
theorem Full.ne {W : World} {g g' : Nat} {t t' : TypeId} {vs vs' : List Value} (h : Full W g t vs) (k : Full W g' t' vs') (e : t ≠ t') : g ≠ g' := by
  rintro rfl
  unfold Full at h k
  rw [h] at k
  simp only [Option.some.injEq, Obj.cells.injEq] at k
  exact e k.2.1
theorem set_mid (a : List Value) (x v : Value) (r : List Value) : (a ++ x :: r).set a.length v = a ++ v :: r := by
  induction a with
  | nil => rfl
  | cons y a ih => simp [ih]
theorem Full.put {g : Nat} {t : TypeId} : ∀ (u : List Value) {W : World} {a b d : List Value}, Full W g t (a ++ (b ++ d)) → u.length = b.length → Full (W.setCells g a.length u) g t (a ++ (u ++ d))
  | [], W, a, b, d, h, e => by
    obtain rfl : b = [] := List.length_eq_zero_iff.1 e.symm
    exact h
  | v :: u, W, a, b, d, h, e => by
    match b, e with
    | x :: b, e =>
      have h1 : Full (W.setCell ⟨g, a.length, none⟩ v) g t ((a ++ [v]) ++ (b ++ d)) := by
        have := set_blk (j := a.length) h v
        unfold Full
        rw [this]
        have e1 : (a ++ (x :: b ++ d)).toArray.set! a.length v = ((a ++ [v]) ++ (b ++ d)).toArray := by
          rw [Array.set!_eq_setIfInBounds, List.setIfInBounds_toArray, List.cons_append, set_mid]
          simp
        rw [e1]
      have h2 := Full.put u h1 (by simpa using e)
      rw [List.length_append, List.length_singleton] at h2
      have e2 : a ++ [v] ++ (u ++ d) = a ++ (v :: u ++ d) := by simp
      rw [e2] at h2
      exact h2
theorem Full.put1 {W : World} {g : Nat} {t : TypeId} {a d : List Value} {x : Value} (h : Full W g t (a ++ (x :: d))) (v : Value) : Full (W.setCell ⟨g, a.length, none⟩ v) g t (a ++ (v :: d)) := Full.put (g := g) (t := t) [v] (b := [x]) (d := d) h rfl
theorem Full.there {W : World} {g : Nat} {t : TypeId} {vs : List Value} (h : Full W g t vs) (o n : Nat) (hn : o + n ≤ vs.length) : W.there g o n := Blk.there (t := t) (n := vs.length) ⟨vs.toArray, h, by simp⟩ o n hn
theorem Full.range {W : World} {g : Nat} {t : TypeId} {a d : List Value} (h : Full W g t (a ++ d)) : W.rangeAt g 0 a := fun j v hv => by
  rw [Nat.zero_add]
  refine (h.cell j v ?_).1
  rw [List.getElem?_append_left (List.getElem?_eq_some_iff.1 hv).1]
  exact hv
theorem below_sets {B b : Nat} {a W : World} (h : Below B a W) (hb : B ≤ b) (o : Nat) (vs : List Value) : Below B a (W.setCells b o vs) := by
  induction vs generalizing W o with
  | nil => exact h
  | cons v vs ih => exact ih (h.setCell (p := ⟨b, o, none⟩) hb v) (o + 1)

theorem Full.four {W : World} {g : Nat} {t : TypeId} {a b c d : Value} (h : Full W g t [a, b, c, d]) : W.cell? ⟨g, 0, none⟩ = some a ∧ W.cell? ⟨g, 1, none⟩ = some b ∧ W.cell? ⟨g, 2, none⟩ = some c ∧ W.cell? ⟨g, 3, none⟩ = some d :=
  ⟨(h.cell 0 _ rfl).1, (h.cell 1 _ rfl).1, (h.cell 2 _ rfl).1, (h.cell 3 _ rfl).1⟩

theorem cells_new (w : World) (C : Array Value) (t : TypeId) (j : Nat) (v : Value) (h : C[j]? = some v) : (w.alloc (.cells C t)).cell? ⟨w.heap.size, j, none⟩ = some v ∧ (w.alloc (.cells C t)).frozen? ⟨w.heap.size, j, none⟩ = false := by
  have e := World.alloc_heap_new w (.cells C t)
  refine ⟨?_, ?_⟩
  · unfold World.cell?; rw [e]; simpa using h
  · unfold World.frozen?; rw [e]; simp
theorem row_get {w : World} {B : Nat} {q : Option Addr} {n : Nat} {xs : List Value} (h : Row w B q n xs) (j : Nat) (hj : j < n) : ∃ g o, q = some ⟨g, o, none⟩ ∧ g < B ∧ ∀ i v, xs[i]? = some v → w.cell? ⟨g, o + i, none⟩ = some v := by
  obtain ⟨g, o, h1, h2, h3⟩ := h (by omega)
  exact ⟨g, o, h1, h2, h3⟩
set_option maxRecDepth 100000 in
set_option maxHeartbeats 4000000 in
/-! A list with a mark behind it: append(append([]T{}, l...), x)[:len(l)], in whatever order. -/
section
variable {P : Program} {e : TypeId} {size : Nat}
/-- What lies elsewhere, appended. -/
theorem app_src (t ty : TypeId) (z : Value) (bytes : Nat) (ht : P.underlying t = some (.slice e)) (hinf : (P.info? e).map (fun i => (i.zero, i.size, i.bytes)) = some (some z, size, bytes)) (hzs : z.cells.size = size) (hsz : 0 < size) (hby : bytes ≤ 1000)
    {w : World} {base G n cap : Nat} {xs : List Value} (hown : w.ownsRow base e size (.slice (some ⟨G, 0, none⟩) n cap) n xs) (q : Option Addr) (m c : Nat) (ys : List Value) (hl : ys.length = m * size) (hq : q = none → m = 0) (hr : 0 < m → ∃ g o, q = some ⟨g, o, none⟩ ∧ w.rangeAt g o ys) (h1 : ∀ u ∈ ys, u.oneCell' = true) (h40 : n + m ≤ 100000000) (hbase : base ≤ w.heap.size) :
    ∃ G' cap' w', (Builtin.append_ #[t, t] ty #[.slice (some ⟨G, 0, none⟩) n cap, .slice q m c]).run P w = .ok (.slice (some ⟨G', 0, none⟩) (n + m) cap') w' ∧ w'.ownsRow base e size (.slice (some ⟨G', 0, none⟩) (n + m) cap') (n + m) (xs ++ ys) ∧ w.grownBy w' (some G) := by
  obtain ⟨i, hi, hz0, hz1, hz2⟩ := info_parts hinf
  have hb : (n + m) * bytes ≤ 140737488355328 := Nat.le_trans (Nat.mul_le_mul h40 hby) (by decide)
  cases q with
  | none =>
    obtain rfl := hq rfl
    obtain rfl : ys = [] := List.length_eq_zero_iff.1 (by rw [hl, Nat.zero_mul])
    refine ⟨G, cap, w, ?_, by rw [List.append_nil]; exact hown, World.grownBy.refl w _⟩
    rcases hown.2 with ⟨q, _⟩ | ⟨g, cap', cur, hv, _, _, hnc, _⟩
    · cases q
    · cases hv
      simp [Builtin.append_, run_underlying ht, sizeOf, typeInfo, hi, Builtin.lenOf, Builtin.firstCells, hnc, storeCells]
  | some a =>
    have hnews : ∀ j u, ys[j]? = some u → w.cell? (a.add j) = some u := fun j u hu => by
      rcases Nat.eq_zero_or_pos m with rfl | hm
      · obtain rfl : ys = [] := List.length_eq_zero_iff.1 (by rw [hl, Nat.zero_mul])
        cases hu
      · obtain ⟨g, o, hq, hg⟩ := hr hm
        cases hq
        rw [Addr.add_mid]
        exact hg j u hu
    obtain ⟨v', w', hr, h2, h3, h4⟩ := run_append_own (P := P) w base t ty e i z size bytes ht hi hz0 hz1 hz2 hzs hsz _ n xs hown a m c ys hl hnews h1 (by unfold maxLen; omega) hb hbase
    rcases h2.2 with ⟨q, -⟩ | ⟨G', cap', cur, rfl, -⟩
    · have := (h4.1 q).1
      cases this
    · exact ⟨G', cap', w', hr, h2, h3⟩
/-- The mark behind it. -/
theorem app_mark (t ty : TypeId) (z : Value) (bytes : Nat) (ht : P.underlying t = some (.slice e)) (hinf : (P.info? e).map (fun i => (i.zero, i.size, i.bytes)) = some (some z, size, bytes)) (hzs : z.cells.size = size) (hsz : 0 < size) (hby : bytes ≤ 1000)
    {w : World} {base G n cap : Nat} {xs : List Value} (hown : w.ownsRow base e size (.slice (some ⟨G, 0, none⟩) n cap) n xs) (g : Nat) (C : List Value) (hC : C.length = size) (h1 : ∀ u ∈ C, u.oneCell' = true) (hr : w.rangeAt g 0 C) (h40 : n + 1 ≤ 100000000) (hbase : base ≤ w.heap.size) :
    ∃ G' cap' w', (Builtin.append_ #[t, t] ty #[.slice (some ⟨G, 0, none⟩) n cap, .slice (some ⟨g, 0, none⟩) 1 1]).run P w = .ok (.slice (some ⟨G', 0, none⟩) (n + 1) cap') w' ∧ w'.ownsRow base e size (.slice (some ⟨G', 0, none⟩) (n + 1) cap') (n + 1) (xs ++ C) ∧ w.grownBy w' (some G) :=
  app_src t ty z bytes ht hinf hzs hsz hby hown (some ⟨g, 0, none⟩) 1 1 C (by rw [hC, Nat.one_mul]) (fun h => by cases h) (fun _ => ⟨g, 0, rfl, hr⟩) h1 h40 hbase
theorem own_empty (X : World) : (X.alloc (.cells #[] e)).ownsRow X.heap.size e size (.slice (some ⟨X.heap.size, 0, none⟩) 0 0) 0 [] :=
  ⟨by simp, .inr ⟨X.heap.size, 0, #[], rfl, Nat.le_refl _, World.alloc_heap_new X _, Nat.le_refl _, Nat.zero_le _, by simp, by simp⟩⟩
/-- What is there behind it. -/
structure Mk (X W : World) (e : TypeId) (size G cap n : Nat) (xs : List Value) : Prop where
  own : W.ownsRow X.heap.size e size (.slice (some ⟨G, 0, none⟩) (n + 1) cap) (n + 1) xs
  b : Below X.heap.size X W
theorem Mk.le {X W : World} {G cap n : Nat} {xs : List Value} (h : Mk X W e size G cap n xs) : n + 1 ≤ cap := by
  rcases h.own.2 with ⟨q, _⟩ | ⟨g, cap', cur, hv, _, _, hnc, _⟩
  · cases q
  · cases hv; exact hnc
theorem dup_a (t : TypeId) (z : Value) (bytes : Nat) (ht : P.underlying t = some (.slice e)) (hinf : (P.info? e).map (fun i => (i.zero, i.size, i.bytes)) = some (some z, size, bytes)) (hzs : z.cells.size = size) (hsz : 0 < size) (hby : bytes ≤ 1000)
    (X : World) (q : Option Addr) (n c B : Nat) (ys : List Value) (hl : ys.length = n * size) (hq : q = none → n = 0) (hr : Row X B q n ys) (hB : B ≤ X.heap.size) (h1 : ∀ u ∈ ys, u.oneCell' = true) (C : Array Value) (hC : C.size = size) (hC1 : ∀ u ∈ C.toList, u.oneCell' = true) (h40 : n + 1 ≤ 100000000) :
    ∃ G1 c1 w1 G2 c2 w2, (Builtin.append_ #[t, t] t #[.slice (some ⟨X.heap.size, 0, none⟩) 0 0, .slice q n c]).run P (X.alloc (.cells #[] e)).drew = .ok (.slice (some ⟨G1, 0, none⟩) n c1) w1 ∧ Below X.heap.size X w1 ∧
      (Builtin.append_ #[t, t] t #[.slice (some ⟨G1, 0, none⟩) n c1, .slice (some ⟨w1.heap.size, 0, none⟩) 1 1]).run P (w1.alloc (.cells C e)) = .ok (.slice (some ⟨G2, 0, none⟩) (n + 1) c2) w2 ∧ Mk X w2 e size G2 c2 n (ys ++ C.toList) := by
  have b0 : Below X.heap.size X (X.alloc (.cells #[] e)).drew := ((Below.refl _ X).alloc (Nat.le_refl _) _).drew
  have o0 : (X.alloc (.cells #[] e)).drew.ownsRow X.heap.size e size (.slice (some ⟨X.heap.size, 0, none⟩) 0 0) 0 [] := own_next (own_empty X) (Below.refl _ _).drew
  obtain ⟨G1, c1, w1, r1, o1, g1⟩ := app_src t t z bytes ht hinf hzs hsz hby o0 q n c ys hl hq (fun hn => by
    obtain ⟨g, o, e1, -, e2⟩ := (hr.below b0 hB) hn
    exact ⟨g, o, e1, e2⟩) h1 (by omega) b0.size
  rw [Nat.zero_add] at r1 o1
  rw [List.nil_append] at o1
  have k1 : Below X.heap.size X w1 := b0.trans ((Below.refl _ _).grown g1 b0.size fun x hx => by cases hx; exact Nat.le_refl _)
  have b1 : Below w1.heap.size w1 (w1.alloc (.cells C e)) := (Below.refl _ w1).alloc (Nat.le_refl _) _
  obtain ⟨G2, c2, w2, r2, o2, g2⟩ := app_mark t t z bytes ht hinf hzs hsz hby (own_next o1 b1) w1.heap.size C.toList (by simpa using hC) hC1 (fun j u hu => by
    rw [Nat.zero_add]
    simp only [World.cell?, World.alloc_heap_new w1]
    simpa using hu) (by omega) (Nat.le_trans k1.size b1.size)
  have k2 : Below X.heap.size X (w1.alloc (.cells C e)) := below2 k1 b1
  exact ⟨G1, c1, w1, G2, c2, w2, r1, k1, r2, o2, k2.trans ((Below.refl _ _).grown g2 k2.size fun x hx => by cases hx; exact (o1.lt _ rfl).1)⟩
theorem dup_b (t : TypeId) (z : Value) (bytes : Nat) (ht : P.underlying t = some (.slice e)) (hinf : (P.info? e).map (fun i => (i.zero, i.size, i.bytes)) = some (some z, size, bytes)) (hzs : z.cells.size = size) (hsz : 0 < size) (hby : bytes ≤ 1000)
    (X Y : World) (E S : Nat) (bY : Below X.heap.size X Y) (hE : Y.heap[E]? = some (.cells #[] e)) (C : Array Value) (hS : Y.heap[S]? = some (.cells C e)) (hE0 : X.heap.size ≤ E) (hES : E ≠ S) (q : Option Addr) (n c B : Nat) (ys : List Value) (hl : ys.length = n * size) (hq : q = none → n = 0) (hr : Row X B q n ys) (hB : B ≤ X.heap.size) (h1 : ∀ u ∈ ys, u.oneCell' = true) (hC : C.size = size) (hC1 : ∀ u ∈ C.toList, u.oneCell' = true) (h40 : n + 1 ≤ 100000000) :
    ∃ G1 c1 w1 G2 c2 w2, (Builtin.append_ #[t, t] t #[.slice (some ⟨E, 0, none⟩) 0 0, .slice q n c]).run P Y = .ok (.slice (some ⟨G1, 0, none⟩) n c1) w1 ∧ Below X.heap.size X w1 ∧
      (Builtin.append_ #[t, t] t #[.slice (some ⟨G1, 0, none⟩) n c1, .slice (some ⟨S, 0, none⟩) 1 1]).run P w1 = .ok (.slice (some ⟨G2, 0, none⟩) (n + 1) c2) w2 ∧ Mk X w2 e size G2 c2 n (ys ++ C.toList) := by
  have o0 : Y.ownsRow X.heap.size e size (.slice (some ⟨E, 0, none⟩) 0 0) 0 [] := ⟨by simp, .inr ⟨E, 0, #[], rfl, hE0, hE, Nat.le_refl _, Nat.zero_le _, by simp, by simp⟩⟩
  obtain ⟨G1, c1, w1, r1, o1, g1⟩ := app_src t t z bytes ht hinf hzs hsz hby o0 q n c ys hl hq (fun hn => by
    obtain ⟨g, o, e1, -, e2⟩ := (hr.below bY hB) hn
    exact ⟨g, o, e1, e2⟩) h1 (by omega) bY.size
  rw [Nat.zero_add] at r1 o1
  rw [List.nil_append] at o1
  have k1 : Below X.heap.size X w1 := bY.trans ((Below.refl _ _).grown g1 bY.size fun x hx => by cases hx; exact hE0)
  have hS1 : w1.heap[S]? = some (.cells C e) := (g1.block S (Array.getElem?_eq_some_iff.1 hS).1 (fun h => hES (by cases h; rfl))).trans hS
  obtain ⟨G2, c2, w2, r2, o2, g2⟩ := app_mark t t z bytes ht hinf hzs hsz hby o1 S C.toList (by simpa using hC) hC1 (fun j u hu => by
    rw [Nat.zero_add]
    simp only [World.cell?, hS1]
    simpa using hu) (by omega) k1.size
  exact ⟨G1, c1, w1, G2, c2, w2, r1, k1, r2, o2, k1.trans ((Below.refl _ _).grown g2 k1.size fun x hx => by cases hx; exact (o1.lt _ rfl).1)⟩
/-- An append whose run is known, at a step of a region that draws. -/
theorem step_apr {ops : Array Oper} {o : Oper} {a : Act} {w : World} {K : Act → World → Prop} {Q : Exit → Act → World → Prop} {E : Prop} {v' : Value} {w' : World} (hgd : o.guard = none) (s x : Operand) (t : TypeId)
    (ho : o.op = .call { callee := .builtin .append, args := #[s, x], argTypes := #[t, t] }) (ht : o.type = t) (vs vx : Value) (hr : (Builtin.append_ #[t, t] t #[vs, vx]).run P w = .ok v' w') (hs : a.eval s = vs) (hx : a.eval x = vx)
    (h : K (a.put o.dst v') w') : if Region.wanted o (yielded ops a.tmps) = true then Oper.wp P o a w K Q else E := by
  have hw : Region.wanted o (yielded ops a.tmps) = true := by simp [Region.wanted, hgd]
  rw [if_pos hw]
  unfold Oper.wp execOp
  simp only [ho, resolve, invoke, builtin, Sem.run_bind, Sem.run_pure, Result.andThen_ok, List.map_toArray, List.map_cons, List.map_nil, hs, hx, ht, hr]
  exact h
end
end Go.Proofs.YtichbejmelkjeaaDoor
