import Derived.Laws.MakeOwn
import Derived.Test.YtahdkffijlfmnaaGreatDoorT06
namespace Go.Proofs.YtahdkffijlfmnaaGreatDoor
open Go.RowKit
theorem flat_lenF {α β : Type} (f : α → List β) (sz : Nat) (hf : ∀ a, (f a).length = sz) (l : List α) : (l.flatMap f).length = l.length * sz := by
  induction l with
  | nil => simp
  | cons a l ih => rw [List.flatMap_cons, List.length_append, ih, hf, List.length_cons, Nat.succ_mul, Nat.add_comm]
theorem flat_set {α β : Type} (f : α → List β) (sz : Nat) (hf : ∀ a, (f a).length = sz) (l : List α) (i : Nat) (hi : i < l.length) (x : α) (j : Nat) : ((l.set i x).flatMap f)[j]? = if i * sz ≤ j ∧ j < i * sz + sz then (f x)[j - i * sz]? else (l.flatMap f)[j]? := by
  have hl := flat_lenF f sz hf (l.set i x)
  have hl' := flat_lenF f sz hf l
  rw [List.length_set] at hl
  rcases Nat.eq_zero_or_pos sz with rfl | hs
  · rw [if_neg (by omega), List.getElem?_eq_none (by omega), List.getElem?_eq_none (by omega)]
  by_cases hj : j < l.length * sz
  · have hd : j / sz < l.length := by rw [Nat.div_lt_iff_lt_mul hs]; exact hj
    have hm := Nat.mod_lt j hs
    have he : j / sz * sz + j % sz = j := Nat.div_add_mod' j sz
    have e1 := flat_at f sz hf (l.set i x) (j / sz) (j % sz) (by simpa using hd) hm
    have e2 := flat_at f sz hf l (j / sz) (j % sz) hd hm
    rw [he] at e1 e2
    rw [e1, e2]
    by_cases hi2 : i = j / sz
    · subst hi2
      rw [if_pos ⟨by omega, by omega⟩, List.getElem_set_self, show j - j / sz * sz = j % sz by omega]
    · rw [List.getElem_set_ne hi2, if_neg]
      rintro ⟨q1, q2⟩
      apply hi2
      symm
      rw [Nat.div_eq_iff hs]
      omega
  · have := Nat.mul_le_mul_right sz (show i + 1 ≤ l.length from hi)
    rw [Nat.succ_mul] at this
    rw [if_neg (by omega), List.getElem?_eq_none (by omega), List.getElem?_eq_none (by omega)]
theorem sets_self (g : Nat) {e : TypeId} {fz : Nat × Nat} : ∀ (vs : List Value) (o : Nat) (w : World) (cur : Array Value), w.heap[g]? = some (.cells cur e fz) → ∃ c, (w.setCells g o vs).heap[g]? = some (.cells c e fz) ∧ c.size = cur.size
  | [], _, _, cur, h => ⟨cur, h, rfl⟩
  | v :: r, o, w, cur, h => by
    have h2 : (w.setCell ⟨g, o, none⟩ v).heap[g]? = some (.cells (cur.setIfInBounds o v) e fz) := by
      simp only [World.setCell, Array.getElem?_modify, h]
      simp
    obtain ⟨c, q1, q2⟩ := sets_self g r (o + 1) _ _ h2
    exact ⟨c, q1, by rw [q2]; simp⟩
theorem own_sets {w : World} {B : Nat} {e : TypeId} {sz : Nat} {g n cap : Nat} {xs : List Value} (h : w.ownsRow B e sz (.slice (some ⟨g, 0, none⟩) n cap) n xs) (o : Nat) (vs xs' : List Value) (hl : xs'.length = n * sz) (hx : ∀ j, j < n * sz → (w.setCells g o vs).cell? ⟨g, j, none⟩ = xs'[j]?) :
    (w.setCells g o vs).ownsRow B e sz (.slice (some ⟨g, 0, none⟩) n cap) n xs' := by
  rcases h.2 with ⟨q, _⟩ | ⟨g', cap', cur, hv, h1, h2, h3, h4, h5, h6⟩
  · cases q
  · cases hv
    obtain ⟨c, q1, q2⟩ := sets_self g vs o w cur h2
    refine ⟨hl, .inr ⟨g, cap, c, rfl, h1, q1, h3, h4, q2.trans h5, ?_⟩⟩
    apply List.ext_getElem?
    intro j
    rw [List.getElem?_take]
    split
    · rename_i hj
      have := hx j hj
      simp only [World.cell?, q1] at this
      simpa using this
    · rename_i hj
      rw [List.getElem?_eq_none (by omega)]
section
variable {T : Type} {c : T → List Value} {k : Nat} {E : TypeId}
theorem own_setT (hc : ∀ x, (c x).length = k) {w : World} {B g n cap : Nat} {l : List T} (hl : l.length = n) (h : w.ownsRow B E k (.slice (some ⟨g, 0, none⟩) n cap) n (l.flatMap c)) (N : Nat) (hN : N < n) (x : T) : (w.setCells g (N * k) (c x)).ownsRow B E k (.slice (some ⟨g, 0, none⟩) n cap) n ((l.set N x).flatMap c) := by
  have hbk := own_blk h g rfl
  have hNk := Nat.mul_le_mul_right k (show N + 1 ≤ n from hN)
  rw [Nat.succ_mul] at hNk
  refine own_sets h _ _ _ (by rw [flat_lenF c k hc, List.length_set, hl]) fun i hi => ?_
  have hfs := flat_set c k hc l N (by omega) x i
  rw [hfs]
  split
  · rename_i hu
    obtain ⟨y, hy⟩ : ∃ y, (c x)[i - N * k]? = some y := ⟨_, List.getElem?_eq_getElem (show i - N * k < (c x).length by rw [hc]; omega)⟩
    have := World.rangeAt_setCells_same w g (N * k) (c x) (hbk.there _ _ (by rw [hc]; omega)) (i - N * k) y hy
    rw [show N * k + (i - N * k) = i by omega] at this
    rw [this, hy]
  · rename_i hu
    rw [World.cell?_setCells_out _ _ _ _ _ (fun _ _ => by show i < N * k ∨ N * k + (c x).length ≤ i; rw [hc]; omega)]
    exact h.cellAt (g := g) i hi
end
theorem set_blk {w : World} {g j : Nat} {C : Array Value} {t : TypeId} (h : w.heap[g]? = some (.cells C t)) (v : Value) : (w.setCell ⟨g, j, none⟩ v).heap[g]? = some (.cells (C.set! j v) t) := by
  unfold World.setCell
  simp only [Array.getElem?_modify]
  rw [if_pos trivial, h]
  simp
theorem blk_cell {w : World} {g : Nat} {C : Array Value} {t : TypeId} (h : w.heap[g]? = some (.cells C t)) (j : Nat) (v : Value) (hv : C[j]? = some v) : w.cell? ⟨g, j, none⟩ = some v ∧ w.frozen? ⟨g, j, none⟩ = false := by
  refine ⟨?_, ?_⟩
  · unfold World.cell?; rw [h]; simpa using hv
  · unfold World.frozen?; rw [h]; simp
def Full (W : World) (g : Nat) (t : TypeId) (vs : List Value) : Prop := W.heap[g]? = some (.cells vs.toArray t)
theorem Full.new (W : World) (C : Array Value) (t : TypeId) : Full (W.alloc (.cells C t)) W.heap.size t C.toList := by
  unfold Full
  rw [Array.toArray_toList]
  exact World.alloc_heap_new W _
theorem Full.cell {W : World} {g : Nat} {t : TypeId} {vs : List Value} (h : Full W g t vs) (j : Nat) (v : Value) (hv : vs[j]? = some v) : W.cell? ⟨g, j, none⟩ = some v ∧ W.frozen? ⟨g, j, none⟩ = false := blk_cell h j v (by simpa using hv)
theorem Full.lt {W : World} {g : Nat} {t : TypeId} {vs : List Value} (h : Full W g t vs) : g < W.heap.size := (Array.getElem?_eq_some_iff.1 h).1
theorem Full.next {W W' : World} {g : Nat} {t : TypeId} {vs : List Value} (h : Full W g t vs) (k : Below W.heap.size W W') : Full W' g t vs := (k.block _ h.lt).trans h
theorem Full.other {W : World} {g b o : Nat} {t : TypeId} {vs us : List Value} (h : Full W g t vs) (hne : g ≠ b) : Full (W.setCells b o us) g t vs := (sets_heap hne us o W).trans h
theorem Full.other1 {W : World} {g : Nat} {a : Addr} {u : Value} {t : TypeId} {vs : List Value} (h : Full W g t vs) (hne : g ≠ a.block) : Full (W.setCell a u) g t vs := (set_heap hne).trans h
theorem set_mid (a : List Value) (x v : Value) (r : List Value) : (a ++ x :: r).set a.length v = a ++ v :: r := by
  induction a with
  | nil => rfl
  | cons y a ih => simp [ih]
theorem Full.put {g : Nat} {t : TypeId} : ∀ (u : List Value) {W : World} {a b d : List Value}, Full W g t (a ++ (b ++ d)) → u.length = b.length → Full (W.setCells g a.length u) g t (a ++ (u ++ d))
  | [], W, a, b, d, h, e => by
    obtain rfl : b = [] := List.length_eq_zero_iff.1 e.symm
    exact h
  | v :: u, W, a, b, d, h, e => by
    match b, e with
    | x :: b, e =>
      have h1 : Full (W.setCell ⟨g, a.length, none⟩ v) g t ((a ++ [v]) ++ (b ++ d)) := by
        have := set_blk (j := a.length) h v
        unfold Full
        rw [this]
        have e1 : (a ++ (x :: b ++ d)).toArray.set! a.length v = ((a ++ [v]) ++ (b ++ d)).toArray := by
          rw [Array.set!_eq_setIfInBounds, List.setIfInBounds_toArray, List.cons_append, set_mid]
          simp
        rw [e1]
      have h2 := Full.put u h1 (by simpa using e)
      rw [List.length_append, List.length_singleton] at h2
      have e2 : a ++ [v] ++ (u ++ d) = a ++ (v :: u ++ d) := by simp
      rw [e2] at h2
      exact h2
theorem Full.there {W : World} {g : Nat} {t : TypeId} {vs : List Value} (h : Full W g t vs) (o n : Nat) (hn : o + n ≤ vs.length) : W.there g o n := Blk.there (t := t) (n := vs.length) ⟨vs.toArray, h, by simp⟩ o n hn
theorem below_sets {B b : Nat} {a W : World} (h : Below B a W) (hb : B ≤ b) (o : Nat) (vs : List Value) : Below B a (W.setCells b o vs) := by
  induction vs generalizing W o with
  | nil => exact h
  | cons v vs ih => exact ih (h.setCell (p := ⟨b, o, none⟩) hb v) (o + 1)
theorem sv_len (L : List Int) : (sv L).length = L.length := List.length_map ..
end Go.Proofs.YtahdkffijlfmnaaGreatDoor
