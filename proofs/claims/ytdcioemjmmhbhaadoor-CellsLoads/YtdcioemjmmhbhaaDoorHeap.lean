import Derived.Test.YtdcioemjmmhbhaaDoorJa
namespace Go.Proofs.YtdcioemjmmhbhaaDoor
open Go.RowKit

/-- A value: kind, int, text. -/
abbrev V := Int × Int × ByteArray
def vc (v : V) : List Value := [.int .i64 v.1, .int .i64 v.2.1, .string v.2.2]
def vcs (l : List V) : List Value := l.flatMap vc
theorem vcs_len (l : List V) : (vcs l).length = l.length * 3 := by
  unfold vcs
  induction l with
  | nil => rfl
  | cons a l ih => rw [List.flatMap_cons, List.length_append, ih, List.length_cons]; simp [vc]; omega
theorem vcs_app (a b : List V) : vcs (a ++ b) = vcs a ++ vcs b := List.flatMap_append
theorem vcs_one {l : List V} : ∀ v ∈ vcs l, v.oneCell' = true := fun v hv => by
  unfold vcs at hv
  obtain ⟨x, _, hx⟩ := List.mem_flatMap.1 hv
  unfold vc at hx
  simp only [List.mem_cons, List.not_mem_nil, or_false] at hx
  rcases hx with rfl | rfl | rfl <;> rfl
theorem flat_at {α β : Type} (f : α → List β) (sz : Nat) (hf : ∀ a, (f a).length = sz) : ∀ (l : List α) (i j : Nat) (hi : i < l.length), j < sz → (l.flatMap f)[i * sz + j]? = (f l[i])[j]?
  | [], _, _, hi, _ => by simp at hi
  | a :: l, 0, j, _, hj => by
    rw [List.flatMap_cons, Nat.zero_mul, Nat.zero_add, List.getElem?_append_left (by rw [hf]; exact hj)]
    rfl
  | a :: l, i + 1, j, hi, hj => by
    rw [List.flatMap_cons, List.getElem?_append_right (by rw [hf, Nat.succ_mul]; omega), hf, Nat.succ_mul, show i * sz + sz + j - sz = i * sz + j by omega]
    exact flat_at f sz hf l i j (by simpa using hi) hj
/-- The three cells of a value among others. -/
theorem vcs_get {w : World} {g o : Nat} {l : List V} (h : w.rangeAt g o (vcs l)) (i : Nat) (hi : i < l.length) : w.rangeAt g (o + i * 3) (vc l[i]) := fun j v hv => by
  have hj : j < 3 := (List.getElem?_eq_some_iff.1 hv).1
  have := flat_at vc 3 (fun _ => rfl) l i j hi hj
  rw [Nat.add_assoc]
  exact h _ v (this.trans hv)
theorem flat_set {α β : Type} (f : α → List β) (sz : Nat) (hf : ∀ a, (f a).length = sz) (l : List α) (i : Nat) (hi : i < l.length) (x : α) (j : Nat) : ((l.set i x).flatMap f)[j]? = if i * sz ≤ j ∧ j < i * sz + sz then (f x)[j - i * sz]? else (l.flatMap f)[j]? := by
  have hlen : ∀ l : List α, (l.flatMap f).length = l.length * sz := fun l => by
    induction l with
    | nil => simp
    | cons a l ih => rw [List.flatMap_cons, List.length_append, ih, hf, List.length_cons, Nat.succ_mul, Nat.add_comm]
  have hl := hlen (l.set i x)
  have hl' := hlen l
  rw [List.length_set] at hl
  rcases Nat.eq_zero_or_pos sz with rfl | hs
  · rw [if_neg (by omega), List.getElem?_eq_none (by omega), List.getElem?_eq_none (by omega)]
  by_cases hj : j < l.length * sz
  · have hd : j / sz < l.length := by rw [Nat.div_lt_iff_lt_mul hs]; exact hj
    have hm := Nat.mod_lt j hs
    have he : j / sz * sz + j % sz = j := Nat.div_add_mod' j sz
    have e1 := flat_at f sz hf (l.set i x) (j / sz) (j % sz) (by simpa using hd) hm
    have e2 := flat_at f sz hf l (j / sz) (j % sz) hd hm
    rw [he] at e1 e2
    rw [e1, e2]
    by_cases hi2 : i = j / sz
    · subst hi2
      rw [if_pos ⟨by omega, by omega⟩, List.getElem_set_self, show j - j / sz * sz = j % sz by omega]
    · rw [List.getElem_set_ne hi2, if_neg]
      rintro ⟨q1, q2⟩
      apply hi2
      symm
      rw [Nat.div_eq_iff hs]
      have : i * sz + sz = (i + 1) * sz := by rw [Nat.succ_mul]
      omega
  · have : (i + 1) * sz ≤ l.length * sz := Nat.mul_le_mul_right _ hi
    rw [Nat.succ_mul] at this
    rw [if_neg (by omega), List.getElem?_eq_none (by omega), List.getElem?_eq_none (by omega)]

/-- One array: its kind, its elements, and where they lie. -/
structure Ar where
  kind : Int
  els : List V
  q : Option Addr
  g : Nat
  o : Nat
def ac (a : Ar) : List Value := [.int .i64 a.kind, .slice a.q a.els.length a.els.length]
def acs (As : List Ar) : List Value := As.flatMap ac
/-- What a heap holds: kinds and elements. -/
abbrev Hp := List (Int × List V)
def absA (As : List Ar) : Hp := As.map fun a => (a.kind, a.els)
theorem abs_len (As : List Ar) : (absA As).length = As.length := by simp [absA]
def usedS : Hp → Nat
  | [] => 0
  | a :: A => a.2.length + 1 + usedS A
theorem used_app (A B : Hp) : usedS (A ++ B) = usedS A + usedS B := by
  induction A with
  | nil => simp [usedS]
  | cons a A ih => rw [List.cons_append, usedS, ih, usedS]; omega
theorem used_ge (A : Hp) : A.length ≤ usedS A := by
  induction A with
  | nil => simp [usedS]
  | cons a A ih => rw [usedS, List.length_cons]; omega
theorem used_mem {A : Hp} {x : Int × List V} (h : x ∈ A) : x.2.length + 1 ≤ usedS A := by
  induction A with
  | nil => cases h
  | cons a A ih =>
    rw [usedS]
    rcases List.mem_cons.1 h with rfl | h
    · omega
    · have := ih h; omega
/-- May a value be an element? -/
def mayS (v : V) (kind : Int) (cnt : Nat) : Bool := (v.1 == kind && okV v.1 v.2.1 v.2.2) && (kind != 4 || decide (v.2.1 ≤ (cnt : Int)))

structure HeapG (w : World) (p lim : Nat) (As : List Ar) (rq : Option Addr) (rn rg ro : Nat) (av : Value) (F : Nat → Prop) (u : Nat × Nat) : Prop where
  blk : Blk w p 78 4
  c0 : w.cell? ⟨p, 0, none⟩ = some (.int .i64 (lim : Int))
  c1 : w.cell? ⟨p, 1, none⟩ = some (.int .i64 (u.1 : Int))
  c2 : w.cell? ⟨p, 2, none⟩ = some (.slice rq rn rn)
  c3 : w.cell? ⟨p, 3, none⟩ = some av
  arrs : w.ownsRow 0 82 2 av As.length (acs As)
  els : ∀ a ∈ As, a.els ≠ [] → a.q = some ⟨a.g, a.o, none⟩ ∧ Blk w a.g 37 (a.o + a.els.length * 3) ∧ w.rangeAt a.g a.o (vcs a.els) ∧ F a.g
  room : 0 < rn → rq = some ⟨rg, ro, none⟩ ∧ Blk w rg 37 (ro + rn * 3) ∧ F rg
  sep : As.Pairwise fun a b => a.els ≠ [] → b.els ≠ [] → a.g ≠ b.g ∨ a.o + a.els.length * 3 ≤ b.o
  sepr : ∀ a ∈ As, a.els ≠ [] → 0 < rn → a.g ≠ rg ∨ a.o + a.els.length * 3 ≤ ro
  fp : F p
  fa : ∀ g, av.ownBlock = some g → F g
  flt : ∀ g, F g → g < w.heap.size
  le : usedS (absA As) ≤ lim
  top : lim ≤ 100000
  small : rn ≤ 100000
  ok : ∀ a ∈ As, (1 ≤ a.kind ∧ a.kind ≤ 4) ∧ ∀ v ∈ a.els, mayS v a.kind u.2 = true

abbrev HeapAt (w : World) (p lim : Nat) (As : List Ar) (rq : Option Addr) (rn rg ro : Nat) (av : Value) (F : Nat → Prop) : Prop := HeapG w p lim As rq rn rg ro av F (usedS (absA As), As.length)
theorem HeapG.same {w w' : World} {p lim : Nat} {As : List Ar} {rq : Option Addr} {rn rg ro : Nat} {av : Value} {F : Nat → Prop} {u : Nat × Nat} (h : HeapG w p lim As rq rn rg ro av F u) (hk : ∀ b, F b → w'.heap[b]? = w.heap[b]?) (hs : w.heap.size ≤ w'.heap.size) : HeapG w' p lim As rq rn rg ro av F u where
  blk := h.blk.same (hk p h.fp)
  c0 := (World.cell?_of_block (w := w) (a := ⟨p, 0, none⟩) (hk p h.fp)).trans h.c0
  c1 := (World.cell?_of_block (w := w) (a := ⟨p, 1, none⟩) (hk p h.fp)).trans h.c1
  c2 := (World.cell?_of_block (w := w) (a := ⟨p, 2, none⟩) (hk p h.fp)).trans h.c2
  c3 := (World.cell?_of_block (w := w) (a := ⟨p, 3, none⟩) (hk p h.fp)).trans h.c3
  arrs := own_same h.arrs fun g hg => hk g (h.fa g hg)
  els a ha hn := by obtain ⟨h1, h2, h3, h4⟩ := h.els a ha hn; exact ⟨h1, h2.same (hk _ h4), range_same h3 (hk _ h4), h4⟩
  room hn := by obtain ⟨h1, h2, h4⟩ := h.room hn; exact ⟨h1, h2.same (hk _ h4), h4⟩
  sep := h.sep
  sepr := h.sepr
  fp := h.fp
  fa := h.fa
  flt g hg := Nat.lt_of_lt_of_le (h.flt g hg) hs
  le := h.le
  top := h.top
  small := h.small
  ok := h.ok

theorem HeapG.recount {w : World} {p lim : Nat} {As : List Ar} {rq : Option Addr} {rn rg ro : Nat} {av : Value} {F : Nat → Prop} {u : Nat × Nat} (h : HeapG w p lim As rq rn rg ro av F u) (c : Nat) (hok : ∀ a ∈ As, (1 ≤ a.kind ∧ a.kind ≤ 4) ∧ ∀ v ∈ a.els, mayS v a.kind c = true) : HeapG w p lim As rq rn rg ro av F (u.1, c) :=
  ⟨h.blk, h.c0, h.c1, h.c2, h.c3, h.arrs, h.els, h.room, h.sep, h.sepr, h.fp, h.fa, h.flt, h.le, h.top, h.small, hok⟩
/-- A heap of the program in memory. -/
def HeapOf (w : World) (p lim : Nat) (A : Hp) (F : Nat → Prop) : Prop := ∃ As rq rn rg ro av, absA As = A ∧ HeapAt w p lim As rq rn rg ro av F
theorem HeapOf.same {w w' : World} {p lim : Nat} {A : Hp} {F : Nat → Prop} (h : HeapOf w p lim A F) (hk : ∀ b, F b → w'.heap[b]? = w.heap[b]?) (hs : w.heap.size ≤ w'.heap.size) : HeapOf w' p lim A F := by
  obtain ⟨As, rq, rn, rg, ro, av, e, h⟩ := h
  exact ⟨As, rq, rn, rg, ro, av, e, h.same hk hs⟩
theorem HeapOf.flt {w : World} {p lim : Nat} {A : Hp} {F : Nat → Prop} (h : HeapOf w p lim A F) : ∀ g, F g → g < w.heap.size := by
  obtain ⟨As, rq, rn, rg, ro, av, e, h⟩ := h
  exact h.flt
theorem HeapOf.next {w w' : World} {p lim : Nat} {A : Hp} {F : Nat → Prop} (h : HeapOf w p lim A F) (k : Below w.heap.size w w') : HeapOf w' p lim A F := h.same (fun b hb => k.block b (h.flt b hb)) k.size
theorem HeapG.next {w w' : World} {p lim : Nat} {As : List Ar} {rq : Option Addr} {rn rg ro : Nat} {av : Value} {F : Nat → Prop} {u : Nat × Nat} (h : HeapG w p lim As rq rn rg ro av F u) (k : Below w.heap.size w w') : HeapG w' p lim As rq rn rg ro av F u := h.same (fun b hb => k.block b (h.flt b hb)) k.size
theorem HeapOf.kept {w w' : World} {p lim : Nat} {A : Hp} {F G : Nat → Prop} (h : HeapOf w p lim A F) (k : Kp G w w') (hd : ∀ b, F b → ¬ G b) : HeapOf w' p lim A F := h.same (fun b hb => k.block b (h.flt b hb) (hd b hb)) k.size
theorem HeapG.len {w : World} {p lim : Nat} {As : List Ar} {rq : Option Addr} {rn rg ro : Nat} {av : Value} {F : Nat → Prop} {u : Nat × Nat} (h : HeapG w p lim As rq rn rg ro av F u) : As.length ≤ 100000 ∧ ∀ a ∈ As, a.els.length ≤ 100000 := by
  have h1 := used_ge (absA As)
  have h2 := h.le
  have h3 := h.top
  refine ⟨by rw [abs_len] at h1; omega, fun a ha => ?_⟩
  have := used_mem (A := absA As) (x := (a.kind, a.els)) (List.mem_map_of_mem ha)
  simp at this
  omega

/-- A heap whose elements may name c arrays. -/
def HeapC (w : World) (p lim : Nat) (A : Hp) (c : Nat) (F : Nat → Prop) : Prop := ∃ As rq rn rg ro av, absA As = A ∧ HeapG w p lim As rq rn rg ro av F (usedS (absA As), c)
theorem HeapC.flt {w : World} {p lim : Nat} {A : Hp} {c : Nat} {F : Nat → Prop} (h : HeapC w p lim A c F) : ∀ g, F g → g < w.heap.size := by
  obtain ⟨As, rq, rn, rg, ro, av, e, h⟩ := h
  exact h.flt
theorem HeapC.same {w w' : World} {p lim : Nat} {A : Hp} {c : Nat} {F : Nat → Prop} (h : HeapC w p lim A c F) (hk : ∀ b, F b → w'.heap[b]? = w.heap[b]?) (hs : w.heap.size ≤ w'.heap.size) : HeapC w' p lim A c F := by
  obtain ⟨As, rq, rn, rg, ro, av, e, h⟩ := h
  exact ⟨As, rq, rn, rg, ro, av, e, h.same hk hs⟩
theorem HeapC.next {w w' : World} {p lim : Nat} {A : Hp} {c : Nat} {F : Nat → Prop} (h : HeapC w p lim A c F) (k : Below w.heap.size w w') : HeapC w' p lim A c F := h.same (fun b hb => k.block b (h.flt b hb)) k.size
theorem HeapC.kept {w w' : World} {p lim : Nat} {A : Hp} {c : Nat} {F G : Nat → Prop} (h : HeapC w p lim A c F) (k : Kp G w w') (hd : ∀ b, F b → ¬ G b) : HeapC w' p lim A c F := h.same (fun b hb => k.block b (h.flt b hb) (hd b hb)) k.size
theorem HeapOf.toC {w : World} {p lim : Nat} {A : Hp} {F : Nat → Prop} (h : HeapOf w p lim A F) : HeapC w p lim A A.length F := by
  obtain ⟨As, rq, rn, rg, ro, av, rfl, h⟩ := h
  exact ⟨As, rq, rn, rg, ro, av, rfl, by rw [abs_len]; exact h⟩
theorem HeapC.toOf {w : World} {p lim : Nat} {A : Hp} {c : Nat} {F : Nat → Prop} (h : HeapC w p lim A c F) (hok : ∀ a ∈ A, ∀ v ∈ a.2, mayS v a.1 A.length = true) : HeapOf w p lim A F := by
  obtain ⟨As, rq, rn, rg, ro, av, rfl, h⟩ := h
  refine ⟨As, rq, rn, rg, ro, av, rfl, ?_⟩
  have := h.recount As.length (fun a ha => ⟨(h.ok a ha).1, fun v hv => by
    have := hok (a.kind, a.els) (List.mem_map_of_mem ha) v hv
    rw [abs_len] at this
    exact this⟩)
  exact this

set_option maxHeartbeats 400000 in
theorem count_any {w : World} {p lim : Nat} {As : List Ar} {rq : Option Addr} {rn rg ro : Nat} {av : Value} {F : Nat → Prop} {u : Nat × Nat} (h : HeapG w p lim As rq rn rg ro av F u) :
    Calls Tryd.prog 36 #[.pointer (some ⟨p, 0, none⟩)] w fun e w' => e = .returned (.int .i64 (As.length : Int)) ∧ w' = w := by
  obtain ⟨q, cap, rfl, _, _⟩ := own_slice h.arrs
  have hl := h.len.1
  have h3 := h.c3
  clear h
  go_enter Tryd.func36, Tryd.ntmps36
  go_wp2
  go_ret
  exact ⟨by simp, rfl⟩
set_option maxHeartbeats 400000 in
theorem used_any {w : World} {p lim : Nat} {A : Hp} {F : Nat → Prop} (h : HeapOf w p lim A F) :
    Calls Tryd.prog 19 #[.pointer (some ⟨p, 0, none⟩)] w fun e w' => e = .returned (.int .i64 ((usedS A : Nat) : Int)) ∧ w' = w := by
  obtain ⟨As, rq, rn, rg, ro, av, rfl, h⟩ := h
  have h1 := h.c1
  clear h
  go_enter Tryd.func19, Tryd.ntmps19
  go_wp2
  go_ret
  exact ⟨rfl, rfl⟩
theorem one3 (k n : Int) (s : ByteArray) : (#[.int .i64 k, .int .i64 n, .string s] : Array Value).all (·.oneCell') = true := by
  refine all_oneCell_toArray (cs := [.int .i64 k, .int .i64 n, .string s]) ?_
  intro v hv
  simp only [List.mem_cons, List.not_mem_nil, or_false] at hv
  rcases hv with rfl | rfl | rfl <;> rfl
end Go.Proofs.YtdcioemjmmhbhaaDoor
