import Derived.Test.YtljhobjgofhldaaDoordRe
import Derived.Deep.MidRow
import Derived.Laws.MakeOwn
namespace Go.Proofs.YtljhobjgofhldaaDoor
open Go.RowKit
theorem set_heap {w : World} {a : Addr} {v : Value} {k : Nat} (h : k ≠ a.block) : (w.setCell a v).heap[k]? = w.heap[k]? := Below.heap_setCell _ _ _ _ h
theorem sets_heap {B k : Nat} (h : k ≠ B) : ∀ (vs : List Value) (o : Nat) (w : World), (w.setCells B o vs).heap[k]? = w.heap[k]?
  | [], _, _ => rfl
  | _ :: r, o, _ => (sets_heap h r (o + 1) _).trans (set_heap (a := ⟨B, o, none⟩) h)
theorem set_size (w : World) (a : Addr) (v : Value) : (w.setCell a v).heap.size = w.heap.size := by simp [World.setCell]
theorem sets_size (B : Nat) : ∀ (vs : List Value) (o : Nat) (w : World), (w.setCells B o vs).heap.size = w.heap.size
  | [], _, _ => rfl
  | _ :: r, o, _ => (sets_size B r (o + 1) _).trans (set_size _ _ _)
theorem flat_at {α β : Type} (f : α → List β) (sz : Nat) (hf : ∀ a, (f a).length = sz) : ∀ (l : List α) (i j : Nat) (hi : i < l.length), j < sz → (l.flatMap f)[i * sz + j]? = (f l[i])[j]?
  | [], _, _, hi, _ => by simp at hi
  | a :: l, 0, j, _, hj => by
    rw [List.flatMap_cons, Nat.zero_mul, Nat.zero_add, List.getElem?_append_left (by rw [hf]; exact hj)]
    rfl
  | a :: l, i + 1, j, hi, hj => by
    rw [List.flatMap_cons, List.getElem?_append_right (by rw [hf, Nat.succ_mul]; omega), hf, Nat.succ_mul, show i * sz + sz + j - sz = i * sz + j by omega]
    exact flat_at f sz hf l i j (by simpa using hi) hj
/-- A block of cells of one kind, that may be written. -/
def Blk (w : World) (g : Nat) (t : TypeId) (n : Nat) : Prop := ∃ cur, w.heap[g]? = some (.cells cur t (0, 0)) ∧ n ≤ cur.size
theorem Blk.lt {w : World} {g : Nat} {t : TypeId} {n : Nat} (h : Blk w g t n) : g < w.heap.size := by obtain ⟨_, h, _⟩ := h; exact (Array.getElem?_eq_some_iff.1 h).1
theorem Blk.same {w w' : World} {g : Nat} {t : TypeId} {n : Nat} (h : Blk w g t n) (e : w'.heap[g]? = w.heap[g]?) : Blk w' g t n := by obtain ⟨c, h, k⟩ := h; exact ⟨c, e.trans h, k⟩
theorem Blk.le {w : World} {g : Nat} {t : TypeId} {n m : Nat} (h : Blk w g t n) (e : m ≤ n) : Blk w g t m := by obtain ⟨c, h, k⟩ := h; exact ⟨c, h, Nat.le_trans e k⟩
theorem Blk.new (w : World) (c : Array Value) (t : TypeId) {n : Nat} (e : n ≤ c.size) : Blk (w.alloc (.cells c t)) w.heap.size t n := ⟨c, World.alloc_heap_new w _, e⟩
theorem Blk.ne {w : World} {g g' : Nat} {t t' : TypeId} {n n' : Nat} (h : Blk w g t n) (k : Blk w g' t' n') (e : t ≠ t') : g ≠ g' := by
  rintro rfl
  obtain ⟨c, h, _⟩ := h
  obtain ⟨c', k, _⟩ := k
  rw [h] at k
  cases k
  exact e rfl
theorem Blk.setCell {w : World} {g : Nat} {t : TypeId} {n : Nat} (h : Blk w g t n) (a : Addr) (v : Value) : Blk (w.setCell a v) g t n := by
  obtain ⟨c, h, k⟩ := h
  unfold Blk World.setCell
  simp only [Array.getElem?_modify]
  split
  · rw [h]
    refine ⟨_, rfl, ?_⟩
    split <;> simpa using k
  · exact ⟨c, h, k⟩
theorem Blk.setCells {g : Nat} {t : TypeId} {n : Nat} (B : Nat) : ∀ (vs : List Value) (o : Nat) {w : World}, Blk w g t n → Blk (w.setCells B o vs) g t n
  | [], _, _, h => h
  | v :: r, o, _, h => Blk.setCells B r (o + 1) (h.setCell ⟨B, o, none⟩ v)
theorem Blk.next {w w' : World} {g : Nat} {t : TypeId} {n : Nat} (h : Blk w g t n) (k : Below w.heap.size w w') : Blk w' g t n := h.same (k.block g h.lt)
theorem Blk.alloc {w : World} {g : Nat} {t : TypeId} {n : Nat} (h : Blk w g t n) (o : Obj) : Blk (w.alloc o) g t n := h.next ((Below.refl _ _).alloc (Nat.le_refl _) _)
theorem Blk.there {w : World} {g : Nat} {t : TypeId} {n : Nat} (h : Blk w g t n) (o m : Nat) (e : o + m ≤ n) : w.there g o m := fun j hj => by
  obtain ⟨c, h, k⟩ := h
  refine ⟨?_, ?_⟩
  · simp only [World.cell?, h]
    simp [show o + j < c.size by omega]
  · simp only [World.frozen?, h]
    simp
theorem Blk.unfrozen {w : World} {g : Nat} {t : TypeId} {n : Nat} (h : Blk w g t n) (o : Nat) : w.frozen? ⟨g, o, none⟩ = false := by
  obtain ⟨c, h, k⟩ := h
  simp only [World.frozen?, h]
  simp

theorem set_blk {w : World} {g j : Nat} {C : Array Value} {t : TypeId} (h : w.heap[g]? = some (.cells C t)) (v : Value) : (w.setCell ⟨g, j, none⟩ v).heap[g]? = some (.cells (C.set! j v) t) := by
  unfold World.setCell
  simp only [Array.getElem?_modify]
  rw [if_pos trivial, h]
  simp
theorem blk_cell {w : World} {g : Nat} {C : Array Value} {t : TypeId} (h : w.heap[g]? = some (.cells C t)) (j : Nat) (v : Value) (hv : C[j]? = some v) : w.cell? ⟨g, j, none⟩ = some v ∧ w.frozen? ⟨g, j, none⟩ = false := by
  refine ⟨?_, ?_⟩
  · unfold World.cell?; rw [h]; simpa using hv
  · unfold World.frozen?; rw [h]; simp
def Full (W : World) (g : Nat) (t : TypeId) (vs : List Value) : Prop := W.heap[g]? = some (.cells vs.toArray t)
theorem Full.new (W : World) (C : Array Value) (t : TypeId) : Full (W.alloc (.cells C t)) W.heap.size t C.toList := by
  unfold Full
  rw [Array.toArray_toList]
  exact World.alloc_heap_new W _
theorem Full.cell {W : World} {g : Nat} {t : TypeId} {vs : List Value} (h : Full W g t vs) (j : Nat) (v : Value) (hv : vs[j]? = some v) : W.cell? ⟨g, j, none⟩ = some v ∧ W.frozen? ⟨g, j, none⟩ = false := blk_cell h j v (by simpa using hv)
theorem Full.lt {W : World} {g : Nat} {t : TypeId} {vs : List Value} (h : Full W g t vs) : g < W.heap.size := (Array.getElem?_eq_some_iff.1 h).1
theorem Full.next {W W' : World} {g : Nat} {t : TypeId} {vs : List Value} (h : Full W g t vs) (k : Below W.heap.size W W') : Full W' g t vs := (k.block _ h.lt).trans h
theorem Full.low {W W' : World} {g B : Nat} {t : TypeId} {vs : List Value} (h : Full W g t vs) (k : Below B W W') (hg : g < B) : Full W' g t vs := (k.block _ hg).trans h
theorem Full.other {W : World} {g b o : Nat} {t : TypeId} {vs us : List Value} (h : Full W g t vs) (hne : g ≠ b) : Full (W.setCells b o us) g t vs := (sets_heap hne us o W).trans h
theorem Full.other1 {W : World} {g : Nat} {a : Addr} {u : Value} {t : TypeId} {vs : List Value} (h : Full W g t vs) (hne : g ≠ a.block) : Full (W.setCell a u) g t vs := (set_heap hne).trans h
theorem Full.ne {W : World} {g g' : Nat} {t t' : TypeId} {vs vs' : List Value} (h : Full W g t vs) (k : Full W g' t' vs') (e : t ≠ t') : g ≠ g' := by
  rintro rfl
  unfold Full at h k
  rw [h] at k
  simp only [Option.some.injEq, Obj.cells.injEq] at k
  exact e k.2.1
theorem set_mid (a : List Value) (x v : Value) (r : List Value) : (a ++ x :: r).set a.length v = a ++ v :: r := by
  induction a with
  | nil => rfl
  | cons y a ih => simp [ih]
theorem Full.put {g : Nat} {t : TypeId} : ∀ (u : List Value) {W : World} {a b d : List Value}, Full W g t (a ++ (b ++ d)) → u.length = b.length → Full (W.setCells g a.length u) g t (a ++ (u ++ d))
  | [], W, a, b, d, h, e => by
    obtain rfl : b = [] := List.length_eq_zero_iff.1 e.symm
    exact h
  | v :: u, W, a, b, d, h, e => by
    match b, e with
    | x :: b, e =>
      have h1 : Full (W.setCell ⟨g, a.length, none⟩ v) g t ((a ++ [v]) ++ (b ++ d)) := by
        have := set_blk (j := a.length) h v
        unfold Full
        rw [this]
        have e1 : (a ++ (x :: b ++ d)).toArray.set! a.length v = ((a ++ [v]) ++ (b ++ d)).toArray := by
          rw [Array.set!_eq_setIfInBounds, List.setIfInBounds_toArray, List.cons_append, set_mid]
          simp
        rw [e1]
      have h2 := Full.put u h1 (by simpa using e)
      rw [List.length_append, List.length_singleton] at h2
      have e2 : a ++ [v] ++ (u ++ d) = a ++ (v :: u ++ d) := by simp
      rw [e2] at h2
      exact h2
theorem Full.put1 {W : World} {g : Nat} {t : TypeId} {a d : List Value} {x : Value} (h : Full W g t (a ++ (x :: d))) (v : Value) : Full (W.setCell ⟨g, a.length, none⟩ v) g t (a ++ (v :: d)) := Full.put (g := g) (t := t) [v] (b := [x]) (d := d) h rfl
theorem Full.there {W : World} {g : Nat} {t : TypeId} {vs : List Value} (h : Full W g t vs) (o n : Nat) (hn : o + n ≤ vs.length) : W.there g o n := Blk.there (t := t) (n := vs.length) ⟨vs.toArray, h, by simp⟩ o n hn
theorem Full.range {W : World} {g : Nat} {t : TypeId} {a d : List Value} (h : Full W g t (a ++ d)) : W.rangeAt g 0 a := fun j v hv => by
  rw [Nat.zero_add]
  refine (h.cell j v ?_).1
  rw [List.getElem?_append_left (List.getElem?_eq_some_iff.1 hv).1]
  exact hv
theorem below_sets {B b : Nat} {a W : World} (h : Below B a W) (hb : B ≤ b) (o : Nat) (vs : List Value) : Below B a (W.setCells b o vs) := by
  induction vs generalizing W o with
  | nil => exact h
  | cons v vs ih => exact ih (h.setCell (p := ⟨b, o, none⟩) hb v) (o + 1)

theorem mk_of {t e : TypeId} {z : Value} {size bytes : Nat} (ht : Tryd.prog.underlying t = some (.slice e)) (hi : (Tryd.prog.info? e).map (fun i => (i.zero, i.size, i.bytes)) = some (some z, size, bytes)) (n : Nat) (hn : (n + 1) * bytes ≤ 281474976710656) (h63 : n + 1 ≤ 9223372036854775807) :
    ∃ Z : Array Value, Z.size = (n + 1) * size ∧ ∀ w : World, (Instr.makeSlice t (.int .i64 ((n : Int) + 1)) (.int .i64 ((n : Int) + 1))).run Tryd.prog w = .ok (.slice (some ⟨w.heap.size, 0, none⟩) (n + 1) (n + 1)) (w.alloc (.cells Z e)) := by
  obtain ⟨i, hq, hz, hs, hb⟩ := info_parts hi
  refine ⟨_, size_madeCells z.cells ((n + 1) * size), fun w => ?_⟩
  have hcast : ((bytes : Int) * ((n : Int) + 1)) ≤ 281474976710656 := by
    have e : ((bytes : Int) * ((n : Int) + 1)) = (((n + 1) * bytes : Nat) : Int) := by rw [Int.natCast_mul, Int.natCast_add, Int.mul_comm]; rfl
    rw [e]
    generalize (n + 1) * bytes = M at hn
    omega
  have := run_make (P := Tryd.prog) w t e i _ ht hq hz .i64 .i64 ((n : Int) + 1) ((n : Int) + 1) (by omega) (by omega) (by rw [hb]; exact hcast) (by omega)
  rw [show ((n : Int) + 1).toNat = n + 1 by omega, hs] at this
  exact this
set_option maxRecDepth 100000 in
theorem up_run {t e : TypeId} {s : Nat} (ht : Tryd.prog.underlying t = some (.slice e)) (hz : ∀ w : World, (sizeOf e).run Tryd.prog w = .ok s w) (a : Addr) (n cap k : Nat) (hk : k ≤ cap) : ∀ w : World, (Instr.slice t (.slice (some a) n cap) none (some (.int .i64 (k : Int))) none).run Tryd.prog w = .ok (.slice (some a) k cap) w := fun w => by
  simp [go_sem, Instr.slice, run_underlying ht, hk, hz]
theorem drop_one {α : Type} {l : List α} {j : Nat} (h : j < l.length) : ∃ x, l.drop j = x :: l.drop (j + 1) := ⟨l[j], List.drop_eq_getElem_cons h⟩
theorem flatL {α : Type} (f : α → List Value) (m : Nat) (hf : ∀ a, (f a).length = m) : ∀ l : List α, (l.flatMap f).length = l.length * m
  | [] => by simp
  | a :: l => by rw [List.flatMap_cons, List.length_append, hf, flatL f m hf l, List.length_cons, Nat.succ_mul]; omega
theorem flat_snoc {α : Type} (f : α → List Value) {l : List α} {j : Nat} (h : j < l.length) : (l.take (j + 1)).flatMap f = (l.take j).flatMap f ++ f l[j] := by
  rw [List.take_succ_eq_append_getElem h, List.flatMap_append]
  simp
theorem drop_parts {α : Type} (l : List α) (o n : Nat) : l.drop o = (l.drop o).take n ++ l.drop (o + n) := by rw [← List.drop_drop]; exact (List.take_append_drop n _).symm

abbrev tV : TypeId := 26
theorem info_V : (Tryd.prog.info? 26).map (fun i => (i.zero, i.size, i.bytes)) = some (some (.agg #[.int .i64 0, .int .i64 0, .string ⟨#[]⟩]), 3, 32) := by kernel_rfl
theorem info_L : (Tryd.prog.info? 35).map (fun i => (i.zero, i.size, i.bytes)) = some (some (.slice none 0 0), 1, 24) := by kernel_rfl
theorem info_Sh : (Tryd.prog.info? 48).map (fun i => (i.zero, i.size, i.bytes)) = some (some (.agg #[.string ⟨#[]⟩, .string ⟨#[]⟩, .int .i64 0, .int .i64 0, .int .i64 0, .int .i64 0, .string ⟨#[]⟩]), 7, 80) := by kernel_rfl
theorem sz_V : ∀ w : World, (sizeOf 26).run Tryd.prog w = .ok 3 w := fun w => by kernel_rfl
theorem sz_L : ∀ w : World, (sizeOf 35).run Tryd.prog w = .ok 1 w := fun w => by kernel_rfl
theorem sz_Sh : ∀ w : World, (sizeOf 48).run Tryd.prog w = .ok 7 w := fun w => by kernel_rfl
/-- A value's cells. -/
def vc (v : V) : List Value := [.int .i64 v.1, .int .i64 v.2.1, .string v.2.2]
theorem vc_len (l : List V) : (l.flatMap vc).length = l.length * 3 := flatL vc 3 (fun _ => rfl) l
theorem one_V (a b : Int) (s : ByteArray) : (#[.int .i64 a, .int .i64 b, .string s] : Array Value).all (·.oneCell') = true := by kernel_rfl
theorem size_V : (Tryd.prog.info? 26).map (·.size) = some 3 := by kernel_rfl
theorem size_Sh : (Tryd.prog.info? 48).map (·.size) = some 7 := by kernel_rfl
theorem hid_ex (x : World) : ∃ y, Hid (x = y) := ⟨x, (rfl : x = x)⟩
/-- The slices of lists, each with one place more. -/
def zipL (Ls : List (List V)) (Gs : List Nat) : List Value := List.zipWith (fun L h => Value.slice (some ⟨h, 0, none⟩) L.length (L.length + 1)) Ls Gs
theorem zipL_len {Ls : List (List V)} {Gs : List Nat} (h : Gs.length = Ls.length) : (zipL Ls Gs).length = Ls.length := by unfold zipL; rw [List.length_zipWith]; omega
theorem zipL_snoc {Ls : List (List V)} {Gs : List Nat} {j : Nat} (h : j < Ls.length) (hg : Gs.length = j) (g : Nat) : zipL (Ls.take (j + 1)) (Gs ++ [g]) = zipL (Ls.take j) Gs ++ [.slice (some ⟨g, 0, none⟩) Ls[j].length (Ls[j].length + 1)] := by
  unfold zipL
  rw [List.take_succ_eq_append_getElem h, List.zipWith_append (by rw [List.length_take]; omega)]
  rfl
theorem zipL_at {Ls : List (List V)} {Gs : List Nat} {k : Nat} (hk : k < Ls.length) (hg : k < Gs.length) : (zipL Ls Gs)[k]? = some (.slice (some ⟨Gs[k], 0, none⟩) Ls[k].length (Ls[k].length + 1)) := by
  unfold zipL
  rw [List.getElem?_zipWith, List.getElem?_eq_getElem hk, List.getElem?_eq_getElem hg]
end Go.Proofs.YtljhobjgofhldaaDoor
