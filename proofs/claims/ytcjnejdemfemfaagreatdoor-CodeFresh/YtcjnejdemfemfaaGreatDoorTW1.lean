import Derived.Test.YtcjnejdemfemfaaGreatDoorCLb
import Derived.Test.YtcjnejdemfemfaaGreatDoorCOp
import Derived.Laws.MakeOwn
namespace Go.Proofs.YtcjnejdemfemfaaGreatDoor
open Go.RowKit

/-! Blocks whose content is known in full. -/
def Full (W : World) (g : Nat) (t : TypeId) (vs : List Value) : Prop := W.heap[g]? = some (.cells vs.toArray t)
theorem Full.new (W : World) (C : Array Value) (t : TypeId) : Full (W.alloc (.cells C t)) W.heap.size t C.toList := by
  unfold Full
  rw [Array.toArray_toList]
  exact World.alloc_heap_new W _
theorem Full.cell {W : World} {g : Nat} {t : TypeId} {vs : List Value} (h : Full W g t vs) (j : Nat) (v : Value) (hv : vs[j]? = some v) : W.cell? ⟨g, j, none⟩ = some v ∧ W.frozen? ⟨g, j, none⟩ = false := blk_cell h j v (by simpa using hv)
theorem Full.lt {W : World} {g : Nat} {t : TypeId} {vs : List Value} (h : Full W g t vs) : g < W.heap.size := (Array.getElem?_eq_some_iff.1 h).1
theorem Full.next {W W' : World} {g : Nat} {t : TypeId} {vs : List Value} (h : Full W g t vs) (k : Below W.heap.size W W') : Full W' g t vs := (k.block _ h.lt).trans h
theorem Full.low {W W' : World} {g B : Nat} {t : TypeId} {vs : List Value} (h : Full W g t vs) (k : Below B W W') (hg : g < B) : Full W' g t vs := (k.block _ hg).trans h
theorem Full.other {W : World} {g b o : Nat} {t : TypeId} {vs us : List Value} (h : Full W g t vs) (hne : g ≠ b) : Full (W.setCells b o us) g t vs := (sets_heap hne us o W).trans h
theorem Full.other1 {W : World} {g : Nat} {a : Addr} {u : Value} {t : TypeId} {vs : List Value} (h : Full W g t vs) (hne : g ≠ a.block) : Full (W.setCell a u) g t vs := (set_heap hne).trans h
theorem Full.ne {W : World} {g g' : Nat} {t t' : TypeId} {vs vs' : List Value} (h : Full W g t vs) (k : Full W g' t' vs') (e : t ≠ t') : g ≠ g' := by
  rintro rfl
  unfold Full at h k
  rw [h] at k
  simp only [Option.some.injEq, Obj.cells.injEq] at k
  exact e k.2.1
theorem set_mid (a : List Value) (x v : Value) (r : List Value) : (a ++ x :: r).set a.length v = a ++ v :: r := by
  induction a with
  | nil => rfl
  | cons y a ih => simp [ih]
theorem Full.put {g : Nat} {t : TypeId} : ∀ (u : List Value) {W : World} {a b d : List Value}, Full W g t (a ++ (b ++ d)) → u.length = b.length → Full (W.setCells g a.length u) g t (a ++ (u ++ d))
  | [], W, a, b, d, h, e => by
    obtain rfl : b = [] := List.length_eq_zero_iff.1 e.symm
    exact h
  | v :: u, W, a, b, d, h, e => by
    match b, e with
    | x :: b, e =>
      have h1 : Full (W.setCell ⟨g, a.length, none⟩ v) g t ((a ++ [v]) ++ (b ++ d)) := by
        have := set_blk (j := a.length) h v
        unfold Full
        rw [this]
        have e1 : (a ++ (x :: b ++ d)).toArray.set! a.length v = ((a ++ [v]) ++ (b ++ d)).toArray := by
          rw [Array.set!_eq_setIfInBounds, List.setIfInBounds_toArray, List.cons_append, set_mid]
          simp
        rw [e1]
      have h2 := Full.put u h1 (by simpa using e)
      rw [List.length_append, List.length_singleton] at h2
      have e2 : a ++ [v] ++ (u ++ d) = a ++ (v :: u ++ d) := by simp
      rw [e2] at h2
      exact h2
theorem Full.put1 {W : World} {g : Nat} {t : TypeId} {a d : List Value} {x : Value} (h : Full W g t (a ++ (x :: d))) (v : Value) : Full (W.setCell ⟨g, a.length, none⟩ v) g t (a ++ (v :: d)) := Full.put (g := g) (t := t) [v] (b := [x]) (d := d) h rfl
theorem Full.there {W : World} {g : Nat} {t : TypeId} {vs : List Value} (h : Full W g t vs) (o n : Nat) (hn : o + n ≤ vs.length) : W.there g o n := Blk.there (t := t) (n := vs.length) ⟨vs.toArray, h, by simp⟩ o n hn
theorem Full.range {W : World} {g : Nat} {t : TypeId} {a d : List Value} (h : Full W g t (a ++ d)) : W.rangeAt g 0 a := fun j v hv => by
  rw [Nat.zero_add]
  refine (h.cell j v ?_).1
  rw [List.getElem?_append_left (List.getElem?_eq_some_iff.1 hv).1]
  exact hv
theorem below_sets {B b : Nat} {a W : World} (h : Below B a W) (hb : B ≤ b) (o : Nat) (vs : List Value) : Below B a (W.setCells b o vs) := by
  induction vs generalizing W o with
  | nil => exact h
  | cons v vs ih => exact ih (h.setCell (p := ⟨b, o, none⟩) hb v) (o + 1)

/-! make, and the slices that are cut behind it. -/
theorem info_S : (Tryz.prog.info? 41).map (fun i => (i.zero, i.size, i.bytes)) = some (some (.int .i64 0), 1, 8) := by kernel_rfl
theorem info_I : (Tryz.prog.info? 48).map (fun i => (i.zero, i.size, i.bytes)) = some (some (.agg #[.int .i64 0, .int .i64 0, .int .i64 0]), 3, 24) := by kernel_rfl
theorem info_E : (Tryz.prog.info? 43).map (fun i => (i.zero, i.size, i.bytes)) = some (some (.agg #[.string ⟨#[]⟩, .int .i64 0, .int .i64 0, .slice none 0 0, .int .i64 0]), 5, 64) := by kernel_rfl
theorem info_T : (Tryz.prog.info? 9).map (fun i => (i.zero, i.size, i.bytes)) = some (some (.string ⟨#[]⟩), 1, 16) := by kernel_rfl
theorem mk_of {t e : TypeId} {z : Value} {size bytes : Nat} (ht : Tryz.prog.underlying t = some (.slice e)) (hi : (Tryz.prog.info? e).map (fun i => (i.zero, i.size, i.bytes)) = some (some z, size, bytes)) (n : Nat) (hn : (n + 1) * bytes ≤ 281474976710656) (h63 : n + 1 ≤ 9223372036854775807) :
    ∃ Z : Array Value, Z.size = (n + 1) * size ∧ ∀ w : World, (Instr.makeSlice t (.int .i64 ((n : Int) + 1)) (.int .i64 ((n : Int) + 1))).run Tryz.prog w = .ok (.slice (some ⟨w.heap.size, 0, none⟩) (n + 1) (n + 1)) (w.alloc (.cells Z e)) := by
  obtain ⟨i, hq, hz, hs, hb⟩ := info_parts hi
  refine ⟨_, size_madeCells z.cells ((n + 1) * size), fun w => ?_⟩
  have hcast : ((bytes : Int) * ((n : Int) + 1)) ≤ 281474976710656 := by
    have e : ((bytes : Int) * ((n : Int) + 1)) = (((n + 1) * bytes : Nat) : Int) := by rw [Int.natCast_mul, Int.natCast_add, Int.mul_comm]; rfl
    rw [e]
    generalize (n + 1) * bytes = M at hn
    omega
  have := run_make (P := Tryz.prog) w t e i _ ht hq hz .i64 .i64 ((n : Int) + 1) ((n : Int) + 1) (by omega) (by omega) (by rw [hb]; exact hcast) (by omega)
  rw [show ((n : Int) + 1).toNat = n + 1 by omega, hs] at this
  exact this
set_option maxRecDepth 100000 in
theorem up_run {t e : TypeId} {s : Nat} (ht : Tryz.prog.underlying t = some (.slice e)) (hz : ∀ w : World, (sizeOf e).run Tryz.prog w = .ok s w) (a : Addr) (n cap k : Nat) (hk : k ≤ cap) : ∀ w : World, (Instr.slice t (.slice (some a) n cap) none (some (.int .i64 (k : Int))) none).run Tryz.prog w = .ok (.slice (some a) k cap) w := fun w => by
  simp [go_sem, Instr.slice, run_underlying ht, hk, hz]
theorem sz_S : ∀ w : World, (sizeOf 41).run Tryz.prog w = .ok 1 w := fun w => by kernel_rfl
theorem sz_I : ∀ w : World, (sizeOf 48).run Tryz.prog w = .ok 3 w := fun w => by kernel_rfl
theorem sz_E : ∀ w : World, (sizeOf 43).run Tryz.prog w = .ok 5 w := fun w => by kernel_rfl
theorem sz_T : ∀ w : World, (sizeOf 9).run Tryz.prog w = .ok 1 w := fun w => by kernel_rfl
end Go.Proofs.YtcjnejdemfemfaaGreatDoor
namespace Go.Proofs.YtcjnejdemfemfaaGreatDoor
open Go.RowKit

theorem drop_one {α : Type} {l : List α} {j : Nat} (h : j < l.length) : ∃ x, l.drop j = x :: l.drop (j + 1) := ⟨l[j], List.drop_eq_getElem_cons h⟩
theorem sv_snoc {L : List Int} {j : Nat} (h : j < L.length) : sv (L.take (j + 1)) = sv (L.take j) ++ [.int .i64 L[j]] := by
  unfold sv
  rw [List.take_succ_eq_append_getElem h, List.map_append]
  rfl
theorem sv_len (L : List Int) : (sv L).length = L.length := List.length_map ..
end Go.Proofs.YtcjnejdemfemfaaGreatDoor
namespace Go.Proofs.YtcjnejdemfemfaaGreatDoor
open Go.RowKit

def spare : ByteArray := ⟨#[115, 112, 97, 114, 101]⟩
/-- A function whose sorts lie in a block of their own. -/
def ownE (e : En) (g : Nat) : Em := (e, some ⟨g, 0, none⟩, e.sorts.length + 1)
def zipE (L : List En) (Gs : List Nat) : List Em := List.zipWith ownE L Gs
def ecZ : List Value := [.string spare, .int .i64 0, .int .i64 0, .slice none 0 0, .int .i64 0]
/-- A twin of a code: all its blocks, with their marks. -/
structure TwS (W : World) (b gi ge gt : Nat) (Gs : List Nat) (c : Cd) : Prop where
  fi : Full W gi 48 (c.ins.flatMap ic ++ [.int .i64 77, .int .i64 0, .int .i64 0])
  fe : Full W ge 43 ((zipE c.ens Gs).flatMap ec ++ ecZ)
  ft : Full W gt 9 (tv c.txs ++ [.string spare])
  fs : ∀ i (h : i < c.ens.length), ∃ g, Gs[i]? = some g ∧ Full W g 41 (sv c.ens[i].sorts ++ [.int .i64 77])
  gl : Gs.length = c.ens.length
  nd : Gs.Nodup
  gb : ∀ g ∈ Gs, b ≤ g
  ib : b ≤ gi
  eb : b ≤ ge
  tb : b ≤ gt
theorem TwS.next {W W' : World} {b gi ge gt : Nat} {Gs : List Nat} {c : Cd} (h : TwS W b gi ge gt Gs c) (k : Below W.heap.size W W') : TwS W' b gi ge gt Gs c :=
  ⟨h.fi.next k, h.fe.next k, h.ft.next k, fun i hi => by obtain ⟨g, h1, h2⟩ := h.fs i hi; exact ⟨g, h1, h2.next k⟩, h.gl, h.nd, h.gb, h.ib, h.eb, h.tb⟩
/-- The boxes of the argument and of the result. -/
structure Bxs (w W : World) (C : Array Value) : Prop where
  bel : Below w.heap.size w W
  box : W.heap[w.heap.size]? = some (.cells C 26)
  res : W.heap[w.heap.size + 1]? = some (.cells #[.slice none 0 0, .slice none 0 0, .slice none 0 0, .int .i64 0] 26)
theorem Bxs.next {w W W' : World} {C : Array Value} (h : Bxs w W C) (k : Below W.heap.size W W') : Bxs w W' C :=
  ⟨below2 h.bel k, (k.block _ (Array.getElem?_eq_some_iff.1 h.box).1).trans h.box, (k.block _ (Array.getElem?_eq_some_iff.1 h.res).1).trans h.res⟩
theorem Bxs.sets {w W : World} {C : Array Value} (h : Bxs w W C) {g : Nat} (hg : w.heap.size + 2 ≤ g) (o : Nat) (vs : List Value) : Bxs w (W.setCells g o vs) C :=
  ⟨below_sets h.bel (by omega) o vs, (sets_heap (by omega) vs o W).trans h.box, (sets_heap (by omega) vs o W).trans h.res⟩
theorem Bxs.set1 {w W : World} {C : Array Value} (h : Bxs w W C) {g : Nat} (hg : w.heap.size + 2 ≤ g) (o : Nat) (v : Value) : Bxs w (W.setCell ⟨g, o, none⟩ v) C := h.sets hg o [v]
theorem Bxs.start (w : World) (C : Array Value) : Bxs w ((w.alloc (.cells C 26)).alloc (.cells #[.slice none 0 0, .slice none 0 0, .slice none 0 0, .int .i64 0] 26)) C := by
  have n1 : Below w.heap.size w (w.alloc (.cells C 26)) := (Below.refl _ w).alloc (Nat.le_refl _) _
  have z1 : (w.alloc (.cells C 26)).heap.size = w.heap.size + 1 := by simp
  have P1 : (w.alloc (.cells C 26)).heap[w.heap.size]? = some (.cells C 26) := World.alloc_heap_new w _
  generalize w.alloc (.cells C 26) = X at *
  have n2 : Below X.heap.size X (X.alloc (.cells #[.slice none 0 0, .slice none 0 0, .slice none 0 0, .int .i64 0] 26)) := (Below.refl _ X).alloc (Nat.le_refl _) _
  refine ⟨below2 n1 n2, (n2.block _ (by omega)).trans P1, ?_⟩
  rw [← z1]
  exact World.alloc_heap_new X _
/-- What has been laid of the instructions. -/
def T1 (w W : World) (C : Array Value) (c : Cd) (Z : Array Value) (j : Nat) : Prop := Bxs w W C ∧ Full W (w.heap.size + 2) 48 ((c.ins.take j).flatMap ic ++ Z.toList.drop (j * 3)) ∧ W.heap.size = w.heap.size + 3
/-- What has been laid of the functions. -/
structure T2 (w W : World) (C : Array Value) (c : Cd) (Z : Array Value) (Gs : List Nat) (j : Nat) : Prop where
  bs : Bxs w W C
  fi : Full W (w.heap.size + 2) 48 (c.ins.flatMap ic ++ [.int .i64 77, .int .i64 0, .int .i64 0])
  fe : Full W (w.heap.size + 3) 43 ((zipE (c.ens.take j) Gs).flatMap ec ++ Z.toList.drop (j * 5))
  gl : Gs.length = j
  nd : Gs.Nodup
  gb : ∀ g ∈ Gs, w.heap.size + 4 ≤ g ∧ g < W.heap.size
  fs : ∀ i (h : i < c.ens.length), i < j → ∃ g, Gs[i]? = some g ∧ Full W g 41 (sv c.ens[i].sorts ++ [.int .i64 77])
/-- What has been laid of the texts. -/
structure T3 (w W : World) (C : Array Value) (c : Cd) (Z : Array Value) (Gs : List Nat) (gt j : Nat) : Prop where
  bs : Bxs w W C
  fi : Full W (w.heap.size + 2) 48 (c.ins.flatMap ic ++ [.int .i64 77, .int .i64 0, .int .i64 0])
  fe : Full W (w.heap.size + 3) 43 ((zipE c.ens Gs).flatMap ec ++ ecZ)
  gl : Gs.length = c.ens.length
  nd : Gs.Nodup
  gb : ∀ g ∈ Gs, w.heap.size + 4 ≤ g
  fs : ∀ i (h : i < c.ens.length), ∃ g, Gs[i]? = some g ∧ Full W g 41 (sv c.ens[i].sorts ++ [.int .i64 77])
  tb : w.heap.size + 4 ≤ gt
  ft : Full W gt 9 (tv (c.txs.take j) ++ Z.toList.drop j)
theorem flatL {α : Type} (f : α → List Value) (m : Nat) (hf : ∀ a, (f a).length = m) : ∀ l : List α, (l.flatMap f).length = l.length * m
  | [] => by simp
  | a :: l => by rw [List.flatMap_cons, List.length_append, hf, flatL f m hf l, List.length_cons, Nat.succ_mul]; omega
theorem flat_snoc {α : Type} (f : α → List Value) {l : List α} {j : Nat} (h : j < l.length) : (l.take (j + 1)).flatMap f = (l.take j).flatMap f ++ f l[j] := by
  rw [List.take_succ_eq_append_getElem h, List.flatMap_append]
  simp
theorem drop_parts {α : Type} (l : List α) (o n : Nat) : l.drop o = (l.drop o).take n ++ l.drop (o + n) := by rw [← List.drop_drop]; exact (List.take_append_drop n _).symm
theorem zip_snoc {L : List En} {Gs : List Nat} {j : Nat} (h : j < L.length) (hg : Gs.length = j) (g : Nat) : zipE (L.take (j + 1)) (Gs ++ [g]) = zipE (L.take j) Gs ++ [ownE L[j] g] := by
  unfold zipE
  rw [List.take_succ_eq_append_getElem h, List.zipWith_append (by rw [List.length_take]; omega)]
  rfl
theorem zip_len {L : List En} {Gs : List Nat} (h : Gs.length = L.length) : (zipE L Gs).length = L.length := by unfold zipE; rw [List.length_zipWith]; omega
theorem T1.step {w W : World} {C : Array Value} {c : Cd} {Z : Array Value} {j : Nat} (h : T1 w W C c Z j) (hj : j < c.ins.length) (hZ : Z.size = (c.ins.length + 1) * 3) : T1 w (W.setCells (w.heap.size + 2) (j * 3) (ic c.ins[j])) C c Z (j + 1) := by
  obtain ⟨hb, hf, hs⟩ := h
  refine ⟨hb.sets (Nat.le_refl _) _ _, ?_, by rw [sets_size]; exact hs⟩
  rw [drop_parts Z.toList (j * 3) 3] at hf
  have hl : ((c.ins.take j).flatMap ic).length = j * 3 := by rw [flatL ic 3 (fun _ => rfl), List.length_take, Nat.min_eq_left (by omega)]
  have := Full.put (ic c.ins[j]) hf (by rw [List.length_take, List.length_drop, Array.length_toList (xs := Z), hZ]; show 3 = _; omega)
  rw [hl] at this
  rw [flat_snoc ic hj, List.append_assoc, Nat.succ_mul]
  exact this
theorem T1.mark {w W : World} {C : Array Value} {c : Cd} {Z : Array Value} (h : T1 w W C c Z c.ins.length) (hZ : Z.size = (c.ins.length + 1) * 3) : Bxs w (W.setCells (w.heap.size + 2) (c.ins.length * 3) [.int .i64 77, .int .i64 0, .int .i64 0]) C ∧ Full (W.setCells (w.heap.size + 2) (c.ins.length * 3) [.int .i64 77, .int .i64 0, .int .i64 0]) (w.heap.size + 2) 48 (c.ins.flatMap ic ++ [.int .i64 77, .int .i64 0, .int .i64 0]) ∧ (W.setCells (w.heap.size + 2) (c.ins.length * 3) [.int .i64 77, .int .i64 0, .int .i64 0]).heap.size = w.heap.size + 3 := by
  obtain ⟨hb, hf, hs⟩ := h
  refine ⟨hb.sets (Nat.le_refl _) _ _, ?_, by rw [sets_size]; exact hs⟩
  rw [List.take_length, drop_parts Z.toList (c.ins.length * 3) 3] at hf
  have hl : (c.ins.flatMap ic).length = c.ins.length * 3 := flatL ic 3 (fun _ => rfl) _
  have := Full.put [.int .i64 77, .int .i64 0, .int .i64 0] hf (by rw [List.length_take, List.length_drop, Array.length_toList (xs := Z), hZ]; show 3 = _; omega)
  rw [hl, List.drop_eq_nil_of_le (by rw [Array.length_toList (xs := Z), hZ]; omega), List.append_nil] at this
  exact this
theorem T1.th {w W : World} {C : Array Value} {c : Cd} {Z : Array Value} {j : Nat} (h : T1 w W C c Z j) (hj : j ≤ c.ins.length) (hZ : Z.size = (c.ins.length + 1) * 3) : W.there (w.heap.size + 2) (j * 3) 3 := by
  refine h.2.1.there _ _ ?_
  rw [List.length_append, flatL ic 3 (fun _ => rfl), List.length_take, List.length_drop, Array.length_toList (xs := Z), hZ]
  omega
/-- A function is laid: its box, its sorts, its cells. -/
theorem T2.step {w W Y V : World} {C : Array Value} {c : Cd} {Z : Array Value} {Gs : List Nat} {j : Nat} (h : T2 w W C c Z Gs j) (hj : j < c.ens.length) (hZ : Z.size = (c.ens.length + 1) * 5) (D : Array Value) (hY : Y = W.alloc (.cells D 43))
    (hf : Full V Y.heap.size 41 (sv c.ens[j].sorts ++ [.int .i64 77])) (hb : Below Y.heap.size Y V) (v : Value) (hs : w.heap.size + 4 ≤ W.heap.size) :
    T2 w ((V.setCell ⟨W.heap.size, 3, none⟩ v).setCells (w.heap.size + 3) (j * 5) (ec (ownE c.ens[j] Y.heap.size))) C c Z (Gs ++ [Y.heap.size]) (j + 1) := by
  have n1 : Below W.heap.size W Y := by rw [hY]; exact (Below.refl _ W).alloc (Nat.le_refl _) _
  have z1 : Y.heap.size = W.heap.size + 1 := by rw [hY]; simp
  have n2 := below2 n1 hb
  have zV := hb.size
  have e1 : ∀ g, g ≠ W.heap.size → g ≠ w.heap.size + 3 → ((V.setCell ⟨W.heap.size, 3, none⟩ v).setCells (w.heap.size + 3) (j * 5) (ec (ownE c.ens[j] Y.heap.size))).heap[g]? = V.heap[g]? := fun g h1 h2 => (sets_heap h2 _ _ _).trans (set_heap h1)
  have keep : ∀ g t vs, Full W g t vs → g ≠ w.heap.size + 3 → Full ((V.setCell ⟨W.heap.size, 3, none⟩ v).setCells (w.heap.size + 3) (j * 5) (ec (ownE c.ens[j] Y.heap.size))) g t vs := fun g t vs q h2 => (e1 g (by have := q.lt; omega) h2).trans (q.next n2)
  refine ⟨((h.bs.next n2).set1 (by omega) 3 v).sets (by omega) _ _, keep _ _ _ h.fi (by omega), ?_, by rw [List.length_append, h.gl]; rfl, ?_, ?_, ?_⟩
  · have f0 : Full (V.setCell ⟨W.heap.size, 3, none⟩ v) (w.heap.size + 3) 43 ((zipE (c.ens.take j) Gs).flatMap ec ++ Z.toList.drop (j * 5)) := (h.fe.next n2).other1 (by have := h.fe.lt; show w.heap.size + 3 ≠ W.heap.size; omega)
    rw [drop_parts Z.toList (j * 5) 5] at f0
    have hlz : (zipE (c.ens.take j) Gs).length = j := by rw [zip_len (by rw [h.gl, List.length_take]; omega), List.length_take]; omega
    have hl : ((zipE (c.ens.take j) Gs).flatMap ec).length = j * 5 := by rw [flatL ec 5 (fun _ => rfl), hlz]
    have := Full.put (ec (ownE c.ens[j] Y.heap.size)) f0 (by rw [List.length_take, List.length_drop, Array.length_toList (xs := Z), hZ]; show 5 = _; omega)
    rw [hl] at this
    rw [zip_snoc hj h.gl, List.flatMap_append, List.append_assoc, Nat.succ_mul]
    simpa using this
  · rw [List.nodup_append]
    refine ⟨h.nd, by simp, fun a ha b hb' => ?_⟩
    rw [List.mem_singleton.1 hb']
    have := (h.gb a ha).2
    omega
  · intro g hg
    rw [sets_size, set_size]
    rcases List.mem_append.1 hg with hg | hg
    · have := h.gb g hg
      have := hb.size
      omega
    · rw [List.mem_singleton.1 hg]
      have := hf.lt
      omega
  · intro i hi hij
    by_cases q : i < j
    · obtain ⟨g, h1, h2⟩ := h.fs i hi q
      refine ⟨g, by rw [List.getElem?_append_left (by rw [h.gl]; exact q)]; exact h1, keep _ _ _ h2 ?_⟩
      have := (h.gb g (List.mem_of_getElem? h1)).1
      omega
    · obtain rfl : i = j := by omega
      refine ⟨Y.heap.size, by rw [List.getElem?_append_right (by rw [h.gl]; exact Nat.le_refl _), h.gl, Nat.sub_self]; rfl, ?_⟩
      exact (e1 _ (by omega) (by omega)).trans hf
end Go.Proofs.YtcjnejdemfemfaaGreatDoor
namespace Go.Proofs.YtcjnejdemfemfaaGreatDoor
open Go.RowKit

theorem T2.th {w W V : World} {C : Array Value} {c : Cd} {Z : Array Value} {Gs : List Nat} {j : Nat} (h : T2 w W C c Z Gs j) (hj : j ≤ c.ens.length) (hZ : Z.size = (c.ens.length + 1) * 5) (hV : V.heap[w.heap.size + 3]? = W.heap[w.heap.size + 3]?) : V.there (w.heap.size + 3) (j * 5) 5 := by
  have f : Full V (w.heap.size + 3) 43 ((zipE (c.ens.take j) Gs).flatMap ec ++ Z.toList.drop (j * 5)) := hV.trans h.fe
  refine f.there _ _ ?_
  have hlz : (zipE (c.ens.take j) Gs).length = j := by rw [zip_len (by rw [h.gl, List.length_take]; omega), List.length_take]; omega
  rw [List.length_append, flatL ec 5 (fun _ => rfl), hlz, List.length_drop, Array.length_toList (xs := Z), hZ]
  omega
/-- All functions are laid, and the mark behind them; the texts' block is made. -/
theorem T2.over {w W : World} {C : Array Value} {c : Cd} {Z Zt : Array Value} {Gs : List Nat} (h : T2 w W C c Z Gs c.ens.length) (hZ : Z.size = (c.ens.length + 1) * 5) (X : World) (hX : (W.setCells (w.heap.size + 3) (c.ens.length * 5) ecZ).alloc (.cells Zt 9) = X) : T3 w X C c Zt Gs (W.setCells (w.heap.size + 3) (c.ens.length * 5) ecZ).heap.size 0 := by
  have hlt := h.fe.lt
  have hs : (W.setCells (w.heap.size + 3) (c.ens.length * 5) ecZ).heap.size = W.heap.size := sets_size _ _ _ _
  have b1 := h.bs.sets (g := w.heap.size + 3) (by omega) (c.ens.length * 5) ecZ
  have fi := h.fi.other (b := w.heap.size + 3) (o := c.ens.length * 5) (us := ecZ) (by omega)
  have fe : Full (W.setCells (w.heap.size + 3) (c.ens.length * 5) ecZ) (w.heap.size + 3) 43 ((zipE c.ens Gs).flatMap ec ++ ecZ) := by
    have f := h.fe
    rw [List.take_length, drop_parts Z.toList (c.ens.length * 5) 5] at f
    have hl : ((zipE c.ens Gs).flatMap ec).length = c.ens.length * 5 := by rw [flatL ec 5 (fun _ => rfl), zip_len h.gl]
    have := Full.put ecZ f (by rw [List.length_take, List.length_drop, Array.length_toList (xs := Z), hZ]; show 5 = _; omega)
    rwa [hl, List.drop_eq_nil_of_le (by rw [Array.length_toList (xs := Z), hZ]; omega), List.append_nil] at this
  have fs : ∀ i (hi : i < c.ens.length), ∃ g, Gs[i]? = some g ∧ Full (W.setCells (w.heap.size + 3) (c.ens.length * 5) ecZ) g 41 (sv c.ens[i].sorts ++ [.int .i64 77]) := fun i hi => by
    obtain ⟨g, h1, h2⟩ := h.fs i hi hi
    exact ⟨g, h1, h2.other (by have := (h.gb g (List.mem_of_getElem? h1)).1; omega)⟩
  generalize W.setCells (w.heap.size + 3) (c.ens.length * 5) ecZ = V at *
  have nb : Below V.heap.size V X := by rw [← hX]; exact (Below.refl _ V).alloc (Nat.le_refl _) _
  refine ⟨b1.next nb, fi.next nb, fe.next nb, h.gl, h.nd, fun g hg => (h.gb g hg).1, fun i hi => ?_, by omega, ?_⟩
  · obtain ⟨g, h1, h2⟩ := fs i hi
    exact ⟨g, h1, h2.next nb⟩
  · rw [← hX, List.take_zero, List.drop_zero]
    exact Full.new V Zt _
theorem T3.set {w W : World} {C : Array Value} {c : Cd} {Z : Array Value} {Gs : List Nat} {gt j : Nat} (h : T3 w W C c Z Gs gt j) (o : Nat) (v : Value) : Bxs w (W.setCell ⟨gt, o, none⟩ v) C ∧ Full (W.setCell ⟨gt, o, none⟩ v) (w.heap.size + 2) 48 (c.ins.flatMap ic ++ [.int .i64 77, .int .i64 0, .int .i64 0]) ∧ Full (W.setCell ⟨gt, o, none⟩ v) (w.heap.size + 3) 43 ((zipE c.ens Gs).flatMap ec ++ ecZ) ∧ (∀ i (hi : i < c.ens.length), ∃ g, Gs[i]? = some g ∧ Full (W.setCell ⟨gt, o, none⟩ v) g 41 (sv c.ens[i].sorts ++ [.int .i64 77])) := by
  refine ⟨h.bs.set1 (by have := h.tb; omega) o v, h.fi.other1 (by have := h.tb; show w.heap.size + 2 ≠ gt; omega), h.fe.other1 (by have := h.tb; show w.heap.size + 3 ≠ gt; omega), fun i hi => ?_⟩
  obtain ⟨g, h1, h2⟩ := h.fs i hi
  exact ⟨g, h1, h2.other1 (h2.ne h.ft (by decide))⟩
theorem tv_len (l : List ByteArray) : (tv l).length = l.length := List.length_map ..
theorem T3.step {w W : World} {C : Array Value} {c : Cd} {Z : Array Value} {Gs : List Nat} {gt j : Nat} (h : T3 w W C c Z Gs gt j) (hj : j < c.txs.length) (hZ : Z.size = c.txs.length + 1) : T3 w (W.setCell ⟨gt, j, none⟩ (.string c.txs[j])) C c Z Gs gt (j + 1) := by
  obtain ⟨a, b, d, e⟩ := h.set j (.string c.txs[j])
  refine ⟨a, b, d, h.gl, h.nd, h.gb, e, h.tb, ?_⟩
  obtain ⟨x, hx⟩ := drop_one (l := Z.toList) (j := j) (by rw [Array.length_toList (xs := Z), hZ]; omega)
  have f := h.ft
  rw [hx] at f
  have := f.put1 (.string c.txs[j])
  rw [tv_len, List.length_take, Nat.min_eq_left (by omega)] at this
  have e2 : tv (c.txs.take (j + 1)) = tv (c.txs.take j) ++ [.string c.txs[j]] := by
    unfold tv
    rw [List.take_succ_eq_append_getElem hj, List.map_append]
    rfl
  rw [e2, List.append_assoc]
  exact this
theorem T3.mark {w W : World} {C : Array Value} {c : Cd} {Z : Array Value} {Gs : List Nat} {gt : Nat} (h : T3 w W C c Z Gs gt c.txs.length) (hZ : Z.size = c.txs.length + 1) : Bxs w (W.setCell ⟨gt, c.txs.length, none⟩ (.string spare)) C ∧ TwS (W.setCell ⟨gt, c.txs.length, none⟩ (.string spare)) (w.heap.size + 2) (w.heap.size + 2) (w.heap.size + 3) gt Gs c := by
  obtain ⟨a, b, d, e⟩ := h.set c.txs.length (.string spare)
  refine ⟨a, b, d, ?_, e, h.gl, h.nd, fun g hg => by have := h.gb g hg; omega, Nat.le_refl _, by omega, by have := h.tb; omega⟩
  obtain ⟨x, hx⟩ := drop_one (l := Z.toList) (j := c.txs.length) (by rw [Array.length_toList (xs := Z), hZ]; omega)
  have f := h.ft
  rw [hx] at f
  have := f.put1 (.string spare)
  rwa [List.take_length, tv_len, List.drop_eq_nil_of_le (by rw [Array.length_toList (xs := Z), hZ]; omega)] at this
theorem T3.cell {w W : World} {C : Array Value} {c : Cd} {Z : Array Value} {Gs : List Nat} {gt j : Nat} (h : T3 w W C c Z Gs gt j) (hj : j ≤ c.txs.length) (hZ : Z.size = c.txs.length + 1) : ∃ v, W.cell? ⟨gt, j, none⟩ = some v ∧ W.frozen? ⟨gt, j, none⟩ = false := by
  obtain ⟨x, hx⟩ := drop_one (l := Z.toList) (j := j) (by rw [Array.length_toList (xs := Z), hZ]; omega)
  refine ⟨x, h.ft.cell j x ?_⟩
  have hl : (tv (c.txs.take j)).length = j := by rw [tv_len, List.length_take]; omega
  rw [List.getElem?_append_right (by omega), hl, Nat.sub_self, hx]
  rfl
theorem TwS.set1 {W : World} {b gi ge gt : Nat} {Gs : List Nat} {c : Cd} (h : TwS W b gi ge gt Gs c) {a : Addr} (ha : a.block < b) (v : Value) : TwS (W.setCell a v) b gi ge gt Gs c :=
  ⟨h.fi.other1 (by have := h.ib; omega), h.fe.other1 (by have := h.eb; omega), h.ft.other1 (by have := h.tb; omega), fun i hi => by obtain ⟨g, h1, h2⟩ := h.fs i hi; exact ⟨g, h1, h2.other1 (by have := h.gb g (List.mem_of_getElem? h1); omega)⟩, h.gl, h.nd, h.gb, h.ib, h.eb, h.tb⟩
theorem TwS.mono {W : World} {b b' gi ge gt : Nat} {Gs : List Nat} {c : Cd} (h : TwS W b gi ge gt Gs c) (hb : b' ≤ b) : TwS W b' gi ge gt Gs c :=
  ⟨h.fi, h.fe, h.ft, h.fs, h.gl, h.nd, fun g hg => Nat.le_trans hb (h.gb g hg), Nat.le_trans hb h.ib, Nat.le_trans hb h.eb, Nat.le_trans hb h.tb⟩
theorem one_I (a b d : Int) : (#[.int .i64 a, .int .i64 b, .int .i64 d] : Array Value).all (·.oneCell') = true := by kernel_rfl
theorem one_E (s : ByteArray) (a b : Int) (q : Option Addr) (n m : Nat) (d : Int) : (#[.string s, .int .i64 a, .int .i64 b, .slice q n m, .int .i64 d] : Array Value).all (·.oneCell') = true := by kernel_rfl
theorem size_I : (Tryz.prog.info? 48).map (·.size) = some 3 := by kernel_rfl
theorem size_E : (Tryz.prog.info? 43).map (·.size) = some 5 := by kernel_rfl
end Go.Proofs.YtcjnejdemfemfaaGreatDoor

