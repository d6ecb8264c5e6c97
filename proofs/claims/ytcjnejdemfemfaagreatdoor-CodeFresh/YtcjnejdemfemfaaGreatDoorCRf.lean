import Derived.Test.YtcjnejdemfemfaaGreatDoorCRe
namespace Go.Proofs.YtcjnejdemfemfaaGreatDoor
open Go.RowKit

/-- The rows of a code that is being made. -/
structure Rows (W : World) (b : Nat) (iv ev' tv' : Value) (ins : List In) (Es : List Em) (txs : List ByteArray) : Prop where
  ir : W.ownsRow b 48 3 iv ins.length (ins.flatMap ic)
  er : W.ownsRow b 43 5 ev' Es.length (Es.flatMap ec)
  tr : W.ownsRow b 9 1 tv' txs.length (tv txs)
  sr : ∀ x ∈ Es, W.ownsRow b 41 1 (.slice x.2.1 x.1.sorts.length x.2.2) x.1.sorts.length (sv x.1.sorts)
theorem Rows.keep {W W' : World} {b : Nat} {iv ev' tv' : Value} {ins : List In} {Es : List Em} {txs : List ByteArray} (h : Rows W b iv ev' tv' ins Es txs) (hk : ∀ g t n, Blk W g t n → (t = 48 ∨ t = 43 ∨ t = 9 ∨ t = 41) → W'.heap[g]? = W.heap[g]?) : Rows W' b iv ev' tv' ins Es txs :=
  ⟨own_same h.ir fun g hg => hk g _ _ (own_blk h.ir g hg) (.inl rfl), own_same h.er fun g hg => hk g _ _ (own_blk h.er g hg) (.inr (.inl rfl)), own_same h.tr fun g hg => hk g _ _ (own_blk h.tr g hg) (.inr (.inr (.inl rfl))), fun x hx => own_same (h.sr x hx) fun g hg => hk g _ _ (own_blk (h.sr x hx) g hg) (.inr (.inr (.inr rfl)))⟩
theorem Rows.next {W W' : World} {b : Nat} {iv ev' tv' : Value} {ins : List In} {Es : List Em} {txs : List ByteArray} (h : Rows W b iv ev' tv' ins Es txs) (k : Below W.heap.size W W') : Rows W' b iv ev' tv' ins Es txs := h.keep fun g _ _ hb _ => k.block g hb.lt
theorem Rows.kp {W W' : World} {b rb : Nat} {st : Rs} {iv ev' tv' : Value} {ins : List In} {Es : List Em} {txs : List ByteArray} (h : Rows W b iv ev' tv' ins Es txs) (r : Rd W rb st) (k : Kp (fun x => x = rb) W W') : Rows W' b iv ev' tv' ins Es txs := h.keep fun g t n hb ht => k.block g hb.lt (fun q => by
    have q' : g = rb := q
    subst q'
    have hr : Blk W g 56 2 := ⟨_, r.1, Nat.le_refl _⟩
    refine hb.ne hr ?_ rfl
    rcases ht with e | e | e | e <;> (subst e; decide))
theorem Rows.set {W : World} {b p j : Nat} {C : Array Value} {iv ev' tv' : Value} {ins : List In} {Es : List Em} {txs : List ByteArray} (h : Rows W b iv ev' tv' ins Es txs) (hp : W.heap[p]? = some (.cells C 26)) (u : Value) : Rows (W.setCell ⟨p, j, none⟩ u) b iv ev' tv' ins Es txs := h.keep fun g t n hb ht => set_heap (a := ⟨p, j, none⟩) (fun q => by
    have q' : g = p := q
    subst q'
    have hr : Blk W g 26 C.size := ⟨_, hp, Nat.le_refl _⟩
    refine hb.ne hr ?_ rfl
    rcases ht with e | e | e | e <;> (subst e; decide))
theorem Rows.base {W : World} {b c : Nat} {iv ev' tv' : Value} {ins : List In} {Es : List Em} {txs : List ByteArray} (h : Rows W b iv ev' tv' ins Es txs) (hc : c ≤ b) : Rows W c iv ev' tv' ins Es txs := ⟨own_down h.ir hc, own_down h.er hc, own_down h.tr hc, fun x hx => own_down (h.sr x hx) hc⟩
theorem Rows.appE {W W' : World} {b : Nat} {iv ev' v' tv' : Value} {ins : List In} {Es : List Em} {txs : List ByteArray} (h : Rows W b iv ev' tv' ins Es txs) (x : Em) (D : Obj) (hg : (W.alloc D).grownBy W' ev'.ownBlock) (ho : W'.ownsRow b 43 5 v' (Es.length + 1) (Es.flatMap ec ++ ec x)) (hx : W.ownsRow b 41 1 (.slice x.2.1 x.1.sorts.length x.2.2) x.1.sorts.length (sv x.1.sorts)) : Rows W' b iv v' tv' ins (Es ++ [x]) txs := by
  have k : ∀ g t n, Blk W g t n → t ≠ 43 → W'.heap[g]? = W.heap[g]? := fun g t n hb ht => (hg.block g (by have := hb.lt; simp; omega) (fun e => own_ne h.er hb ht e.symm)).trans (Below.heap_alloc _ _ _ hb.lt)
  refine ⟨own_same h.ir fun g hg => k g _ _ (own_blk h.ir g hg) (by decide), ?_, own_same h.tr fun g hg => k g _ _ (own_blk h.tr g hg) (by decide), fun y hy => ?_⟩
  · rw [List.length_append, List.flatMap_append]
    simpa using ho
  · rcases List.mem_append.1 hy with q | q
    · exact own_same (h.sr y q) fun g hg => k g _ _ (own_blk (h.sr y q) g hg) (by decide)
    · obtain rfl := List.mem_singleton.1 q
      exact own_same hx fun g hg => k g _ _ (own_blk hx g hg) (by decide)
theorem Rows.appT {W W' : World} {b : Nat} {iv ev' v' tv' : Value} {ins : List In} {Es : List Em} {txs : List ByteArray} (h : Rows W b iv ev' tv' ins Es txs) (t : ByteArray) (D : Obj) (hg : (W.alloc D).grownBy W' tv'.ownBlock) (ho : W'.ownsRow b 9 1 v' (txs.length + 1) (tv txs ++ [.string t])) : Rows W' b iv ev' v' ins Es (txs ++ [t]) := by
  have k : ∀ g t n, Blk W g t n → t ≠ 9 → W'.heap[g]? = W.heap[g]? := fun g t n hb ht => (hg.block g (by have := hb.lt; simp; omega) (fun e => own_ne h.tr hb ht e.symm)).trans (Below.heap_alloc _ _ _ hb.lt)
  refine ⟨own_same h.ir fun g hg => k g _ _ (own_blk h.ir g hg) (by decide), own_same h.er fun g hg => k g _ _ (own_blk h.er g hg) (by decide), ?_, fun y hy => own_same (h.sr y hy) fun g hg => k g _ _ (own_blk (h.sr y hy) g hg) (by decide)⟩
  rw [List.length_append]
  unfold tv
  rw [List.map_append]
  exact ho
theorem Rows.appI {W W' : World} {b : Nat} {iv ev' v' tv' : Value} {ins : List In} {Es : List Em} {txs : List ByteArray} (h : Rows W b iv ev' tv' ins Es txs) (x : In) (D : Obj) (hg : (W.alloc D).grownBy W' iv.ownBlock) (ho : W'.ownsRow b 48 3 v' (ins.length + 1) (ins.flatMap ic ++ ic x)) : Rows W' b v' ev' tv' (ins ++ [x]) Es txs := by
  have k : ∀ g t n, Blk W g t n → t ≠ 48 → W'.heap[g]? = W.heap[g]? := fun g t n hb ht => (hg.block g (by have := hb.lt; simp; omega) (fun e => own_ne h.ir hb ht e.symm)).trans (Below.heap_alloc _ _ _ hb.lt)
  refine ⟨?_, own_same h.er fun g hg => k g _ _ (own_blk h.er g hg) (by decide), own_same h.tr fun g hg => k g _ _ (own_blk h.tr g hg) (by decide), fun y hy => own_same (h.sr y hy) fun g hg => k g _ _ (own_blk (h.sr y hy) g hg) (by decide)⟩
  rw [List.length_append, List.flatMap_append]
  simpa using ho
theorem Rows.nil (W : World) (b : Nat) : Rows W b (.slice none 0 0) (.slice none 0 0) (.slice none 0 0) [] [] [] := ⟨World.ownsRow_nil _ _ _ _, World.ownsRow_nil _ _ _ _, World.ownsRow_nil _ _ _ _, fun _ hx => by cases hx⟩
theorem ec_one (x : Em) : ∀ u ∈ ec x, u.oneCell' = true := fun u hu => by
  unfold ec at hu
  simp only [List.mem_cons, List.not_mem_nil, or_false] at hu
  rcases hu with rfl | rfl | rfl | rfl | rfl <;> rfl
theorem ic_one (x : In) : ∀ u ∈ ic x, u.oneCell' = true := fun u hu => by
  unfold ic at hu
  simp only [List.mem_cons, List.not_mem_nil, or_false] at hu
  rcases hu with rfl | rfl | rfl <;> rfl
theorem infoEnt : (Tryz.prog.info? 43).map (fun i => (i.zero, i.size, i.bytes)) = some (some (.agg #[.string e0, .int .i64 0, .int .i64 0, .slice none 0 0, .int .i64 0]), 5, 64) := by kernel_rfl
theorem infoIns : (Tryz.prog.info? 48).map (fun i => (i.zero, i.size, i.bytes)) = some (some (.agg #[.int .i64 0, .int .i64 0, .int .i64 0]), 3, 24) := by kernel_rfl
theorem info9 : (Tryz.prog.info? 9).map (fun i => (i.zero, i.size, i.bytes)) = some (some (.string e0), 1, 16) := by kernel_rfl
abbrev cv (iv ev' tv' : Value) (m : Int) : Array Value := #[iv, ev', tv', .int .i64 m]
theorem Mk.own {w W W' : World} {rb p2 p3 : Nat} {Z C : Array Value} {st : Rs} (h : Mk w W rb p2 p3 Z C 26 st) {e : TypeId} {sz : Nat} {v : Value} {n : Nat} {xs : List Value} (D : Obj) (ho : W.ownsRow w.heap.size e sz v n xs) (h1 : e ≠ 26) (h2 : e ≠ 56) (hg : (W.alloc D).grownBy W' v.ownBlock) : Mk w W' rb p2 p3 Z C 26 st := by
  have nb : Below W.heap.size W (W.alloc D) := (Below.refl _ W).alloc (Nat.le_refl _) _
  refine (h.next nb).grown hg (fun g hg' => ⟨own_ge ho g hg', fun q => ?_, fun q => ?_, fun q => ?_⟩)
  · subst q; exact own_ne ho (b := g) (t := 26) (m := Z.size) ⟨_, h.b2, Nat.le_refl _⟩ (Ne.symm h1) hg'
  · subst q; exact own_ne ho (b := g) (t := 26) (m := C.size) ⟨_, h.b3, Nat.le_refl _⟩ (Ne.symm h1) hg'
  · subst q; exact own_ne ho (b := g) (t := 56) (m := 2) ⟨_, h.rd.1, Nat.le_refl _⟩ (Ne.symm h2) hg'
theorem calle (a : Value) (w : World) : (callFunc 47 #[a]).run Tryz.prog w = .ok (.enter 47 #[a]) w := by kernel_rfl
theorem callt (a : Value) (w : World) : (callFunc 48 #[a]).run Tryz.prog w = .ok (.enter 48 #[a]) w := by kernel_rfl
theorem calli (a : Value) (w : World) : (callFunc 49 #[a]).run Tryz.prog w = .ok (.enter 49 #[a]) w := by kernel_rfl
theorem entry_v (w : World) (rb : Nat) (st : Rs) (h : Rd w rb st) :
    Calls Tryz.prog 47 #[.pointer (some ⟨rb, 0, none⟩)] w fun e w' => ∃ v, e = .returned v ∧ (∃ q cp, v = .agg (ec ((rdE st).1, q, cp)).toArray ∧ Hid (EnG w w' rb ((rdE st).1, q, cp) (rdE st).2)) := (entry_f w rb st h).mono fun _ _ ⟨q, cp, a, b⟩ => ⟨_, a, q, cp, rfl, b⟩
theorem text_v (w : World) (rb : Nat) (st : Rs) (h : Rd w rb st) :
    Calls Tryz.prog 48 #[.pointer (some ⟨rb, 0, none⟩)] w fun e w' => ∃ v, e = .returned v ∧ (v = .string (YtcjnejdemfemfaaGreatDoor.bk (rdT st).1) ∧ Hid (Rd w' rb (rdT st).2 ∧ Kp (fun x => x = rb) w w')) := (text_f w rb st h).mono fun _ _ ⟨a, b⟩ => ⟨_, a, rfl, b⟩
theorem instr_v (w : World) (rb : Nat) (st : Rs) (h : Rd w rb st) (ht : Tabs w) (hr : 10 ≤ rb) :
    Calls Tryz.prog 49 #[.pointer (some ⟨rb, 0, none⟩)] w fun e w' => ∃ v, e = .returned v ∧ (v = .agg (ic (rdI st).1).toArray ∧ Hid (Rd w' rb (rdI st).2 ∧ Kp (fun x => x = rb) w w')) := (instr_f w rb st h ht hr).mono fun _ _ ⟨a, b⟩ => ⟨_, a, rfl, b⟩
theorem rdCode_eq (s : Rs) : rdCode s = (⟨(rep rdI (rdC 4 60000 (rep rdT (rdC 2 4000 (rep rdE (rdC 1 60 (rdN 1 s).2).1 (rdC 1 60 (rdN 1 s).2).2).2).1 (rdC 2 4000 (rep rdE (rdC 1 60 (rdN 1 s).2).1 (rdC 1 60 (rdN 1 s).2).2).2).2).2).1 (rdC 4 60000 (rep rdT (rdC 2 4000 (rep rdE (rdC 1 60 (rdN 1 s).2).1 (rdC 1 60 (rdN 1 s).2).2).2).1 (rdC 2 4000 (rep rdE (rdC 1 60 (rdN 1 s).2).1 (rdC 1 60 (rdN 1 s).2).2).2).2).2).2).1, (rep rdE (rdC 1 60 (rdN 1 s).2).1 (rdC 1 60 (rdN 1 s).2).2).1, (rep rdT (rdC 2 4000 (rep rdE (rdC 1 60 (rdN 1 s).2).1 (rdC 1 60 (rdN 1 s).2).2).2).1 (rdC 2 4000 (rep rdE (rdC 1 60 (rdN 1 s).2).1 (rdC 1 60 (rdN 1 s).2).2).2).2).1.map YtcjnejdemfemfaaGreatDoor.bk, (rdN 1 s).1⟩, (rep rdI (rdC 4 60000 (rep rdT (rdC 2 4000 (rep rdE (rdC 1 60 (rdN 1 s).2).1 (rdC 1 60 (rdN 1 s).2).2).2).1 (rdC 2 4000 (rep rdE (rdC 1 60 (rdN 1 s).2).1 (rdC 1 60 (rdN 1 s).2).2).2).2).2).1 (rdC 4 60000 (rep rdT (rdC 2 4000 (rep rdE (rdC 1 60 (rdN 1 s).2).1 (rdC 1 60 (rdN 1 s).2).2).2).1 (rdC 2 4000 (rep rdE (rdC 1 60 (rdN 1 s).2).1 (rdC 1 60 (rdN 1 s).2).2).2).2).2).2).2) := rfl
end Go.Proofs.YtcjnejdemfemfaaGreatDoor

