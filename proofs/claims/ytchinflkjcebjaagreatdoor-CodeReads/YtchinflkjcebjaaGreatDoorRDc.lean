import Derived.Test.YtchinflkjcebjaaGreatDoorRDb
namespace Go.Proofs.YtchinflkjcebjaaGreatDoor
open Go.RowKit

/-! The reference's Decode in memory: the reader (rb), its result (p2), the code that is being made (p5). -/
theorem Rr.same {w w' : World} {rb : Nat} {s : ByteArray} {p : Nat} (h : Rr w rb s p) (e : w'.heap[rb]? = w.heap[rb]?) : Rr w' rb s p := e.trans h
theorem Rr.blk {w : World} {rb : Nat} {s : ByteArray} {p : Nat} (h : Rr w rb s p) : Blk w rb 81 2 := ⟨_, h, Nat.le_refl _⟩
structure Dk (w W : World) (rb p2 p5 : Nat) (C : Array Value) (s : ByteArray) (p : Nat) : Prop where
  rd : Rr W rb s p
  bel : Below w.heap.size w W
  b2 : W.heap[p2]? = some (.cells zc 28)
  b5 : W.heap[p5]? = some (.cells C 28)
  n2 : p2 ≠ rb
  n5 : p5 ≠ rb
  ne : p2 ≠ p5
  lr : w.heap.size ≤ rb
  l2 : w.heap.size ≤ p2
  l5 : w.heap.size ≤ p5
theorem Dk.lt2 {w W : World} {rb p2 p5 p : Nat} {C : Array Value} {s : ByteArray} (h : Dk w W rb p2 p5 C s p) : p2 < W.heap.size := (Array.getElem?_eq_some_iff.1 h.b2).1
theorem Dk.lt5 {w W : World} {rb p2 p5 p : Nat} {C : Array Value} {s : ByteArray} (h : Dk w W rb p2 p5 C s p) : p5 < W.heap.size := (Array.getElem?_eq_some_iff.1 h.b5).1
theorem Dk.call {w W W' : World} {rb p2 p5 p p' : Nat} {C : Array Value} {s : ByteArray} (h : Dk w W rb p2 p5 C s p) (r : Rr W' rb s p') (k : Kp (fun x => x = rb) W W') : Dk w W' rb p2 p5 C s p' :=
  ⟨r, h.bel.trans (k.below (fun _ q => by have := h.lr; omega) h.bel.size), (k.block _ h.lt2 h.n2).trans h.b2, (k.block _ h.lt5 h.n5).trans h.b5, h.n2, h.n5, h.ne, h.lr, h.l2, h.l5⟩
theorem Dk.next {w W W' : World} {rb p2 p5 p : Nat} {C : Array Value} {s : ByteArray} (h : Dk w W rb p2 p5 C s p) (k : Below W.heap.size W W') : Dk w W' rb p2 p5 C s p := h.call (h.rd.next k) (Kp.of k)
theorem Dk.set {w W : World} {rb p2 p5 p : Nat} {C : Array Value} {s : ByteArray} (h : Dk w W rb p2 p5 C s p) (j : Nat) (v : Value) : Dk w (W.setCell ⟨p5, j, none⟩ v) rb p2 p5 (C.set! j v) s p :=
  ⟨h.rd.same (set_heap (a := ⟨p5, j, none⟩) h.n5.symm), h.bel.setCell (p := ⟨p5, j, none⟩) h.l5 v, (set_heap (a := ⟨p5, j, none⟩) h.ne).trans h.b2, set_blk h.b5 v, h.n2, h.n5, h.ne, h.lr, h.l2, h.l5⟩
theorem Dk.grown {w W W' : World} {rb p2 p5 p : Nat} {C : Array Value} {s : ByteArray} (h : Dk w W rb p2 p5 C s p) {row : Option Nat} (hg : W.grownBy W' row) (hr : ∀ k, row = some k → w.heap.size ≤ k ∧ k ≠ p2 ∧ k ≠ p5 ∧ k ≠ rb) : Dk w W' rb p2 p5 C s p := by
  have e : ∀ b, b < W.heap.size → row ≠ some b → W'.heap[b]? = W.heap[b]? := fun b hb hn => hg.block b hb (fun q => hn q.symm)
  have k : Kp (fun x => row = some x) W W' := (Kp.refl _ W).grown hg (fun k hk => .inl hk)
  exact ⟨h.rd.same (e rb h.rd.lt (fun q => (hr _ q).2.2.2 rfl)), h.bel.trans (k.below (fun x q => (hr x q).1) h.bel.size), (e p2 h.lt2 (fun q => (hr _ q).2.1 rfl)).trans h.b2, (e p5 h.lt5 (fun q => (hr _ q).2.2.1 rfl)).trans h.b5, h.n2, h.n5, h.ne, h.lr, h.l2, h.l5⟩
theorem Dk.own {w W W' : World} {rb p2 p5 p : Nat} {C : Array Value} {s : ByteArray} (h : Dk w W rb p2 p5 C s p) {e : TypeId} {sz : Nat} {v : Value} {n : Nat} {xs : List Value} (D : Obj) (ho : W.ownsRow w.heap.size e sz v n xs) (h1 : e ≠ 28) (h2 : e ≠ 81) (hg : (W.alloc D).grownBy W' v.ownBlock) : Dk w W' rb p2 p5 C s p := by
  have nb : Below W.heap.size W (W.alloc D) := (Below.refl _ W).alloc (Nat.le_refl _) _
  refine (h.next nb).grown hg (fun g hg' => ⟨own_ge ho g hg', fun q => ?_, fun q => ?_, fun q => ?_⟩)
  · subst q; exact own_ne ho (b := g) (t := 28) (m := zc.size) ⟨_, h.b2, Nat.le_refl _⟩ (Ne.symm h1) hg'
  · subst q; exact own_ne ho (b := g) (t := 28) (m := C.size) ⟨_, h.b5, Nat.le_refl _⟩ (Ne.symm h1) hg'
  · subst q; exact own_ne ho (b := g) (t := 81) (m := 2) h.rd.blk (Ne.symm h2) hg'
/-- A struct (p7) that is being made beside the reader, as seen from the world ahead of it. -/
structure Ek (w W : World) (rb p7 : Nat) (C : Array Value) (t : TypeId) (s : ByteArray) (p : Nat) : Prop where
  rd : Rr W rb s p
  kp : Kp (fun x => x = rb) w W
  b7 : W.heap[p7]? = some (.cells C t)
  n7 : p7 ≠ rb
  l7 : w.heap.size ≤ p7
theorem Ek.lt7 {w W : World} {rb p7 p : Nat} {C : Array Value} {t : TypeId} {s : ByteArray} (h : Ek w W rb p7 C t s p) : p7 < W.heap.size := (Array.getElem?_eq_some_iff.1 h.b7).1
theorem Ek.call {w W W' : World} {rb p7 p p' : Nat} {C : Array Value} {t : TypeId} {s : ByteArray} (h : Ek w W rb p7 C t s p) (r : Rr W' rb s p') (k : Kp (fun x => x = rb) W W') : Ek w W' rb p7 C t s p' :=
  ⟨r, h.kp.trans k (fun _ _ q => q), (k.block _ h.lt7 h.n7).trans h.b7, h.n7, h.l7⟩
theorem Ek.next {w W W' : World} {rb p7 p : Nat} {C : Array Value} {t : TypeId} {s : ByteArray} (h : Ek w W rb p7 C t s p) (k : Below W.heap.size W W') : Ek w W' rb p7 C t s p := h.call (h.rd.next k) (Kp.of k)
theorem Ek.set {w W : World} {rb p7 p : Nat} {C : Array Value} {t : TypeId} {s : ByteArray} (h : Ek w W rb p7 C t s p) (j : Nat) (v : Value) : Ek w (W.setCell ⟨p7, j, none⟩ v) rb p7 (C.set! j v) t s p :=
  ⟨h.rd.same (set_heap (a := ⟨p7, j, none⟩) h.n7.symm), h.kp.setCell (p := ⟨p7, j, none⟩) (.inr h.l7) v, set_blk h.b7 v, h.n7, h.l7⟩
theorem Ek.grown {w W W' : World} {rb p7 p : Nat} {C : Array Value} {t : TypeId} {s : ByteArray} (h : Ek w W rb p7 C t s p) {row : Option Nat} (hg : W.grownBy W' row) (hr : ∀ k, row = some k → w.heap.size ≤ k ∧ k ≠ p7 ∧ k ≠ rb) : Ek w W' rb p7 C t s p := by
  have e : ∀ b, b < W.heap.size → row ≠ some b → W'.heap[b]? = W.heap[b]? := fun b hb hn => hg.block b hb (fun q => hn q.symm)
  exact ⟨h.rd.same (e rb h.rd.lt (fun q => (hr _ q).2.2 rfl)), h.kp.grown hg (fun k hk => .inr (hr k hk).1), (e p7 h.lt7 (fun q => (hr _ q).2.1 rfl)).trans h.b7, h.n7, h.l7⟩
theorem Ek.own {w W W' : World} {rb p7 p : Nat} {C : Array Value} {t : TypeId} {s : ByteArray} (h : Ek w W rb p7 C t s p) {e : TypeId} {sz : Nat} {v : Value} {n : Nat} {xs : List Value} (D : Obj) (ho : W.ownsRow w.heap.size e sz v n xs) (h1 : e ≠ t) (h2 : e ≠ 81) (hg : (W.alloc D).grownBy W' v.ownBlock) : Ek w W' rb p7 C t s p := by
  have nb : Below W.heap.size W (W.alloc D) := (Below.refl _ W).alloc (Nat.le_refl _) _
  refine (h.next nb).grown hg (fun g hg' => ⟨own_ge ho g hg', fun q => ?_, fun q => ?_⟩)
  · subst q; exact own_ne ho (b := g) (t := t) (m := C.size) ⟨_, h.b7, Nat.le_refl _⟩ (Ne.symm h1) hg'
  · subst q; exact own_ne ho (b := g) (t := 81) (m := 2) h.rd.blk (Ne.symm h2) hg'
theorem own_rr {w w' : World} {B : Nat} {e : TypeId} {sz : Nat} {v : Value} {n : Nat} {xs : List Value} {rb p : Nat} {s : ByteArray} (h : w.ownsRow B e sz v n xs) (r : Rr w rb s p) (he : e ≠ 81) (k : Kp (fun x => x = rb) w w') : w'.ownsRow B e sz v n xs :=
  own_same h fun g hg => k.block g (own_blk h g hg).lt (fun q => by
    subst q
    exact (own_ne h (b := g) (t := 81) (m := 2) r.blk (Ne.symm he)) hg)
theorem Rows.rr {W W' : World} {b rb p : Nat} {s : ByteArray} {iv ev' tv' : Value} {ins : List In} {Es : List Em} {txs : List ByteArray} (h : Rows W b iv ev' tv' ins Es txs) (r : Rr W rb s p) (k : Kp (fun x => x = rb) W W') : Rows W' b iv ev' tv' ins Es txs := h.keep fun g t n hb ht => k.block g hb.lt (fun q => by
    have q' : g = rb := q
    subst q'
    refine hb.ne r.blk ?_ rfl
    rcases ht with e | e | e | e <;> (subst e; decide))
theorem rnumber_v (w : World) (rb k p : Nat) (s : ByteArray) (h : Rr w rb s p) (hp : p + k ≤ 9223372036854775807) :
    Calls Tryz.prog 42 #[.pointer (some ⟨rb, 0, none⟩), .int .i64 (k : Int)] w fun e w' => ∃ v, e = .returned v ∧ (v = .int .i64 (numV (padL (lt s) p k)) ∧ Hid (Rr w' rb s (p + k) ∧ Kp (fun x => x = rb) w w')) := (rnumber_f w rb k p s h hp).mono fun _ _ ⟨a, b⟩ => ⟨_, a, rfl, b⟩
theorem rtext_v (w : World) (rb p : Nat) (s : ByteArray) (h : Rr w rb s p) (hp : p ≤ 4611686018427387904) (hs : s.size ≤ 281474976710656) :
    Calls Tryz.prog 43 #[.pointer (some ⟨rb, 0, none⟩)] w fun e w' => ∃ v, e = .returned v ∧ (v = .string (YtchinflkjcebjaaGreatDoor.bk (ldT (lt s) p)) ∧ Hid (Rr w' rb s (ldQ (lt s) p) ∧ Kp (fun x => x = rb) w w')) := (rtext_f w rb p s h hp hs).mono fun _ _ ⟨a, b⟩ => ⟨_, a, rfl, b⟩
theorem callrn (a b : Value) (w : World) : (callFunc 42 #[a, b]).run Tryz.prog w = .ok (.enter 42 #[a, b]) w := by kernel_rfl
theorem callrt (a : Value) (w : World) : (callFunc 43 #[a]).run Tryz.prog w = .ok (.enter 43 #[a]) w := by kernel_rfl
/-! How much is read. -/
theorem ldQ_le (l : List UInt8) (p : Nat) : ldQ l p ≤ p + 256 := by have := UInt8.toNat_lt (l.getD p 0); unfold ldQ; omega
theorem ldT_len (l : List UInt8) (p : Nat) : (ldT l p).length ≤ 255 := by have := UInt8.toNat_lt (l.getD p 0); unfold ldT; rw [List.length_take]; omega
theorem ldK_le (l : List UInt8) (p : Nat) : ldK l p ≤ 255 := by have := UInt8.toNat_lt (l.getD (ldQ l p + 5) 0); unfold ldK; omega
theorem ldEq_le (l : List UInt8) (p : Nat) : ldEq l p ≤ p + 600 := by have := ldQ_le l p; have := ldK_le l p; unfold ldEq; omega
theorem ldIq_le (l : List UInt8) (p : Nat) : ldIq l p ≤ p + 17 := by
  have h1 := shWd8 (opA.getD (l.getD p 0).toNat 0)
  have h2 := shWd8 (opB.getD (l.getD p 0).toNat 0)
  unfold ldIq wdA wdB
  omega
theorem ldIq_gt (l : List UInt8) (p : Nat) : p < ldIq l p := by unfold ldIq; omega
theorem ldR_len {α : Type} (f : Nat → α) (g : Nat → Nat) (m : Nat) : ∀ n p, (ldR f g m n p).1.length ≤ n
  | 0, p => Nat.le_refl _
  | n + 1, p => by
    have h := ldR_len f g m n (g p)
    unfold ldR
    split
    · simp only [List.length_cons]; omega
    · simp
theorem ldJ_len (l : List UInt8) : ∀ n p xs, ldJ l n p = some xs → xs.length ≤ l.length - p
  | 0, p, xs, h => by obtain rfl := Option.some.inj h; simp
  | n + 1, p, xs, h => by
    unfold ldJ at h
    split at h
    · split at h
      · cases h
      · cases hj : ldJ l n (ldIq l p) with
        | none => rw [hj] at h; cases h
        | some ys =>
          rw [hj] at h
          obtain rfl := Option.some.inj h
          have h1 := ldJ_len l n _ ys hj
          have h2 := ldIq_gt l p
          simp only [List.length_cons]
          omega
    · obtain rfl := Option.some.inj h; simp
theorem ldI_64 (l : List UInt8) (p : Nat) : (-9223372036854775808 ≤ (ldI l p).2.1 ∧ (ldI l p).2.1 ≤ 9223372036854775807) ∧ (-9223372036854775808 ≤ (ldI l p).2.2 ∧ (ldI l p).2.2 ≤ 9223372036854775807) := ⟨numV_i64 _, numV_i64 _⟩
theorem ldR_mem {α : Type} (f : Nat → α) (g : Nat → Nat) (m : Nat) : ∀ n p x, x ∈ (ldR f g m n p).1 → ∃ p', x = f p'
  | 0, p, x, h => by cases h
  | n + 1, p, x, h => by
    unfold ldR at h
    split at h
    · rcases List.mem_cons.1 h with q | q
      · exact ⟨p, q⟩
      · exact ldR_mem f g m n (g p) x q
    · cases h
theorem wpList_appL {P : Program} (t e : TypeId) (z : Value) (size bytes : Nat) (ht : P.underlying t = some (.slice e)) (hinf : (P.info? e).map (fun i => (i.zero, i.size, i.bytes)) = some (some z, size, bytes)) (hzs : z.cells.size = size) (hsz : 0 < size) (hby : bytes ≤ 100)
    {w : World} {ops : Array Oper} {rest : List Oper} {o : Oper} {a : Act} {Q : Exit → Act → World → Prop} (hgd : o.guard = none) (s x : Operand)
    (ho : o.op = .call { callee := .builtin .append, args := #[s, x], argTypes := #[t, t] })
    (base : Nat) (v : Value) (n : Nat) (xs : List Value) (hs : a.eval s = v) (hown : w.ownsRow base e size v n xs) (C : Array Value) (hC : C.size = size) (h1 : ∀ u ∈ C.toList, u.oneCell' = true) (hx : a.eval x = .slice (some ⟨w.heap.size, 0, none⟩) 1 1)
    (h40 : n + 1 ≤ 1000000000000) (hbase : base ≤ w.heap.size)
    (h : ∀ v' w', Hid (w'.ownsRow base e size v' (n + 1) (xs ++ C.toList)) → Hid ((w.alloc (.cells C e)).grownBy w' v.ownBlock ∧ (v'.ownBlock = v.ownBlock ∨ v'.ownBlock = some (w.heap.size + 1))) → wpList P ops Q rest (a.put o.dst v') w') : wpList P ops Q (o :: rest) a (w.alloc (.cells C e)) := by
  obtain ⟨i0, hi, hz0, hz1, hz2⟩ := info_parts hinf
  have ho2 := World.ownsRow.alloc hown (.cells C e)
  have hb : (n + 1) * bytes ≤ 140737488355328 := Nat.le_trans (Nat.mul_le_mul h40 hby) (by decide)
  obtain ⟨v', w', hr, h2, h3, _, h4⟩ := run_append_own_at (P := P) (w.alloc (.cells C e)) base t o.type e i0 z size bytes ht hi hz0 hz1 hz2 hzs hsz v n xs ho2 ⟨w.heap.size, 0, none⟩ 1 1 C.toList (by rw [Nat.one_mul]; simpa using hC)
    (fun j u hu => by rw [Addr.add_mid, Nat.zero_add]; simp only [World.cell?, heap_alloc_new w _]; simpa using hu) h1 (by unfold maxLen; omega) hb (by simp; omega)
  rw [World.size_alloc] at h4
  refine wpList_plain hgd fun K hK => ?_
  unfold Oper.wp execOp
  simp only [ho, resolve, invoke, builtin, Sem.run_bind, Sem.run_pure, Result.andThen_ok, List.map_toArray, List.map_cons, List.map_nil, hs, hx, hr]
  exact hK _ _ (h v' w' h2 ⟨h3, h4⟩)
/-- Rows of any length that memory holds are a code in memory. -/
theorem rows_any {W : World} {b : Nat} {iq eq tq : Option Addr} {ia ea ta : Nat} {Es : List Em} {c : Cd} (h : Rows W b (.slice iq c.ins.length ia) (.slice eq c.ens.length ea) (.slice tq c.txs.length ta) c.ins Es c.txs) (en : Es.map (·.1) = c.ens) (h1 : ∀ e ∈ c.ens, e.name.size ≤ 255 ∧ e.sorts.length ≤ 255) (h2 : c.ins.length ≤ 9223372036854775807) (h3 : c.ens.length ≤ 255) (h4 : c.txs.length ≤ 65535) (h5 : ∀ t ∈ c.txs, t.size ≤ 255) : CodeM W W.heap.size iq eq tq Es c := by
  have hl : Es.length = c.ens.length := by rw [← en, List.length_map]
  have he := h.er
  rw [hl] at he
  refine ⟨en, row_of_own h.ir, row_of_own he, row_of_own h.tr, fun x hx => ⟨row_of_own (h.sr x hx), ?_⟩, h2, by omega, by omega, fun t ht => ?_⟩
  · have := h1 x.1 (by rw [← en]; exact List.mem_map_of_mem hx)
    omega
  · have := h5 t ht; omega
end Go.Proofs.YtchinflkjcebjaaGreatDoor
