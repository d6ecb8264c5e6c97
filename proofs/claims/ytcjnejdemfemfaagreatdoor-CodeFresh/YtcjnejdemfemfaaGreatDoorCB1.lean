import Derived.Test.YtcjnejdemfemfaaGreatDoorCVg
namespace Go.Proofs.YtcjnejdemfemfaaGreatDoor
open Go.RowKit

def bv (l : List UInt8) : List Value := l.map fun c => Value.int .u8 (c.toNat : Int)
theorem bv_app (a b : List UInt8) : bv (a ++ b) = bv a ++ bv b := List.map_append
theorem bv_len (a : List UInt8) : (bv a).length = a.length := List.length_map ..
theorem bv_one (l : List UInt8) : ∀ u ∈ bv l, u.oneCell' = true := by
  intro u hu
  obtain ⟨c, _, rfl⟩ := List.mem_map.1 hu
  rfl
theorem info5 : (Tryz.prog.info? 5).map (fun i => (i.zero, i.size, i.bytes)) = some (some (.int .u8 0), 1, 1) := by kernel_rfl
/-- A row of bytes that was lengthened: nothing else has turned. -/
structure Grew (w w' : World) (base : Nat) (v v' : Value) (n : Nat) (l : List UInt8) : Prop where
  own : w'.ownsRow base 5 1 v' n (bv l)
  kp : Kp (fun b => v.ownBlock = some b) w w'
  sub : ∀ g, v'.ownBlock = some g → v.ownBlock = some g ∨ w.heap.size ≤ g
theorem Grew.step {w wr w3 : World} {base : Nat} {v b v' : Value} {n n' : Nat} {l l' : List UInt8} (h : Grew w wr base v b n l) (C : Obj) (hg : (wr.alloc C).grownBy w3 b.ownBlock) (hv : v'.ownBlock = b.ownBlock ∨ v'.ownBlock = some (wr.heap.size + 1)) (ho : w3.ownsRow base 5 1 v' n' (bv l')) : Grew w w3 base v v' n' l' :=
  ⟨ho, (h.kp.alloc C).grown hg (fun k hk => h.sub k hk), fun g hg' => by
    rcases hv with q | q
    · exact h.sub g (q ▸ hg')
    · rw [q] at hg'
      cases hg'
      have := h.kp.size
      exact .inr (by omega)⟩
theorem Grew.trans {w w1 w2 : World} {base : Nat} {v v1 v2 : Value} {n n' : Nat} {l l' : List UInt8} (h : Grew w w1 base v v1 n l) (k : Grew w1 w2 base v1 v2 n' l') : Grew w w2 base v v2 n' l' :=
  ⟨k.own, h.kp.trans k.kp (fun i hi hv => by rcases h.sub i hv with q | q; exact q; omega), fun g hg => by
    rcases k.sub g hg with q | q
    · exact h.sub g q
    · have := h.kp.size
      exact .inr (by omega)⟩
theorem Grew.next {w w1 w2 : World} {base : Nat} {v v1 : Value} {n : Nat} {l : List UInt8} (h : Grew w w1 base v v1 n l) (k : Below w1.heap.size w1 w2) : Grew w w2 base v v1 n l :=
  ⟨own_next h.own k, h.kp.next k, h.sub⟩

set_option maxRecDepth 100000 in
set_option maxHeartbeats 1000000 in
theorem appNum_any (n : Int) (k : Nat) (hk : k ≤ 8) (base : Nat) (v : Value) (m : Nat) (l : List UInt8) (w : World) (ho : w.ownsRow base 5 1 v m (bv l)) (hb : base ≤ w.heap.size) (hl : m ≤ 900000000) :
    Calls Tryz.prog 32 #[v, .int .i64 n, .int .i64 (k : Int)] w fun e w' => ∃ v', e = .returned v' ∧ Hid (Grew w w' base v v' (m + k) (l ++ numB n k)) := by
  go_enter Tryz.func32, Tryz.ntmps32
  go_wp2
  go_loopw [0, 2] (fun b i wr => ∃ (j : Nat) (l' : List UInt8), j ≤ k ∧ i = .int .i64 ((j : Int) - 1) ∧ Hid (l' ++ numB n j = l ++ numB n k) ∧ Hid (Grew w wr base v b (m + k - j) l')) (fun _ i _ => (intOf i + 1).toNat)
  case atStart => exact ⟨k, l, Nat.le_refl _, rfl, rfl, by rw [Nat.add_sub_cancel]; exact ⟨ho, Kp.refl _ _, fun g hg => .inl hg⟩⟩
  case round =>
    obtain ⟨j, l', hj, rfl, hl', hG⟩ := hrel
    have ho' := hG.out.own
    cases j with
    | zero =>
      obtain ⟨q, c, rfl, -, -⟩ := own_slice ho'
      go_wp2
      first | (change bodyPost Tryz.prog Tryz.f32 _ Exit.ret _ _) | (simp only [Exit.noGoto])
      go_ret
      refine ⟨_, rfl, ?_⟩
      have e := hl'.out
      rw [numB, List.append_nil] at e
      rw [← e]
      exact hG
    | succ j =>
      have e1 : ((j + 1 : Nat) : Int) - 1 = (j : Int) := by omega
      rw [e1]
      have hz : base ≤ wr.heap.size := Nat.le_trans hb hG.out.kp.size
      have j0 : (0 : Int) ≤ (j : Int) := by omega
      have j8 : (j : Int) ≤ 7 := by omega
      have H1 : Hid (∀ u ∈ (#[.int .u8 (n / 2 ^ (8 * j) % 256)] : Array Value).toList, u.oneCell' = true) := fun u hu => by
        obtain rfl := List.mem_singleton.1 (by simpa using hu)
        rfl
      go_wp2_with (first
        | (at_builtin; refine wpList_app 66 5 _ 1 1 Tryz.underlying66 info5 (by rfl) (by decide) (by decide) (by rfl) _ _ (by rfl) base u0 (m + k - (j + 1)) (bv l') (by rfl) ho' _ (by rfl) H1.out (by rfl) (by omega) hz ?_; intro v' w3 ho3 hg3)
        | go_in)
      refine ⟨⟨j, l' ++ [byteOf (n / 2 ^ (8 * j))], by omega, by go_num, ?_, ?_⟩, by simp [intOf]⟩
      · have e := hl'.out
        rw [numB] at e
        show (l' ++ [byteOf (n / 2 ^ (8 * j))]) ++ numB n j = l ++ numB n k
        rw [← e]
        simp
      · have e : bv (l' ++ [byteOf (n / 2 ^ (8 * j))]) = bv l' ++ [.int .u8 (n / 2 ^ (8 * j) % 256)] := by
          rw [bv_app]
          simp only [bv, List.map_cons, List.map_nil, byteOf_nat]
        refine hG.out.step _ hg3.out.1 hg3.out.2 ?_
        have q := ho3.out
        rw [show m + k - (j + 1) + 1 = m + k - j by omega] at q
        rw [e]
        exact q
theorem conv_own {w : World} {base : Nat} {v : Value} {n : Nat} {l : List UInt8} (h : w.ownsRow base 5 1 v n (bv l)) : (convert 66 9 v).run Tryz.prog w = .ok (.string ⟨l.toArray⟩) w := by
  have hn : n = l.length := by have := h.1; rw [bv_len] at this; omega
  rcases h.2 with ⟨rfl, h0⟩ | ⟨g, cap, cur, rfl, hb, hg, hnc, hcm, hcs, htake⟩
  · have hl : l = [] := List.eq_nil_of_length_eq_zero (by omega)
    subst hl
    exact run_convert_bytes_nil w 66 5 Tryz.underlying66 Tryz.underlying5 0 0 9 Tryz.underlying9
  · subst hn
    refine run_convert_bytes_back (P := Tryz.prog) w 66 9 5 ⟨g, 0, none⟩ cap l Tryz.underlying66 Tryz.underlying5 Tryz.underlying9 (fun j hj => ?_)
    exact h.cells (g := g) rfl j _ (by unfold bv; rw [List.getElem?_map, List.getElem?_eq_getElem hj]; rfl)
theorem strCells_bv (s : ByteArray) : Lib.strCells s = bv s.data.toList := by simp [Lib.strCells, bv]
theorem run_appS (w : World) (ty : TypeId) (base g cap n : Nat) (l : List UInt8) (s : ByteArray) (hown : w.ownsRow base 5 1 (.slice (some ⟨g, 0, none⟩) n cap) n (bv l)) (hn : n + s.size ≤ 1000000000) (hb : base ≤ w.heap.size) :
    ∃ v' w', (Builtin.append_ #[66, 9] ty #[.slice (some ⟨g, 0, none⟩) n cap, .string s]).run Tryz.prog w = .ok v' w' ∧ w'.ownsRow base 5 1 v' (n + s.size) (bv (l ++ s.data.toList)) ∧ w.grownBy w' (some g) ∧ (v'.ownBlock = some g ∨ v'.ownBlock = some w.heap.size) := by
  obtain ⟨i0, hi, hz0, hz1, hz2⟩ := info_parts info5
  obtain ⟨v', w', hr, h2, h3, _⟩ := Lib.run_append_own_string (P := Tryz.prog) w base 66 9 ty 5 i0 Tryz.underlying66 Tryz.underlying9 hi hz0 hz1 hz2 _ n _ hown s (by unfold maxLen; omega) (by omega) hb
  refine ⟨v', w', hr, by rw [bv_app, ← strCells_bv]; exact h2, h3, ?_⟩
  rcases hown.2 with ⟨q, _⟩ | ⟨g', cap', cur, hv, hbg, hg, hnc, hcm, hcs, htake⟩
  · cases q
  · cases hv
    by_cases hroom : n + s.size ≤ cap
    · have hr2 := Lib.run_append_room_string (P := Tryz.prog) w 66 9 ty 5 i0 Tryz.underlying66 Tryz.underlying9 hi hz1 g n cap cur hg s hroom (by simp at hcs; omega)
      rw [hr] at hr2
      cases hr2
      exact .inl rfl
    · have hr2 := Lib.run_append_grow_string (P := Tryz.prog) w 66 9 ty 5 i0 (.int .u8 0) Tryz.underlying66 Tryz.underlying9 hi hz0 ⟨g, 0, none⟩ n cap (bv l) (by rw [hz1]; have := hown.1; omega) (hown.cells (g := g) rfl) s (by omega) (by omega) (by rw [hz2]; exact growslice_fits (by omega) (by omega))
      rw [hr] at hr2
      cases hr2
      exact .inr rfl


/-- An append whose run is known, for the walk. -/
theorem wpList_bi {P : Program} {w : World} {ops : Array Oper} {rest : List Oper} {o : Oper} {a : Act} {Q : Exit → Act → World → Prop} {v' : Value} {w' : World} (hgd : o.guard = none) (s x : Operand) (t t2 : TypeId)
    (ho : o.op = .call { callee := .builtin .append, args := #[s, x], argTypes := #[t, t2] }) (va vb : Value) (hs : a.eval s = va) (hx : a.eval x = vb) (hr : (Builtin.append_ #[t, t2] o.type #[va, vb]).run P w = .ok v' w')
    (h : wpList P ops Q rest (a.put o.dst v') w') : wpList P ops Q (o :: rest) a w := by
  refine wpList_plain hgd fun K hK => ?_
  unfold Oper.wp execOp
  simp only [ho, resolve, invoke, builtin, Sem.run_bind, Sem.run_pure, Result.andThen_ok, List.map_toArray, List.map_cons, List.map_nil, hs, hx, hr]
  exact hK _ _ h
/-- Some elements more. -/
theorem wpList_appk {P : Program} (t e : TypeId) (z : Value) (size bytes : Nat) (ht : P.underlying t = some (.slice e)) (hinf : (P.info? e).map (fun i => (i.zero, i.size, i.bytes)) = some (some z, size, bytes)) (hzs : z.cells.size = size) (hsz : 0 < size) (hby : bytes ≤ 100) (k : Nat)
    {w : World} {ops : Array Oper} {rest : List Oper} {o : Oper} {a : Act} {Q : Exit → Act → World → Prop} (hgd : o.guard = none) (s x : Operand)
    (ho : o.op = .call { callee := .builtin .append, args := #[s, x], argTypes := #[t, t] })
    (base : Nat) (v : Value) (n : Nat) (xs : List Value) (hs : a.eval s = v) (hown : w.ownsRow base e size v n xs) (C : Array Value) (hC : C.size = k * size) (h1 : ∀ u ∈ C.toList, u.oneCell' = true) (hx : a.eval x = .slice (some ⟨w.heap.size, 0, none⟩) k k)
    (h40 : n + k ≤ 1000000000) (hbase : base ≤ w.heap.size)
    (h : ∀ v' w', Hid (w'.ownsRow base e size v' (n + k) (xs ++ C.toList)) → Hid ((w.alloc (.cells C e)).grownBy w' v.ownBlock ∧ (v'.ownBlock = v.ownBlock ∨ v'.ownBlock = some (w.heap.size + 1))) → wpList P ops Q rest (a.put o.dst v') w') : wpList P ops Q (o :: rest) a (w.alloc (.cells C e)) := by
  obtain ⟨i0, hi, hz0, hz1, hz2⟩ := info_parts hinf
  have ho2 := World.ownsRow.alloc hown (.cells C e)
  have hb : (n + k) * bytes ≤ 140737488355328 := Nat.le_trans (Nat.mul_le_mul h40 hby) (by decide)
  obtain ⟨v', w', hr, h2, h3, _, h4⟩ := run_append_own_at (P := P) (w.alloc (.cells C e)) base t o.type e i0 z size bytes ht hi hz0 hz1 hz2 hzs hsz v n xs ho2 ⟨w.heap.size, 0, none⟩ k k C.toList (by simpa using hC)
    (fun j u hu => by rw [Addr.add_mid, Nat.zero_add]; simp only [World.cell?, heap_alloc_new w _]; simpa using hu) h1 (by unfold maxLen; omega) hb (by simp; omega)
  rw [World.size_alloc] at h4
  exact wpList_bi hgd s x t t ho _ _ hs hx hr (h v' w' h2 ⟨h3, h4⟩)
theorem bv_snoc (l : List UInt8) (n : Int) : bv (l ++ [byteOf n]) = bv l ++ [.int .u8 (n % 256)] := by
  rw [bv_app]
  simp only [bv, List.map_cons, List.map_nil, byteOf_nat]
theorem one1 (v : Value) (h : v.oneCell' = true) : ∀ u ∈ (#[v] : Array Value).toList, u.oneCell' = true := fun u hu => by
  obtain rfl := List.mem_singleton.1 (by simpa using hu)
  exact h
theorem Grew.str {w w5 : World} {base g cap n : Nat} {l : List UInt8} {v5 : Value} {s : ByteArray} (ho : w5.ownsRow base 5 1 v5 (n + s.size) (bv (l ++ s.data.toList))) (hg : w.grownBy w5 (some g)) (hv : v5.ownBlock = some g ∨ v5.ownBlock = some w.heap.size) : Grew w w5 base (.slice (some ⟨g, 0, none⟩) n cap) v5 (n + s.size) (l ++ s.data.toList) :=
  ⟨ho, (Kp.refl _ _).grown hg (fun k hk => .inl (by rw [← hk]; rfl)), fun g' hg' => by
    rcases hv with r | r
    · exact .inl (by rw [← hg', r]; rfl)
    · rw [r] at hg'
      cases hg'
      exact .inr (Nat.le_refl _)⟩
theorem Grew.start {w : World} {base : Nat} {v : Value} {n : Nat} {l : List UInt8} (h : w.ownsRow base 5 1 v n (bv l)) : Grew w w base v v n l := ⟨h, Kp.refl _ _, fun _ hg => .inl hg⟩
/-- What is no row of bytes stays. -/
theorem Grew.kept {w w' : World} {base : Nat} {v v' : Value} {m n : Nat} {l l0 : List UInt8} (h : Grew w w' base v v' n l) (hv : w.ownsRow base 5 1 v m (bv l0)) {b : Nat} {t : TypeId} {k : Nat} (hb : Blk w b t k) (ht : t ≠ 5) : w'.heap[b]? = w.heap[b]? := h.kp.block b hb.lt (own_ne hv hb ht)
theorem Grew.below {w w' : World} {base : Nat} {v v' : Value} {m n : Nat} {l l0 : List UInt8} (h : Grew w w' base v v' n l) (hv : w.ownsRow base 5 1 v m (bv l0)) (hb : base ≤ w.heap.size) : Below base w w' := h.kp.below (fun k hk => own_ge hv k hk) hb
set_option maxRecDepth 100000 in
set_option maxHeartbeats 2000000 in
theorem appText_any (s : ByteArray) (hs : s.size ≤ 100000) (base : Nat) (v : Value) (m : Nat) (l : List UInt8) (w : World) (ho : w.ownsRow base 5 1 v m (bv l)) (hb : base ≤ w.heap.size) (hl : m ≤ 800000000) :
    Calls Tryz.prog 33 #[v, .string s] w fun e w' => ∃ v', e = .returned v' ∧ Hid (Grew w w' base v v' (m + (txB s).length) (l ++ txB s)) := by
  have hlen : m + (txB s).length = m + 1 + s.size := by unfold txB; rw [List.length_cons, ← Lib.size_eq]; omega
  have hcat : l ++ txB s = (l ++ [byteOf (s.size : Int)]) ++ s.data.toList := by unfold txB; simp
  obtain ⟨L, HL⟩ : ∃ L, Hid (L = (l ++ [byteOf (s.size : Int)]) ++ s.data.toList) := ⟨_, rfl⟩
  rw [hlen, hcat, ← HL.out]
  clear hlen hcat
  obtain ⟨q0, c0, rfl, -, -⟩ := own_slice ho
  have H1 := one1 (.int .u8 ((s.size : Int) % 256)) rfl
  have HO : Hid (w.ownsRow base 5 1 (.slice q0 m c0) m (bv l)) := ho
  clear ho
  go_enter Tryz.func33, Tryz.ntmps33
  go_wp2_with (first
    | (at_builtin; refine wpList_app 66 5 _ 1 1 Tryz.underlying66 info5 (by rfl) (by decide) (by decide) (by rfl) _ _ (by rfl) base (.slice q0 m c0) m (bv l) (by rfl) HO.out _ (by rfl) H1 (by rfl) (by omega) hb ?_; intro v3 w3 ho3 hg3; obtain ⟨q3, c3, rfl, -, hr3⟩ := own_slice ho3.out; obtain ⟨g3, rfl, -⟩ := hr3 (by omega))
    | (at_builtin; obtain ⟨v5, w5, hr5, ho5, hg5, hv5⟩ := run_appS w3 66 base g3 c3 (m + 1) (l ++ [byteOf (s.size : Int)]) s (by rw [bv_snoc]; exact ho3.out) (by omega) (Nat.le_trans (Nat.le_trans hb (by simp)) hg3.out.1.size); obtain ⟨q5, c5, rfl, -, -⟩ := own_slice ho5; refine wpList_bi (by rfl) _ _ _ _ (by rfl) _ _ (by rfl) (by rfl) hr5 ?_)
    | fail)
  go_ret
  refine ⟨_, rfl, ?_⟩
  rw [HL.out]
  refine Grew.trans (n := m + 1) (l := l ++ [byteOf (s.size : Int)]) ?_ (Grew.str (cap := c3) ho5 hg5 hv5)
  refine (Grew.start HO.out).step _ hg3.out.1 hg3.out.2 ?_
  rw [bv_snoc]
  exact ho3.out
end Go.Proofs.YtcjnejdemfemfaaGreatDoor
namespace Go.Proofs.YtcjnejdemfemfaaGreatDoor
open Go.RowKit

theorem bv_two (l : List UInt8) (a b : Int) : bv (l ++ [byteOf a, byteOf b]) = bv l ++ [.int .u8 (a % 256), .int .u8 (b % 256)] := by
  rw [bv_app]
  simp only [bv, List.map_cons, List.map_nil, byteOf_nat]
theorem Blk.of_new (w : World) (C : Array Value) (t : TypeId) : Blk (w.alloc (.cells C t)) w.heap.size t C.size := Blk.new w C t (Nat.le_refl _)
theorem cell_same {w w' : World} {g o : Nat} {v : Value} (h : w.cell? ⟨g, o, none⟩ = some v) (e : w'.heap[g]? = w.heap[g]?) : w'.cell? ⟨g, o, none⟩ = some v := (World.cell?_of_block (w := w) (w' := w') (a := ⟨g, o, none⟩) e).trans h
set_option maxRecDepth 100000 in
set_option maxHeartbeats 4000000 in
theorem appEntry_any (x : Em) (w : World) (base : Nat) (v : Value) (m : Nat) (l : List UInt8) (ho : w.ownsRow base 5 1 v m (bv l)) (hb : base ≤ w.heap.size) (hl : m ≤ 700000000)
    (hr : Row w base x.2.1 x.1.sorts.length (sv x.1.sorts)) (hn : x.1.name.size ≤ 100000) (hsl : x.1.sorts.length ≤ 100000) :
    Calls Tryz.prog 31 #[v, .agg (ec x).toArray] w fun e w' => ∃ v', e = .returned v' ∧ Hid (Grew w w' base v v' (m + (entB x.1).length) (l ++ entB x.1)) := by
  obtain ⟨⟨nm, st, pr, so, rs⟩, q, cp⟩ := x
  simp only at hr hn hsl ⊢
  have hlen : m + (entB ⟨nm, st, pr, so, rs⟩).length = m + (txB nm).length + 4 + 2 + so.length + 1 := by
    unfold entB
    simp only [List.length_append, List.length_cons, numB_len, List.length_map, List.length_nil]
    omega
  have hcat : l ++ entB ⟨nm, st, pr, so, rs⟩ = l ++ txB nm ++ numB st 4 ++ [byteOf pr, byteOf (so.length : Int)] ++ so.map byteOf ++ [byteOf rs] := by
    unfold entB
    simp
  obtain ⟨L, HL⟩ : ∃ L, Hid (L = l ++ txB nm ++ numB st 4 ++ [byteOf pr, byteOf (so.length : Int)] ++ so.map byteOf ++ [byteOf rs]) := ⟨_, rfl⟩
  rw [hlen, hcat, ← HL.out]
  have hnl : (txB nm).length ≤ 100001 := by unfold txB; rw [List.length_cons, ← Lib.size_eq]; omega
  clear hlen hcat
  have B1 : Below w.heap.size w (w.alloc (.cells #[.string nm, .int .i64 st, .int .i64 pr, .slice q so.length cp, .int .i64 rs] 43)) := (Below.refl _ w).alloc (Nat.le_refl _) _
  have bk1 := Blk.of_new w #[.string nm, .int .i64 st, .int .i64 pr, .slice q so.length cp, .int .i64 rs] 43
  have x0 := (cells_new w #[.string nm, .int .i64 st, .int .i64 pr, .slice q so.length cp, .int .i64 rs] 43 0 (.string nm) rfl).1
  have x1 := (cells_new w #[.string nm, .int .i64 st, .int .i64 pr, .slice q so.length cp, .int .i64 rs] 43 1 (.int .i64 st) rfl).1
  have x2 := (cells_new w #[.string nm, .int .i64 st, .int .i64 pr, .slice q so.length cp, .int .i64 rs] 43 2 (.int .i64 pr) rfl).1
  have x3 := (cells_new w #[.string nm, .int .i64 st, .int .i64 pr, .slice q so.length cp, .int .i64 rs] 43 3 (.slice q so.length cp) rfl).1
  have x4 := (cells_new w #[.string nm, .int .i64 st, .int .i64 pr, .slice q so.length cp, .int .i64 rs] 43 4 (.int .i64 rs) rfl).1
  have G0 : Grew w (w.alloc (.cells #[.string nm, .int .i64 st, .int .i64 pr, .slice q so.length cp, .int .i64 rs] 43)) base v v m l := (Grew.start ho).next B1
  have hsi : (so.length : Int) ≤ 9223372036854775807 := by omega
  show Calls Tryz.prog 31 #[v, .agg #[.string nm, .int .i64 st, .int .i64 pr, .slice q so.length cp, .int .i64 rs]] w _
  go_enter Tryz.func31, Tryz.ntmps31
  go_upto_region 1 with fail
  generalize w.alloc (.cells #[.string nm, .int .i64 st, .int .i64 pr, .slice q so.length cp, .int .i64 rs] 43) = X at *
  have hbX : base ≤ X.heap.size := Nat.le_trans hb B1.size
  -- the box stays, whatever the row of bytes does
  have HBX : Hid (Blk X w.heap.size 43 5) := bk1
  have HG0 : Hid (Grew w X base v v m l) := G0
  have HRW : Hid (∀ W v' n' l', Grew w W base v v' n' l' → Row W base q so.length (sv so)) := fun W v' n' l' h => hr.below (h.below ho hb) (Nat.le_refl _)
  have a1 := appText_any nm hn base v m l X G0.own hbX (by omega)
  clear G0 bk1
  go_wp2_with fail
  refine a1.mono ?_
  rintro e w1 ⟨v1, rfl, g1⟩
  have e1 : w1.heap[w.heap.size]? = X.heap[w.heap.size]? := g1.out.kept HG0.out.own HBX.out (by decide)
  have b1 : Blk w1 w.heap.size 43 5 := HBX.out.same e1
  have G1 : Hid (Grew w w1 base v v1 (m + (txB nm).length) (l ++ txB nm)) := HG0.out.trans g1.out
  have z1 := Nat.le_trans hbX g1.out.kp.size
  replace x1 := cell_same x1 e1
  replace x2 := cell_same x2 e1
  replace x3 := cell_same x3 e1
  replace x4 := cell_same x4 e1
  have a2 := appNum_any st 4 (by decide) base v1 _ (l ++ txB nm) w1 G1.out.own z1 (by omega)
  clear a1 g1 x0 e1 HBX HG0
  go_wp2_with fail
  refine a2.mono ?_
  rintro e w2 ⟨v2, rfl, g2⟩
  have e2 : w2.heap[w.heap.size]? = w1.heap[w.heap.size]? := g2.out.kept G1.out.own b1 (by decide)
  have b2 : Blk w2 w.heap.size 43 5 := b1.same e2
  have G2 : Hid (Grew w w2 base v v2 (m + (txB nm).length + 4) (l ++ txB nm ++ numB st 4)) := G1.out.trans g2.out
  have z2 := Nat.le_trans z1 g2.out.kp.size
  replace x2 := cell_same x2 e2
  replace x3 := cell_same x3 e2
  replace x4 := cell_same x4 e2
  clear a2 g2 x1 e2 b1 G1 z1
  obtain ⟨q2, c2, rfl, -, -⟩ := own_slice G2.out.own
  have H2 : Hid (∀ u ∈ (#[.int .u8 (pr % 256), .int .u8 ((so.length : Int) % 256)] : Array Value).toList, u.oneCell' = true) := fun u hu => by
    simp only [List.mem_cons, List.not_mem_nil, or_false] at hu
    rcases hu with rfl | rfl <;> rfl
  have hn2 : m + (txB nm).length + 4 ≤ 800000000 := by omega
  obtain ⟨n2, hn2e⟩ : ∃ n2, n2 = m + (txB nm).length + 4 := ⟨_, rfl⟩
  rw [← hn2e] at G2 hn2 ⊢
  have HN2 : Hid (n2 = m + (txB nm).length + 4) := hn2e
  clear hn2e
  generalize hl2 : l ++ txB nm ++ numB st 4 = l2 at G2
  have HL2 : Hid (l ++ txB nm ++ numB st 4 = l2) := hl2
  clear hl2
  have HB3 : Hid (∀ W, (w2.alloc (.cells #[.int .u8 (pr % 256), .int .u8 ((so.length : Int) % 256)] 5)).grownBy W (Value.slice q2 n2 c2).ownBlock → W.cell? ⟨w.heap.size, 3, none⟩ = some (.slice q so.length cp) ∧ W.cell? ⟨w.heap.size, 4, none⟩ = some (.int .i64 rs) ∧ Blk W w.heap.size 43 5) := fun W hW => by
    have e3 : W.heap[w.heap.size]? = w2.heap[w.heap.size]? := (hW.block _ (by have := b2.lt; simp; omega) (fun e => own_ne G2.out.own b2 (by decide) e.symm)).trans (Below.heap_alloc _ _ _ b2.lt)
    exact ⟨cell_same x3 e3, cell_same x4 e3, b2.same e3⟩
  go_wp2_with (first
    | (at_builtin; refine wpList_appk 66 5 _ 1 1 Tryz.underlying66 info5 (by rfl) (by decide) (by decide) 2 (by rfl) _ _ (by rfl) base (.slice q2 n2 c2) n2 (bv l2) (by rfl) G2.out.own _ (by rfl) H2.out (by rfl) (by omega) z2 ?_; intro v3 w3 ho3 hg3; obtain ⟨q3, c3, rfl, -, -⟩ := own_slice ho3.out; obtain ⟨y3, y4, b3⟩ := HB3.out w3 hg3.out.1)
    | fail)
  have HW2 : Hid (Grew w w3 base v (.slice q3 (n2 + 2) c3) (n2 + 2) (l2 ++ [byteOf pr, byteOf (so.length : Int)])) := by
    refine G2.out.step _ hg3.out.1 hg3.out.2 ?_
    rw [bv_two]
    exact ho3.out
  clear x2 x3 x4 ho3 hg3 b2 z2 H2 G2 HB3
  go_loopw [0, 28] (fun b i wr => ∃ (j n' : Nat) (l' : List UInt8), j ≤ so.length ∧ n' = n2 + 2 + j ∧ i = .int .i64 (j : Int) ∧ Hid (l' = l2 ++ [byteOf pr, byteOf (so.length : Int)] ++ (so.take j).map byteOf) ∧ Hid (Grew w wr base v b n' l') ∧ Hid (Blk wr w.heap.size 43 5) ∧ Hid (wr.cell? ⟨w.heap.size, 4, none⟩ = some (.int .i64 rs))) (fun _ i _ => so.length - (intOf i).toNat)
  case atStart => exact ⟨0, n2 + 2, _, Nat.zero_le _, rfl, rfl, by show _ = _; simp, HW2, b3, y4⟩
  case round =>
    obtain ⟨j, n', l', hj, hn', rfl, hl', hG, hB, hX⟩ := hrel
    have hzr := Nat.le_trans hb hG.out.kp.size
    obtain ⟨qr, cr, rfl, -, -⟩ := own_slice hG.out.own
    have hnb : n' ≤ 900000000 := by omega
    have HN' : Hid (n' = n2 + 2 + j) := hn'
    clear hn' y3 y4 HW2 b3
    by_cases hlt : j < so.length
    case neg =>
      obtain rfl : j = so.length := by omega
      have hx4 := hX.out
      have H1 := one1 (.int .u8 (rs % 256)) rfl
      have HO : Hid (wr.ownsRow base 5 1 (.slice qr n' cr) n' (bv l')) := hG.out.own
      go_wp2_with (first
        | (at_builtin; refine wpList_app 66 5 _ 1 1 Tryz.underlying66 info5 (by rfl) (by decide) (by decide) (by rfl) _ _ (by rfl) base (.slice qr n' cr) n' (bv l') (by rfl) HO.out _ (by rfl) H1 (by rfl) (by omega) hzr ?_; intro v4 w4 ho4 hg4; obtain ⟨q4, c4, rfl, -, -⟩ := own_slice ho4.out)
        | fail)
      first | (change bodyPost Tryz.prog Tryz.f31 _ Exit.ret _ _) | (simp only [Exit.noGoto])
      go_ret
      refine ⟨_, rfl, ?_⟩
      have hN : m + (txB nm).length + 4 + 2 + so.length + 1 = n' + 1 := by rw [HN'.out, HN2.out]
      have hLL : L = l' ++ [byteOf rs] := by rw [HL.out, hl'.out, List.take_length, ← HL2.out]
      show Grew _ _ _ _ _ _ _
      rw [hN, hLL]
      refine hG.out.step _ hg4.out.1 hg4.out.2 ?_
      rw [bv_snoc]
      exact ho4.out
    obtain ⟨g, o, rfl, hg, hc⟩ := row_get (HRW.out wr _ _ _ hG.out) j hlt
    have hcj : wr.cell? ⟨g, o + j, none⟩ = some (.int .i64 so[j]) := hc j _ (by unfold sv; rw [List.getElem?_map, List.getElem?_eq_getElem hlt]; rfl)
    have HT : Hid ((so.take (j + 1)).map byteOf = (so.take j).map byteOf ++ [byteOf so[j]]) := by
      show _ = _
      rw [List.take_succ_eq_append_getElem hlt, List.map_append]
      rfl
    generalize so[j] = sj at hcj HT
    have j0 : (0 : Int) ≤ (j : Int) := by omega
    have j1 : (j : Int) < (so.length : Int) := by omega
    have H1 := one1 (.int .u8 (sj % 256)) rfl
    have HO : Hid (wr.ownsRow base 5 1 (.slice qr n' cr) n' (bv l')) := hG.out.own
    clear hc
    go_wp2_with (first
      | (at_builtin; refine wpList_app 66 5 _ 1 1 Tryz.underlying66 info5 (by rfl) (by decide) (by decide) (by rfl) _ _ (by rfl) base (.slice qr n' cr) n' (bv l') (by rfl) HO.out _ (by rfl) H1 (by rfl) (by omega) hzr ?_; intro v4 w4 ho4 hg4; obtain ⟨q4, c4, rfl, -, -⟩ := own_slice ho4.out)
      | fail)
    have e4 : w4.heap[w.heap.size]? = wr.heap[w.heap.size]? := (hg4.out.1.block _ (by have := hB.out.lt; simp; omega) (fun e => own_ne HO.out hB.out (by decide) e.symm)).trans (Below.heap_alloc _ _ _ hB.out.lt)
    refine ⟨⟨j + 1, n' + 1, l' ++ [byteOf sj], by omega, by have := HN'.out; omega, by go_num, ?_, ?_, hB.out.same e4, cell_same hX.out e4⟩, by simp [intOf]; omega⟩
    · show _ = _
      rw [hl'.out, HT.out]
      simp
    · refine hG.out.step _ hg4.out.1 hg4.out.2 ?_
      rw [bv_snoc]
      exact ho4.out
end Go.Proofs.YtcjnejdemfemfaaGreatDoor
namespace Go.Proofs.YtcjnejdemfemfaaGreatDoor
open Go.RowKit

/-- The row of bytes that grows, with the code's own box beside it. -/
structure ES (w wr : World) (C : Array Value) (v : Value) (n : Nat) (l : List UInt8) : Prop where
  own : wr.ownsRow w.heap.size 5 1 v n (bv l)
  bel : Below w.heap.size w wr
  blk : wr.heap[w.heap.size]? = some (.cells C 26)
theorem ES.cell {w wr : World} {C : Array Value} {v : Value} {n : Nat} {l : List UInt8} (h : ES w wr C v n l) (j : Nat) (u : Value) (hu : C[j]? = some u) : wr.cell? ⟨w.heap.size, j, none⟩ = some u := by
  unfold World.cell?
  rw [h.blk]
  simpa using hu
theorem ES.bk {w wr : World} {C : Array Value} {v : Value} {n : Nat} {l : List UInt8} (h : ES w wr C v n l) : Blk wr w.heap.size 26 C.size := ⟨C, h.blk, Nat.le_refl _⟩
theorem ES.next {w wr W : World} {C : Array Value} {v : Value} {n : Nat} {l : List UInt8} (h : ES w wr C v n l) (b : Below wr.heap.size wr W) : ES w W C v n l := ⟨own_next h.own b, below2 h.bel b, (b.block _ h.bk.lt).trans h.blk⟩
theorem ES.grew {w wr W : World} {C : Array Value} {v v' : Value} {n n' : Nat} {l l' : List UInt8} (h : ES w wr C v n l) (g : Grew wr W w.heap.size v v' n' l') : ES w W C v' n' l' :=
  ⟨g.own, h.bel.trans (g.below h.own h.bel.size), (g.kept h.own h.bk (by decide)).trans h.blk⟩
theorem ES.app {w wr W : World} {C : Array Value} {v v' : Value} {n n' : Nat} {l l' : List UInt8} (h : ES w wr C v n l) (D : Obj) (hg : (wr.alloc D).grownBy W v.ownBlock) (hv : v'.ownBlock = v.ownBlock ∨ v'.ownBlock = some (wr.heap.size + 1)) (ho : W.ownsRow w.heap.size 5 1 v' n' (bv l')) : ES w W C v' n' l' := h.grew ((Grew.start h.own).step D hg hv ho)
theorem calln (a b c : Value) (w : World) : (callFunc 32 #[a, b, c]).run Tryz.prog w = .ok (.enter 32 #[a, b, c]) w := by kernel_rfl
theorem entB_len {e : En} (h : EntOk e) : (entB e).length ≤ 282 := by
  have h1 := name_len h.nm
  have h2 := h.sl
  unfold entB txB
  simp only [List.length_append, List.length_cons, numB_len, List.length_map, List.length_nil]
  omega
theorem wd_le (o : Nat) : shWd.getD o 0 ≤ 8 := by
  by_cases ho : o < 13
  · exact (by decide : ∀ k : Fin 13, shWd.getD k.1 0 ≤ 8) ⟨o, ho⟩
  · rw [List.getD_eq_getElem?_getD, List.getElem?_eq_none (by simp [shWd]; omega)]; decide
theorem flat_take {α β : Type} (f : α → List β) (l : List α) (j : Nat) (hj : j < l.length) : (l.take (j + 1)).flatMap f = (l.take j).flatMap f ++ f l[j] := by
  rw [List.take_succ_eq_append_getElem hj, List.flatMap_append]
  simp
set_option maxRecDepth 100000 in
set_option maxHeartbeats 4000000 in
/-- One instruction laid behind the others: the last three steps of a round. -/
theorem encode_any {w : World} {B : Nat} {iq eq tq : Option Addr} {Es : List Em} {c : Cd} (h : CodeM w B iq eq tq Es c) (ia ea ta : Nat) (hB : B ≤ w.heap.size) (ht : Tabs w) :
    Calls Tryz.prog 10 #[codeV iq eq tq ia ea ta c] w fun e w' => e = .returned (.tuple #[.string (if validS c = 0 then YtcjnejdemfemfaaGreatDoor.bk (encS c) else e0), .int .i64 (validS c)]) ∧ Below w.heap.size w w' := by
  obtain ⟨C, HCd⟩ : ∃ C : Array Value, Hid (C = #[.slice iq c.ins.length ia, .slice eq c.ens.length ea, .slice tq c.txs.length ta, .int .i64 c.main]) := ⟨_, rfl⟩
  have hil : (c.ins.length : Int) ≤ 9223372036854775807 := by have := h.il; omega
  have hel : (c.ens.length : Int) ≤ 9223372036854775807 := by have := h.el; omega
  have htl : (c.txs.length : Int) ≤ 9223372036854775807 := by have := h.tl; omega
  have B1 : Below w.heap.size w (w.alloc (.cells #[.slice iq c.ins.length ia, .slice eq c.ens.length ea, .slice tq c.txs.length ta, .int .i64 c.main] 26)) := (Below.refl _ w).alloc (Nat.le_refl _) _
  have K1 : (w.alloc (.cells #[.slice iq c.ins.length ia, .slice eq c.ens.length ea, .slice tq c.txs.length ta, .int .i64 c.main] 26)).heap[w.heap.size]? = some (.cells #[.slice iq c.ins.length ia, .slice eq c.ens.length ea, .slice tq c.txs.length ta, .int .i64 c.main] 26) := World.alloc_heap_new w _
  have hlt1 : w.heap.size < (w.alloc (.cells #[.slice iq c.ins.length ia, .slice eq c.ens.length ea, .slice tq c.txs.length ta, .int .i64 c.main] 26)).heap.size := by simp
  have x := fun j v hv => (cells_new w #[.slice iq c.ins.length ia, .slice eq c.ens.length ea, .slice tq c.txs.length ta, .int .i64 c.main] 26 j v hv).1
  have x0 := x 0 (.slice iq c.ins.length ia) rfl
  have x1 := x 1 (.slice eq c.ens.length ea) rfl
  have x2 := x 2 (.slice tq c.txs.length ta) rfl
  have x3 := x 3 (.int .i64 c.main) rfl
  clear x
  have v1 := valid_any (h.below B1 hB) ia ea ta (by have := B1.size; omega) (ht.next B1)
  obtain ⟨RS, HRS⟩ : ∃ RS, Hid (RS = if validS c = 0 then YtcjnejdemfemfaaGreatDoor.bk (encS c) else e0) := ⟨_, rfl⟩
  rw [← HRS.out]
  by_cases hv0 : validS c = 0
  case neg =>
    have HE : Hid (RS = e0) := by
      show RS = e0
      rw [HRS.out, if_neg hv0]
    generalize validS c = R at v1 hv0 ⊢
    have hv1 : (R == 0) = false := beq_false_of_ne hv0
    unfold codeV at v1 ⊢
    clear HRS
    go_enter Tryz.func10, Tryz.ntmps10
    go_upto_region 1 with fail
    generalize w.alloc (.cells #[.slice iq c.ins.length ia, .slice eq c.ens.length ea, .slice tq c.txs.length ta, .int .i64 c.main] 26) = X at *
    go_wp2_with fail
    refine v1.mono ?_
    rintro e w1 ⟨rfl, hb1⟩
    go_wp2
    exact bodyPost_ret (v := .tuple #[.string e0, .int .i64 R]) (by simp [results, Tryz.results10, go_sem]) rfl ⟨by rw [HE.out], below2 B1 hb1⟩
  have HE : Hid (RS = YtcjnejdemfemfaaGreatDoor.bk (encS c)) := by
    show RS = _
    rw [HRS.out, if_pos hv0]
  have hk := code_ok.1 hv0
  have HK : Hid (CodeOk c) := hk
  have HH : Hid (CodeM w B iq eq tq Es c) := h
  have HT : Hid (Tabs w) := ht
  have HL : Hid (Es.length = c.ens.length) := h.len
  have HEs : Hid (∀ j (hj : j < Es.length), Es[j].1 ∈ c.ens ∧ (c.ens.take (j + 1)).flatMap entB = (c.ens.take j).flatMap entB ++ entB Es[j].1) := fun j hj => by
    have hj' : j < c.ens.length := by rw [← h.len]; exact hj
    have e : Es[j].1 = c.ens[j] := by
      have := h.enAt j hj
      unfold YtcjnejdemfemfaaGreatDoor.enAt at this
      rw [List.getD_eq_getElem?_getD, List.getElem?_eq_getElem hj'] at this
      exact this.symm
    rw [e]
    exact ⟨List.getElem_mem hj', flat_take entB c.ens j hj'⟩
  have k1 := hk.el
  have k2 := hk.il
  have k3 := hk.tl
  have k0 := hk.m0
  have k4 := hk.ml
  rw [hv0] at v1 ⊢
  unfold codeV at v1 ⊢
  clear HRS h ht hk
  go_enter Tryz.func10, Tryz.ntmps10
  go_upto_region 1 with fail
  generalize w.alloc (.cells #[.slice iq c.ins.length ia, .slice eq c.ens.length ea, .slice tq c.txs.length ta, .int .i64 c.main] 26) = X at *
  go_wp2_with fail
  refine v1.mono ?_
  rintro e w1 ⟨rfl, hb1⟩
  replace x1 := (hb1.cell (p := ⟨w.heap.size, 1, none⟩) hlt1).trans x1
  replace x3 := (hb1.cell (p := ⟨w.heap.size, 3, none⟩) hlt1).trans x3
  have K2 : w1.heap[w.heap.size]? = some (.cells C 26) := by rw [HCd.out]; exact (hb1.block _ hlt1).trans K1
  have hz1 : w.heap.size < w1.heap.size := by have := hb1.size; omega
  obtain ⟨w2, hw2⟩ : ∃ w2, w2 = w1.alloc (.cells #[.int .u8 67, .int .u8 c.main, .int .u8 (c.ens.length : Int)] 5) := ⟨_, rfl⟩
  have E2 : Hid (ES w w2 C (.slice (some ⟨w1.heap.size, 0, none⟩) 3 3) 3 (67 :: byteOf c.main :: byteOf (c.ens.length : Int) :: [])) := by
    have nb : Below w1.heap.size w1 w2 := by rw [hw2]; exact (Below.refl _ w1).alloc (Nat.le_refl _) _
    refine ⟨⟨rfl, .inr ⟨w1.heap.size, 3, _, rfl, by omega, by rw [hw2]; exact World.alloc_heap_new w1 _, Nat.le_refl _, by decide, rfl, ?_⟩⟩, below2 (below2 B1 hb1) nb, (nb.block _ hz1).trans K2⟩
    simp only [bv, List.map_cons, List.map_nil, byteOf_nat]
    rw [Int.emod_eq_of_lt k0 (by omega), Int.emod_eq_of_lt (by omega) (by omega)]
    rfl
  have y1 := E2.out.cell 1 (.slice eq c.ens.length ea) (by rw [HCd.out]; rfl)
  clear x0 x2 v1 hb1 K1 K2 hlt1 B1
  go_upto_region 5 with fail
  rw [← hw2]
  clear hw2
  have HSZ : Hid (∀ W, Below w.heap.size w W → CodeM W B iq eq tq Es c ∧ Tabs W) := fun W hW => ⟨HH.out.below hW hB, HT.out.next hW⟩
  go_wp2_with fail
  go_loopw [5, 29] (fun b i wr => ∃ (j n' : Nat) (l' : List UInt8), j ≤ c.ens.length ∧ i = .int .i64 (j : Int) ∧ n' ≤ 3 + 282 * j ∧ Hid (l' = 67 :: byteOf c.main :: byteOf (c.ens.length : Int) :: (c.ens.take j).flatMap entB) ∧ Hid (ES w wr C b n' l')) (fun _ i _ => c.ens.length - (intOf i).toNat)
  case atStart => exact ⟨0, 3, _, Nat.zero_le _, rfl, by omega, by show _ = _; simp, E2⟩
  case round =>
    obtain ⟨j, n', l', hj, rfl, hn', hl', hE⟩ := hrel
    obtain ⟨qb, cb, rfl, -, -⟩ := own_slice hE.out.own
    clear y1 x1 x3 E2
    by_cases hlt : j < c.ens.length
    case pos =>
      have hlt' : j < Es.length := by rw [HL.out]; exact hlt
      obtain ⟨hm, -⟩ := HSZ.out wr hE.out.bel
      obtain ⟨g, o, rfl, hg, d0, d1, d2, d3, d4⟩ := hm.ent j hlt'
      obtain ⟨sr, -, -⟩ := hm.sr Es[j] (List.getElem_mem hlt')
      obtain ⟨he1, he2⟩ := HEs.out j hlt'
      have hok := ent_ok.1 (HK.out.es _ he1)
      have HF : Hid ((c.ens.take (j + 1)).flatMap entB = (c.ens.take j).flatMap entB ++ entB Es[j].1) := he2
      have hnm := name_len hok.nm
      rw [← Lib.size_eq] at hnm
      have hsl := hok.sl
      have hbl := entB_len hok
      clear he2 hm hok
      generalize Es[j] = x at *
      have j0 : (0 : Int) ≤ (j : Int) := by omega
      have j1 : (j : Int) < (c.ens.length : Int) := by omega
      have nb : Below wr.heap.size wr (wr.alloc (.cells (ec x).toArray 43)) := (Below.refl _ wr).alloc (Nat.le_refl _) _
      have y := fun j v hv => (cells_new wr (ec x).toArray 43 j v hv).1
      have hEn := hE.out.next nb
      have en := appEntry_any x _ w.heap.size _ n' l' hEn.own hEn.bel.size (by omega) ((sr.up hB).below nb hE.out.bel.size) (by omega) (by omega)
      generalize entB x.1 = eb at en HF hbl
      obtain ⟨⟨nm, st, pr, so, rs⟩, q, cp⟩ := x
      simp only at d0 d1 d2 d3 d4
      have z0 := y 0 (.string nm) rfl
      have z1 := y 1 (.int .i64 st) rfl
      have z2 := y 2 (.int .i64 pr) rfl
      have z3 := y 3 (.slice q so.length cp) rfl
      have z4 := y 4 (.int .i64 rs) rfl
      clear y sr he1 hnm hsl nb
      simp only [ec] at en z0 z1 z2 z3 z4 hEn
      go_wp2_with (first | (go_at_call 31; refine en.mono ?_; rintro e w3 ⟨v3, rfl, g3⟩; obtain ⟨q3, c3, rfl, -, -⟩ := own_slice g3.out.own) | fail)
      refine ⟨⟨j + 1, n' + eb.length, l' ++ eb, by omega, by go_num, by omega, ?_, hEn.grew g3.out⟩, by simp [intOf]; omega⟩
      show _ = _
      rw [hl'.out, HF.out]
      simp
    obtain rfl : j = c.ens.length := by omega
    have y2 := hE.out.cell 2 (.slice tq c.txs.length ta) (by rw [HCd.out]; rfl)
    have a2 := appNum_any (c.txs.length : Int) 2 (by decide) w.heap.size _ n' l' wr hE.out.own hE.out.bel.size (by omega)
    have HL1 : Hid (l' = 67 :: byteOf c.main :: byteOf (c.ens.length : Int) :: c.ens.flatMap entB) := by
      show _ = _
      rw [hl'.out, List.take_length]
    clear hl' HL HEs hlt hj
    go_wp2_with fail
    refine a2.mono ?_
    rintro e w3 ⟨v3, rfl, g3⟩
    have hE3 : Hid (ES w w3 C v3 (n' + 2) (l' ++ numB (c.txs.length : Int) 2)) := hE.out.grew g3.out
    have y3 := hE3.out.cell 2 (.slice tq c.txs.length ta) (by rw [HCd.out]; rfl)
    have hn3 : n' + 2 ≤ 20000 := by omega
    generalize n' + 2 = n3 at hE3 hn3
    generalize hl3 : l' ++ numB (c.txs.length : Int) 2 = l3 at hE3
    have HL3 : Hid (l' ++ numB (c.txs.length : Int) 2 = l3) := hl3
    clear hl3 a2 g3 hE y2 hn'
    go_wp2_with fail
    go_loopw [5, 45] (fun b i wv => ∃ (j n' : Nat) (l' : List UInt8), j ≤ c.txs.length ∧ i = .int .i64 (j : Int) ∧ n' ≤ 20000 + 201 * j ∧ Hid (l' = l3 ++ (c.txs.take j).flatMap txB) ∧ Hid (ES w wv C b n' l')) (fun _ i _ => c.txs.length - (intOf i).toNat)
    case atStart => exact ⟨0, n3, _, Nat.zero_le _, rfl, by omega, by show _ = _; simp, hE3⟩
    case round =>
      obtain ⟨j, n', l', hj, rfl, hn', hl', hE⟩ := hrel
      obtain ⟨qb, cb, rfl, -, -⟩ := own_slice hE.out.own
      clear y3 hE3
      by_cases hlt : j < c.txs.length
      case pos =>
        obtain ⟨hm, -⟩ := HSZ.out wr hE.out.bel
        obtain ⟨g, o, rfl, hg, d0⟩ := hm.txt j hlt
        have hts := HK.out.ts _ (List.getElem_mem hlt)
        have HF : Hid ((c.txs.take (j + 1)).flatMap txB = (c.txs.take j).flatMap txB ++ txB c.txs[j]) := flat_take txB c.txs j hlt
        have j0 : (0 : Int) ≤ (j : Int) := by omega
        have j1 : (j : Int) < (c.txs.length : Int) := by omega
        generalize c.txs[j] = x at *
        have hxl : (txB x).length ≤ 201 := by unfold txB; rw [List.length_cons, ← Lib.size_eq]; omega
        have en := appText_any x (by omega) w.heap.size _ n' l' wr hE.out.own hE.out.bel.size (by omega)
        generalize txB x = eb at en HF hxl
        clear hm hts
        go_wp2_with (first | (go_at_call 33; refine en.mono ?_; rintro e w3 ⟨v3, rfl, g3⟩; obtain ⟨q3, c3, rfl, -, -⟩ := own_slice g3.out.own) | fail)
        refine ⟨⟨j + 1, n' + eb.length, l' ++ eb, by omega, by go_num, by omega, ?_, hE.out.grew g3.out⟩, by simp [intOf]; omega⟩
        show _ = _
        rw [hl'.out, HF.out]
        simp
      obtain rfl : j = c.txs.length := by omega
      have y2 := hE.out.cell 0 (.slice iq c.ins.length ia) (by rw [HCd.out]; rfl)
      have a2 := appNum_any (c.ins.length : Int) 4 (by decide) w.heap.size _ n' l' wr hE.out.own hE.out.bel.size (by omega)
      have HL4 : Hid (l' = l3 ++ c.txs.flatMap txB) := by
        show _ = _
        rw [hl'.out, List.take_length]
      clear hl' hlt hj
      go_wp2_with fail
      refine a2.mono ?_
      rintro e w3 ⟨v3, rfl, g3⟩
      have hE3 : Hid (ES w w3 C v3 (n' + 4) (l' ++ numB (c.ins.length : Int) 4)) := hE.out.grew g3.out
      have y3 := hE3.out.cell 0 (.slice iq c.ins.length ia) (by rw [HCd.out]; rfl)
      have hn3 : n' + 4 ≤ 900000 := by omega
      generalize n' + 4 = n5 at hE3 hn3
      generalize hl3 : l' ++ numB (c.ins.length : Int) 4 = l5 at hE3
      have HL5 : Hid (l' ++ numB (c.ins.length : Int) 4 = l5) := hl3
      clear hl3 a2 g3 hE y2 hn'
      go_wp2_with fail
      go_loopw [5, 61] (fun b i wv => ∃ (j n' : Nat) (l' : List UInt8), j ≤ c.ins.length ∧ i = .int .i64 (j : Int) ∧ n' ≤ 900000 + 17 * j ∧ Hid (l' = l5 ++ (c.ins.take j).flatMap insB) ∧ Hid (ES w wv C b n' l')) (fun _ i _ => c.ins.length - (intOf i).toNat)
      case atStart => exact ⟨0, n5, _, Nat.zero_le _, rfl, by omega, by show _ = _; simp, hE3⟩
      case round =>
        obtain ⟨j, n', l', hj, rfl, hn', hl', hE⟩ := hrel
        obtain ⟨qb, cb, rfl, -, -⟩ := own_slice hE.out.own
        clear y3 hE3
        by_cases hlt : j < c.ins.length
        case neg =>
          obtain rfl : j = c.ins.length := by omega
          have HF : Hid (RS = YtcjnejdemfemfaaGreatDoor.bk l') := by
            show RS = _
            rw [HE.out, hl'.out, List.take_length, ← HL5.out, HL4.out, ← HL3.out, HL1.out]
            congr 1
            unfold encS
            simp
          have hcv := conv_own hE.out.own
          go_wp2
          first | (change bodyPost Tryz.prog Tryz.f10 _ Exit.ret _ _) | (simp only [Exit.noGoto])
          exact bodyPost_ret (v := .tuple #[.string (YtcjnejdemfemfaaGreatDoor.bk l'), .int .i64 0]) (by simp [results, Tryz.results10, go_sem, YtcjnejdemfemfaaGreatDoor.bk]) rfl ⟨by rw [HF.out], hE.out.bel⟩
        obtain ⟨hm, htb⟩ := HSZ.out wr hE.out.bel
        obtain ⟨g, o, rfl, hg, d0, d1, d2⟩ := hm.ins j hlt
        have hok := HK.out.is _ (List.getElem_mem hlt)
        have HF : Hid ((c.ins.take (j + 1)).flatMap insB = (c.ins.take j).flatMap insB ++ insB c.ins[j]) := flat_take insB c.ins j hlt
        have j0 : (0 : Int) ≤ (j : Int) := by omega
        have j1 : (j : Int) < (c.ins.length : Int) := by omega
        generalize c.ins[j] = x at *
        obtain ⟨op, a, b'⟩ := x
        simp only at d0 d1 d2
        unfold insS at hok
        simp only [Bool.and_eq_true, decide_eq_true_eq] at hok
        obtain ⟨o0, o1, -, -⟩ := hok
        obtain ⟨k, rfl⟩ : ∃ k : Nat, op = (k : Int) := ⟨op.toNat, by omega⟩
        clear hm
        have hk24 : k < 24 := by omega
        obtain ⟨i0, i1, i2⟩ := htb.ins k hk24
        have hoa := opA_lt k
        have hob := opB_lt k
        have HIB : Hid (insB ((k : Int), a, b') = byteOf (k : Int) :: (numB a (shWd.getD (opA.getD k 0) 0) ++ numB b' (shWd.getD (opB.getD k 0) 0))) := rfl
        have hwa := wd_le (opA.getD k 0)
        have hwb := wd_le (opB.getD k 0)
        have HSA : Hid (∀ W, Below w.heap.size wr W → W.cell? ⟨1, opA.getD k 0 * 3 + 2, none⟩ = some (.int .i64 ((shWd.getD (opA.getD k 0) 0 : Nat) : Int)) ∧ W.cell? ⟨1, opB.getD k 0 * 3 + 2, none⟩ = some (.int .i64 ((shWd.getD (opB.getD k 0) 0 : Nat) : Int))) := fun W hW => ⟨((htb.below hW HT.out.size).shp _ hoa).2.2, ((htb.below hW HT.out.size).shp _ hob).2.2⟩
        generalize shWd.getD (opA.getD k 0) 0 = wa at HIB hwa HSA
        generalize shWd.getD (opB.getD k 0) 0 = wb at HIB hwb HSA
        generalize opA.getD k 0 = oa at i1 hoa HSA
        generalize opB.getD k 0 = ob at i2 hob HSA
        generalize wdT.getD k e0 = wd at i0
        have nb : Below wr.heap.size wr (wr.alloc (.cells #[.int .i64 (k : Int), .int .i64 a, .int .i64 b'] 48)) := (Below.refl _ wr).alloc (Nat.le_refl _) _
        have p0 := (cells_new wr #[.int .i64 (k : Int), .int .i64 a, .int .i64 b'] 48 0 (.int .i64 (k : Int)) rfl).1
        have P1 := World.alloc_heap_new wr (.cells #[.int .i64 (k : Int), .int .i64 a, .int .i64 b'] 48)
        have hs10 : 0 < wr.heap.size := Nat.lt_of_lt_of_le (by decide) htb.size
        replace i0 := (nb.cell (p := ⟨0, k * 3, none⟩) hs10).trans i0
        replace i1 := (nb.cell (p := ⟨0, k * 3 + 1, none⟩) hs10).trans i1
        replace i2 := (nb.cell (p := ⟨0, k * 3 + 2, none⟩) hs10).trans i2
        have z1 : wr.heap.size < (wr.alloc (.cells #[.int .i64 (k : Int), .int .i64 a, .int .i64 b'] 48)).heap.size := by simp
        have hE1 := hE.out.next nb
        clear htb
        go_upto_region 20 with fail
        generalize wr.alloc (.cells #[.int .i64 (k : Int), .int .i64 a, .int .i64 b'] 48) = X1 at *
        have nb2 : Below X1.heap.size X1 (X1.alloc (.cells #[.string wd, .int .i64 (oa : Int), .int .i64 (ob : Int)] 72)) := (Below.refl _ X1).alloc (Nat.le_refl _) _
        have P2 := World.alloc_heap_new X1 (.cells #[.string wd, .int .i64 (oa : Int), .int .i64 (ob : Int)] 72)
        have z2 : X1.heap.size < (X1.alloc (.cells #[.string wd, .int .i64 (oa : Int), .int .i64 (ob : Int)] 72)).heap.size := by simp
        have hE2 := hE1.next nb2
        have P1' := (nb2.block _ z1).trans P1
        have p0' := (nb2.cell (p := ⟨wr.heap.size, 0, none⟩) z1).trans p0
        have nb12 := below2 nb nb2
        clear hE1 P1
        go_upto_region 21 with fail
        generalize X1.alloc (.cells #[.string wd, .int .i64 (oa : Int), .int .i64 (ob : Int)] 72) = X2 at *
        generalize X1.heap.size = p2 at *
        have H1 := one1 (.int .u8 (k : Int)) rfl
        have hE2' : Hid (ES w X2 C (.slice qb n' cb) n' l') := hE2
        have HP : Hid (∀ W v m l, Grew X2 W w.heap.size (.slice qb n' cb) v m l → W.heap[wr.heap.size]? = some (.cells #[.int .i64 (k : Int), .int .i64 a, .int .i64 b'] 48) ∧ W.heap[p2]? = some (.cells #[.string wd, .int .i64 (oa : Int), .int .i64 (ob : Int)] 72) ∧ ES w W C v m l ∧ Below w.heap.size wr W) := fun W v m l hG =>
          ⟨(hG.kept hE2.own (t := 48) (k := 3) ⟨_, P1', Nat.le_refl _⟩ (by decide)).trans P1', (hG.kept hE2.own (t := 72) (k := 3) ⟨_, P2, Nat.le_refl _⟩ (by decide)).trans P2, hE2.grew hG, (nb12.mono hE.out.bel.size).trans (hG.below hE2.own hE2.bel.size)⟩
        clear hE2 P1' P2 nb nb2 p0 i0 i1 i2 d0 d1 d2
        have HBV : Hid (bv (l' ++ [byteOf (k : Int)]) = bv l' ++ [.int .u8 (k : Int)]) := by
          show _ = _
          rw [bv_snoc, Int.emod_eq_of_lt (by omega) (by omega)]
        go_upto_region 22 with (first
          | (at_builtin; refine wpList_app 66 5 _ 1 1 Tryz.underlying66 info5 (by rfl) (by decide) (by decide) (by rfl) _ _ (by rfl) w.heap.size (.slice qb n' cb) n' (bv l') (by rfl) hE2'.out.own _ (by rfl) H1 (by rfl) (by omega) hE2'.out.bel.size ?_; intro v3 w3 ho3 hg3; obtain ⟨q3, c3, rfl, -, -⟩ := own_slice ho3.out)
          | fail)
        have G3 : Grew X2 w3 w.heap.size (.slice qb n' cb) (.slice q3 (n' + 1) c3) (n' + 1) (l' ++ [byteOf (k : Int)]) := (Grew.start hE2'.out.own).step _ hg3.out.1 hg3.out.2 (by rw [HBV.out]; exact ho3.out)
        obtain ⟨Q1, Q2, E3, bw3⟩ := HP.out w3 _ _ _ G3
        have HG3 : Hid (Grew X2 w3 w.heap.size (.slice qb n' cb) (.slice q3 (n' + 1) c3) (n' + 1) (l' ++ [byteOf (k : Int)])) := G3
        have f1 : w3.cell? ⟨wr.heap.size, 1, none⟩ = some (.int .i64 a) := by unfold World.cell?; rw [Q1]; rfl
        have f2 : w3.cell? ⟨p2, 1, none⟩ = some (.int .i64 (oa : Int)) := by unfold World.cell?; rw [Q2]; rfl
        obtain ⟨f3, -⟩ := HSA.out w3 bw3
        have a0 : (0 : Int) ≤ (oa : Int) := by omega
        have a1 : (oa : Int) < 13 := by omega
        have bd3 : Below w3.heap.size w3 w3.drew := (Below.refl _ w3).drew
        have hc := appNum_any a wa hwa w.heap.size _ (n' + 1) (l' ++ [byteOf (k : Int)]) w3.drew (own_next E3.own bd3) (Nat.le_trans E3.bel.size bd3.size) (by omega)
        have HP2 : Hid (∀ W v', Grew w3.drew W w.heap.size (.slice q3 (n' + 1) c3) v' (n' + 1 + wa) (l' ++ [byteOf (k : Int)] ++ numB a wa) → Grew X2 W w.heap.size (.slice qb n' cb) v' (n' + 1 + wa) (l' ++ [byteOf (k : Int)] ++ numB a wa)) := fun W v' hG => (HG3.out.next bd3).trans hG
        clear G3 Q1 Q2 E3 bw3 ho3 hg3 bd3 H1 p0'
        go_wp2_with fail
        go_region_law (first
          | (refine step_call (by rfl) 32 [.tmp 75, .tmp 77, .tmp 82] #[66, 2, 3] [.slice q3 (n' + 1) c3, .int .i64 a, .int .i64 (wa : Int)] (by rfl) (by rfl) (calln _ _ _) _ hc ?_; rintro v4 w4 hg4; obtain ⟨q4, c4, rfl, -, -⟩ := own_slice hg4.out.own))
        all_goals
          have G4 := HP2.out w4 _ hg4.out
          have HG4 : Hid (Grew X2 w4 w.heap.size (.slice qb n' cb) (.slice q4 (n' + 1 + wa) c4) (n' + 1 + wa) (l' ++ [byteOf (k : Int)] ++ numB a wa)) := G4
          obtain ⟨Q1, Q2, E4, bw4⟩ := HP.out w4 _ _ _ G4
          have f4 : w4.cell? ⟨wr.heap.size, 2, none⟩ = some (.int .i64 b') := by unfold World.cell?; rw [Q1]; rfl
          have f5 : w4.cell? ⟨p2, 2, none⟩ = some (.int .i64 (ob : Int)) := by unfold World.cell?; rw [Q2]; rfl
          obtain ⟨-, f6⟩ := HSA.out w4 bw4
          have a2 : (0 : Int) ≤ (ob : Int) := by omega
          have a3 : (ob : Int) < 13 := by omega
          have bd4 : Below w4.heap.size w4 w4.drew := (Below.refl _ w4).drew
          have hc2 := appNum_any b' wb hwb w.heap.size _ (n' + 1 + wa) (l' ++ [byteOf (k : Int)] ++ numB a wa) w4.drew (own_next E4.own bd4) (Nat.le_trans E4.bel.size bd4.size) (by omega)
          have HP4 : Hid (∀ W v', Grew w4.drew W w.heap.size (.slice q4 (n' + 1 + wa) c4) v' (n' + 1 + wa + wb) (l' ++ [byteOf (k : Int)] ++ numB a wa ++ numB b' wb) → Grew X2 W w.heap.size (.slice qb n' cb) v' (n' + 1 + wa + wb) (l' ++ [byteOf (k : Int)] ++ numB a wa ++ numB b' wb)) := fun W v' hG => (HG4.out.next bd4).trans hG
          clear G4 Q1 Q2 E4 bw4 hg4 bd4 hc HP2 HG3 HG4 f1 f2 f3 HBV
          go_wp2_with fail
          go_region_law (first
            | (refine step_call (by rfl) 32 [.tmp 84, .tmp 86, .tmp 91] #[66, 2, 3] [.slice q4 (n' + 1 + wa) c4, .int .i64 b', .int .i64 (wb : Int)] (by rfl) (by rfl) (calln _ _ _) _ hc2 ?_; rintro v5 w5 hg5; obtain ⟨q5, c5, rfl, -, -⟩ := own_slice hg5.out.own))
          all_goals
            have G5 := HP4.out w5 _ hg5.out
            obtain ⟨-, -, E5, -⟩ := HP.out w5 _ _ _ G5
            have HE5 : Hid (ES w w5 C (.slice q5 (n' + 1 + wa + wb) c5) (n' + 1 + wa + wb) (l' ++ [byteOf (k : Int)] ++ numB a wa ++ numB b' wb)) := E5
            clear G5 E5 hg5 hc2 HP4 HP HSA
            go_wp2
            refine ⟨⟨j + 1, n' + 1 + wa + wb, l' ++ [byteOf (k : Int)] ++ numB a wa ++ numB b' wb, by omega, by go_num, by omega, ?_, HE5⟩, by simp [intOf]; omega⟩
            show _ = _
            rw [hl'.out, HF.out, HIB.out]
            simp
end Go.Proofs.YtcjnejdemfemfaaGreatDoor

