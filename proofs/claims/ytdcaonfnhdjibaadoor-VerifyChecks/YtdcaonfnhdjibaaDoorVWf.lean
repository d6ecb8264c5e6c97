import Derived.Test.YtdcaonfnhdjibaaDoorVWe
import Derived.Test.YtdcaonfnhdjibaaDoorVT1
import Derived.Deep.CutBlock
import Derived.Deep.DeepCutAuto
namespace Go.Proofs.YtdcaonfnhdjibaaDoor
open Go.RowKit

/-! Of the reference: Does. -/
theorem wpList_appW {P : Program} (t e : TypeId) (z : Value) (size bytes : Nat) (ht : P.underlying t = some (.slice e)) (hinf : (P.info? e).map (fun i => (i.zero, i.size, i.bytes)) = some (some z, size, bytes)) (hzs : z.cells.size = size) (hsz : 0 < size)
    {w : World} {ops : Array Oper} {rest : List Oper} {o : Oper} {a : Act} {Q : Exit → Act → World → Prop} (hgd : o.guard = none) (s x : Operand)
    (ho : o.op = .call { callee := .builtin .append, args := #[s, x], argTypes := #[t, t] })
    (base : Nat) (v : Value) (n : Nat) (xs : List Value) (hs : a.eval s = v) (hown : w.ownsRow base e size v n xs) (C : Array Value) (hC : C.size = size) (h1 : ∀ u ∈ C.toList, u.oneCell' = true) (hx : a.eval x = .slice (some ⟨w.heap.size, 0, none⟩) 1 1)
    (h63 : n + 1 ≤ 9223372036854775807) (hb : (n + 1) * bytes ≤ 140737488355328) (hbase : base ≤ w.heap.size)
    (h : ∀ v' w', Hid (w'.ownsRow base e size v' (n + 1) (xs ++ C.toList)) → Hid ((w.alloc (.cells C e)).grownBy w' v.ownBlock ∧ (v'.ownBlock = v.ownBlock ∨ v'.ownBlock = some (w.heap.size + 1))) → wpList P ops Q rest (a.put o.dst v') w') : wpList P ops Q (o :: rest) a (w.alloc (.cells C e)) := by
  obtain ⟨i0, hi, hz0, hz1, hz2⟩ := info_parts hinf
  have ho2 := World.ownsRow.alloc hown (.cells C e)
  obtain ⟨v', w', hr, h2, h3, _, h4⟩ := run_append_own_at (P := P) (w.alloc (.cells C e)) base t o.type e i0 z size bytes ht hi hz0 hz1 hz2 hzs hsz v n xs ho2 ⟨w.heap.size, 0, none⟩ 1 1 C.toList (by rw [Nat.one_mul]; simpa using hC)
    (fun j u hu => by rw [Addr.add_mid, Nat.zero_add]; simp only [World.cell?, heap_alloc_new w _]; simpa using hu) h1 (by unfold maxLen; omega) hb (by simp; omega)
  rw [World.size_alloc] at h4
  refine wpList_plain hgd fun K hK => ?_
  unfold Oper.wp execOp
  simp only [ho, resolve, invoke, builtin, Sem.run_bind, Sem.run_pure, Result.andThen_ok, List.map_toArray, List.map_cons, List.map_nil, hs, hx, hr]
  exact hK _ _ (h v' w' h2 ⟨h3, h4⟩)
/-- A stack in memory, as it is handed to Does. -/
structure StQ (w : World) (q : Option Addr) (cap : Nat) (s : List Int) : Prop where
  le : s.length ≤ cap
  nl : q = none → s.length = 0 ∧ cap = 0
  sm : ∀ a, q = some a → 0 < s.length → ∃ g o, a = ⟨g, o, none⟩ ∧ g < w.heap.size ∧ w.rangeAt g o (sv s)
theorem StQ.next {w w' : World} {q : Option Addr} {cap : Nat} {s : List Int} (h : StQ w q cap s) (k : Below w.heap.size w w') : StQ w' q cap s := ⟨h.le, h.nl, fun a ha h0 => by
  obtain ⟨g, o, e, h1, h2⟩ := h.sm a ha h0
  exact ⟨g, o, e, Nat.lt_of_lt_of_le h1 k.size, range_same h2 (k.block g h1)⟩⟩
theorem StQ.at_ {w : World} {q : Option Addr} {cap : Nat} {s : List Int} (h : StQ w q cap s) (j : Nat) (hj : j < s.length) : ∃ g o, q = some ⟨g, o, none⟩ ∧ w.cell? ⟨g, o + j, none⟩ = some (.int .i64 (s.getD j 0)) := by
  cases q with
  | none => have := h.nl rfl; omega
  | some a =>
    obtain ⟨g, o, rfl, -, hr⟩ := h.sm a rfl (by omega)
    exact ⟨g, o, rfl, hr j _ (sv_get hj)⟩
theorem cut_zero (a : Addr) (cap : Nat) : ∃ u, ∀ W : World, (Instr.slice 35 (.slice (some a) 0 cap) (some (.int .i64 ((0 : Nat) : Int))) none none).run Tryd.prog W = .ok u W := by
  by_cases hc : cap = 0
  · subst hc
    exact ⟨_, fun W => by simp [go_sem, Instr.slice, run_underlying Tryd.underlying35]; rfl⟩
  · exact ⟨_, fun W => by simp [go_sem, Instr.slice, run_underlying Tryd.underlying35, hc]; rfl⟩
/-- The topmost ones of a stack. -/
theorem StQ.top {w : World} {q : Option Addr} {cap : Nat} {s : List Int} (h : StQ w q cap s) (r : Nat) (hr : r ≤ s.length) : ∃ u, (∀ W : World, (Instr.slice 35 (.slice q s.length cap) (some (.int .i64 (r : Int))) none none).run Tryd.prog W = .ok u W) ∧ TkM w u (s.drop r) := by
  cases q with
  | none =>
    obtain ⟨h0, rfl⟩ := h.nl rfl
    obtain rfl : r = 0 := by omega
    refine ⟨.slice none 0 0, fun W => ?_, fun a l e => ?_⟩
    · rw [h0]; kernel_rfl
    · have := congrArg List.length e
      rw [List.length_drop, h0] at this
      simp at this
  | some a =>
    rcases Nat.eq_zero_or_pos s.length with h0 | h0
    · obtain rfl : r = 0 := by omega
      obtain ⟨u, hu⟩ := cut_zero a cap
      refine ⟨u, fun W => ?_, fun a l e => ?_⟩
      · rw [h0]; exact hu W
      · have := congrArg List.length e
        rw [List.length_drop, h0] at this
        simp at this
    · obtain ⟨g, o, rfl, hg, hr2⟩ := h.sm a rfl h0
      refine ⟨_, cut_lo (t := 35) Tryd.underlying35 sz_st g o s.length cap r hr, fun a l e => ?_⟩
      have h1 := congrArg List.length e
      rw [List.length_drop, List.length_cons] at h1
      have h2 := h.le
      refine ⟨g, o + r, cap - r, ?_, hg, fun j v hv => ?_⟩
      · rw [if_neg (by omega), List.length_drop]
      · rw [Nat.add_assoc]
        refine hr2 (r + j) v ?_
        unfold sv at hv ⊢
        rw [List.map_drop, List.getElem?_drop] at hv
        exact hv
/-- What Does answers. -/
def DoP (w w' : World) (z : Ending) : Ex → Prop
  | .error k => z = .returned (.tuple #[.slice none 0 0, .int .i64 k]) ∧ Below w.heap.size w w'
  | .ok s => ∃ g cap, z = .returned (.tuple #[.slice (some ⟨g, 0, none⟩) s.length cap, .int .i64 0]) ∧ w'.ownsRow w.heap.size 45 1 (.slice (some ⟨g, 0, none⟩) s.length cap) s.length (sv s) ∧ Below w.heap.size w w'
theorem all_of {v t : List Int} (hl : v.length = t.length) (h : ∀ i, i < t.length → ofR (v.getD i 0) (t.getD i 0) = true) : ofAll v t = true := by
  unfold ofAll
  rw [List.all_eq_true]
  intro b hb
  obtain ⟨i, hi, rfl⟩ := List.getElem_of_mem hb
  rw [List.length_zipWith] at hi
  have := h i (by omega)
  rw [List.getD_eq_getElem?_getD, List.getElem?_eq_getElem (by omega), List.getD_eq_getElem?_getD, List.getElem?_eq_getElem (by omega)] at this
  rw [List.getElem_zipWith]
  exact this
theorem all_not {v t : List Int} (hl : v.length = t.length) (i : Nat) (hi : i < t.length) (h : ofR (v.getD i 0) (t.getD i 0) = false) : ofAll v t = false := by
  rw [Bool.eq_false_iff]
  intro hc
  unfold ofAll at hc
  rw [List.all_eq_true] at hc
  have h1 : i < (List.zipWith ofR v t).length := by rw [List.length_zipWith]; omega
  have := hc _ (List.getElem_mem h1)
  rw [List.getElem_zipWith] at this
  rw [List.getD_eq_getElem?_getD, List.getElem?_eq_getElem (by omega), List.getD_eq_getElem?_getD, List.getElem?_eq_getElem (by omega)] at h
  simp only [Option.getD_some] at h
  rw [h] at this
  cases this
theorem drop_getD {s : List Int} (r i : Nat) : (s.drop r).getD i 0 = s.getD (r + i) 0 := by rw [List.getD_eq_getElem?_getD, List.getElem?_drop, ← List.getD_eq_getElem?_getD]
theorem Bx2.next {w W W' : World} {iq eq tq : Option Addr} {ia ea ta : Nat} {c : Cd} {k A Bb : Int} (h : Bx2 w W iq eq tq ia ea ta c k A Bb) (b : Below W.heap.size W W') : Bx2 w W' iq eq tq ia ea ta c k A Bb := ⟨below2 h.b b, h.f.next b, h.g.next b⟩
theorem TkM.next {w w' : World} {u : Value} {v : List Int} (h : TkM w u v) (k : Below w.heap.size w w') : TkM w' u v := fun a r e => by
  obtain ⟨g, o, cap, e1, hg, hr⟩ := h a r e
  exact ⟨g, o, cap, e1, Nat.lt_of_lt_of_le hg k.size, range_same hr (k.block g hg)⟩
theorem TkM.keep {w W : World} {u : Value} {v : List Int} (h : TkM w u v) (k : Below w.heap.size w W) : TkM W u v := h.next k
theorem take_sv {s : List Int} {i : Nat} (h : i < s.length) : sv (s.take (i + 1)) = sv (s.take i) ++ [.int .i64 (s.getD i 0)] := by
  rw [List.take_add_one, List.getElem?_eq_getElem h]
  unfold sv
  rw [List.map_append, List.getD_eq_getElem?_getD, List.getElem?_eq_getElem h]
  rfl
/-- The stack stays while a new one is laid. -/
structure StG (w W : World) (q : Option Addr) (cap : Nat) (s : List Int) (r : Nat) (u : Value) : Prop where
  old : StQ w q cap s
  st : StQ W q cap s
  tk0 : TkM w u (s.drop r)
  tk : TkM W u (s.drop r)
theorem StG.start {w W : World} {q : Option Addr} {cap : Nat} {s : List Int} {r : Nat} {u : Value} (h : StQ w q cap s) (t : TkM w u (s.drop r)) (b : Below w.heap.size w W) : StG w W q cap s r u := ⟨h, h.next b, t, t.next b⟩
theorem StG.grow {w W W' : World} {q : Option Addr} {cap : Nat} {s : List Int} {r : Nat} {u : Value} (h : StG w W q cap s r u) {v : Value} {n : Nat} {xs : List Value} (ho : W.ownsRow w.heap.size 45 1 v n xs) {C : Obj} (hg : (W.alloc C).grownBy W' v.ownBlock) (b : Below w.heap.size w W) : StG w W' q cap s r u := by
  have k1 : Kp (fun x => v.ownBlock = some x) W W' := ((Kp.refl _ W).alloc C).trans ((Kp.refl (fun x => v.ownBlock = some x) _).grown hg fun k hk => .inl hk) fun _ _ q => q
  have b2 := b.trans (k1.below (fun k hk => (ho.lt k hk).1) b.size)
  exact ⟨h.old, h.old.next b2, h.tk0, h.tk0.next b2⟩
theorem v0_ok {s : List Int} {r : Nat} {T : List Int} {c : Cd} {e : En} {k A Bb : Int} (h64 : ∀ y ∈ s, -9223372036854775808 ≤ y ∧ y ≤ 9223372036854775807) (hl : (s.drop r).length = T.length) (hT : takR c e (k, A, Bb) = T) (ha : ofAll (s.drop r) T = true) : k = 16 ∨ (k = 15 ∧ furR e (k, A, Bb) (s.drop r) = true) → -9223372036854775804 ≤ (s.drop r).getD 0 0 ∧ (s.drop r).getD 0 0 ≤ 9223372036854775807 := by
  rintro (rfl | ⟨rfl, hf⟩)
  · obtain rfl : T = [-2, 1, -1] := hT.symm
    obtain ⟨a, b, d, hv⟩ := len3 hl
    rw [hv] at ha ⊢
    have h1 : a ∈ s := List.mem_of_mem_drop (i := r) (by rw [hv]; exact List.mem_cons_self)
    have h2 := h64 a h1
    have h3 : ofR a (-2) = true := by
      unfold ofAll at ha
      simp only [List.zipWith_cons_cons, List.all_cons, Bool.and_eq_true] at ha
      exact ha.1
    have h4 : 5 ≤ a := of_decide_eq_true h3
    exact ⟨by show _ ≤ a; omega, h2.2⟩
  · obtain rfl : T = [-1, 1] := hT.symm
    obtain ⟨a, b, hv⟩ := len2 hl
    rw [hv] at hf ⊢
    have h1 : a ∈ s := List.mem_of_mem_drop (i := r) (by rw [hv]; exact List.mem_cons_self)
    have h2 := h64 a h1
    have h3 : (decide (5 ≤ a) || a == 3) = true := hf
    have h4 : 5 ≤ a ∨ a = 3 := by simpa using h3
    exact ⟨by show _ ≤ a; omega, h2.2⟩
theorem ite_le {b : Prop} [Decidable b] {x y : List Int} (h1 : b → x.length ≤ 60000) (h2 : ¬ b → y.length ≤ 60000) : (if b then x else y).length ≤ 60000 := by
  split
  · exact h1 (by assumption)
  · exact h2 (by assumption)
theorem tak_len {c : Cd} (hc : CodeOk c) {e : En} {x : In} (hx : insS x = true) (hn : namedS c e x = true) : (takR c e x).length ≤ 60000 := by
  obtain ⟨k, A, Bb⟩ := x
  obtain ⟨-, hm⟩ := ins_op hx
  have hlo := may_lo hm
  have one : ∀ a : Int, [a].length ≤ 60000 := fun a => by rw [List.length_singleton]; decide
  have h11 : k = 11 → ((enAt c.ens A.toNat).sorts.take (enAt c.ens A.toNat).params.toNat).length ≤ 60000 := fun h => by
    subst h
    unfold namedS at hn
    have h2 : A < (c.ens.length : Int) := by simpa using hn
    have h1 : (0 : Int) ≤ A := hlo.1
    have h3 : A.toNat < c.ens.length := by omega
    have := (ent_ok.1 (hc.es _ (en_mem h3))).p8
    rw [List.length_take]
    omega
  have h19 : k = 19 → (List.replicate A.toNat (-3 : Int)).length ≤ 60000 := fun h => by
    subst h
    rw [List.length_replicate]
    have h2 : A ≤ 60000 := Int.le_trans hlo.2.1 (show shHi.getD (opA.getD (19 : Int).toNat 0) 0 ≤ (60000 : Int) by decide)
    omega
  unfold takR
  exact ite_le (fun _ => one _) fun _ => ite_le (fun _ => one _) fun _ => ite_le (fun _ => ite_le (fun _ => one _) fun _ => one _) fun _ => ite_le (fun _ => by decide) fun _ => ite_le (fun _ => one _) fun _ => ite_le h11 fun _ => ite_le (fun _ => ite_le (fun _ => one _) fun _ => one _) fun _ => ite_le (fun _ => one _) fun _ => ite_le (fun _ => by decide) fun _ => ite_le (fun _ => by decide) fun _ => ite_le (fun _ => one _) fun _ => ite_le (fun _ => one _) fun _ => ite_le h19 fun _ => by decide
section
variable {w : World} {B : Nat} {iq eq tq : Option Addr} {Es : List Em} {c : Cd} {q : Option Addr} {cap : Nat} {s : List Int}
set_option maxRecDepth 100000 in
set_option maxHeartbeats 16000000 in
theorem does_any (m : CodeM w B iq eq tq Es c) (hc : CodeOk c) (ia ea ta : Nat) (hB : B ≤ w.heap.size) (f : Nat) (hf : f < c.ens.length) (x : In) (hx : insS x = true) (hS : StQ w q cap s) (h64 : ∀ y ∈ s, -9223372036854775808 ≤ y ∧ y ≤ 9223372036854775807) (hsl : s.length * 8 ≤ 140737488351232) :
    Calls Tryd.prog 13 #[codeV iq eq tq ia ea ta c, .int .i64 (f : Int), .agg #[.int .i64 x.1, .int .i64 x.2.1, .int .i64 x.2.2], .slice q s.length cap] w fun z w' => Hid (DoP w w' z (doesR c (enAt c.ens f) x s)) := by
  obtain ⟨D, HD⟩ : ∃ D, Hid (doesR c (enAt c.ens f) x s = D) := ⟨_, (rfl : doesR c (enAt c.ens f) x s = _)⟩
  rw [HD.out]
  have HM : Hid (CodeM w B iq eq tq Es c ∧ CodeOk c ∧ B ≤ w.heap.size ∧ f < c.ens.length ∧ insS x = true ∧ StQ w q cap s ∧ (∀ y ∈ s, -9223372036854775808 ≤ y ∧ y ≤ 9223372036854775807) ∧ s.length * 8 ≤ 140737488351232) := ⟨m, hc, hB, hf, hx, hS, h64, hsl⟩
  obtain ⟨k, A, Bb⟩ := x
  have hb := bx2_new w iq eq tq ia ea ta c k A Bb
  obtain ⟨Y, hY⟩ : ∃ Y, (w.alloc (.cells #[.slice iq c.ins.length ia, .slice eq c.ens.length ea, .slice tq c.txs.length ta, .int .i64 c.main] 26)).alloc (.cells #[.int .i64 k, .int .i64 A, .int .i64 Bb] 38) = Y := ⟨_, rfl⟩
  rw [hY] at hb
  have HB : Hid (Bx2 w Y iq eq tq ia ea ta c k A Bb) := hb
  have x0 := (hb.f.cell 0 _ rfl).1
  have x1 := (hb.f.cell 1 _ rfl).1
  have x2 := (hb.f.cell 2 _ rfl).1
  have x3 := (hb.f.cell 3 _ rfl).1
  have y0 := (hb.g.cell 0 _ rfl).1
  have y1 := (hb.g.cell 1 _ rfl).1
  have y2 := (hb.g.cell 2 _ rfl).1
  have c1 := there_any (m.below hb.b hB) ia ea ta (Nat.le_trans hB hb.b.size) f hf (k, A, Bb)
  obtain ⟨N, HN⟩ : ∃ N, Hid (namedS c (enAt c.ens f) (k, A, Bb) = N) := ⟨_, (rfl : namedS c (enAt c.ens f) (k, A, Bb) = _)⟩
  rw [HN.out] at c1
  unfold codeV at c1 ⊢
  simp only at c1 ⊢
  clear m hc hB hf hx hS h64 hsl hb
  go_enter Tryd.func13, Tryd.ntmps13
  go_upto_region 1 with fail
  go_wp2_with fail
  refine c1.mono ?_
  rintro z W1 ⟨rfl, b1⟩
  have HB1 : Hid (Bx2 w W1 iq eq tq ia ea ta c k A Bb) := HB.out.next b1
  clear c1 b1 x0 x1 x2 x3 y0 y1 y2 HB hY
  have HD1 : Hid (D = if N then tkS (takR c (enAt c.ens f) (k, A, Bb)).length s (fun r v => wtS (ofAll v (takR c (enAt c.ens f) (k, A, Bb)) && furR (enAt c.ens f) (k, A, Bb) v) (outR (givR c (enAt c.ens f) (k, A, Bb) v) r)) else .error 143) := by
    show D = _
    rw [← HD.out]
    unfold doesR
    rw [HN.out]
  clear HD
  cases N with
  | false =>
    have HE : Hid (D = .error 143) := HD1.out
    go_wp2
    refine bodyPost_ret (v := .tuple #[.slice none 0 0, .int .i64 143]) (by simp [results, Tryd.results13, go_sem]) rfl ?_
    show DoP _ _ _ _
    rw [HE.out]
    exact ⟨rfl, HB1.out.b⟩
  | true =>
    have x0 := (HB1.out.f.cell 0 _ rfl).1
    have x1 := (HB1.out.f.cell 1 _ rfl).1
    have x2 := (HB1.out.f.cell 2 _ rfl).1
    have x3 := (HB1.out.f.cell 3 _ rfl).1
    have y0 := (HB1.out.g.cell 0 _ rfl).1
    have y1 := (HB1.out.g.cell 1 _ rfl).1
    have y2 := (HB1.out.g.cell 2 _ rfl).1
    have c2 := takes_any (HM.out.1.below HB1.out.b HM.out.2.2.1) HM.out.2.1 ia ea ta (Nat.le_trans HM.out.2.2.1 HB1.out.b.size) f HM.out.2.2.2.1 (k, A, Bb) HM.out.2.2.2.2.1 HN.out
    obtain ⟨T, HT⟩ : ∃ T, Hid (takR c (enAt c.ens f) (k, A, Bb) = T) := ⟨_, (rfl : takR c (enAt c.ens f) (k, A, Bb) = _)⟩
    have HD2 : Hid (D = tkS T.length s (fun r v => wtS (ofAll v T && furR (enAt c.ens f) (k, A, Bb) v) (outR (givR c (enAt c.ens f) (k, A, Bb) v) r))) := by
      have := HD1.out
      rw [if_pos rfl, HT.out] at this
      exact this
    rw [HT.out] at c2
    unfold codeV at c2
    simp only at c2
    clear HD1
    go_wp2_with fail
    refine c2.mono ?_
    rintro z W2 h2
    obtain ⟨v, rfl, hT, b2⟩ := h2.out
    obtain ⟨tq2, tc, rfl, htc, htr⟩ := hT
    have HB2 : Hid (Bx2 w W2 iq eq tq ia ea ta c k A Bb ∧ StQ W2 q cap s ∧ Row W2 W2.heap.size tq2 T.length (sv T)) := ⟨HB1.out.next b2, HM.out.2.2.2.2.2.1.next (below2 HB1.out.b b2), htr⟩
    clear c2 h2 b2 htr htc x0 x1 x2 x3 y0 y1 y2 HB1
    obtain ⟨n, Hn⟩ : ∃ n, Hid (T.length = n) := ⟨_, (rfl : T.length = _)⟩
    obtain ⟨l, Hl⟩ : ∃ l, Hid (s.length = l) := ⟨_, (rfl : s.length = _)⟩
    have hT400 : n ≤ 60000 := by
      have := HN.out
      rw [← Hn.out, ← HT.out]
      exact tak_len HM.out.2.1 HM.out.2.2.2.2.1 HN.out
    have hlI : (l : Int) ≤ 17592186043904 := by have := HM.out.2.2.2.2.2.2.2; rw [Hl.out] at this; omega
    rw [Hn.out, Hl.out]
    by_cases hlt : l < n
    · have hneg : IntKind.i64.wrap ((l : Int) - (n : Int)) = (l : Int) - (n : Int) := by rw [IntKind.wrap_i64]; omega
      have h0 : (l : Int) - (n : Int) < 0 := by omega
      have HE : Hid (D = .error 141) := by
        show D = _
        rw [HD2.out]
        unfold tkS
        rw [Hl.out, Hn.out, if_pos hlt]
      go_wp2
      refine bodyPost_ret (v := .tuple #[.slice none 0 0, .int .i64 141]) (by simp [results, Tryd.results13, go_sem]) rfl ?_
      show DoP _ _ _ _
      rw [HE.out]
      exact ⟨rfl, HB2.out.1.b⟩
    · obtain ⟨r, hr⟩ : ∃ r : Nat, l = r + n := ⟨l - n, by omega⟩
      have hwr : IntKind.i64.wrap ((l : Int) - (n : Int)) = (r : Int) := by rw [IntKind.wrap_i64]; omega
      have hr0 : ¬ ((r : Int) < 0) := by omega
      have hrI : (r : Int) ≤ 17592186043904 := by omega
      have hnI : (n : Int) ≤ 60000 := by omega
      have HD3 : Hid (D = wtS (ofAll (s.drop r) T && furR (enAt c.ens f) (k, A, Bb) (s.drop r)) (outR (givR c (enAt c.ens f) (k, A, Bb) (s.drop r)) (s.take r)) ∧ (s.drop r).length = T.length ∧ l = r + n ∧ r ≤ s.length) := by
        have e1 : (s.drop r).length = T.length := by rw [List.length_drop, Hl.out, Hn.out]; omega
        refine ⟨?_, e1, hr, by rw [Hl.out]; omega⟩
        rw [HD2.out]
        unfold tkS
        rw [Hl.out, Hn.out, if_neg hlt, show l - n = r by omega]
      clear HD2 hlt hr
      go_upto_block 0 with fail
      go_cut [13] (fun u wx => Hid (Bx2 w wx iq eq tq ia ea ta c k A Bb ∧ StQ wx q cap s ∧ ofAll (s.drop r) T = true))
      case first =>
        go_wp2_with fail
        go_loopw [13] (fun u wr => ∃ i : Nat, i ≤ n ∧ u = .int .i64 (i : Int) ∧ Hid (Below W2.heap.size W2 wr ∧ ∀ i', i' < i → ofR ((s.drop r).getD i' 0) (T.getD i' 0) = true)) (fun u _ => n - (intOf u).toNat)
        case atStart => exact ⟨0, Nat.zero_le _, rfl, Below.refl _ _, fun i' h => absurd h (Nat.not_lt_zero _)⟩
        case round =>
          obtain ⟨i, hi, rfl, HI⟩ := hrel
          by_cases hin : i < n
          · have c1 : (i : Int) < (n : Int) := by omega
            obtain ⟨j, hj⟩ : ∃ j : Nat, j = r + i := ⟨_, rfl⟩
            obtain ⟨g, o, rfl, s0⟩ := (HB2.out.2.1.next HI.out.1).at_ j (by have := HD3.out.2.2.1; rw [Hl.out]; omega)
            obtain ⟨g2, o2, rfl, hg2, hr2⟩ := row_get (HB2.out.2.2.below HI.out.1 (Nat.le_refl _)) i (by rw [Hn.out]; exact hin)
            have t0 := hr2 i _ (sv_get (by rw [Hn.out]; exact hin))
            have hwj : IntKind.i64.wrap ((r : Int) + (i : Int)) = (j : Int) := by rw [IntKind.wrap_i64]; omega
            have a0 : (0 : Int) ≤ (j : Int) := by omega
            have a1 : (j : Int) < (l : Int) := by have := HD3.out.2.2.1; omega
            have a2 : (0 : Int) ≤ (i : Int) := by omega
            obtain ⟨sj, Hsj⟩ : ∃ sj, Hid (s.getD j 0 = sj) := ⟨_, (rfl : s.getD j 0 = _)⟩
            obtain ⟨ti, Hti⟩ : ∃ ti, Hid (T.getD i 0 = ti) := ⟨_, (rfl : T.getD i 0 = _)⟩
            rw [Hsj.out] at s0
            rw [Hti.out] at t0
            have HJ : Hid ((s.drop r).getD i 0 = sj) := by show _ = sj; rw [drop_getD, ← hj]; exact Hsj.out
            obtain ⟨O, HO⟩ : ∃ O, Hid (ofR sj ti = O) := ⟨_, (rfl : ofR sj ti = _)⟩
            have cO : ∀ dd os, Calls Tryd.prog 34 #[.int .i64 sj, .int .i64 ti] (Sort.grow (redrawn wr dd) os) fun e w'' => e = .returned (.bool O) ∧ ∃ z : Regrown, w'' = Sort.grow (redrawn wr z.d) z.os := fun dd os => (of_any _ sj ti).mono fun _ _ ⟨e1, e2⟩ => ⟨by rw [e1, HO.out], ⟨dd, os⟩, e2⟩
            have u1 := cell_regrown s0
            have u2 := cell_regrown t0
            clear s0 t0 hg2 hr2 hj
            go_upto_region 11 with fail
            refine wp_region_quiet_below (by kernel_rfl) (by kernel_rfl) ?_
            repeat (first | go_big_quiet_step (first | with_reducible exact cO _ _) | quiet_step (first | with_reducible exact cO _ _))
            refine wpQuiet_nil ?_
            intro _ hw'
            obtain ⟨⟨dq, osq⟩, hw''⟩ := hw'
            subst hw''
            have hY := below_regrown wr dq osq
            first | (change Exit.then _ _ Exit.normal _ (Sort.grow (redrawn wr dq) osq)) | skip
            generalize Sort.grow (redrawn wr dq) osq = Y3 at hY ⊢
            clear cO
            clear u1 u2
            have HY3 : Hid (Below W2.heap.size W2 Y3) := below2 HI.out.1 hY
            cases O with
            | false =>
              have HE : Hid (D = .error 142) := by
                show D = _
                rw [HD3.out.1, all_not HD3.out.2.1 i (by rw [Hn.out]; exact hin) (by rw [HJ.out, Hti.out]; exact HO.out), Bool.false_and]
                rfl
              go_wp2
              refine bodyPost_ret (v := .tuple #[.slice none 0 0, .int .i64 142]) (by simp [results, Tryd.results13, go_sem]) rfl ?_
              show DoP _ _ _ _
              rw [HE.out]
              exact ⟨rfl, below2 HB2.out.1.b HY3.out⟩
            | true =>
              have HN2 : Hid (Below W2.heap.size W2 Y3 ∧ ∀ i', i' < i + 1 → ofR ((s.drop r).getD i' 0) (T.getD i' 0) = true) := ⟨HY3.out, fun i' h => by
                rcases Nat.lt_succ_iff_lt_or_eq.1 h with h | rfl
                · exact HI.out.2 i' h
                · rw [HJ.out, Hti.out]; exact HO.out⟩
              go_wp2
              exact ⟨⟨i + 1, by omega, by go_num, HN2⟩, by simp [intOf]; omega⟩
          · obtain rfl : i = n := by omega
            have c1 : ¬ ((i : Int) < (i : Int)) := by omega
            go_wp2
            go_meet
            case rel => exact ⟨HB2.out.1.next HI.out.1, HB2.out.2.1.next HI.out.1, all_of HD3.out.2.1 (fun i' h => HI.out.2 i' (by rw [← Hn.out]; exact h))⟩
      case rest =>
        have HC : Hid (Bx2 w wc iq eq tq ia ea ta c k A Bb ∧ StQ wc q cap s ∧ ofAll (s.drop r) T = true) := hcut
        clear hcut
        have HV0 : Hid (k = 16 ∨ (k = 15 ∧ furR (enAt c.ens f) (k, A, Bb) (s.drop r) = true) → -9223372036854775804 ≤ (s.drop r).getD 0 0 ∧ (s.drop r).getD 0 0 ≤ 9223372036854775807) := v0_ok HM.out.2.2.2.2.2.2.1 HD3.out.2.1 HT.out HC.out.2.2
        obtain ⟨u, hsl, hu0⟩ := HM.out.2.2.2.2.2.1.top r HD3.out.2.2.2
        have hu := hu0.next HC.out.1.b
        have HU0 : Hid (TkM w u (s.drop r)) := hu0
        clear hu0
        rw [Hl.out] at hsl
        obtain ⟨F, HF⟩ : ∃ F, Hid (furR (enAt c.ens f) (k, A, Bb) (s.drop r) = F) := ⟨_, (rfl : furR (enAt c.ens f) (k, A, Bb) (s.drop r) = _)⟩
        have cF : ∀ dd os, Calls Tryd.prog 35 #[.agg #[.slice iq c.ins.length ia, .slice eq c.ens.length ea, .slice tq c.txs.length ta, .int .i64 c.main], .int .i64 (f : Int), .agg #[.int .i64 k, .int .i64 A, .int .i64 Bb], u] (Sort.grow (redrawn wc dd) os) fun e w'' => e = .returned (.bool F) ∧ ∃ z : Regrown, w'' = Sort.grow (redrawn wc z.d) z.os := fun dd os => by
          have hbr := below_regrown wc dd os
          have hb2 := below2 HC.out.1.b hbr
          have := further_any (HM.out.1.below hb2 HM.out.2.2.1) ia ea ta (Nat.le_trans HM.out.2.2.1 hb2.size) f HM.out.2.2.2.1 (k, A, Bb) u (s.drop r) (by rw [HT.out]; exact HD3.out.2.1) (hu.next hbr) (fun h => HV0.out (.inl h))
          rw [HF.out] at this
          exact Calls.regrown_of this
        have u0 := cell_regrown (HC.out.1.f.cell 0 _ rfl).1
        have u1 := cell_regrown (HC.out.1.f.cell 1 _ rfl).1
        have u2 := cell_regrown (HC.out.1.f.cell 2 _ rfl).1
        have u3 := cell_regrown (HC.out.1.f.cell 3 _ rfl).1
        have u4 := cell_regrown (HC.out.1.g.cell 0 _ rfl).1
        have u5 := cell_regrown (HC.out.1.g.cell 1 _ rfl).1
        have u6 := cell_regrown (HC.out.1.g.cell 2 _ rfl).1
        have HU : Hid (TkM wc u (s.drop r)) := hu
        clear hu
        go_upto_region 14 with fail
        refine wp_region_quiet_below (by kernel_rfl) (by kernel_rfl) ?_
        repeat (first | go_big_quiet_step (first | with_reducible exact cF _ _) | quiet_step (first | with_reducible exact cF _ _))
        refine wpQuiet_nil ?_
        intro _ hw'
        obtain ⟨⟨dq, osq⟩, hw''⟩ := hw'
        subst hw''
        have hY := below_regrown wc dq osq
        first | (change Exit.then _ _ Exit.normal _ (Sort.grow (redrawn wc dq) osq)) | skip
        generalize Sort.grow (redrawn wc dq) osq = Y4 at hY ⊢
        clear cF
        clear u0 u1 u2 u3 u4 u5 u6
        have HC4 : Hid (Bx2 w Y4 iq eq tq ia ea ta c k A Bb ∧ StQ Y4 q cap s ∧ TkM Y4 u (s.drop r)) := ⟨HC.out.1.next hY, HC.out.2.1.next hY, HU.out.next hY⟩
        cases F with
        | false =>
          have HE : Hid (D = .error 142) := by
            show D = _
            rw [HD3.out.1, HF.out, Bool.and_false]
            rfl
          go_wp2
          refine bodyPost_ret (v := .tuple #[.slice none 0 0, .int .i64 142]) (by simp [results, Tryd.results13, go_sem]) rfl ?_
          show DoP _ _ _ _
          rw [HE.out]
          exact ⟨rfl, HC4.out.1.b⟩
        | true =>
          have HD4 : Hid (D = outR (givR c (enAt c.ens f) (k, A, Bb) (s.drop r)) (s.take r)) := by
            show D = _
            rw [HD3.out.1, HF.out, HC.out.2.2]
            rfl
          clear hY HC HU
          go_upto_block 2 with fail
          obtain ⟨Y5, hY5⟩ : ∃ Y5, Y5 = Y4.alloc (.cells #[] 45) := ⟨_, rfl⟩
          rw [← hY5]
          have b5 : Below Y4.heap.size Y4 Y5 := by rw [hY5]; exact (Below.refl _ Y4).alloc (Nat.le_refl _) _
          have o5 : Y5.ownsRow w.heap.size 45 1 (.slice (some ⟨Y4.heap.size, 0, none⟩) 0 0) 0 [] := by rw [hY5]; exact own_down (own_empty Y4) HC4.out.1.b.size
          have H5 : Hid (Y5.ownsRow w.heap.size 45 1 (.slice (some ⟨Y4.heap.size, 0, none⟩) 0 0) 0 (sv (s.take 0)) ∧ Bx2 w Y5 iq eq tq ia ea ta c k A Bb ∧ StQ Y5 q cap s ∧ TkM Y5 u (s.drop r) ∧ w.heap.size ≤ Y4.heap.size) := ⟨o5, HC4.out.1.next b5, HC4.out.2.1.next b5, HC4.out.2.2.next b5, HC4.out.1.b.size⟩
          clear hY5 b5 o5 HC4
          generalize Y4.heap.size = g4 at *
          clear Y4
          go_cut [16] (fun v wx => ∃ g cp, v = .slice (some ⟨g, 0, none⟩) r cp ∧ Hid (wx.ownsRow w.heap.size 45 1 (.slice (some ⟨g, 0, none⟩) r cp) r (sv (s.take r)) ∧ Bx2 w wx iq eq tq ia ea ta c k A Bb ∧ TkM wx u (s.drop r)))
          case first =>
            go_wp2_with fail
            go_loopw [16, 17] (fun v j wr => ∃ i : Nat, i ≤ r ∧ j = .int .i64 (i : Int) ∧ Hid ((∃ g cp, v = .slice (some ⟨g, 0, none⟩) i cp) ∧ wr.ownsRow w.heap.size 45 1 v i (sv (s.take i)) ∧ Bx2 w wr iq eq tq ia ea ta c k A Bb ∧ StG w wr q cap s r u)) (fun _ j _ => r - (intOf j).toNat)
            case atStart => exact ⟨0, Nat.zero_le _, rfl, ⟨_, _, rfl⟩, H5.out.1, H5.out.2.1, StG.start HM.out.2.2.2.2.2.1 HU0.out H5.out.2.1.b⟩
            case round =>
              obtain ⟨i, hi, rfl, HI⟩ := hrel
              by_cases hin : i < r
              · have c1 : (i : Int) < (r : Int) := by omega
                have hil : i < s.length := Nat.lt_of_lt_of_le hin HD3.out.2.2.2
                obtain ⟨g, o, rfl, s0⟩ := HI.out.2.2.2.st.at_ i hil
                have a0 : (0 : Int) ≤ (i : Int) := by omega
                have a1 : (i : Int) < (l : Int) := by have := HD3.out.2.2.1; omega
                obtain ⟨si, Hsi⟩ : ∃ si, Hid (s.getD i 0 = si) := ⟨_, (rfl : s.getD i 0 = _)⟩
                rw [Hsi.out] at s0
                have hown := HI.out.2.1
                have hbw := HI.out.2.2.1.b.size
                have h63 : i + 1 ≤ 9223372036854775807 := by omega
                have h47 : (i + 1) * 8 ≤ 140737488355328 := by have := HM.out.2.2.2.2.2.2.2; omega
                have HIL : Hid (i < s.length) := hil
                clear hil H5
                go_wp2_with (first
                  | (at_builtin; refine wpList_appW 35 45 _ 1 8 Tryd.underlying35 infoSt rfl (by decide) (by rfl) _ _ (by rfl) w.heap.size _ i (sv (s.take i)) (by rfl) hown #[.int .i64 si] rfl (by simp [Value.oneCell']) (by rfl) h63 h47 hbw ?_; rintro v4 W4 ho4 hg4)
                  | fail)
                have HN2 : Hid ((∃ g cp, v4 = .slice (some ⟨g, 0, none⟩) (i + 1) cp) ∧ W4.ownsRow w.heap.size 45 1 v4 (i + 1) (sv (s.take (i + 1))) ∧ Bx2 w W4 iq eq tq ia ea ta c k A Bb ∧ StG w W4 (some ⟨g, o, none⟩) cap s r u) := by
                  have h4 := ho4.out
                  refine ⟨?_, ?_, HI.out.2.2.1.grow HI.out.2.1 hg4.out.1, HI.out.2.2.2.grow HI.out.2.1 hg4.out.1 HI.out.2.2.1.b⟩
                  · rcases h4.2 with ⟨-, e⟩ | ⟨g', cp, cur, e, -⟩
                    · cases e
                    · exact ⟨g', cp, e⟩
                  · rw [take_sv HIL.out, Hsi.out]
                    exact h4
                exact ⟨⟨i + 1, by omega, by go_num, HN2⟩, by simp [intOf]; omega⟩
              · obtain rfl : i = r := by omega
                have c1 : ¬ ((i : Int) < (i : Int)) := by omega
                obtain ⟨g, cp, hv⟩ := HI.out.1
                go_wp2
                go_meet
                case rel =>
                  refine ⟨g, cp, rfl, ?_, HI.out.2.2.1, HI.out.2.2.2.tk⟩
                  rw [← hv]
                  exact HI.out.2.1
          case rest =>
            obtain ⟨g, cp, rfl, hc5⟩ := hcut
            have HC5 : Hid (wc.ownsRow w.heap.size 45 1 (.slice (some ⟨g, 0, none⟩) r cp) r (sv (s.take r)) ∧ Bx2 w wc iq eq tq ia ea ta c k A Bb ∧ TkM wc u (s.drop r)) := hc5
            clear hc5 H5
            obtain ⟨G, HG⟩ : ∃ G, Hid (givR c (enAt c.ens f) (k, A, Bb) (s.drop r) = G) := ⟨_, (rfl : givR c (enAt c.ens f) (k, A, Bb) (s.drop r) = _)⟩
            have cG : ∀ dd os, Calls Tryd.prog 36 #[.agg #[.slice iq c.ins.length ia, .slice eq c.ens.length ea, .slice tq c.txs.length ta, .int .i64 c.main], .int .i64 (f : Int), .agg #[.int .i64 k, .int .i64 A, .int .i64 Bb], u] (Sort.grow (redrawn wc dd) os) fun e w'' => e = .returned (.int .i64 G) ∧ ∃ z : Regrown, w'' = Sort.grow (redrawn wc z.d) z.os := fun dd os => by
              have hbr := below_regrown wc dd os
              have hb2 := below2 HC5.out.2.1.b hbr
              have := gives_any (HM.out.1.below hb2 HM.out.2.2.1) ia ea ta (Nat.le_trans HM.out.2.2.1 hb2.size) f HM.out.2.2.2.1 (k, A, Bb) HM.out.2.2.2.2.1 HN.out u (s.drop r) (by rw [HT.out]; exact HD3.out.2.1) (HC5.out.2.2.next hbr) (fun h => HV0.out (.inr ⟨h, HF.out⟩))
              rw [HG.out] at this
              exact Calls.regrown_of this
            have u0 := cell_regrown (HC5.out.2.1.f.cell 0 _ rfl).1
            have u1 := cell_regrown (HC5.out.2.1.f.cell 1 _ rfl).1
            have u2 := cell_regrown (HC5.out.2.1.f.cell 2 _ rfl).1
            have u3 := cell_regrown (HC5.out.2.1.f.cell 3 _ rfl).1
            have u4 := cell_regrown (HC5.out.2.1.g.cell 0 _ rfl).1
            have u5 := cell_regrown (HC5.out.2.1.g.cell 1 _ rfl).1
            have u6 := cell_regrown (HC5.out.2.1.g.cell 2 _ rfl).1
            go_upto_region 22 with fail
            refine wp_region_quiet_below (by kernel_rfl) (by kernel_rfl) ?_
            repeat (first | go_big_quiet_step (first | with_reducible exact cG _ _) | quiet_step (first | with_reducible exact cG _ _))
            refine wpQuiet_nil ?_
            intro _ hw'
            obtain ⟨⟨dq, osq⟩, hw''⟩ := hw'
            subst hw''
            have hY := below_regrown wc dq osq
            first | (change Exit.then _ _ Exit.normal _ (Sort.grow (redrawn wc dq) osq)) | skip
            generalize Sort.grow (redrawn wc dq) osq = Y6 at hY ⊢
            clear cG
            clear u0 u1 u2 u3 u4 u5 u6
            have H6 : Hid (Y6.ownsRow w.heap.size 45 1 (.slice (some ⟨g, 0, none⟩) r cp) r (sv (s.take r)) ∧ Below w.heap.size w Y6) := ⟨own_next HC5.out.1 hY, below2 HC5.out.2.1.b hY⟩
            have HD5 : Hid (D = outR G (s.take r) ∧ (s.take r).length = r) := ⟨by rw [HD4.out, HG.out], by rw [List.length_take]; exact Nat.min_eq_left HD3.out.2.2.2⟩
            clear hY HC5
            by_cases hG : G = 0
            · subst hG
              by_cases h400 : 400 < r
              · have c4 : (400 : Int) < (r : Int) := by omega
                have HE : Hid (D = .error 141) := by
                  show D = _
                  rw [HD5.out.1]
                  unfold outR outL
                  rw [if_pos rfl, HD5.out.2, if_pos h400]
                go_wp2
                refine bodyPost_ret (v := .tuple #[.slice none 0 0, .int .i64 141]) (by simp [results, Tryd.results13, go_sem]) rfl ?_
                show DoP _ _ _ _
                rw [HE.out]
                exact ⟨rfl, H6.out.2⟩
              · have c4 : ¬ ((400 : Int) < (r : Int)) := by omega
                have HE : Hid (D = .ok (s.take r)) := by
                  show D = _
                  rw [HD5.out.1]
                  unfold outR outL
                  rw [if_pos rfl, HD5.out.2, if_neg h400]
                go_wp2
                refine bodyPost_ret (v := .tuple #[.slice (some ⟨g, 0, none⟩) r cp, .int .i64 0]) (by simp [results, Tryd.results13, go_sem]) rfl ?_
                show DoP _ _ _ _
                rw [HE.out]
                refine ⟨g, cp, ?_, ?_, H6.out.2⟩
                · rw [HD5.out.2]
                · rw [HD5.out.2]; exact H6.out.1
            · have eG : (G == 0) = false := by rw [beq_eq_false_iff_ne]; exact hG
              have hown := H6.out.1
              have hbw := H6.out.2.size
              have h63 : r + 1 ≤ 9223372036854775807 := by omega
              have h47 : (r + 1) * 8 ≤ 140737488355328 := by omega
              go_upto_region 25 with (first
                | (at_builtin; refine wpList_appW 35 45 _ 1 8 Tryd.underlying35 infoSt rfl (by decide) (by rfl) _ _ (by rfl) w.heap.size _ r (sv (s.take r)) (by rfl) hown #[.int .i64 G] rfl (by simp [Value.oneCell']) (by rfl) h63 h47 hbw ?_; rintro v4 W4 ho4 hg4)
                | fail)
              have h4 := ho4.out
              obtain ⟨g7, cp7, rfl⟩ : ∃ g7 cp7, v4 = .slice (some ⟨g7, 0, none⟩) (r + 1) cp7 := by
                rcases h4.2 with ⟨-, e⟩ | ⟨g', cp, cur, e, -⟩
                · cases e
                · exact ⟨g', cp, e⟩
              have H7 : Hid (W4.ownsRow w.heap.size 45 1 (.slice (some ⟨g7, 0, none⟩) (r + 1) cp7) (r + 1) (sv (s.take r ++ [G])) ∧ Below w.heap.size w W4) := by
                refine ⟨by unfold sv at h4 ⊢; rw [List.map_append]; exact h4, ?_⟩
                have k1 : Kp (fun x => x = g) Y6 W4 := ((Kp.refl _ Y6).alloc _).trans ((Kp.refl (fun x => x = g) _).grown hg4.out.1 fun k hk => .inl (Option.some.inj hk).symm) fun _ _ q => q
                exact H6.out.2.trans (k1.below (fun k hk => by subst hk; exact (H6.out.1.lt _ rfl).1) H6.out.2.size)
              clear h4 ho4 hg4 hown hbw
              have hL : (s.take r ++ [G]).length = r + 1 := by rw [List.length_append, HD5.out.2]; rfl
              have HL : Hid ((s.take r ++ [G]).length = r + 1) := hL
              clear hL
              by_cases h400 : 400 < r + 1
              · have c4 : (400 : Int) < (r : Int) + 1 := by omega
                have HE : Hid (D = .error 141) := by
                  show D = _
                  rw [HD5.out.1]
                  unfold outR outL
                  rw [if_neg hG, HL.out, if_pos h400]
                go_wp2
                refine bodyPost_ret (v := .tuple #[.slice none 0 0, .int .i64 141]) (by simp [results, Tryd.results13, go_sem]) rfl ?_
                show DoP _ _ _ _
                rw [HE.out]
                exact ⟨rfl, H7.out.2⟩
              · have c4 : ¬ ((400 : Int) < (r : Int) + 1) := by omega
                have HE : Hid (D = .ok (s.take r ++ [G])) := by
                  show D = _
                  rw [HD5.out.1]
                  unfold outR outL
                  rw [if_neg hG, HL.out, if_neg h400]
                go_wp2
                refine bodyPost_ret (v := .tuple #[.slice (some ⟨g7, 0, none⟩) (r + 1) cp7, .int .i64 0]) (by simp [results, Tryd.results13, go_sem]) rfl ?_
                show DoP _ _ _ _
                rw [HE.out]
                refine ⟨g7, cp7, ?_, ?_, H7.out.2⟩
                · rw [HL.out]
                · rw [HL.out]; exact H7.out.1
end
end Go.Proofs.YtdcaonfnhdjibaaDoor
