import Derived.Test.YtdcaonfnhdjibaaDoorVCb
import Derived.Laws.IdiomCopy
import Derived.Lib.SlBuf
namespace Go.Proofs.YtdcaonfnhdjibaaDoor
open Go.RowKit

/-! A stack is told: memory of its own. -/
theorem mk_sorts (n : Nat) (hn : n ≤ 60000) : ∃ Z : Array Value, Z.size = n ∧ ∀ w : World, (Instr.makeSlice 35 (.int .i64 (n : Int)) (.int .i64 (n : Int))).run Tryd.prog w = .ok (.slice (some ⟨w.heap.size, 0, none⟩) n n) (w.alloc (.cells Z 45)) := by
  obtain ⟨i, hq, hz, hs, hb⟩ := info_parts infoSt
  refine ⟨_, size_madeCells (Value.int .i64 0).cells n, fun w => ?_⟩
  have := run_make (P := Tryd.prog) w 35 45 i _ Tryd.underlying35 hq hz .i64 .i64 (n : Int) (n : Int) (by omega) (by omega) (by rw [hb]; omega) (by omega)
  rw [Int.toNat_natCast, hs, Nat.mul_one] at this
  exact this
theorem szS : (Tryd.prog.info? 45).map (·.size) = some 1 := by kernel_rfl
theorem sv_one (s : List Int) : ∀ v ∈ sv s, v.oneCell' = true := fun v hv => by
  unfold sv at hv
  obtain ⟨x, -, rfl⟩ := List.mem_map.1 hv
  rfl
theorem sv_size (s : List Int) : (sv s).length = s.length := by unfold sv; rw [List.length_map]
set_option maxRecDepth 100000 in
set_option maxHeartbeats 1000000 in
theorem list_nil (w : World) : Calls Tryd.prog 29 #[.slice none 0 0] w fun z w' => z = .returned (.slice none 0 0) ∧ w' = w := by
  have h1 := nilEq
  go_enter Tryd.func29, Tryd.ntmps29
  go_wp2
  go_ret
  exact ⟨rfl, rfl⟩
set_option maxRecDepth 100000 in
set_option maxHeartbeats 1000000 in
theorem list_yes {w : World} {q : Option Addr} {n cap : Nat} {s : List Int} (h : Stk w q n cap s) (hn : n ≤ 60000) : Calls Tryd.prog 29 #[.slice q n cap] w fun z w' => z = .returned (.slice (some ⟨w.heap.size, 0, none⟩) n n) ∧ Hid (Full w' w.heap.size 45 (sv s) ∧ Below w.heap.size w w') := by
  obtain ⟨g, o, rfl, hl, hc, hr, hk⟩ := h
  have h1 := nilNe ⟨g, o, none⟩ n cap
  obtain ⟨Z, hZ, hmk⟩ := mk_sorts n hn
  obtain ⟨X, hX⟩ : ∃ X, w.alloc (.cells Z 45) = X := ⟨_, rfl⟩
  have B1 : Below w.heap.size w X := by rw [← hX]; exact (Below.refl _ w).alloc (Nat.le_refl _) _
  have F1 : Full X w.heap.size 45 Z.toList := by rw [← hX]; exact Full.new w _ _
  have hsl := sv_size s
  have key : ∀ ty, (Builtin.copy_ #[35, 72] ty #[.slice (some ⟨w.heap.size, 0, none⟩) n n, .slice (some ⟨g, o, none⟩) n cap]).run Tryd.prog X = .ok (goInt n) (X.setCells w.heap.size 0 (sv s)) := fun ty => by
    have := run_copy_cells (P := Tryd.prog) X 35 72 ty 45 w.heap.size 0 n n ⟨g, o, none⟩ n cap (sv s) Tryd.underlying35 szS (by rw [hsl, hl]; exact (Nat.min_self n).symm) (fun j v hv => by
        rw [Addr.add_mid]
        exact range_same hr (B1.block g hk.lt) j v hv) (fun j hj => by
        rw [Nat.zero_add, (F1.cell j (Z.toList[j]'(by rw [Array.length_toList]; omega)) (List.getElem?_eq_getElem _)).1]; rfl) (fun j hj => by
        rw [Nat.zero_add]
        exact (F1.cell j (Z.toList[j]'(by rw [Array.length_toList]; omega)) (List.getElem?_eq_getElem _)).2) (sv_one s)
    rw [hsl, hl] at this
    exact this
  have HE : Hid (Full (X.setCells w.heap.size 0 (sv s)) w.heap.size 45 (sv s) ∧ Below w.heap.size w (X.setCells w.heap.size 0 (sv s))) := by
    refine ⟨?_, below_sets B1 (Nat.le_refl _) _ _⟩
    have f : Full X w.heap.size 45 ([] ++ (Z.toList ++ [])) := by rw [List.nil_append, List.append_nil]; exact F1
    have := Full.put (sv s) f (by rw [hsl, hl, Array.length_toList, hZ])
    rw [List.append_nil] at this
    exact this
  generalize X.setCells w.heap.size 0 (sv s) = Y at *
  clear hr hk hZ F1 B1
  go_enter Tryd.func29, Tryd.ntmps29
  go_wp2_with (at_builtin; refine Lib.wpList_copy_run _ rfl _ _ _ _ rfl _ _ rfl rfl (key _) ?_)
  go_ret
  exact ⟨rfl, HE⟩
end Go.Proofs.YtdcaonfnhdjibaaDoor
namespace Go.Proofs.YtdcaonfnhdjibaaDoor
open Go.RowKit

/-! All stacks are told. -/
def LsAt (w : World) (b : Nat) (k : Option (List Int)) (v : Value) : Prop := match k with
  | none => v = .slice none 0 0
  | some s => ∃ g, b ≤ g ∧ v = .slice (some ⟨g, 0, none⟩) s.length s.length ∧ Full w g 45 (sv s)
theorem LsAt.keep {w w' : World} {b : Nat} {k : Option (List Int)} {v : Value} (h : LsAt w b k v) (hk : ∀ g, Blk w g 45 0 → w'.heap[g]? = w.heap[g]?) : LsAt w' b k v := by
  cases k with
  | none => exact h
  | some s =>
    obtain ⟨g, h1, h2, h3⟩ := h
    exact ⟨g, h1, h2, (hk g ⟨_, h3, Nat.zero_le _⟩).trans h3⟩
/-- The first j stacks of K in memory. -/
structure LsM (w : World) (b : Nat) (v : Value) (K : Kn) (j : Nat) (vs : List Value) : Prop where
  own : w.ownsRow b 35 1 v j vs
  at_ : ∀ i x, vs[i]? = some x → LsAt w b (K.getD i none) x
  sep : ∀ (i j : Nat) (x y : Value) (g : Nat), i < j → vs[i]? = some x → vs[j]? = some y → x.ownBlock = some g → y.ownBlock ≠ some g
theorem LsM.next {w w' : World} {b : Nat} {v : Value} {K : Kn} {j : Nat} {vs : List Value} (h : LsM w b v K j vs) (k : Below w.heap.size w w') : LsM w' b v K j vs := ⟨own_next h.own k, fun i x hx => (h.at_ i x hx).keep fun g hg => k.block g hg.lt, h.sep⟩
theorem LsM.set {w : World} {b : Nat} {v : Value} {K : Kn} {j : Nat} {vs : List Value} (h : LsM w b v K j vs) {E : Nat} {x : List Value} (hE : Full w E 31 x) (y : Value) : LsM (w.setCell ⟨E, 0, none⟩ y) b v K j vs :=
  ⟨own_same h.own fun g hg => set_heap (a := ⟨E, 0, none⟩) fun e => own_ne h.own (b := E) (t := 31) (m := 0) ⟨_, hE, Nat.zero_le _⟩ (by decide) (by rw [hg]; exact congrArg some e), fun i x hx => (h.at_ i x hx).keep fun g hg => set_heap (a := ⟨E, 0, none⟩) fun e => hg.ne (g' := E) (t' := 31) (n' := 0) ⟨_, hE, Nat.zero_le _⟩ (by decide) e, h.sep⟩
theorem ls_lt {w : World} {b : Nat} {v : Value} {K : Kn} {j : Nat} {vs : List Value} (h : LsM w b v K j vs) {i : Nat} {x : Value} (hx : vs[i]? = some x) {g : Nat} (hg : x.ownBlock = some g) : g < w.heap.size := by
  have := h.at_ i x hx
  cases hk : K.getD i none with
  | none => rw [hk] at this; have e : x = _ := this; rw [e] at hg; cases hg
  | some s =>
    rw [hk] at this
    obtain ⟨g', -, e, hf⟩ := this
    rw [e] at hg
    cases hg
    exact hf.lt
/-- Between two rounds of Stacks. -/
structure StI (w wr : World) (kg : Nat) (K : Kn) (j : Nat) (v : Value) : Prop where
  b : Below w.heap.size w wr
  er : Full wr (w.heap.size + 1) 31 [.int .i64 0]
  kn : ∃ ks, KnM wr kg K ks
  ls : ∃ vs, LsM wr w.heap.size v K j vs
theorem StI.next {w wr w' : World} {kg : Nat} {K : Kn} {j : Nat} {v : Value} (h : StI w wr kg K j v) (k : Below wr.heap.size wr w') : StI w w' kg K j v := by
  obtain ⟨ks, hk⟩ := h.kn
  obtain ⟨vs, hv⟩ := h.ls
  exact ⟨below2 h.b k, h.er.next k, ⟨ks, hk.keep (k.block kg hk.blk.lt) fun g hg => k.block g hg.lt⟩, vs, hv.next k⟩
theorem infoL : (Tryd.prog.info? 35).map (fun i => (i.zero, i.size, i.bytes)) = some (some (.slice none 0 0), 1, 24) := by kernel_rfl
/-- One more stack is laid behind the others. -/
theorem StI.app {w wr w' : World} {kg : Nat} {K : Kn} {j : Nat} {v v' x : Value} {vs : List Value} (h : StI w wr kg K j v) (hx : LsAt wr w.heap.size (K.getD j none) x) (hv : LsM wr w.heap.size v K j vs) (hs : ∀ y ∈ vs, ∀ g, y.ownBlock = some g → x.ownBlock ≠ some g) (ho : w'.ownsRow w.heap.size 35 1 v' (j + 1) (vs ++ [x])) (hg : (wr.alloc (.cells #[x] 35)).grownBy w' v.ownBlock) : StI w w' kg K (j + 1) v' := by
  have b1 : Below wr.heap.size wr (wr.alloc (.cells #[x] 35)) := (Below.refl _ wr).alloc (Nat.le_refl _) _
  have hW := h.next b1
  have hvW := hv.next b1
  have hxW := hx.keep fun g hg => b1.block g hg.lt
  have keep : ∀ g t, t ≠ 35 → Blk (wr.alloc (.cells #[x] 35)) g t 0 → w'.heap[g]? = (wr.alloc (.cells #[x] 35)).heap[g]? := fun g t ht hb => hg.block g hb.lt fun e => own_ne hvW.own hb (fun q => ht q) e.symm
  obtain ⟨ks, hk⟩ := hW.kn
  refine ⟨hW.b.grown hg hW.b.size fun k hk' => (hvW.own.lt k hk').1, (keep _ 31 (by decide) ⟨_, hW.er, Nat.zero_le _⟩).trans hW.er, ⟨ks, hk.keep (keep _ 72 (by decide) hk.blk) fun g hb => keep g 45 (by decide) hb⟩, vs ++ [x], ho, fun i y hy => ?_, fun i i' y y' g hi hy hy' hgy => ?_⟩
  rotate_left
  · have hi' : i < vs.length := by
      have := (List.getElem?_eq_some_iff.1 hy').1
      rw [List.length_append, List.length_singleton] at this
      omega
    rw [List.getElem?_append_left hi'] at hy
    by_cases hi2 : i' < vs.length
    · rw [List.getElem?_append_left hi2] at hy'
      exact hv.sep i i' y y' g hi hy hy' hgy
    · rw [List.getElem?_append_right (by omega)] at hy'
      obtain rfl := List.mem_singleton.1 (List.mem_of_getElem? hy')
      exact hs y (List.mem_of_getElem? hy) g hgy
  have hl : vs.length = j := by have := hv.own.1; omega
  by_cases hi : i < vs.length
  · rw [List.getElem?_append_left hi] at hy
    exact (hvW.at_ i y hy).keep fun g hb => keep g 45 (by decide) hb
  · rw [List.getElem?_append_right (by omega)] at hy
    have : i - vs.length = 0 := by
      have := (List.getElem?_eq_some_iff.1 hy).1
      simp at this
      omega
    rw [this] at hy
    cases hy
    have e : i = j := by omega
    rw [e]
    exact hxW.keep fun g hb => keep g 45 (by decide) hb
/-- What Stacks answers and leaves. -/
def StR (w : World) (R : Except (Int × Int) Kn) (z : Ending) (w' : World) : Prop := Below w.heap.size w w' ∧ match R with
  | .error k => z = .returned (.tuple #[.slice none 0 0, .int .i64 k.1])
  | .ok K => ∃ v vs, z = .returned (.tuple #[v, .int .i64 0]) ∧ LsM w' w.heap.size v K K.length vs
section
variable {w : World} {B : Nat} {iq eq tq : Option Addr} {Es : List Em} {c : Cd}
set_option maxRecDepth 100000 in
set_option maxHeartbeats 4000000 in
theorem stacks_any (m : CodeM w B iq eq tq Es c) (cp : ∀ y ∈ Es, y.1.sorts.length ≤ y.2.2 ∧ (y.2.1 = none → y.1.sorts.length = 0)) (ia ea ta : Nat) (hB : B ≤ w.heap.size) (ht : Tabs w) :
    Calls Tryd.prog 8 #[codeV iq eq tq ia ea ta c] w fun z w' => Hid (StR w (surS c) z w') := by
  have hmf : ∀ (fn : Fn) (first cap : Array Value) (w : World), (Instr.makeFunc fn first cap).run Tryd.prog w = .ok (.func fn first cap) w := fun _ _ _ _ => rfl
  obtain ⟨X, hX⟩ : ∃ X, w.alloc (.cells #[.slice iq c.ins.length ia, .slice eq c.ens.length ea, .slice tq c.txs.length ta, .int .i64 c.main] 26) = X := ⟨_, rfl⟩
  have zX : X.heap.size = w.heap.size + 1 := by rw [← hX]; simp
  obtain ⟨w1, hw1⟩ : ∃ w1, X.alloc (.cells #[.int .i64 0] 31) = w1 := ⟨_, rfl⟩
  have bX : Below w.heap.size w X := by rw [← hX]; exact (Below.refl _ w).alloc (Nat.le_refl _) _
  have bY : Below X.heap.size X w1 := by rw [← hw1]; exact (Below.refl _ X).alloc (Nat.le_refl _) _
  have B1 : Below w.heap.size w w1 := below2 bX bY
  have FX : Full w1 w.heap.size 26 [.slice iq c.ins.length ia, .slice eq c.ens.length ea, .slice tq c.txs.length ta, .int .i64 c.main] := by
    have : Full X w.heap.size 26 [.slice iq c.ins.length ia, .slice eq c.ens.length ea, .slice tq c.txs.length ta, .int .i64 c.main] := by rw [← hX]; exact Full.new w _ _
    exact this.next bY
  have FA : Full w1 (w.heap.size + 1) 31 [.int .i64 0] := by
    have : Full w1 X.heap.size 31 [.int .i64 0] := by rw [← hw1]; exact Full.new X _ _
    rw [zX] at this
    exact this
  have x0 := (FX.cell 0 _ rfl).1
  have x1 := (FX.cell 1 _ rfl).1
  have x2 := (FX.cell 2 _ rfl).1
  have x3 := (FX.cell 3 _ rfl).1
  have HB1 : Hid (Below w.heap.size w w1 ∧ Full w1 (w.heap.size + 1) 31 [.int .i64 0]) := ⟨B1, FA⟩
  have c1 := survey_any (m.below B1 hB) cp ia ea ta (Nat.le_trans hB B1.size) (ht.next B1)
  obtain ⟨R, HR⟩ : ∃ R, Hid (surS c = R) := ⟨_, (rfl : surS c = _)⟩
  rw [HR.out] at c1 ⊢
  unfold codeV at c1 ⊢
  clear m cp hB ht bX bY B1 FX FA
  go_enter_defers Tryd.func8, Tryd.ntmps8
  go_wp2_with fail
  refine c1.mono ?_
  rintro z w2 h2
  replace h2 := h2.out
  clear c1 x0 x1 x2 x3 hX hw1 zX hmf
  cases hR : R with
  | error k =>
    rw [hR] at h2
    obtain ⟨rfl, hb2⟩ := h2
    obtain ⟨c1, f1⟩ := (HB1.out.2.next hb2).cell 0 _ rfl
    go_wp2
    refine leaves_cons (f := 26) (args := #[.pointer (some ⟨w.heap.size + 1, 0, none⟩)]) (by simp) (by simp [go_sem]) ?_
    refine (catchS_yes (w.heap.size + 1) k.1 k.2 _ w2 c1 f1).mono ?_
    rintro e u' w3 ⟨rfl, rfl, W, hbW, rfl⟩
    have d1 : (W.setCell ⟨w.heap.size + 1, 0, none⟩ (.int .i64 k.1)).cell? ⟨w.heap.size + 1, 0, none⟩ = some (.int .i64 k.1) := World.cell?_setCell_same' _ _ _ (by rw [(((HB1.out.2.next hb2).next hbW).cell 0 _ rfl).1]; rfl)
    have b3 : Hid (StR w (.error k) (.returned (.tuple #[.slice none 0 0, .int .i64 k.1])) (W.setCell ⟨w.heap.size + 1, 0, none⟩ (.int .i64 k.1))) := ⟨(below2 (below2 HB1.out.1 hb2) hbW).setCell (p := ⟨w.heap.size + 1, 0, none⟩) (Nat.le_succ _) _, rfl⟩
    simp [Leaves, settle, results, Tryd.results8, go_sem, d1]
    rw [hR]
    exact b3
  | ok K =>
    rw [hR] at h2 HR
    obtain ⟨kg, ks, rfl, hkn, hkg, hb2⟩ := h2
    have HK : Hid (K.length = c.ins.length ∧ All SOk K) := ⟨(sur_ok HR.out).2.2.1, sur_sok HR.out⟩
    have hin : (c.ins.length : Int) ≤ 60000 := by have := (sur_ok HR.out).1.il; omega
    have HI0 : Hid (StI w w2 kg K 0 (.slice none 0 0)) := ⟨below2 HB1.out.1 hb2, HB1.out.2.next hb2, ⟨ks, hkn⟩, [], World.ownsRow_nil _ _ _ _, fun i x hx => (by cases hx), fun i j x y g _ hx => (by cases hx)⟩
    have HRK : Hid (R = .ok K) := hR
    clear hkn hkg hb2 HR hR
    go_wp2_with fail
    go_loopw [2, 10] (fun v sv wr => ∃ j : Nat, j ≤ c.ins.length ∧ sv = .int .i64 (j : Int) ∧ Hid (StI w wr kg K j v)) (fun _ sv _ => c.ins.length - (intOf sv).toNat)
    case atStart => exact ⟨0, Nat.zero_le _, rfl, HI0⟩
    case round =>
      obtain ⟨j, hj, rfl, HI⟩ := hrel
      clear HI0
      obtain ⟨vs, hls⟩ := HI.out.ls
      by_cases hlt : j < c.ins.length
      · have a0 : (0 : Int) ≤ (j : Int) := by omega
        have a1 : (j : Int) < (c.ins.length : Int) := by omega
        obtain ⟨ks, hk⟩ := HI.out.kn
        have hjK : j < K.length := by rw [HK.out.1]; exact hlt
        cases hKj : K.getD j none with
        | none =>
          have yk := (hk.full.cell j _ (hk.no j hjK hKj)).1
          have c2 := list_nil wr
          have HLs : Hid (LsM wr w.heap.size u2 K j vs) := hls
          have HBs : Hid (w.heap.size ≤ wr.heap.size) := HI.out.b.size
          have HAt : Hid (LsAt wr w.heap.size (K.getD j none) (.slice none 0 0)) := by rw [hKj]; exact (rfl : _ = _)
          clear hk hls hKj
          go_wp2_with (first
            | (go_at_call 29; refine c2.mono ?_; rintro z W2 ⟨rfl, rfl⟩)
            | (at_builtin; refine wpList_app 30 35 _ 1 24 Tryd.underlying30 infoL (by rfl) (by decide) (by decide) (by rfl) _ _ (by rfl) w.heap.size u2 j vs (by rfl) HLs.out.own #[.slice none 0 0] (by rfl) (by intro u hu; simp at hu; subst hu; rfl) (by rfl) (by omega) HBs.out ?_; intro v' w3 ho3 hg3)
            | fail)
          have HN : Hid (StI w w3 kg K (j + 1) v') := HI.out.app HAt.out HLs.out (fun y _ g _ q => by cases q) ho3.out hg3.out.1
          exact ⟨⟨j + 1, by omega, by go_num, HN⟩, by simp [intOf]; omega⟩
        | some s =>
          obtain ⟨q, n, cap, h1, hst⟩ := hk.yes j s hKj
          have yk := (hk.full.cell j _ h1).1
          obtain rfl : s.length = n := by obtain ⟨_, _, _, hl, -⟩ := hst; exact hl
          have hn : s.length ≤ 60000 := by have := (HK.out.2 j s hKj).len; omega
          have c2 := list_yes hst hn
          have HLs : Hid (∀ W2, Below wr.heap.size wr W2 → LsM W2 w.heap.size u2 K j vs) := fun W2 hb => hls.next hb
          have HBs : Hid (w.heap.size ≤ wr.heap.size) := HI.out.b.size
          have HAt : Hid (∀ W2, Full W2 wr.heap.size 45 (sv s) → LsAt W2 w.heap.size (K.getD j none) (.slice (some ⟨wr.heap.size, 0, none⟩) s.length s.length)) := fun W2 hf => by rw [hKj]; exact ⟨_, HI.out.b.size, rfl, hf⟩
          have HSp : Hid (∀ y ∈ vs, ∀ g, y.ownBlock = some g → (Value.slice (some ⟨wr.heap.size, 0, none⟩) s.length s.length).ownBlock ≠ some g) := fun y hy g hg q => by
            obtain ⟨i, hi⟩ := List.getElem?_of_mem hy
            cases q
            exact absurd (ls_lt hls hi hg) (Nat.lt_irrefl _)
          clear hk hls hKj h1 hst hn
          go_wp2_with (first
            | (go_at_call 29; refine c2.mono ?_; rintro z W2 ⟨rfl, h2⟩; have HL2 : Hid (LsM W2 w.heap.size u2 K j vs) := HLs.out W2 h2.out.2; have HB2 : Hid (w.heap.size ≤ W2.heap.size) := Nat.le_trans HBs.out h2.out.2.size)
            | (at_builtin; refine wpList_app 30 35 _ 1 24 Tryd.underlying30 infoL (by rfl) (by decide) (by decide) (by rfl) _ _ (by rfl) w.heap.size u2 j vs (by rfl) HL2.out.own #[.slice (some ⟨wr.heap.size, 0, none⟩) s.length s.length] (by rfl) (by intro u hu; simp at hu; subst hu; rfl) (by rfl) (by omega) HB2.out ?_; intro v' w3 ho3 hg3)
            | fail)
          have HN : Hid (StI w w3 kg K (j + 1) v') := (HI.out.next h2.out.2).app (HAt.out W2 h2.out.1) HL2.out HSp.out ho3.out hg3.out.1
          exact ⟨⟨j + 1, by omega, by go_num, HN⟩, by simp [intOf]; omega⟩
      · obtain rfl : j = c.ins.length := by omega
        have i1 : ¬ ((c.ins.length : Int) < (c.ins.length : Int)) := by omega
        have HE := HI.out.er
        obtain ⟨c1, f1⟩ := HE.cell 0 _ rfl
        have d1 : (wr.setCell ⟨w.heap.size + 1, 0, none⟩ (.int .i64 0)).cell? ⟨w.heap.size + 1, 0, none⟩ = some (.int .i64 0) := World.cell?_setCell_same' _ _ _ (by rw [c1]; rfl)
        have d2 : ((wr.setCell ⟨w.heap.size + 1, 0, none⟩ (.int .i64 0)).setCell ⟨w.heap.size + 1, 0, none⟩ (.int .i64 0)).cell? ⟨w.heap.size + 1, 0, none⟩ = some (.int .i64 0) := World.cell?_setCell_same' _ _ _ (by rw [d1]; rfl)
        have b3 : Hid (StR w (.ok K) (.returned (.tuple #[u2, .int .i64 0])) ((wr.setCell ⟨w.heap.size + 1, 0, none⟩ (.int .i64 0)).setCell ⟨w.heap.size + 1, 0, none⟩ (.int .i64 0))) := by
          refine ⟨(HI.out.b.setCell (p := ⟨w.heap.size + 1, 0, none⟩) (Nat.le_succ _) _).setCell (p := ⟨w.heap.size + 1, 0, none⟩) (Nat.le_succ _) _, u2, vs, rfl, ?_⟩
          rw [HK.out.1]
          refine (hls.set HE _).set (E := w.heap.size + 1) (x := [.int .i64 0]) ?_ _
          exact Full.put1 (a := []) (d := []) HE (.int .i64 0)
        clear HE hls
        go_wp2
        refine leaves_cons (f := 26) (args := #[.pointer (some ⟨w.heap.size + 1, 0, none⟩)]) (by simp) (by simp [go_sem]) ?_
        refine (catchS_no (w.heap.size + 1) _ _ d1 (by simp [f1])).mono ?_
        rintro e u' w3 ⟨rfl, rfl, rfl⟩
        simp [Leaves, settle, results, Tryd.results8, go_sem, d2]
        rw [HRK.out]
        exact b3
end
end Go.Proofs.YtdcaonfnhdjibaaDoor
