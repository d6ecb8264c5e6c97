import Derived.Test.YtdcaonfnhdjibaaDoorVK3
import Derived.Test.YtdcaonfnhdjibaaDoorVD1
namespace Go.Proofs.YtdcaonfnhdjibaaDoor
open Go.RowKit

/-! The document's Stacks: lists of their own, whatever their room. -/
def LwAt (w : World) (b : Nat) (k : Option (List Int)) (v : Value) : Prop := match k with
  | none => v = .slice none 0 0
  | some s => (∃ g cap, v = .slice (some ⟨g, 0, none⟩) s.length cap) ∧ w.ownsRow b 45 1 v s.length (sv s)
theorem LwAt.keep {w w' : World} {b : Nat} {k : Option (List Int)} {v : Value} (h : LwAt w b k v) (hk : ∀ g, b ≤ g → Blk w g 45 0 → w'.heap[g]? = w.heap[g]?) : LwAt w' b k v := by
  cases k with
  | none => exact h
  | some s => exact ⟨h.1, own_same h.2 fun g hg => hk g (h.2.lt g hg).1 ((own_blk h.2 g hg).le (Nat.zero_le _))⟩
theorem LwAt.down {w : World} {b c : Nat} {k : Option (List Int)} {v : Value} (h : LwAt w b k v) (hc : c ≤ b) : LwAt w c k v := by
  cases k with
  | none => exact h
  | some s => exact ⟨h.1, own_down h.2 hc⟩
structure LwM (w : World) (b : Nat) (v : Value) (K : Kn) (j : Nat) (vs : List Value) : Prop where
  own : w.ownsRow b 35 1 v j vs
  at_ : ∀ i x, vs[i]? = some x → LwAt w b (K.getD i none) x
theorem LwM.keep {w w' : World} {b : Nat} {v : Value} {K : Kn} {j : Nat} {vs : List Value} (h : LwM w b v K j vs) (hk : ∀ g t, b ≤ g → (t = 35 ∨ t = 45) → Blk w g t 0 → w'.heap[g]? = w.heap[g]?) : LwM w' b v K j vs :=
  ⟨own_same h.own fun g hg => hk g _ (h.own.lt g hg).1 (.inl rfl) ((own_blk h.own g hg).le (Nat.zero_le _)), fun i x hx => (h.at_ i x hx).keep fun g hb hg => hk g _ hb (.inr rfl) hg⟩
theorem LwM.next {w w' : World} {b : Nat} {v : Value} {K : Kn} {j : Nat} {vs : List Value} (h : LwM w b v K j vs) (k : Below w.heap.size w w') : LwM w' b v K j vs := h.keep fun g _ _ _ hg => k.block g hg.lt
theorem LwM.down {w : World} {b c : Nat} {v : Value} {K : Kn} {j : Nat} {vs : List Value} (h : LwM w b v K j vs) (hc : c ≤ b) : LwM w c v K j vs := ⟨own_down h.own hc, fun i x hx => (h.at_ i x hx).down hc⟩
theorem LsM.lw {w : World} {b : Nat} {v : Value} {K : Kn} {j : Nat} {vs : List Value} (h : LsM w b v K j vs) (hK : All SOk K) : LwM w b v K j vs := ⟨h.own, fun i x hx => by
  have := h.at_ i x hx
  cases hk : K.getD i none with
  | none => rw [hk] at this; exact this
  | some s =>
    rw [hk] at this
    obtain ⟨g, hb, e, hf⟩ := this
    have hl := (hK i s hk).len
    refine ⟨⟨g, _, e⟩, by rw [sv_len, Nat.mul_one], .inr ⟨g, s.length, (sv s).toArray, e, hb, hf, Nat.le_refl _, by unfold maxLen; omega, by simp [sv_len], ?_⟩⟩
    rw [Nat.mul_one, List.take_of_length_le (by simp [sv_len])]⟩
theorem LwM.app {w W w' : World} {b : Nat} {K : Kn} {j : Nat} {v v' x : Value} {vs : List Value} (hv : LwM W b v K j vs) (hb : Below b w W) (hx : LwAt W b (K.getD j none) x) (ho : w'.ownsRow b 35 1 v' (j + 1) (vs ++ [x])) (hg : (W.alloc (.cells #[x] 35)).grownBy w' v.ownBlock) (hbw : b ≤ W.heap.size) : LwM w' b v' K (j + 1) (vs ++ [x]) ∧ Below b w w' := by
  have b1 : Below W.heap.size W (W.alloc (.cells #[x] 35)) := (Below.refl _ W).alloc (Nat.le_refl _) _
  have hvW := hv.next b1
  have hxW := hx.keep fun g _ hg => b1.block g hg.lt
  have keep : ∀ g t, t ≠ 35 → Blk (W.alloc (.cells #[x] 35)) g t 0 → w'.heap[g]? = (W.alloc (.cells #[x] 35)).heap[g]? := fun g t ht hb => hg.block g hb.lt fun e => own_ne hvW.own hb (fun q => ht q) e.symm
  refine ⟨⟨ho, fun i y hy => ?_⟩, (hb.trans (b1.mono hbw)).grown hg (Nat.le_trans hbw b1.size) fun k hk' => (hvW.own.lt k hk').1⟩
  have hl : vs.length = j := by have := hv.own.1; omega
  by_cases hi : i < vs.length
  · rw [List.getElem?_append_left hi] at hy
    exact (hvW.at_ i y hy).keep fun g _ hb => keep g 45 (by decide) hb
  · rw [List.getElem?_append_right (by omega)] at hy
    have : i - vs.length = 0 := by
      have := (List.getElem?_eq_some_iff.1 hy).1
      simp at this
      omega
    rw [this] at hy
    cases hy
    have e : i = j := by omega
    rw [e]
    exact hxW.keep fun g _ hb => keep g 45 (by decide) hb
def RsR (w : World) (R : Except (Int × Int) Kn) (z : Ending) (w' : World) : Prop := Below w.heap.size w w' ∧ match R with
  | .error k => z = .returned (.tuple #[.slice none 0 0, .int .i64 k.1])
  | .ok K => ∃ v vs, z = .returned (.tuple #[v, .int .i64 0]) ∧ LwM w' w.heap.size v K K.length vs
theorem sv_take (S : List Int) (m : Nat) (hm : m < S.length) : sv (S.take m) ++ [.int .i64 (S.getD m 0)] = sv (S.take (m + 1)) := by
  unfold sv
  rw [List.take_add_one, List.map_append, List.getElem?_eq_getElem hm, List.getD_eq_getElem?_getD, List.getElem?_eq_getElem hm]
  rfl
section
variable {w : World} {B : Nat} {iq eq tq : Option Addr} {Es : List Em} {c : Cd}
set_option maxRecDepth 100000 in
set_option maxHeartbeats 4000000 in
theorem rstacks_any (m : CodeM w B iq eq tq Es c) (ia ea ta : Nat) (hB : B ≤ w.heap.size) (h64 : In64 c) :
    Calls Tryd.prog 19 #[codeV iq eq tq ia ea ta c] w fun z w' => Hid (RsR w (surS c) z w') := by
  obtain ⟨T, HT⟩ : ∃ T, Hid (surS c = T) := ⟨_, (rfl : surS c = _)⟩
  rw [HT.out]
  obtain ⟨X, hX⟩ : ∃ X, w.alloc (.cells #[.slice iq c.ins.length ia, .slice eq c.ens.length ea, .slice tq c.txs.length ta, .int .i64 c.main] 26) = X := ⟨_, rfl⟩
  have B1 : Below w.heap.size w X := by rw [← hX]; exact (Below.refl _ w).alloc (Nat.le_refl _) _
  have F1 : Full X w.heap.size 26 [.slice iq c.ins.length ia, .slice eq c.ens.length ea, .slice tq c.txs.length ta, .int .i64 c.main] := by rw [← hX]; exact Full.new w _ _
  have cA := all_any (m.below B1 hB) ia ea ta (Nat.le_trans hB B1.size) h64
  rw [HT.out] at cA
  have HX : Hid (Below w.heap.size w X) := B1
  have x0 := (F1.cell 0 _ rfl).1
  have x1 := (F1.cell 1 _ rfl).1
  have x2 := (F1.cell 2 _ rfl).1
  have x3 := (F1.cell 3 _ rfl).1
  unfold codeV at cA ⊢
  clear B1 F1 m hB h64
  go_enter Tryd.func19, Tryd.ntmps19
  cases T with
  | error k =>
    have hnz := sur_nz HT.out
    obtain ⟨ke, ka⟩ := k
    have n1 : (ke == 0) = false := by rw [beq_eq_false_iff_ne]; exact hnz
    have n2 : (ke != 0) = true := by rw [bne, n1]; rfl
    go_wp2_with fail
    refine cA.mono ?_
    rintro z W1 h1
    obtain ⟨rfl, b1⟩ := h1.out
    have HB : Hid (RsR w (.error (ke, ka)) (.returned (.tuple #[.slice none 0 0, .int .i64 ke])) W1) := ⟨below2 HX.out b1, rfl⟩
    clear cA h1 b1 hnz x0 x1 x2 x3
    go_wp2
    go_ret2
    exact HB
  | ok K =>
    obtain ⟨hc, -, hKl, -, -⟩ := sur_ok HT.out
    have HA : Hid (K.length = c.ins.length ∧ ∀ j, (stkAt K j).length ≤ 400) := ⟨hKl, all_len (sur_sok HT.out)⟩
    have hil : (c.ins.length : Int) ≤ 60000 := by have := hc.il; omega
    clear hc hKl
    go_wp2_with fail
    refine cA.mono ?_
    rintro z W1 h1
    obtain ⟨g, R, Lk, rfl, hR, hn, -, b1⟩ := h1.out
    have HW1 : Hid (Below w.heap.size w W1 ∧ RkM W1 g K Lk R ∧ R.length = c.ins.length) := ⟨below2 HX.out b1, hR, hn⟩
    clear cA h1 b1 x0 x1 x2 x3 hR hn HX hX
    have HI0 : Hid (Below W1.heap.size W1 W1 ∧ ∃ vs, LwM W1 W1.heap.size (.slice none 0 0) K 0 vs) := ⟨Below.refl _ _, [], World.ownsRow_nil _ _ _ _, fun i x hx => by cases hx⟩
    go_wp2_with fail
    go_loopw [7, 8] (fun v sv wr => ∃ j : Nat, j ≤ c.ins.length ∧ sv = .int .i64 (j : Int) ∧ Hid (Below W1.heap.size W1 wr ∧ ∃ vs, LwM wr W1.heap.size v K j vs)) (fun _ sv _ => c.ins.length - (intOf sv).toNat)
    case atStart => exact ⟨0, Nat.zero_le _, rfl, HI0⟩
    case round =>
      obtain ⟨j, hj, rfl, HI⟩ := hrel
      obtain ⟨wo, rfl⟩ : ∃ wo, wo = wr := ⟨wr, rfl⟩
      clear HI0
      obtain ⟨vs, hls⟩ := HI.out.2
      by_cases hlt : j < c.ins.length
      · have a0 : (0 : Int) ≤ (j : Int) := by omega
        have a1 : (j : Int) < (c.ins.length : Int) := by omega
        have hjR : j < R.length := by rw [HW1.out.2.2]; exact hlt
        have HRk : Hid (∀ wq, Below wo.heap.size wo wq → RkM wq g K Lk R) := fun wq hb => (HW1.out.2.1.next HI.out.1).next hb
        have y0 := ((HRk.out wo (Below.refl _ _)).at_ j hjR).1
        have HLs : Hid (∀ wq, Below wo.heap.size wo wq → LwM wq W1.heap.size u7 K j vs ∧ Below W1.heap.size W1 wq ∧ W1.heap.size ≤ wq.heap.size) := fun wq hb => ⟨hls.next hb, below2 HI.out.1 hb, (below2 HI.out.1 hb).size⟩
        have HWs : Hid (W1.heap.size ≤ wo.heap.size) := HI.out.1.size
        obtain ⟨S, HS⟩ : ∃ S, Hid (stkAt K j = S) := ⟨_, (rfl : stkAt K j = _)⟩
        have HSl : Hid (S.length ≤ 400) := by show S.length ≤ 400; rw [← HS.out]; exact HA.out.2 j
        clear hls
        cases hKj : K.getD j none with
        | none =>
          rw [hKj] at y0
          have HKj : Hid (K.getD j none = none) := hKj
          have HS0 : Hid (S.length = 0) := by show S.length = 0; rw [← HS.out]; unfold stkAt; rw [hKj]; rfl
          clear hKj
          simp only [Option.isSome_none] at y0
          go_wp2_with fail
          go_loopw [9, 10] (fun sv nv wr => sv = .slice none 0 0 ∧ nv = .int .i64 0 ∧ Hid (Below wo.heap.size wo wr)) (fun _ _ _ => 0)
          case atStart => exact ⟨rfl, rfl, Below.refl _ _⟩
          case round =>
            obtain ⟨rfl, rfl, HQ⟩ := hrel
            obtain ⟨hL, hb, hz⟩ := HLs.out wr HQ.out
            obtain ⟨-, -, y2⟩ := (HRk.out wr HQ.out).at_ j hjR
            obtain ⟨q, cap, hqv, -, -⟩ := (HRk.out wr HQ.out).st j hjR
            rw [hqv, HS.out, HS0.out] at y2
            have HL2 : Hid (LwM wr W1.heap.size u7 K j vs ∧ Below W1.heap.size W1 wr ∧ W1.heap.size ≤ wr.heap.size) := ⟨hL, hb, hz⟩
            clear hL hb hz hqv
            go_wp2_with (first
              | (at_builtin; refine wpList_app 30 35 _ 1 24 Tryd.underlying30 infoL (by rfl) (by decide) (by decide) (by rfl) _ _ (by rfl) W1.heap.size u7 j vs (by rfl) HL2.out.1.own #[.slice none 0 0] (by rfl) (by intro u hu; simp at hu; subst hu; rfl) (by rfl) (by omega) HL2.out.2.2 ?_; intro v' w3 ho3 hg3)
              | fail)
            obtain ⟨l3, b3⟩ := HL2.out.1.app HL2.out.2.1 (by rw [HKj.out]; exact (rfl : _ = _)) ho3.out hg3.out.1 HL2.out.2.2
            have HN : Hid (Below W1.heap.size W1 w3 ∧ ∃ vs, LwM w3 W1.heap.size v' K (j + 1) vs) := ⟨b3, _, l3⟩
            exact ⟨⟨j + 1, by omega, by go_num, HN⟩, by simp [intOf]; omega⟩
        | some s =>
          rw [hKj] at y0
          have HKj : Hid (K.getD j none = some s) := hKj
          have HS0 : Hid (S = s) := by show S = s; rw [← HS.out]; unfold stkAt; rw [hKj]; rfl
          have HLen : Hid (S.length = s.length) := by show _ = _; rw [HS0.out]
          clear hKj
          simp only [Option.isSome_some] at y0
          go_upto_region 11 with fail
          obtain ⟨Y, hY⟩ : ∃ Y, Y = wo.alloc (.cells #[] 45) := ⟨_, rfl⟩
          rw [← hY]
          have HY : Hid (Below wo.heap.size wo Y ∧ Y.ownsRow wo.heap.size 45 1 (.slice (some ⟨wo.heap.size, 0, none⟩) 0 0) 0 []) := by rw [hY]; exact ⟨(Below.refl _ wo).alloc (Nat.le_refl _) _, own_empty wo⟩
          clear hY y0
          obtain ⟨G0, HG0⟩ : ∃ G0, Hid (wo.heap.size = G0) := ⟨_, (rfl : wo.heap.size = _)⟩
          rw [HG0.out] at HY HLs HRk HWs ⊢
          go_wp2_with fail
          go_loopw [9, 10] (fun svv nv wr => ∃ m : Nat, m ≤ S.length ∧ nv = .int .i64 (m : Int) ∧ Hid (Below G0 wo wr ∧ wr.ownsRow G0 45 1 svv m (sv (S.take m)) ∧ ∃ gg cc, svv = .slice (some ⟨gg, 0, none⟩) m cc)) (fun _ nv _ => S.length - (intOf nv).toNat)
          case atStart => exact ⟨0, Nat.zero_le _, rfl, HY.out.1, by rw [List.take_zero]; exact HY.out.2, _, _, rfl⟩
          case round =>
            obtain ⟨m, hm, rfl, HQ⟩ := hrel
            obtain ⟨hL, hb, hz⟩ := HLs.out wr HQ.out.1
            obtain ⟨-, -, y2⟩ := (HRk.out wr HQ.out.1).at_ j hjR
            obtain ⟨q, cap, hqv, hst, -⟩ := (HRk.out wr HQ.out.1).st j hjR
            rw [hqv, HS.out] at y2
            rw [HS.out] at hst
            have HL2 : Hid (LwM wr W1.heap.size u7 K j vs ∧ Below W1.heap.size W1 wr ∧ W1.heap.size ≤ wr.heap.size) := ⟨hL, hb, hz⟩
            obtain ⟨n, Hn⟩ : ∃ n, Hid (S.length = n) := ⟨_, (rfl : S.length = _)⟩
            rw [Hn.out] at y2 hm ⊢
            have hn4 : (n : Int) ≤ 400 := by have := HSl.out; have := Hn.out; omega
            clear hL hb hz hqv
            by_cases hml : m < n
            · have m0 : (0 : Int) ≤ (m : Int) := by omega
              have m1 : (m : Int) < (n : Int) := by omega
              obtain ⟨a, rfl⟩ : ∃ a, q = some a := by
                cases q with
                | none => have := (hst.nl rfl).1; have := Hn.out; omega
                | some a => exact ⟨a, rfl⟩
              obtain ⟨gs, os, rfl, -, hrg⟩ := hst.sm a rfl (by have := Hn.out; omega)
              have y3 := hrg m _ (sv_get (by have := Hn.out; omega))
              obtain ⟨e, He⟩ : ∃ e, Hid (S.getD m 0 = e) := ⟨_, (rfl : S.getD m 0 = _)⟩
              rw [He.out] at y3
              have HBq : Hid (G0 ≤ wr.heap.size) := by have := HQ.out.1.size; rw [HG0.out] at this; exact this
              clear hrg hst
              go_wp2_with (first
                | (at_builtin; refine wpList_app 35 45 _ 1 8 Tryd.underlying35 infoSt (by rfl) (by decide) (by decide) (by rfl) _ _ (by rfl) G0 u9 m (sv (S.take m)) (by rfl) HQ.out.2.1 #[.int .i64 e] (by rfl) (by intro u hu; simp at hu; subst hu; rfl) (by rfl) (by omega) HBq.out ?_; intro v' w3 ho3 hg3)
                | fail)
              have HN : Hid (Below G0 wo w3 ∧ w3.ownsRow G0 45 1 v' (m + 1) (sv (S.take (m + 1))) ∧ ∃ gg cc, v' = .slice (some ⟨gg, 0, none⟩) (m + 1) cc) := by
                have ho := ho3.out
                rw [← He.out, show sv (S.take m) ++ #[Value.int .i64 (S.getD m 0)].toList = sv (S.take m) ++ [.int .i64 (S.getD m 0)] from rfl, sv_take S m (by have := Hn.out; omega)] at ho
                have b1 : Below wr.heap.size wr (wr.alloc (.cells #[.int .i64 e] 45)) := (Below.refl _ wr).alloc (Nat.le_refl _) _
                have hbb := HQ.out.1.trans (b1.mono HBq.out)
                refine ⟨hbb.grown hg3.out.1 (Nat.le_trans HBq.out b1.size) fun k hk => (HQ.out.2.1.lt k hk).1, ho, ?_⟩
                rcases ho.2 with ⟨-, h0⟩ | ⟨gg, cc, cur, h0, -⟩
                · cases h0
                · exact ⟨gg, cc, h0⟩
              exact ⟨⟨m + 1, by omega, by go_num, HN⟩, by simp [intOf]; omega⟩
            · obtain rfl : m = n := by omega
              have m1 : ¬ ((m : Int) < (m : Int)) := by omega
              obtain ⟨gg, cc, hsh⟩ := HQ.out.2.2
              have HX2 : Hid (LwAt wr W1.heap.size (K.getD j none) u9) := by
                rw [HKj.out]
                have ho := HQ.out.2.1
                rw [← Hn.out, List.take_length, HS0.out] at ho
                refine ⟨⟨gg, cc, ?_⟩, own_down ho HWs.out⟩
                rw [hsh, ← Hn.out, HS0.out]
              subst hsh
              clear hst
              go_wp2_with (first
                | (at_builtin; refine wpList_app 30 35 _ 1 24 Tryd.underlying30 infoL (by rfl) (by decide) (by decide) (by rfl) _ _ (by rfl) W1.heap.size u7 j vs (by rfl) HL2.out.1.own #[.slice (some ⟨gg, 0, none⟩) m cc] (by rfl) (by intro u hu; simp at hu; subst hu; rfl) (by rfl) (by omega) HL2.out.2.2 ?_; intro v' w3 ho3 hg3)
                | fail)
              obtain ⟨l3, b3⟩ := HL2.out.1.app HL2.out.2.1 HX2.out ho3.out hg3.out.1 HL2.out.2.2
              have HN : Hid (Below W1.heap.size W1 w3 ∧ ∃ vs, LwM w3 W1.heap.size v' K (j + 1) vs) := ⟨b3, _, l3⟩
              exact ⟨⟨j + 1, by omega, by go_num, HN⟩, by simp [intOf]; omega⟩
      · obtain rfl : j = c.ins.length := by omega
        have i1 : ¬ ((c.ins.length : Int) < (c.ins.length : Int)) := by omega
        have HE : Hid (RsR w (.ok K) (.returned (.tuple #[u7, .int .i64 0])) wo) := ⟨below2 HW1.out.1 HI.out.1, u7, vs, rfl, by rw [HA.out.1]; exact hls.down HW1.out.1.size⟩
        clear hls
        go_wp2
        go_ret2
        exact HE
end
end Go.Proofs.YtdcaonfnhdjibaaDoor
namespace Go.Proofs.YtdcaonfnhdjibaaDoor
open Go.RowKit

/-! Lists of stacks that read as the same are the same. -/
theorem LwAt.row {w : World} {b : Nat} {k : Option (List Int)} {v : Value} (h : LwAt w b k v) : ∃ q cap, v = .slice q (k.getD []).length cap ∧ Row w w.heap.size q (k.getD []).length (sv (k.getD [])) ∧ ((q = none → k = none) ∧ (k = none → q = none ∧ cap = 0)) := by
  cases k with
  | none => exact ⟨none, 0, h, fun h0 => absurd h0 (by simp), by simp, fun _ => ⟨rfl, rfl⟩⟩
  | some s =>
    obtain ⟨⟨g, cap, rfl⟩, ho⟩ := h
    exact ⟨_, cap, rfl, row_of_own ho, fun h => (by cases h), fun h => (by cases h)⟩
theorem lw_at {w : World} {b : Nat} {v : Value} {K : Kn} {n : Nat} {vs : List Value} (h : LwM w b v K n vs) (i : Nat) (hi : i < n) : ∃ g cap x, v = .slice (some ⟨g, 0, none⟩) n cap ∧ w.cell? ⟨g, i, none⟩ = some x ∧ LwAt w b (K.getD i none) x := by
  obtain ⟨q, cap, rfl, -, hr⟩ := own_slice h.own
  obtain ⟨g, rfl, hr2⟩ := hr (by omega)
  have hl : vs.length = n := by have := h.own.1; omega
  obtain ⟨x, hx⟩ : ∃ x, vs[i]? = some x := ⟨_, List.getElem?_eq_getElem (by omega)⟩
  have := hr2 i x hx
  rw [Nat.zero_add] at this
  exact ⟨g, cap, x, rfl, this, h.at_ i x hx⟩
set_option maxRecDepth 100000 in
set_option maxHeartbeats 4000000 in
theorem sameLw_yes {w : World} {b b' n : Nat} {v v' : Value} {K : Kn} {vs vs' : List Value} (h : LwM w b v K n vs) (h' : LwM w b' v' K n vs') (hn : n ≤ 60000) (hK : All SOk K) :
    Calls Tryd.prog 11 #[v, v'] w fun z w' => z = .returned (.bool true) ∧ Below w.heap.size w w' := by
  obtain ⟨q, cap, rfl, -⟩ := own_slice h.own
  obtain ⟨q', cap', rfl, -⟩ := own_slice h'.own
  have H : Hid (LwM w b (.slice q n cap) K n vs ∧ LwM w b' (.slice q' n cap') K n vs' ∧ All SOk K) := ⟨h, h', hK⟩
  clear h h' hK
  go_enter Tryd.func11, Tryd.ntmps11
  go_wp2_with fail
  go_loopw [13] (fun sv wr => ∃ i : Nat, i ≤ n ∧ sv = .int .i64 (i : Int) ∧ Hid (Below w.heap.size w wr)) (fun sv _ => n - (intOf sv).toNat)
  case atStart => exact ⟨0, Nat.zero_le _, rfl, Below.refl _ _⟩
  case round =>
    obtain ⟨i, hi, rfl, HB⟩ := hrel
    by_cases hlt : i < n
    · obtain ⟨g, cp, x, hv, x1, a1⟩ := lw_at (H.out.1.next HB.out) i hlt
      obtain ⟨g', cp', x', hv', x2, a2⟩ := lw_at (H.out.2.1.next HB.out) i hlt
      cases hv
      cases hv'
      have y1 := cell_regrown x1
      have y2 := cell_regrown x2
      have i0 : (0 : Int) ≤ (i : Int) := by omega
      have i1 : (i : Int) < (n : Int) := by omega
      obtain ⟨q1, k1, rfl, r1, e1⟩ := a1.row
      obtain ⟨q2, k2, rfl, r2, e2⟩ := a2.row
      have hlen : (((K.getD i none).getD []).length) ≤ 60000 := by
        cases hk : K.getD i none with
        | none => simp
        | some s => have := (H.out.2.2 i s hk).len; simp; omega
      have cS : ∀ dd os, Calls Tryd.prog 12 #[.slice q1 ((K.getD i none).getD []).length k1, .slice q2 ((K.getD i none).getD []).length k2] (Sort.grow (redrawn wr dd) os) fun e w'' => e = .returned (.bool true) ∧ ∃ z : Regrown, w'' = Sort.grow (redrawn wr z.d) z.os := fun dd os => by
        have hb := below_regrown wr dd os
        exact Calls.regrown_of (same_yes ((r1.below hb (Nat.le_refl _)).up hb.size) ((r2.below hb (Nat.le_refl _)).up hb.size) rfl hlen)
      have nE := nilEqL
      cases hq : K.getD i none with
      | none =>
        obtain ⟨rfl, rfl⟩ := e1.2 hq
        obtain ⟨rfl, rfl⟩ := e2.2 hq
        rw [hq] at cS y1 y2
        clear x1 x2 a1 a2 r1 r2 e1 e2 hq hlen
        simp only [Option.getD_none, List.length_nil] at cS y1 y2
        go_upto_region 6 with fail
        refine wp_region_quiet_below (by kernel_rfl) (by kernel_rfl) ?_
        repeat (first | go_big_quiet_step (first | with_reducible exact cS _ _) | quiet_step (first | with_reducible exact cS _ _))
        refine wpQuiet_nil ?_
        intro _ hw'
        obtain ⟨⟨dq, osq⟩, hw''⟩ := hw'
        subst hw''
        have hY := below_regrown wr dq osq
        first | (change Exit.then _ _ Exit.normal _ (Sort.grow (redrawn wr dq) osq)) | skip
        generalize Sort.grow (redrawn wr dq) osq = Y at hY ⊢
        clear cS
        have HBd : Hid (Below w.heap.size w Y) := below2 HB.out hY
        go_wp2
        exact ⟨⟨i + 1, by omega, by go_num, HBd⟩, by simp [intOf]; omega⟩
      | some s =>
        obtain ⟨p1, rfl⟩ := Option.ne_none_iff_exists'.1 (fun h => by have := e1.1 h; rw [hq] at this; cases this)
        obtain ⟨p2, rfl⟩ := Option.ne_none_iff_exists'.1 (fun h => by have := e2.1 h; rw [hq] at this; cases this)
        rw [hq] at cS y1 y2
        clear x1 x2 a1 a2 r1 r2 e1 e2 hq hlen
        simp only [Option.getD_some] at cS y1 y2
        have n1 := nilNeL p1 s.length k1
        have n2 := nilNeL p2 s.length k2
        go_upto_region 6 with fail
        refine wp_region_quiet_below (by kernel_rfl) (by kernel_rfl) ?_
        repeat (first | go_big_quiet_step (first | with_reducible exact cS _ _) | quiet_step (first | with_reducible exact cS _ _))
        refine wpQuiet_nil ?_
        intro _ hw'
        obtain ⟨⟨dq, osq⟩, hw''⟩ := hw'
        subst hw''
        have hY := below_regrown wr dq osq
        first | (change Exit.then _ _ Exit.normal _ (Sort.grow (redrawn wr dq) osq)) | skip
        generalize Sort.grow (redrawn wr dq) osq = Y at hY ⊢
        clear cS
        have HBd : Hid (Below w.heap.size w Y) := below2 HB.out hY
        go_wp2
        exact ⟨⟨i + 1, by omega, by go_num, HBd⟩, by simp [intOf]; omega⟩
    · obtain rfl : i = n := by omega
      have i1 : ¬ ((i : Int) < (i : Int)) := by omega
      go_wp2
      go_ret
      exact ⟨rfl, HB.out⟩
set_option maxRecDepth 100000 in
set_option maxHeartbeats 1000000 in
theorem sameNil (w : World) : Calls Tryd.prog 11 #[.slice none 0 0, .slice none 0 0] w fun z w' => z = .returned (.bool true) ∧ Below w.heap.size w w' := by
  have h : LwM w w.heap.size (.slice none 0 0) [] 0 [] := ⟨World.ownsRow_nil _ _ _ _, fun i x hx => by cases hx⟩
  exact sameLw_yes h h (by omega) (fun i s hs => by simp at hs)
/-- What two lists answered as stacks read as. -/
def LwR (w : World) (b : Nat) (v : Value) : Except (Int × Int) Kn → Prop
  | .error _ => v = .slice none 0 0
  | .ok K => K.length ≤ 60000 ∧ All SOk K ∧ ∃ vs, LwM w b v K K.length vs
theorem LwR.keep {w w' : World} {b : Nat} {v : Value} {R : Except (Int × Int) Kn} (h : LwR w b v R) (hk : ∀ g t, b ≤ g → (t = 35 ∨ t = 45) → Blk w g t 0 → w'.heap[g]? = w.heap[g]?) : LwR w' b v R := by
  cases R with
  | error k => exact h
  | ok K => obtain ⟨h1, h2, vs, h3⟩ := h; exact ⟨h1, h2, vs, h3.keep hk⟩
theorem LwR.next {w w' : World} {b : Nat} {v : Value} {R : Except (Int × Int) Kn} (h : LwR w b v R) (k : Below w.heap.size w w') : LwR w' b v R := h.keep fun g _ _ _ hg => k.block g hg.lt
theorem sameR_yes {w : World} {b b' : Nat} {v v' : Value} {R : Except (Int × Int) Kn} (h : LwR w b v R) (h' : LwR w b' v' R) : Calls Tryd.prog 11 #[v, v'] w fun z w' => z = .returned (.bool true) ∧ Below w.heap.size w w' := by
  cases R with
  | error k =>
    have h : v = _ := h
    have h' : v' = _ := h'
    subst h h'
    exact sameNil w
  | ok K =>
    obtain ⟨h1, h2, vs, h3⟩ := h
    obtain ⟨-, -, vs', h4⟩ := h'
    exact sameLw_yes h3 h4 h1 h2
end Go.Proofs.YtdcaonfnhdjibaaDoor
