import Derived.Test.YtahdkffijlfmnaaGreatDoorT29
import Derived.Test.YtahdkffijlfmnaaGreatDoorT26
import Derived.Test.YtahdkffijlfmnaaGreatDoorT27
namespace Go.Proofs.YtahdkffijlfmnaaGreatDoor
open Go.RowKit
open Hp (V vc vcs)
def NewP (w W : World) (g : Nat) (c : Cd) (inp : List Int) (d : Int) (lim mi : Nat) : Prop :=
  ∃ K Q, MachM W g K ms0 [] (.slice none 0 0) (.slice none 0 0) (fun b => b = g) Q ∧ KOk K ∧ K.c = c ∧ K.inp = inp ∧ K.dep = d ∧ K.lim = lim ∧ (∀ b, Q b → w.heap.size ≤ b) ∧ w.heap.size ≤ g ∧ Below w.heap.size w W ∧ W.cell? ⟨w.heap.size, 3, none⟩ = some (.int .i64 (mi : Int)) ∧ mi < K.Es.length
theorem callCopied (a : Value) (w : World) : (callFunc 23 #[a]).run Tryz.prog w = .ok (.enter 23 #[a]) w := by kernel_rfl
theorem callInt64 (a : Value) (w : World) : (callFunc 24 #[a]).run Tryz.prog w = .ok (.enter 24 #[a]) w := by kernel_rfl
theorem callCNew (a : Value) (w : World) : (callFunc 25 #[a]).run Tryz.prog w = .ok (.enter 25 #[a]) w := by kernel_rfl
set_option maxRecDepth 100000 in
set_option maxHeartbeats 4000000 in
theorem new_any {w : World} {iq eq tq nq : Option Addr} {ia ea ta na : Nat} {Es : List Em} {c : Cd} {inp : List Int} (h : CdR w iq eq tq ia ea ta Es c) (hM : CodeM w w.heap.size iq eq tq Es c) (hn : RdS w nq inp.length na (sv inp)) (hi : ∀ x ∈ inp, I64 x) (hil : inp.length ≤ 9223372036854775807) (d l : Int) (hT : Tabs w) :
    Calls Tryz.prog 7 #[.agg #[.slice iq c.ins.length ia, .slice eq c.ens.length ea, .slice tq c.txs.length ta, .int .i64 c.main], .slice nq inp.length na, .agg #[.int .i64 d, .int .i64 l]] w fun z w' => if newE c inp.length d l = 0 then ∃ g, z = .returned (.tuple #[.pointer (some ⟨g, 0, none⟩), .int .i64 0]) ∧ Hid (NewM w w' g c inp d l.toNat ∧ Below w.heap.size w w') else z = .returned (.tuple #[.pointer none, .int .i64 (newE c inp.length d l)]) ∧ Below w.heap.size w w' := by
  have bX : Below w.heap.size w ((w.alloc (.cells #[.slice iq c.ins.length ia, .slice eq c.ens.length ea, .slice tq c.txs.length ta, .int .i64 c.main] 26)).alloc (.cells #[.int .i64 d, .int .i64 l] 29)) := ((Below.refl _ w).alloc (Nat.le_refl _) _).alloc (by simp) _
  have fC : Full ((w.alloc (.cells #[.slice iq c.ins.length ia, .slice eq c.ens.length ea, .slice tq c.txs.length ta, .int .i64 c.main] 26)).alloc (.cells #[.int .i64 d, .int .i64 l] 29)) w.heap.size 26 [.slice iq c.ins.length ia, .slice eq c.ens.length ea, .slice tq c.txs.length ta, .int .i64 c.main] := (Full.new w #[.slice iq c.ins.length ia, .slice eq c.ens.length ea, .slice tq c.txs.length ta, .int .i64 c.main] 26).next ((Below.refl _ _).alloc (Nat.le_refl _) _)
  have fL : Full ((w.alloc (.cells #[.slice iq c.ins.length ia, .slice eq c.ens.length ea, .slice tq c.txs.length ta, .int .i64 c.main] 26)).alloc (.cells #[.int .i64 d, .int .i64 l] 29)) (w.heap.size + 1) 29 [.int .i64 d, .int .i64 l] := by
    have := Full.new (w.alloc (.cells #[.slice iq c.ins.length ia, .slice eq c.ens.length ea, .slice tq c.txs.length ta, .int .i64 c.main] 26)) #[.int .i64 d, .int .i64 l] 29
    rw [World.size_alloc] at this
    exact this
  obtain ⟨X, hX⟩ : ∃ X, (w.alloc (.cells #[.slice iq c.ins.length ia, .slice eq c.ens.length ea, .slice tq c.txs.length ta, .int .i64 c.main] 26)).alloc (.cells #[.int .i64 d, .int .i64 l] 29) = X := ⟨_, rfl⟩
  rw [hX] at bX fC fL
  obtain ⟨l0, -⟩ := fL.cell 0 _ rfl
  obtain ⟨l1, -⟩ := fL.cell 1 _ rfl
  have dR := mayRun_any nq inp.length na d l X
  cases hmr : mayRunS inp.length d l with
  | false =>
    have hE : newE c inp.length d l = 1 := by unfold newE; rw [hmr, if_pos rfl]
    suffices key : Calls Tryz.prog 7 #[.agg #[.slice iq c.ins.length ia, .slice eq c.ens.length ea, .slice tq c.txs.length ta, .int .i64 c.main], .slice nq inp.length na, .agg #[.int .i64 d, .int .i64 l]] w fun z w' => z = .returned (.tuple #[.pointer none, .int .i64 1]) ∧ Below w.heap.size w w' from key.mono fun z w' q => by rw [hE, if_neg (by decide)]; exact q
    rw [hmr] at dR
    clear h hM hn hT hi
    go_enter Tryz.func7, Tryz.ntmps7
    go_wp2_with (first
      | (go_at_call 21; refine dR.mono ?_; rintro z1 w1 ⟨rfl, hb1⟩)
      | fail)
    go_ret2
    exact ⟨rfl, below2 bX hb1⟩
  | true =>
    rw [hmr] at dR
    have HV : Hid (∀ W, Below X.heap.size X W → (Calls Tryz.prog 22 #[codeV iq eq tq ia ea ta c] W fun e w' => e = .returned (.int .i64 (validS c)) ∧ Below W.heap.size W w') ∧ Full W w.heap.size 26 [.slice iq c.ins.length ia, .slice eq c.ens.length ea, .slice tq c.txs.length ta, .int .i64 c.main] ∧ Full W (w.heap.size + 1) 29 [.int .i64 d, .int .i64 l] ∧ Below w.heap.size w W) := fun W b => ⟨valid_any (hM.below (below2 bX b) (Nat.le_refl _)) ia ea ta (below2 bX b).size (hT.next (below2 bX b)), fC.next b, fL.next b, below2 bX b⟩
    unfold codeV at HV
    by_cases hv : validS c = 0
    case neg =>
      have hE : newE c inp.length d l = validS c := by unfold newE; rw [hmr, if_neg (by decide), if_pos hv]
      suffices key : Calls Tryz.prog 7 #[.agg #[.slice iq c.ins.length ia, .slice eq c.ens.length ea, .slice tq c.txs.length ta, .int .i64 c.main], .slice nq inp.length na, .agg #[.int .i64 d, .int .i64 l]] w fun z w' => z = .returned (.tuple #[.pointer none, .int .i64 (validS c)]) ∧ Below w.heap.size w w' from key.mono fun z w' q => by rw [hE, if_neg hv]; exact q
      obtain ⟨e, he⟩ : ∃ e, validS c = e := ⟨_, rfl⟩
      rw [he] at HV hv ⊢
      have k0 : (e == 0) = false := by rw [beq_eq_false_iff_ne]; exact hv
      have k1 : (e != 0) = true := by rw [bne, k0]; rfl
      clear h hM hn hT hi fC fL
      go_enter Tryz.func7, Tryz.ntmps7
      go_wp2_with (first
        | (go_at_call 21; refine dR.mono ?_; rintro z1 w1 ⟨rfl, hb1⟩; obtain ⟨dV, f1, f2, -⟩ := HV.out w1 hb1; obtain ⟨a0, -⟩ := f1.cell 0 _ rfl; obtain ⟨a1, -⟩ := f1.cell 1 _ rfl; obtain ⟨a2, -⟩ := f1.cell 2 _ rfl; obtain ⟨a3, -⟩ := f1.cell 3 _ rfl)
        | (go_at_call 22; refine dV.mono ?_; rintro z2 w2 ⟨rfl, hb2⟩)
        | fail)
      go_ret2
      exact ⟨rfl, below2 (HV.out w1 hb1).2.2.2 hb2⟩
    have hc : CodeOk c := code_ok.1 hv
    obtain ⟨mi, hmi⟩ : ∃ mi : Nat, c.main = (mi : Int) := ⟨c.main.toNat, by have := hc.m0; omega⟩
    have hml : mi < c.ens.length := by have := hc.ml; omega
    have hEl : Es.length = c.ens.length := by rw [← h.en, List.length_map]
    obtain ⟨E, hEE⟩ : ∃ E, Es[mi]? = some E := ⟨Es[mi]'(by omega), List.getElem?_eq_getElem _⟩
    have hEn : enAt c.ens c.main.toNat = E.1 := by
      unfold enAt
      rw [← h.en, hmi, Int.toNat_natCast, List.getD_eq_getElem?_getD, List.getElem?_map, hEE]
      rfl
    have HEN : Hid (∀ W, Below w.heap.size w W → ∃ ge oe, eq = some ⟨ge, oe, none⟩ ∧ W.cell? ⟨ge, oe + mi * 5, none⟩ = some (.string E.1.name) ∧ W.cell? ⟨ge, oe + mi * 5 + 1, none⟩ = some (.int .i64 E.1.start) ∧ W.cell? ⟨ge, oe + mi * 5 + 2, none⟩ = some (.int .i64 E.1.params) ∧ W.cell? ⟨ge, oe + mi * 5 + 3, none⟩ = some (.slice E.2.1 E.1.sorts.length E.2.2) ∧ W.cell? ⟨ge, oe + mi * 5 + 4, none⟩ = some (.int .i64 E.1.result)) := fun W b => by
      obtain ⟨ge, oe, e, r⟩ := h.er.at_ (by omega)
      obtain ⟨hl, rfl⟩ := List.getElem?_eq_some_iff.1 hEE
      have cc : ∀ i v, i < 5 → (ec Es[mi])[i]? = some v → W.cell? ⟨ge, oe + mi * 5 + i, none⟩ = some v := fun i v hi hv => by
        have := r (mi * 5 + i) v ((flat_at ec 5 (fun _ => rfl) Es mi i hl hi).trans hv)
        rw [← Nat.add_assoc] at this
        exact (b.cell (p := ⟨ge, oe + mi * 5 + i, none⟩) (block_lt_of_cell this)).trans this
      exact ⟨ge, oe, e, cc 0 _ (by decide) rfl, cc 1 _ (by decide) rfl, cc 2 _ (by decide) rfl, cc 3 _ (by decide) rfl, cc 4 _ (by decide) rfl⟩
    rw [hv] at HV
    have m0 : (0 : Int) ≤ (mi : Int) := by omega
    have m1 : (mi : Int) < (c.ens.length : Int) := by omega
    by_cases hpr : 0 < E.1.params ∨ E.1.result ≠ 0
    case pos =>
      have hE : newE c inp.length d l = 160 := by unfold newE; rw [hmr, if_neg (by decide), if_neg (by rw [hv]; decide), hEn, if_pos hpr]
      suffices key : Calls Tryz.prog 7 #[.agg #[.slice iq c.ins.length ia, .slice eq c.ens.length ea, .slice tq c.txs.length ta, .int .i64 c.main], .slice nq inp.length na, .agg #[.int .i64 d, .int .i64 l]] w fun z w' => z = .returned (.tuple #[.pointer none, .int .i64 160]) ∧ Below w.heap.size w w' from key.mono fun z w' q => by rw [hE, if_neg (by decide)]; exact q
      rw [hmi] at HV hX ⊢
      obtain ⟨ge, oe, rfl, -⟩ := HEN.out w (Below.refl _ _)
      obtain ⟨ne, hne⟩ : ∃ ne, c.ens.length = ne := ⟨_, rfl⟩
      rw [hne] at HV hX m1 ⊢
      clear h hM hn hT hi fC fL hEE hEn hmi hml hEl hc
      by_cases hp : 0 < E.1.params
      · go_enter Tryz.func7, Tryz.ntmps7
        go_wp2_with (first
          | (go_at_call 21; refine dR.mono ?_; rintro z1 w1 ⟨rfl, hb1⟩; obtain ⟨dV, f1, f2, -⟩ := HV.out w1 hb1; obtain ⟨a0, -⟩ := f1.cell 0 _ rfl; obtain ⟨a1, -⟩ := f1.cell 1 _ rfl; obtain ⟨a2, -⟩ := f1.cell 2 _ rfl; obtain ⟨a3, -⟩ := f1.cell 3 _ rfl)
          | (go_at_call 22; refine dV.mono ?_; rintro z2 w2 ⟨rfl, hb2⟩; have hb2 := below2 hb1 hb2; obtain ⟨-, f3, -, hbw⟩ := HV.out w2 hb2; obtain ⟨b1, -⟩ := f3.cell 1 _ rfl; obtain ⟨b3, -⟩ := f3.cell 3 _ rfl; obtain ⟨ge2, oe2, e2, r0, r1, r2, r3, r4⟩ := HEN.out w2 hbw; cases e2)
          | fail)
        go_ret2
        exact ⟨rfl, hbw.alloc hbw.size _⟩
      · have hr0 : E.1.result ≠ 0 := by
          rcases hpr with r | r
          · exact absurd r hp
          · exact r
        have k0 : (E.1.result == 0) = false := by rw [beq_eq_false_iff_ne]; exact hr0
        have k1 : (E.1.result != 0) = true := by rw [bne, k0]; rfl
        have k2 : ¬ (0 < E.1.params) := hp
        clear hpr hr0
        go_enter Tryz.func7, Tryz.ntmps7
        go_wp2_with (first
          | (go_at_call 21; refine dR.mono ?_; rintro z1 w1 ⟨rfl, hb1⟩; obtain ⟨dV, f1, f2, -⟩ := HV.out w1 hb1; obtain ⟨a0, -⟩ := f1.cell 0 _ rfl; obtain ⟨a1, -⟩ := f1.cell 1 _ rfl; obtain ⟨a2, -⟩ := f1.cell 2 _ rfl; obtain ⟨a3, -⟩ := f1.cell 3 _ rfl)
          | (go_at_call 22; refine dV.mono ?_; rintro z2 w2 ⟨rfl, hb2⟩; have hb2 := below2 hb1 hb2; obtain ⟨-, f3, f4, hbw⟩ := HV.out w2 hb2; obtain ⟨b1, -⟩ := f3.cell 1 _ rfl; obtain ⟨b3, -⟩ := f3.cell 3 _ rfl; obtain ⟨ge2, oe2, e2, r0, r1, r2, r3, r4⟩ := HEN.out w2 hbw; cases e2)
          | fail)
        go_ret2
        exact ⟨rfl, hbw.alloc hbw.size _⟩
    have hp : ¬ 0 < E.1.params := fun q => hpr (.inl q)
    have hr0 : E.1.result = 0 := Classical.byContradiction fun q => hpr (.inr q)
    have hE : newE c inp.length d l = 0 := by unfold newE; rw [hmr, if_neg (by decide), if_neg (by rw [hv]; decide), hEn, if_neg hpr]
    suffices key : Calls Tryz.prog 7 #[.agg #[.slice iq c.ins.length ia, .slice eq c.ens.length ea, .slice tq c.txs.length ta, .int .i64 c.main], .slice nq inp.length na, .agg #[.int .i64 d, .int .i64 l]] w fun z w' => ∃ g, z = .returned (.tuple #[.pointer (some ⟨g, 0, none⟩), .int .i64 0]) ∧ Hid (NewM w w' g c inp d l.toNat ∧ Below w.heap.size w w') from key.mono fun z w' q => by rw [hE, if_pos rfl]; exact q
    have hmr2 : inp.length ≤ 1000 ∧ 1 ≤ d ∧ d ≤ 1000 ∧ 0 ≤ l ∧ l ≤ 100000 := by
      unfold mayRunS at hmr
      simp only [Bool.and_eq_true, decide_eq_true_eq] at hmr
      omega
    obtain ⟨lim, hlim⟩ : ∃ lim : Nat, l = (lim : Int) := ⟨l.toNat, by omega⟩
    have HPO : Hid (∀ W, Below w.heap.size w W → (Calls Tryz.prog 23 #[.agg #[.slice iq c.ins.length ia, .slice eq c.ens.length ea, .slice tq c.txs.length ta, .int .i64 c.main]] W fun z w' => ∃ q5 k5 q6 k6 q7 k7, z = .returned (.agg #[.slice q5 c.ins.length k5, .slice q6 c.ens.length k6, .slice q7 c.txs.length k7, .int .i64 c.main]) ∧ Hid ((∃ M, CdN w' W.heap.size q5 q6 q7 M c) ∧ Below W.heap.size W w')) ∧ (Calls Tryz.prog 24 #[.slice nq inp.length na] W fun z w' => ∃ v', z = .returned v' ∧ Hid (w'.ownsRow W.heap.size 2 1 v' inp.length (sv inp)) ∧ Below W.heap.size W w')) := fun W b => by
      have kr : ∀ {q : Option Addr} {n cap : Nat} {xs : List Value}, RdS w q n cap xs → (0 < n → 0 < xs.length) → RdS W q n cap xs := fun hr hl => hr.next hl b
      refine ⟨copiedCode_any ⟨h.en, kr h.ir (by rw [ic_len]; omega), kr h.er (by rw [ec_len]; omega), kr h.tr (by rw [tv_len]; omega), fun x hx => kr (h.sr x hx) (by rw [sv_len]; omega)⟩ hc, cloneInt64_any (kr hn (by rw [sv_len]; omega)) (by rw [sv_len]; omega) (sv_one _) (by omega)⟩
    rw [hmi] at HV hX HPO ⊢
    obtain ⟨ge, oe, rfl, -⟩ := HEN.out w (Below.refl _ _)
    obtain ⟨ne, hne⟩ : ∃ ne, c.ens.length = ne := ⟨_, rfl⟩
    rw [hne] at HV hX m1 HPO ⊢
    rw [hlim] at HV hX l1 dR ⊢
    clear hmr
    go_enter Tryz.func7, Tryz.ntmps7
    go_wp2_with (first
      | (go_at_call 21; refine dR.mono ?_; rintro z1 w1 ⟨rfl, hb1⟩; obtain ⟨dV, f1, f2, -⟩ := HV.out w1 hb1; obtain ⟨a0, -⟩ := f1.cell 0 _ rfl; obtain ⟨a1, -⟩ := f1.cell 1 _ rfl; obtain ⟨a2, -⟩ := f1.cell 2 _ rfl; obtain ⟨a3, -⟩ := f1.cell 3 _ rfl)
      | (go_at_call 22; refine dV.mono ?_; rintro z2 w2 ⟨rfl, hb2⟩; have hb2 := below2 hb1 hb2; obtain ⟨-, f3, f4, hbw⟩ := HV.out w2 hb2; obtain ⟨b1, -⟩ := f3.cell 1 _ rfl; obtain ⟨b3, -⟩ := f3.cell 3 _ rfl; obtain ⟨ge2, oe2, e2, r0, r1, r2, r3, r4⟩ := HEN.out w2 hbw; cases e2)
      | fail)
    have b3w : Below w2.heap.size w2 (w2.alloc (.cells #[.string E.1.name, .int .i64 E.1.start, .int .i64 E.1.params, .slice E.2.1 E.1.sorts.length E.2.2, .int .i64 0] 71)) := (Below.refl _ w2).alloc (Nat.le_refl _) _
    have HY : Hid (Below X.heap.size X (w2.alloc (.cells #[.string E.1.name, .int .i64 E.1.start, .int .i64 E.1.params, .slice E.2.1 E.1.sorts.length E.2.2, .int .i64 0] 71))) := below2 hb2 b3w
    generalize w2.alloc (.cells #[.string E.1.name, .int .i64 E.1.start, .int .i64 E.1.params, .slice E.2.1 E.1.sorts.length E.2.2, .int .i64 0] 71) = Y at HY ⊢
    clear r0 r1 r2 r3 r4 b1 b3 a0 a1 a2 a3 f1 f2 f3 f4 dV dR b3w hbw hb1 hb2
    have HYD : Hid (Below X.heap.size X Y.drew) := HY.out.drew
    have SV : Hid (∀ W, Below X.heap.size X W → W.cell? ⟨w.heap.size, 0, none⟩ = some (.slice iq c.ins.length ia) ∧ W.cell? ⟨w.heap.size, 1, none⟩ = some (.slice (some ⟨ge, oe, none⟩) ne ea) ∧ W.cell? ⟨w.heap.size, 2, none⟩ = some (.slice tq c.txs.length ta) ∧ W.cell? ⟨w.heap.size, 3, none⟩ = some (.int .i64 (mi : Int)) ∧ W.cell? ⟨w.heap.size + 1, 0, none⟩ = some (.int .i64 d) ∧ W.cell? ⟨w.heap.size + 1, 1, none⟩ = some (.int .i64 (lim : Int))) := fun W b => by
      obtain ⟨-, p1, p2, -⟩ := HV.out W b
      exact ⟨(p1.cell 0 _ rfl).1, (p1.cell 1 _ rfl).1, (p1.cell 2 _ rfl).1, (p1.cell 3 _ rfl).1, (p2.cell 0 _ rfl).1, (p2.cell 1 _ rfl).1⟩
    have HLM : Hid (lim ≤ 100000) := by show _ ≤ _; omega
    have d1 := (HPO.out Y.drew (HV.out _ HYD.out).2.2.2).1
    have HMK : Hid (∀ w5 w6 w7 q5 k5 q6 k6 q7 k7 qn kn, Hid ((∃ M, CdN w5 Y.drew.heap.size q5 q6 q7 M c) ∧ Below Y.drew.heap.size Y.drew w5) → Hid (w6.ownsRow w5.heap.size 2 1 (.slice qn inp.length kn) inp.length (sv inp)) → Hid (Below w5.heap.size w5 w6) → Hid (Below w6.heap.size w6 w7) → NewP w (w7.alloc (.cells #[.slice q5 c.ins.length k5, .slice q6 ne k6, .slice q7 c.txs.length k7, .int .i64 (mi : Int), .slice qn inp.length kn, .int .i64 d, .int .i64 (lim : Int), .slice none 0 0, .int .i64 (lim : Int), .int .i64 0, .slice none 0 0, .slice none 0 0, .int .i64 0, .slice none 0 0, .int .i64 0, .int .i64 0, .int .i64 0] 82)) w7.heap.size c inp d lim mi) := fun w5 w6 w7 q5 k5 q6 k6 q7 k7 qn kn H5 H6 B6 B7 => by
      obtain ⟨⟨M, hM5⟩, b5⟩ := H5.out
      have b7 := below2 B6.out B7.out
      have bA : Below w7.heap.size w7 (w7.alloc (.cells #[.slice q5 c.ins.length k5, .slice q6 ne k6, .slice q7 c.txs.length k7, .int .i64 (mi : Int), .slice qn inp.length kn, .int .i64 d, .int .i64 (lim : Int), .slice none 0 0, .int .i64 (lim : Int), .int .i64 0, .slice none 0 0, .slice none 0 0, .int .i64 0, .slice none 0 0, .int .i64 0, .int .i64 0, .int .i64 0] 82)) := (Below.refl _ w7).alloc (Nat.le_refl _) _
      have bwY : Below w.heap.size w Y.drew := (HV.out _ HYD.out).2.2.2
      have bwA : Below w.heap.size w (w7.alloc (.cells #[.slice q5 c.ins.length k5, .slice q6 ne k6, .slice q7 c.txs.length k7, .int .i64 (mi : Int), .slice qn inp.length kn, .int .i64 d, .int .i64 (lim : Int), .slice none 0 0, .int .i64 (lim : Int), .int .i64 0, .slice none 0 0, .slice none 0 0, .int .i64 0, .slice none 0 0, .int .i64 0, .int .i64 0, .int .i64 0] 82)) := below2 (below2 (below2 bwY b5) b7) bA
      have hlen : c.ens.length = ne := hne
      let K : Cg := ⟨c, q5, k5, q6, k6, q7, k7, M, inp, qn, kn, d, lim⟩
      have hc7 : CodeQ w7 (fun b => Y.drew.heap.size ≤ b ∧ b < w7.heap.size) K := CdN.codeQ (K := K) (hM5.next b7) (own_next H6.out B7.out) b5.size
      have hfA : Full (w7.alloc (.cells #[.slice q5 c.ins.length k5, .slice q6 ne k6, .slice q7 c.txs.length k7, .int .i64 (mi : Int), .slice qn inp.length kn, .int .i64 d, .int .i64 (lim : Int), .slice none 0 0, .int .i64 (lim : Int), .int .i64 0, .slice none 0 0, .slice none 0 0, .int .i64 0, .slice none 0 0, .int .i64 0, .int .i64 0, .int .i64 0] 82)) w7.heap.size 82 (mcell K) := by
        have := Full.new w7 #[.slice q5 c.ins.length k5, .slice q6 ne k6, .slice q7 c.txs.length k7, .int .i64 (mi : Int), .slice qn inp.length kn, .int .i64 d, .int .i64 (lim : Int), .slice none 0 0, .int .i64 (lim : Int), .int .i64 0, .slice none 0 0, .slice none 0 0, .int .i64 0, .slice none 0 0, .int .i64 0, .int .i64 0, .int .i64 0] 82
        unfold mcell
        show Full _ _ _ [.slice q5 c.ins.length k5, .slice q6 c.ens.length k6, .slice q7 c.txs.length k7, .int .i64 c.main, .slice qn inp.length kn, .int .i64 d, .int .i64 (lim : Int), .slice none 0 0, .int .i64 (lim : Int), .int .i64 0, .slice none 0 0, .slice none 0 0, .int .i64 0, .slice none 0 0, .int .i64 0, .int .i64 0, .int .i64 0]
        rw [hlen, hmi]
        exact this
      have hYs : w.heap.size ≤ Y.drew.heap.size := bwY.size
      refine ⟨K, _, mach0 hfA (hc7.same (fun b hb => bA.block b hb.2) bA.size) (fun q => by have := q.2; omega) HLM.out, ⟨hc, hM5.en, by show inp.length ≤ 1000; omega, hi, by show 1 ≤ d; omega, by show d ≤ 1000; omega, HLM.out⟩, rfl, rfl, rfl, rfl, fun b hb => Nat.le_trans hYs hb.1, (below2 (below2 bwY b5) b7).size, bwA, ?_, ?_⟩
      · exact (SV.out _ (below2 (below2 (below2 HYD.out b5) b7) bA)).2.2.2.1
      · show mi < M.length
        rw [← hM5.en, List.length_map] at hml
        exact hml
    go_cut [10] (fun u wx => ∃ g, u = .pointer (some ⟨g, 0, none⟩) ∧ Hid (NewP w wx g c inp d lim mi))
    case first =>
      obtain ⟨s0, s1, s2, s3, s4, s5⟩ := SV.out _ HYD.out
      go_region_law (first
        | (refine step_call (by rfl) 23 [.tmp 34] _ [.agg #[.slice iq c.ins.length ia, .slice (some ⟨ge, oe, none⟩) ne ea, .slice tq c.txs.length ta, .int .i64 (mi : Int)]] (by rfl) (by rfl) (callCopied _) (fun v w' => ∃ q5 k5 q6 k6 q7 k7, v = .agg #[.slice q5 c.ins.length k5, .slice q6 ne k6, .slice q7 c.txs.length k7, .int .i64 (mi : Int)] ∧ Hid ((∃ M, CdN w' Y.drew.heap.size q5 q6 q7 M c) ∧ Below Y.drew.heap.size Y.drew w')) (d1.mono fun _ _ q => by (obtain ⟨q5, k5, q6, k6, q7, k7, r1, r2⟩ := q; exact ⟨_, r1, q5, k5, q6, k6, q7, k7, rfl, r2⟩)) ?_; rintro v5 w5 ⟨q5, k5, q6, k6, q7, k7, rfl, H5⟩; have HB5 : Hid (Below X.heap.size X w5) := below2 HYD.out H5.out.2; obtain ⟨t0, t1, t2, t3, t4, t5⟩ := SV.out _ HB5.out; have d5 := (HPO.out w5 (HV.out _ HB5.out).2.2.2).2)
        | (refine step_call (by rfl) 24 [.tmp 36] _ [.slice nq inp.length na] (by rfl) (by rfl) (callInt64 _) (fun v w' => Hid (w'.ownsRow w5.heap.size 2 1 v inp.length (sv inp)) ∧ Hid (Below w5.heap.size w5 w')) (d5.mono fun _ _ q => by (obtain ⟨v, q1, q2, q3⟩ := q; exact ⟨v, q1, q2, q3⟩)) ?_; rintro v6 w6 ⟨H6, B6⟩; obtain ⟨qn, kn, e6, -, -⟩ := own_slice H6.out; subst e6; have HB6 : Hid (Below X.heap.size X w6) := below2 HB5.out B6.out; obtain ⟨u0, u1, u2, u3, u4, u5⟩ := SV.out _ HB6.out; have d6 := Hp.new_at lim HLM.out w6)
        | (refine step_call (by rfl) 25 [.tmp 40] _ [.int .i64 (lim : Int)] (by rfl) (by rfl) (callCNew _) (fun v w' => v = .pointer (some ⟨w6.heap.size, 0, none⟩) ∧ (w'.cell? ⟨w6.heap.size, 0, none⟩ = some (.int .i64 (lim : Int)) ∧ w'.cell? ⟨w6.heap.size, 1, none⟩ = some (.int .i64 0) ∧ w'.cell? ⟨w6.heap.size, 2, none⟩ = some (.slice none 0 0) ∧ w'.cell? ⟨w6.heap.size, 3, none⟩ = some (.slice none 0 0)) ∧ Hid (Below w6.heap.size w6 w')) (d6.mono fun _ _ q => ⟨_, q.1, rfl, ⟨(Hp.HeapG.zc q.2.1).1, (Hp.HeapG.zc q.2.1).2.1, (Hp.HeapG.zc q.2.1).2.2.1, (Hp.HeapG.zc q.2.1).2.2.2.1⟩, q.2.2⟩) ?_; rintro v7 w7 ⟨rfl, ⟨h0, h1, h2, h3⟩, B7⟩; have HB7 : Hid (Below X.heap.size X w7) := below2 HB6.out B7.out; obtain ⟨x0, x1, x2, x3, x4, x5⟩ := SV.out _ HB7.out))
      all_goals
        clear s0 s1 s2 s3 s4 s5 t0 t1 t2 t3 t4 t5 u0 u1 u2 u3 u4 u5 h0 h1 h2 h3 x0 x1 x2 x3 x4 x5 d1 d5 d6
        go_wp2_with fail
        go_meet
        exact ⟨_, rfl, HMK.out w5 w6 w7 q5 k5 q6 k6 q7 k7 qn kn H5 H6 B6 B7⟩
    case rest =>
      obtain ⟨g, rfl, HP⟩ := hcut
      clear HMK
      obtain ⟨K, Q, pM, pK, pc, pin, pd, pl, pQ, pg, pb, c3, pE⟩ := HP.out
      have hE250 := (pK.ps (K.Es[mi]'pE) (List.getElem_mem pE)).2.2.2
      have dB := begin_any pM pE (by omega) (by simp) (q := none) (cp := 0) (args := []) (by simp) (fun h0 => absurd h0 (by simp))
      have HFB : Hid (∀ w', WentM wc w' g K { ms0 with fs := ms0.fs ++ [⟨(mi : Int), (K.Es[mi]'pE).1.start, slotsS (K.Es[mi]'pE).1.sorts [], []⟩] } [] (.slice none 0 0) (.slice none 0 0) (fun b => b = g) Q → NewM w w' g c inp d lim ∧ Below w.heap.size w w') := fun w' hw => by
        have := newM_of pK pc hmi pE pQ pg pb.size hw
        rw [pin, pd, pl] at this
        refine ⟨this, ?_⟩
        obtain ⟨L', fv', ov', F', -, -, k3⟩ := hw
        have : Below w.heap.size wc w' := k3.below (fun b hb => by
          rcases hb with r | r | r | ⟨m, hm, -⟩
          · have r : b = g := r
            omega
          · cases r
          · cases r
          · cases hm) pb.size
        exact pb.trans this
      have hlt : (lim : Int).toNat = lim := Int.toNat_natCast lim
      clear HP pM pK pc pin pd pl pQ pg pb
      go_wp2_with (first
        | (go_at_call 26; refine dB.mono ?_; rintro z9 w9 ⟨⟨u9, rfl⟩, H9⟩)
        | fail)
      go_ret2
      exact ⟨g, rfl, HFB.out _ H9.out⟩
end Go.Proofs.YtahdkffijlfmnaaGreatDoor

namespace Go.Proofs.YtahdkffijlfmnaaGreatDoor
open Go.RowKit
open Hp (V vc vcs)
def SepL (L : List Fm) (j : Nat) : Prop := ∀ (i k : Nat) (x y : Fm), i < j → k < j → L[i]? = some x → L[k]? = some y → (∀ b, (obk x.sv) = some b → (obk y.tv) ≠ some b) ∧ (i ≠ k → (∀ b, (obk x.sv) = some b → (obk y.sv) ≠ some b) ∧ ∀ b, (obk x.tv) = some b → (obk y.tv) ≠ some b)
structure ClF (w W : World) (K K2 : Cg) (S : Ms) (L : List Fm) (h1 h2 h3 ov : Value) (E : Nat) (gq : Option Addr) (gc F0 F1 j : Nat) : Prop where
  c : ClC w W K K2 S (.slice gq S.fs.length gc) h1 h2 h3 ov E
  e0 : E ≤ F0
  e1 : F0 ≤ F1
  e2 : F1 ≤ W.heap.size
  ex : ∃ L', W.ownsRow F0 89 4 (.slice gq S.fs.length gc) S.fs.length (L'.flatMap fmc) ∧ (∀ b, (Value.slice gq S.fs.length gc).ownBlock = some b → b < F1) ∧ L'.length = S.fs.length ∧ L'.map (·.f) = L.map (·.f) ∧ (∀ k, j ≤ k → L'[k]? = L[k]?) ∧ (∀ k m, k < j → L'[k]? = some m → W.ownsRow F1 52 3 m.sv m.f.sl.length (vcs m.f.sl) ∧ W.ownsRow F1 52 3 m.tv m.f.st.length (vcs m.f.st)) ∧ SepL L' j
theorem ClF.next {w W W' : World} {K K2 : Cg} {S : Ms} {L : List Fm} {h1 h2 h3 ov : Value} {E : Nat} {gq : Option Addr} {gc F0 F1 j : Nat} (h : ClF w W K K2 S L h1 h2 h3 ov E gq gc F0 F1 j) (k : Below W.heap.size W W') : ClF w W' K K2 S L h1 h2 h3 ov E gq gc F0 F1 j := by
  obtain ⟨L', a1, a2, a3, a4, a5, a6, a7⟩ := h.ex
  exact ⟨h.c.next k, h.e0, h.e1, Nat.le_trans h.e2 k.size, L', own_next a1 k, a2, a3, a4, a5, fun i m hi hm => ⟨own_next (a6 i m hi hm).1 k, own_next (a6 i m hi hm).2 k⟩, a7⟩
theorem fm_set4 {L : List Fm} {i : Nat} {x x' : Fm} (hi : L[i]? = some x) (j : Nat) (hj : j < 4) (v : Value) (e : fmc x' = (fmc x).set j v) : (L.flatMap fmc).set (i * 4 + j) v = (L.set i x').flatMap fmc := by
  obtain ⟨hil, rfl⟩ := List.getElem?_eq_some_iff.1 hi
  have hl := flat_lenF fmc 4 (fun _ => rfl) L
  apply List.ext_getElem?
  intro k
  rw [flat_set fmc 4 (fun _ => rfl) L i hil x' k, List.getElem?_set, e, List.getElem?_set]
  have hf : (fmc L[i]).length = 4 := rfl
  by_cases h1 : i * 4 + j = k
  · rw [if_pos h1, if_pos (by omega), if_pos (by omega), if_pos (by omega), if_pos (by rw [hf]; omega)]
  · rw [if_neg h1]
    by_cases h2 : i * 4 ≤ k ∧ k < i * 4 + 4
    · rw [if_pos h2, if_neg (by omega)]
      have := flat_at fmc 4 (fun _ => rfl) L i (k - i * 4) hil (by omega)
      rwa [show i * 4 + (k - i * 4) = k by omega] at this
    · rw [if_neg h2]
theorem obk_lt {W : World} {B : Nat} {e : TypeId} {sz n : Nat} {v : Value} {xs : List Value} (h : W.ownsRow B e sz v n xs) : ∀ b, obk v = some b → B ≤ b ∧ b < W.heap.size := fun b hb => ⟨own_ge h b (obk_own hb), (own_blk h b (obk_own hb)).lt⟩
theorem ClF.put {w W0 W1 W : World} {K K2 : Cg} {S : Ms} {L : List Fm} {h1 h2 h3 ov : Value} {E : Nat} {gq : Option Addr} {gc F0 F1 j : Nat} (h : ClF w W0 K K2 S L h1 h2 h3 ov E gq gc F0 F1 j) {m : Fm} (hm : L[j]? = some m) (hj : j < S.fs.length) (b0 : Below W0.heap.size W0 W1) (b1 : Below W1.heap.size W1 W) {sv tv : Value}
    (hs : W1.ownsRow W0.heap.size 52 3 sv m.f.sl.length (vcs m.f.sl)) (ht : W.ownsRow W1.heap.size 52 3 tv m.f.st.length (vcs m.f.st)) :
    ∃ gf, gq = some ⟨gf, 0, none⟩ ∧ ClF w ((W.setCell ⟨gf, j * 4 + 2, none⟩ sv).setCell ⟨gf, j * 4 + 3, none⟩ tv) K K2 S L h1 h2 h3 ov E gq gc F0 F1 (j + 1) := by
  have b := below2 b0 b1
  obtain ⟨L0, c1, c2, c3, c4, c5, c6, c7⟩ := h.ex
  have r1 := own_next c1 b
  obtain ⟨q', c', e', -, hq⟩ := own_slice r1
  cases e'
  obtain ⟨gf, rfl, -⟩ := hq (by omega)
  have hgf0 : F0 ≤ gf := own_ge r1 gf rfl
  have hgf1 : gf < F1 := c2 gf rfl
  have he2 := h.e2
  have hm0 : L0[j]? = some m := (c5 j (Nat.le_refl _)).trans hm
  have hjl : j < L0.length := by omega
  have s1 := own_set1 r1 (j * 4 + 2) (by omega) sv
  rw [fm_set4 (x' := ⟨m.f, sv, m.tv⟩) hm0 2 (by decide) sv rfl] at s1
  have hm1 : (L0.set j ⟨m.f, sv, m.tv⟩)[j]? = some ⟨m.f, sv, m.tv⟩ := List.getElem?_set_self hjl
  have s2 := own_set1 s1 (j * 4 + 3) (by omega) tv
  rw [fm_set4 (x' := ⟨m.f, sv, tv⟩) hm1 3 (by decide) tv rfl, List.set_set] at s2
  have kp : Kp (fun x => x = gf) W ((W.setCell ⟨gf, j * 4 + 2, none⟩ sv).setCell ⟨gf, j * 4 + 3, none⟩ tv) := ((Kp.refl (fun x => x = gf) W).setCell (p := ⟨gf, j * 4 + 2, none⟩) (.inl rfl) sv).setCell (p := ⟨gf, j * 4 + 3, none⟩) (.inl rfl) tv
  have keep : ∀ {D : Nat} {v : Value} {n : Nat} {xs : List Value}, W.ownsRow D 52 3 v n xs → F1 ≤ D → ((W.setCell ⟨gf, j * 4 + 2, none⟩ sv).setCell ⟨gf, j * 4 + 3, none⟩ tv).ownsRow F1 52 3 v n xs := fun {D v n xs} ho hD => own_down (own_same ho fun x hx => kp.block x (own_blk ho x hx).lt (fun e => by have e : x = gf := e; have := own_ge ho x hx; omega)) hD
  have hsW := own_next hs b1
  have b0s := b0.size
  refine ⟨gf, rfl, (h.c.next b).kept kp (by have := h.e0; omega), h.e0, h.e1, Nat.le_trans he2 (Nat.le_trans b.size kp.size), L0.set j ⟨m.f, sv, tv⟩, s2, c2, by rw [List.length_set]; exact c3, ?_, fun k hk => ?_, fun k y hk hy => ?_, fun i k x y hi hk hx hy => ?_⟩
  · rw [List.map_set, ← c4]
    apply List.ext_getElem?
    intro k
    rw [List.getElem?_set]
    split
    · rename_i e
      subst e
      rw [if_pos (by rw [List.length_map]; exact hjl), List.getElem?_map, hm0]
      rfl
    · rfl
  · rw [List.getElem?_set_ne (by omega)]
    exact c5 k (by omega)
  · by_cases e : k = j
    · subst e
      rw [List.getElem?_set_self hjl] at hy
      cases hy
      exact ⟨keep hsW he2, keep ht (Nat.le_trans he2 b0s)⟩
    · rw [List.getElem?_set_ne (by omega)] at hy
      have q := c6 k y (by omega) hy
      exact ⟨keep (own_next q.1 b) (Nat.le_refl _), keep (own_next q.2 b) (Nat.le_refl _)⟩
  · have hsb := obk_lt hs
    have htb := obk_lt ht
    have old : ∀ k y, k ≠ j → k < j + 1 → (L0.set j ⟨m.f, sv, tv⟩)[k]? = some y → L0[k]? = some y ∧ k < j ∧ (∀ z, obk y.sv = some z → z < W0.heap.size) ∧ ∀ z, obk y.tv = some z → z < W0.heap.size := fun k y hk hk2 hy => by
      rw [List.getElem?_set_ne (by omega)] at hy
      have q := c6 k y (by omega) hy
      exact ⟨hy, by omega, fun z hz => (obk_lt q.1 z hz).2, fun z hz => (obk_lt q.2 z hz).2⟩
    have new : ∀ y, (L0.set j ⟨m.f, sv, tv⟩)[j]? = some y → y = ⟨m.f, sv, tv⟩ := fun y hy => by
      rw [List.getElem?_set_self hjl] at hy
      exact (Option.some.inj hy).symm
    by_cases ei : i = j
    · subst ei
      obtain rfl := new x hx
      by_cases ek : k = i
      · subst ek
        obtain rfl := new y hy
        exact ⟨fun z hz hz2 => by have := (hsb z hz).2; have := (htb z hz2).1; omega, fun e => absurd rfl e⟩
      · obtain ⟨-, -, o1, o2⟩ := old k y ek hk hy
        exact ⟨fun z hz hz2 => by have := (hsb z hz).1; have := o2 z hz2; omega, fun _ => ⟨fun z hz hz2 => by have := (hsb z hz).1; have := o1 z hz2; omega, fun z hz hz2 => by have := (htb z hz).1; have := o2 z hz2; omega⟩⟩
    · obtain ⟨hx0, hi0, o1, o2⟩ := old i x ei hi hx
      by_cases ek : k = j
      · subst ek
        obtain rfl := new y hy
        exact ⟨fun z hz hz2 => by have := (htb z hz2).1; have := o1 z hz; omega, fun _ => ⟨fun z hz hz2 => by have := (hsb z hz2).1; have := o1 z hz; omega, fun z hz hz2 => by have := (htb z hz2).1; have := o2 z hz; omega⟩⟩
      · obtain ⟨hy0, hk0, -, -⟩ := old k y ek hk hy
        exact c7 i k x y hi0 hk0 hx0 hy0
theorem ClC.setFv {w W : World} {K K2 : Cg} {S : Ms} {fv h1 h2 h3 ov : Value} {E : Nat} (h : ClC w W K K2 S fv h1 h2 h3 ov E) (fv' : Value) : ClC w (W.setCell ⟨w.heap.size, 7, none⟩ fv') K K2 S fv' h1 h2 h3 ov E := by
  have kp : Kp (fun x => x = w.heap.size) W (W.setCell ⟨w.heap.size, 7, none⟩ fv') := (Kp.refl (fun x => x = w.heap.size) W).setCell (p := ⟨w.heap.size, 7, none⟩) (.inl rfl) fv'
  have hput := Full.put (g := w.heap.size) (t := 82) [fv'] (a := [.slice K2.iq K2.c.ins.length K2.ia, .slice K2.eq K2.c.ens.length K2.ea, .slice K2.tq K2.c.txs.length K2.ta, .int .i64 K2.c.main, .slice K2.nq K2.inp.length K2.na, .int .i64 K2.dep, .int .i64 (K2.lim : Int)]) (b := [fv]) (d := [.int .i64 (K.lim : Int), h1, h2, h3, .int .i64 (S.rd : Int), ov, .int .i64 S.steps, .int .i64 S.ph, .int .i64 S.tr]) h.tw rfl
  exact ⟨h.bl.setCell (p := ⟨w.heap.size, 7, none⟩) (Nat.le_refl _) _, hput, h.cq.same (fun b hb => kp.block b (h.cq.lt b hb) (fun e => by have e : b = w.heap.size := e; have := hb.1; omega)) kp.size, h.ko, h.al, Nat.le_trans h.le kp.size, h.lt⟩
theorem ClF.start {w wc w1 : World} {K K2 : Cg} {S : Ms} {L : List Fm} {fv h1 h2 h3 ov : Value} {E : Nat} {gq : Option Addr} {gc : Nat} (h : ClC w wc K K2 S fv h1 h2 h3 ov E) (ho : w1.ownsRow wc.heap.size 89 4 (.slice gq S.fs.length gc) S.fs.length (L.flatMap fmc)) (hb : Below wc.heap.size wc w1) (hL : L.length = S.fs.length) :
    ClF w (w1.setCell ⟨w.heap.size, 7, none⟩ (.slice gq S.fs.length gc)) K K2 S L h1 h2 h3 ov E gq gc wc.heap.size w1.heap.size 0 := by
  have hlt := h.lt
  have hle := h.le
  have kp : Kp (fun x => x = w.heap.size) w1 (w1.setCell ⟨w.heap.size, 7, none⟩ (.slice gq S.fs.length gc)) := (Kp.refl (fun x => x = w.heap.size) w1).setCell (p := ⟨w.heap.size, 7, none⟩) (.inl rfl) _
  refine ⟨(h.next hb).setFv _, h.le, hb.size, kp.size, L, own_same ho fun x hx => kp.block x (own_blk ho x hx).lt (fun e => by have e : x = w.heap.size := e; have := own_ge ho x hx; omega), fun b hb' => (own_blk ho b hb').lt, hL, rfl, fun _ _ => rfl, fun k m hk => absurd hk (by omega), fun i k x y hi => absurd hi (by omega)⟩
end Go.Proofs.YtahdkffijlfmnaaGreatDoor

namespace Go.Proofs.YtahdkffijlfmnaaGreatDoor
open Go.RowKit
open Hp (V vc vcs vaB)
theorem RsI.grown {w W W' : World} {g rb : Nat} {K : Cg} {Q : Nat → Prop} {l : List Value} {bs : List UInt8} {row : Option Nat} (h : RsI w W g rb K Q l bs) (hg : W.grownBy W' row) (hrow : ∀ k, row = some k → w.heap.size ≤ k) (hq : ∀ b, Q b → b < w.heap.size) : RsI w W' g rb K Q l bs := by
  obtain ⟨n1, n2, n3, n4, n5⟩ := h.n
  have hs := h.k.size
  have kb : ∀ b, b < w.heap.size → W'.heap[b]? = W.heap[b]? := fun b hb => hg.block b (by omega) fun e => by have := hrow b e.symm; omega
  exact ⟨h.c.same (kb g n4), h.q.same (fun b hb => kb b (hq b hb)) hg.size, h.r.same (kb rb n5), ⟨hg.os.trans h.k.os, hg.tape.trans h.k.tape, hg.output.trans h.k.output, Nat.le_trans hs hg.size, fun b hb hn => (kb b hb).trans (h.k.block b hb hn)⟩, h.n, h.lb⟩
structure RsF (w W : World) (g rb : Nat) (K : Cg) (Q : Nat → Prop) (S : Ms) (h0 h1 h2 h3 ov : Value) (b0 : Nat) (bs : List UInt8) (j : Nat) (fv : Value) (L : List Fm) : Prop where
  i : RsI w W g rb K Q (twc K S fv h0 h1 h2 h3 ov) bs
  ln : L.length = j
  ab : L.map (·.f) = S.fs.take j
  fr : W.ownsRow b0 89 4 fv j (L.flatMap fmc)
  rw : ∀ m ∈ L, W.ownsRow b0 52 3 m.sv m.f.sl.length (vcs m.f.sl) ∧ W.ownsRow b0 52 3 m.tv m.f.st.length (vcs m.f.st)
  sp : SepL L j
  b1 : w.heap.size ≤ b0
  b2 : b0 ≤ W.heap.size
  nq : ∀ b, Q b → b < w.heap.size
theorem RsF.next {w W W' : World} {g rb : Nat} {K : Cg} {Q : Nat → Prop} {S : Ms} {h0 h1 h2 h3 ov : Value} {b0 : Nat} {bs : List UInt8} {j : Nat} {fv : Value} {L : List Fm} (h : RsF w W g rb K Q S h0 h1 h2 h3 ov b0 bs j fv L) (k : Below W.heap.size W W') : RsF w W' g rb K Q S h0 h1 h2 h3 ov b0 bs j fv L :=
  ⟨h.i.next k, h.ln, h.ab, own_next h.fr k, fun m hm => ⟨own_next (h.rw m hm).1 k, own_next (h.rw m hm).2 k⟩, h.sp, h.b1, Nat.le_trans h.b2 k.size, h.nq⟩
theorem RsF.put {w W w2 w5 : World} {g rb : Nat} {K : Cg} {Q : Nat → Prop} {S : Ms} {h0 h1 h2 h3 ov : Value} {b0 : Nat} {bs bs' : List UInt8} {j : Nat} {fv v5 : Value} {L : List Fm} {f : Fr} {gs gt : Nat} (h : RsF w W g rb K Q S h0 h1 h2 h3 ov b0 bs j fv L) (hf : S.fs[j]? = some f) (k2 : Kp (fun x => x = rb) W w2) (i2 : RsI w w2 g rb K Q (twc K S fv h0 h1 h2 h3 ov) bs')
    (hs : w2.ownsRow W.heap.size 52 3 (.slice (some ⟨gs, 0, none⟩) f.sl.length f.sl.length) f.sl.length (vcs f.sl)) (ht : w2.ownsRow W.heap.size 52 3 (.slice (some ⟨gt, 0, none⟩) f.st.length f.st.length) f.st.length (vcs f.st)) (hne : gs ≠ gt)
    (ho : w5.ownsRow b0 89 4 v5 (j + 1) (L.flatMap fmc ++ [.int .i64 f.fn, .int .i64 f.pc, .slice (some ⟨gs, 0, none⟩) f.sl.length f.sl.length, .slice (some ⟨gt, 0, none⟩) f.st.length f.st.length]))
    (hg : (w2.alloc (.cells #[.int .i64 f.fn, .int .i64 f.pc, .slice (some ⟨gs, 0, none⟩) f.sl.length f.sl.length, .slice (some ⟨gt, 0, none⟩) f.st.length f.st.length] 89)).grownBy w5 fv.ownBlock) :
    (w5.cell? ⟨g, 7, none⟩ = some fv ∧ w5.frozen? ⟨g, 7, none⟩ = false) ∧ RsF w (w5.setCell ⟨g, 7, none⟩ v5) g rb K Q S h0 h1 h2 h3 ov b0 bs' (j + 1) v5 (L ++ [⟨f, .slice (some ⟨gs, 0, none⟩) f.sl.length f.sl.length, .slice (some ⟨gt, 0, none⟩) f.st.length f.st.length⟩]) := by
  have b1 := h.b1
  have b2 := h.b2
  obtain ⟨n1, n2, n3, n4, n5⟩ := i2.n
  have nb : Below w2.heap.size w2 (w2.alloc (.cells #[.int .i64 f.fn, .int .i64 f.pc, .slice (some ⟨gs, 0, none⟩) f.sl.length f.sl.length, .slice (some ⟨gt, 0, none⟩) f.st.length f.st.length] 89)) := (Below.refl _ w2).alloc (Nat.le_refl _) _
  generalize w2.alloc (.cells #[.int .i64 f.fn, .int .i64 f.pc, .slice (some ⟨gs, 0, none⟩) f.sl.length f.sl.length, .slice (some ⟨gt, 0, none⟩) f.st.length f.st.length] 89) = X at nb hg
  have hfr2 : w2.ownsRow b0 89 4 fv j (L.flatMap fmc) := own_same h.fr fun x hx => k2.block x (own_blk h.fr x hx).lt (fun e => by have e : x = rb := e; have := own_ge h.fr x hx; omega)
  have hfrX := own_next hfr2 nb
  have i5 : RsI w w5 g rb K Q (twc K S fv h0 h1 h2 h3 ov) bs' := (i2.next nb).grown hg (fun k hk => by have := own_ge h.fr k hk; omega) h.nq
  have kset : Kp (fun x => x = g) w5 (w5.setCell ⟨g, 7, none⟩ v5) := (Kp.refl (fun x => x = g) w5).setCell (p := ⟨g, 7, none⟩) (.inl rfl) v5
  have fin : ∀ {e : TypeId} {sz : Nat} {v : Value} {n : Nat} {xs : List Value}, w5.ownsRow b0 e sz v n xs → (w5.setCell ⟨g, 7, none⟩ v5).ownsRow b0 e sz v n xs := fun {e sz v n xs} hx => own_same hx fun x hx2 => kset.block x (own_blk hx x hx2).lt (fun q => by have q : x = g := q; have := own_ge hx x hx2; omega)
  have keepX : ∀ {v : Value} {n : Nat} {xs : List Value}, X.ownsRow b0 52 3 v n xs → (w5.setCell ⟨g, 7, none⟩ v5).ownsRow b0 52 3 v n xs := fun {v n xs} hx => fin (own_same hx fun x hx2 => hg.block x (hx.lt x hx2).2 (fun e => own_ne hfrX (own_blk hx x hx2) (by decide) e.symm))
  have hsW := k2.size
  have keep : ∀ {v : Value} {n : Nat} {xs : List Value}, W.ownsRow b0 52 3 v n xs → (w5.setCell ⟨g, 7, none⟩ v5).ownsRow b0 52 3 v n xs := fun {v n xs} hx => keepX (own_next (own_same hx fun x hx2 => k2.block x (own_blk hx x hx2).lt (fun e => by have e : x = rb := e; have := own_ge hx x hx2; omega)) nb)
  have iset := i5.set 7 (by decide) v5
  have hjl : j < S.fs.length := (List.getElem?_eq_some_iff.1 hf).1
  refine ⟨i5.cell 7 rfl, iset, by rw [List.length_append, h.ln]; rfl, ?_, ?_, fun m hm => ?_, ?_, b1, ?_, h.nq⟩
  · rw [List.map_append, h.ab, List.take_succ_eq_append_getElem hjl]
    have := (List.getElem?_eq_some_iff.1 hf).2
    rw [this]
    rfl
  · rw [List.flatMap_append]
    exact fin ho
  · rcases List.mem_append.1 hm with q | q
    · exact ⟨keep (h.rw m q).1, keep (h.rw m q).2⟩
    · rw [List.mem_singleton.1 q]
      exact ⟨keepX (own_next (own_down hs b2) nb), keepX (own_next (own_down ht b2) nb)⟩
  · have hsb : W.heap.size ≤ gs := own_ge hs gs rfl
    have htb : W.heap.size ≤ gt := own_ge ht gt rfl
    have lt1 : ∀ m ∈ L, ∀ b, obk m.sv = some b ∨ obk m.tv = some b → b < W.heap.size := fun m hm b hb => by
      rcases hb with hb | hb
      · exact (obk_lt (h.rw m hm).1 b hb).2
      · exact (obk_lt (h.rw m hm).2 b hb).2
    have nsv : ∀ b, obk (.slice (some ⟨gs, 0, none⟩) f.sl.length f.sl.length) = some b → b = gs := fun b hb => by have := obk_own hb; cases this; rfl
    have ntv : ∀ b, obk (.slice (some ⟨gt, 0, none⟩) f.st.length f.st.length) = some b → b = gt := fun b hb => by have := obk_own hb; cases this; rfl
    have cs : ∀ i x, (L ++ [(⟨f, .slice (some ⟨gs, 0, none⟩) f.sl.length f.sl.length, .slice (some ⟨gt, 0, none⟩) f.st.length f.st.length⟩ : Fm)])[i]? = some x → (L[i]? = some x ∧ i < j ∧ x ∈ L) ∨ (i = j ∧ x = ⟨f, .slice (some ⟨gs, 0, none⟩) f.sl.length f.sl.length, .slice (some ⟨gt, 0, none⟩) f.st.length f.st.length⟩) := fun i x hx => by
      by_cases q : i < L.length
      · rw [List.getElem?_append_left q] at hx
        exact .inl ⟨hx, by have := h.ln; omega, List.mem_of_getElem? hx⟩
      · rw [List.getElem?_append_right (by omega)] at hx
        have q2 : i - L.length = 0 := by
          have := (List.getElem?_eq_some_iff.1 hx).1
          simp at this
          omega
        rw [q2] at hx
        cases hx
        exact .inr ⟨by have := h.ln; omega, rfl⟩
    intro i k x y hi hk hx hy
    rcases cs i x hx with ⟨a1, a2, a3⟩ | ⟨a1, a2⟩
    · rcases cs k y hy with ⟨c1, c2, c3⟩ | ⟨c1, c2⟩
      · exact h.sp i k x y a2 c2 a1 c1
      · subst c2
        exact ⟨fun b hb hb2 => by have := lt1 x a3 b (.inl hb); have := ntv b hb2; omega, fun _ => ⟨fun b hb hb2 => by have := lt1 x a3 b (.inl hb); have := nsv b hb2; omega, fun b hb hb2 => by have := lt1 x a3 b (.inr hb); have := ntv b hb2; omega⟩⟩
    · subst a2
      rcases cs k y hy with ⟨c1, c2, c3⟩ | ⟨c1, c2⟩
      · exact ⟨fun b hb hb2 => by have := lt1 y c3 b (.inr hb2); have := nsv b hb; omega, fun _ => ⟨fun b hb hb2 => by have := lt1 y c3 b (.inl hb2); have := nsv b hb; omega, fun b hb hb2 => by have := lt1 y c3 b (.inr hb2); have := ntv b hb; omega⟩⟩
      · subst c2
        exact ⟨fun b hb hb2 => by have := nsv b hb; have := ntv b hb2; omega, fun e => absurd (a1.trans c1.symm) e⟩
  · exact Nat.le_trans b2 (Nat.le_trans hsW (Nat.le_trans nb.size (Nat.le_trans hg.size kset.size)))
end Go.Proofs.YtahdkffijlfmnaaGreatDoor

namespace Go.Proofs.YtahdkffijlfmnaaGreatDoor
open Go.RowKit
open Hp (V vc vcs)
def ClD (w W : World) (K : Cg) (S : Ms) : Prop := ∃ K' L' fv' ov' F' Q', MachM W w.heap.size K' S L' fv' ov' F' Q' ∧ KOk K' ∧ (K'.c = K.c ∧ K'.inp = K.inp ∧ K'.dep = K.dep ∧ K'.lim = K.lim) ∧ (∀ b, foot L' fv' ov' F' b ∨ Q' b → w.heap.size ≤ b) ∧ Below w.heap.size w W
theorem ClF.done {w W0 w5 w6 : World} {K K2 : Cg} {S : Ms} {L : List Fm} {h1 h2 h3 ov : Value} {E : Nat} {gq : Option Addr} {gc F0 F1 : Nat} (h : ClF w W0 K K2 S L h1 h2 h3 ov E gq gc F0 F1 S.fs.length) (hL : L.map (·.f) = S.fs)
    {As : List Hp.Ar} {rq : Option Addr} {rn rg ro : Nat} {av : Value} {Fh : Nat → Prop} (hh : Hp.HeapAt w5 (Hp.hz W0.heap.size) K.lim As rq rn rg ro av Fh) (hA : Hp.absA As = S.hp) (hF : ∀ b, Fh b → W0.heap.size ≤ b) (b5 : Below W0.heap.size W0 w5)
    {ov' : Value} (ho : w6.ownsRow w5.heap.size 5 1 ov' S.out.length (Hp.bv S.out)) (b6 : Below w5.heap.size w5 w6) :
    ClD w (((((w6.setCell ⟨w.heap.size, 8, none⟩ (.int .i64 (K.lim : Int))).setCell ⟨w.heap.size, 9, none⟩ (.int .i64 (Hp.usedS (Hp.absA As) : Int))).setCell ⟨w.heap.size, 10, none⟩ (.slice rq rn rn)).setCell ⟨w.heap.size, 11, none⟩ av).setCell ⟨w.heap.size, 13, none⟩ ov') K S := by
  obtain ⟨L', a1, a2, a3, a4, a5, a6, a7⟩ := h.ex
  have b := below2 b5 b6
  have hc := h.c.next b
  have hlt := h.c.lt
  have e0 := h.e0
  have e1 := h.e1
  have e2 := h.e2
  have hs5 := b5.size
  have hs6 := b6.size
  obtain ⟨W, hW⟩ : ∃ W, (((((w6.setCell ⟨w.heap.size, 8, none⟩ (.int .i64 (K.lim : Int))).setCell ⟨w.heap.size, 9, none⟩ (.int .i64 (Hp.usedS (Hp.absA As) : Int))).setCell ⟨w.heap.size, 10, none⟩ (.slice rq rn rn)).setCell ⟨w.heap.size, 11, none⟩ av).setCell ⟨w.heap.size, 13, none⟩ ov') = W := ⟨_, rfl⟩
  have kp : Kp (fun x => x = w.heap.size) w6 W := by
    rw [← hW]
    exact (((((Kp.refl (fun x => x = w.heap.size) w6).setCell (p := ⟨w.heap.size, 8, none⟩) (.inl rfl) _).setCell (p := ⟨w.heap.size, 9, none⟩) (.inl rfl) _).setCell (p := ⟨w.heap.size, 10, none⟩) (.inl rfl) _).setCell (p := ⟨w.heap.size, 11, none⟩) (.inl rfl) _).setCell (p := ⟨w.heap.size, 13, none⟩) (.inl rfl) _
  have p1 := Full.put (g := w.heap.size) (t := 82) [.int .i64 (K.lim : Int), .int .i64 (Hp.usedS (Hp.absA As) : Int), .slice rq rn rn, av] (a := [.slice K2.iq K2.c.ins.length K2.ia, .slice K2.eq K2.c.ens.length K2.ea, .slice K2.tq K2.c.txs.length K2.ta, .int .i64 K2.c.main, .slice K2.nq K2.inp.length K2.na, .int .i64 K2.dep, .int .i64 (K2.lim : Int), .slice gq S.fs.length gc]) (b := [.int .i64 (K.lim : Int), h1, h2, h3]) (d := [.int .i64 (S.rd : Int), ov, .int .i64 S.steps, .int .i64 S.ph, .int .i64 S.tr]) hc.tw rfl
  have p2 := Full.put (g := w.heap.size) (t := 82) [ov'] (a := [.slice K2.iq K2.c.ins.length K2.ia, .slice K2.eq K2.c.ens.length K2.ea, .slice K2.tq K2.c.txs.length K2.ta, .int .i64 K2.c.main, .slice K2.nq K2.inp.length K2.na, .int .i64 K2.dep, .int .i64 (K2.lim : Int), .slice gq S.fs.length gc, .int .i64 (K.lim : Int), .int .i64 (Hp.usedS (Hp.absA As) : Int), .slice rq rn rn, av, .int .i64 (S.rd : Int)]) (b := [ov]) (d := [.int .i64 S.steps, .int .i64 S.ph, .int .i64 S.tr]) p1 rfl
  have hf : Full W w.heap.size 82 (twc K2 S (.slice gq S.fs.length gc) (.int .i64 (K2.lim : Int)) (.int .i64 (Hp.usedS (Hp.absA As) : Int)) (.slice rq rn rn) av ov') := by
    rw [hc.al.2.2.2, ← hW]
    exact p2
  have kb : ∀ x, x < w6.heap.size → x ≠ w.heap.size → W.heap[x]? = w6.heap[x]? := fun x hx hne => kp.block x hx hne
  have keep : ∀ {D : Nat} {e : TypeId} {sz : Nat} {v : Value} {n : Nat} {xs : List Value}, w6.ownsRow D e sz v n xs → w.heap.size < D → W.ownsRow D e sz v n xs := fun {D e sz v n xs} ho hD => own_same ho fun x hx => kb x (own_blk ho x hx).lt (by have := own_ge ho x hx; omega)
  have hfr : W.ownsRow F0 89 4 (.slice gq S.fs.length gc) S.fs.length (L'.flatMap fmc) := keep (own_next a1 b) (by omega)
  have hrow : ∀ m ∈ L', W.ownsRow F1 52 3 m.sv m.f.sl.length (vcs m.f.sl) ∧ W.ownsRow F1 52 3 m.tv m.f.st.length (vcs m.f.st) ∧ (∀ x, obk m.sv = some x ∨ obk m.tv = some x → F1 ≤ x ∧ x < W0.heap.size) := fun m hm => by
    obtain ⟨k, hk⟩ := List.mem_iff_getElem?.1 hm
    have hkl := (List.getElem?_eq_some_iff.1 hk).1
    have q := a6 k m (by omega) hk
    refine ⟨keep (own_next q.1 b) (by omega), keep (own_next q.2 b) (by omega), fun x hx => ?_⟩
    rcases hx with hx | hx
    · exact obk_lt q.1 x hx
    · exact obk_lt q.2 x hx
  have hob : ∀ x, obk ov' = some x → w5.heap.size ≤ x := fun x hx => (obk_lt ho x hx).1
  have hfb : ∀ x, obk (.slice gq S.fs.length gc) = some x → F0 ≤ x ∧ x < F1 := fun x hx => ⟨own_ge a1 x (obk_own hx), a2 x (obk_own hx)⟩
  have hFl : ∀ x, Fh x → x < w5.heap.size := hh.flt
  have hhW : Hp.HeapAt W (Hp.hz W0.heap.size) K2.lim As rq rn rg ro av Fh := by
    rw [hc.al.2.2.2]
    exact hh.same (fun x hx => (kb x (Nat.lt_of_lt_of_le (hFl x hx) hs6) (by have := hF x hx; omega)).trans (b6.block x (hFl x hx))) (Nat.le_trans hs6 kp.size)
  have hcq : CodeQ W (fun x => w.heap.size < x ∧ x < E) K2 := hc.cq.same (fun x hx => kb x (hc.cq.lt x hx) (by have := hx.1; omega)) kp.size
  have hbl : Below w.heap.size w W := hc.bl.trans (kp.below (fun x hx => by have hx : x = w.heap.size := hx; omega) hc.bl.size)
  rw [hW]
  refine ⟨K2, L', .slice gq S.fs.length gc, ov', fun x => x = w.heap.size ∨ Fh x, fun x => w.heap.size < x ∧ x < E, mach_of (hf.cel rfl) hcq hhW hA (.inl (own_down (by rw [a3]; exact hfr) (Nat.zero_le _))) (a4.trans hL) (fun m hm => ⟨.inl (own_down (hrow m hm).1 (Nat.zero_le _)), .inl (own_down (hrow m hm).2.1 (Nat.zero_le _))⟩) (.inl (own_down (keep ho (by omega)) (Nat.zero_le _))) (fun i k x y hi hk => a7 i k x y (by have := (List.getElem?_eq_some_iff.1 hi).1; omega) (by have := (List.getElem?_eq_some_iff.1 hk).1; omega) hi hk) (fun m hm x hx => ?_) (fun x hx => ?_) (fun x hx => ⟨?_, ?_, ?_, fun m hm => ⟨?_, ?_⟩⟩), hc.ko, hc.al, fun x hx => ?_, hbl⟩
  · have q := (hrow m hm).2.2 x hx
    rintro (r | r)
    · omega
    · have := hF x r; omega
  · rintro (r | r)
    · rcases hx with hx | hx
      · have := hfb x hx; omega
      · have := hob x hx; omega
    · rcases hx with hx | hx
      · have := hfb x hx; have := hF x r; omega
      · have := hob x hx; have := hFl x r; omega
  · rintro (r | r)
    · have := hx.1; omega
    · have := hx.2; have := hF x r; omega
  · intro q; have := hfb x q; have := hx.2; omega
  · intro q; have := hob x q; have := hx.2; omega
  · intro q; have := (hrow m hm).2.2 x (.inl q); have := hx.2; omega
  · intro q; have := (hrow m hm).2.2 x (.inr q); have := hx.2; omega
  · rcases hx with (hx | hx | hx | ⟨m, hm, hx⟩) | hx
    · rcases hx with hx | hx
      · omega
      · have := hF x hx; omega
    · have := hfb x hx; omega
    · have := hob x hx; omega
    · have := (hrow m hm).2.2 x hx; omega
    · have := hx.1; omega
end Go.Proofs.YtahdkffijlfmnaaGreatDoor

namespace Go.Proofs.YtahdkffijlfmnaaGreatDoor
open Go.RowKit
open Hp (V vc vcs)
theorem stN0 {K : Cg} (hK : KOk K) : StOk K (msN (enAt K.c.ens K.c.main.toNat) K.c.main) := by
  have m0 := hK.c.m0
  have ml := hK.c.ml
  have hl := hK.len
  have hi : K.c.main.toNat < K.Es.length := by omega
  refine ⟨fun f hf => ?_, fun a ha => (by cases ha), Nat.zero_le _, ?_, by show (0 : Int) ≤ 0; decide, by show (0 : Int) ≤ _; decide⟩
  · have hf : f = ⟨K.c.main, (enAt K.c.ens K.c.main.toNat).start, slotsS (enAt K.c.ens K.c.main.toNat).sorts [], []⟩ := by simpa [msN] using hf
    subst hf
    refine ⟨⟨K.c.main.toNat, by show K.c.main = _; omega, hi, ?_⟩, fun v hv => (by cases hv), ?_, Nat.zero_le _⟩
    · show (slotsS (enAt K.c.ens K.c.main.toNat).sorts []).length = _
      rw [slots_len _ _ (Nat.zero_le _), hK.at_ _ hi]
    · exact slots_ok (fun v hv => by cases hv)
  · show ((1 : Nat) : Int) ≤ K.dep
    exact hK.d1
theorem newM_live {w w' : World} {g : Nat} {c : Cd} {inp : List Int} {d : Int} {lim : Nat} (h : NewM w w' g c inp d lim) (hG : Glo w') (h8 : 8 ≤ w.heap.size) :
    ∃ K L fv ov F Q, Live w' g K (msN (enAt c.ens c.main.toNat) c.main) L fv ov F Q ∧ K.c = c ∧ K.inp = inp ∧ K.dep = d ∧ K.lim = lim ∧ ∀ b, foot L fv ov F b ∨ Q b → w.heap.size ≤ b := by
  obtain ⟨K, L, fv, ov, F, Q, hM, hK, rfl, hi, hd, hl, hf⟩ := h
  exact ⟨K, L, fv, ov, F, Q, ⟨hM, ⟨hG, fun b hb q => by have := hf b (.inl q); omega⟩, hK, stN0 hK⟩, rfl, hi, hd, hl, hf⟩
def mainB : ByteArray := ⟨#[109, 97, 105, 110]⟩
def eL : En := ⟨mainB, 0, 0, [], 0⟩
def cL : Cd := ⟨[(21, 5, 0), (13, 0, 0)], [eL], [], 0⟩
theorem newE_cL : newE cL 0 1 0 = 0 := by rfl
def sL0 : Ms := msN (enAt cL.ens cL.main.toNat) cL.main
def sL1 : Ms := ⟨[⟨0, 1, [], []⟩], [], 0, [], 1, 0, 0⟩
def sL2 : Ms := ⟨[], [], 0, [], 2, 1, 0⟩
theorem mstepL1 {K : Cg} (hc : K.c = cL) (he : K.Es.map (·.1) = K.c.ens) : mstepS K sL0 = (sL1, (5, false, (0, 0, Hp.e0)), true) := by
  obtain ⟨c, iq, ia, eq, ea, tq, ta, Es, inp, nq, na, dep, lim⟩ := K
  simp only at hc he
  subst hc
  match Es, he with
  | [⟨e, q, cap⟩], he =>
    have : e = eL := by simpa [cL] using he
    subst this
    rfl
theorem mstepL2 {K : Cg} (hc : K.c = cL) (he : K.Es.map (·.1) = K.c.ens) : mstepS K sL1 = (sL2, yd0, false) := by
  obtain ⟨c, iq, ia, eq, ea, tq, ta, Es, inp, nq, na, dep, lim⟩ := K
  simp only at hc he
  subst hc
  match Es, he with
  | [⟨e, q, cap⟩], he =>
    have : e = eL := by simpa [cL] using he
    subst this
    rfl
theorem mrunL {K : Cg} (hc : K.c = cL) (he : K.Es.map (·.1) = K.c.ens) : mrunS K 9 sL0 = (sL1, (5, false, (0, 0, Hp.e0)), true) := by
  show (if (mstepS K sL0).2.2 = true ∨ (mstepS K sL0).1.ph ≠ 0 then mstepS K sL0 else mrunS K 8 (mstepS K sL0).1) = _
  rw [mstepL1 hc he, if_pos (.inl rfl)]
end Go.Proofs.YtahdkffijlfmnaaGreatDoor

namespace Go.Proofs.YtahdkffijlfmnaaGreatDoor
open Go.RowKit
open Hp (V vc vcs)
def Mz (w : World) (U : Nat → Prop) (g : Nat) (K : Cg) (S : Ms) : Prop :=
  ∃ L fv ov F Q, Live w g K S L fv ov F Q ∧ ∀ b, foot L fv ov F b ∨ Q b → U b
theorem Mz.lt {w : World} {U : Nat → Prop} {g : Nat} {K : Cg} {S : Ms} (h : Mz w U g K S) : Mz w (fun b => U b ∧ b < w.heap.size) g K S := by
  obtain ⟨L, fv, ov, F, Q, h1, h2⟩ := h
  exact ⟨L, fv, ov, F, Q, h1, fun b hb => ⟨h2 b hb, h1.m.lt b hb⟩⟩
theorem Mz.mono {w : World} {U V : Nat → Prop} {g : Nat} {K : Cg} {S : Ms} (h : Mz w U g K S) (hU : ∀ b, U b → b < w.heap.size → V b) : Mz w V g K S := by
  obtain ⟨L, fv, ov, F, Q, h1, h2⟩ := h
  exact ⟨L, fv, ov, F, Q, h1, fun b hb => hU b (h2 b hb) (h1.m.lt b hb)⟩
theorem Mz.next {w w' : World} {U : Nat → Prop} {g : Nat} {K : Cg} {S : Ms} (h : Mz w U g K S) (b : Below w.heap.size w w') : Mz w' U g K S := by
  obtain ⟨L, fv, ov, F, Q, h1, h2⟩ := h
  exact ⟨L, fv, ov, F, Q, h1.next b, h2⟩
theorem Mz.kept {w w' : World} {U V : Nat → Prop} {g : Nat} {K : Cg} {S : Ms} (h : Mz w U g K S) (k : Kp V w w') (hV : ∀ b, V b → ¬ U b ∧ 8 ≤ b) : Mz w' U g K S := by
  obtain ⟨L, fv, ov, F, Q, h1, h2⟩ := h
  exact ⟨L, fv, ov, F, Q, ⟨h1.m.kept k fun b hb hv => (hV b hv).1 (h2 b hb), ⟨h1.g.1.kept k fun b hb hv => by have := (hV b hv).2; omega, h1.g.2⟩, h1.k, h1.s⟩, h2⟩
theorem Mz.kok {w : World} {U : Nat → Prop} {g : Nat} {K : Cg} {S : Ms} (h : Mz w U g K S) : KOk K ∧ StOk K S ∧ Hp.usedS S.hp ≤ K.lim ∧ Glo w := by
  obtain ⟨L, fv, ov, F, Q, h1, h2⟩ := h
  exact ⟨h1.k, h1.s, h1.m.usedL, h1.g.1⟩
theorem LiveW.mz {w w1 : World} {U : Nat → Prop} {g : Nat} {K : Cg} {S : Ms} {L : List Fm} {fv ov : Value} {F Q : Nat → Prop} (h : LiveW w w1 g K S L fv ov F Q) (hU : ∀ b, foot L fv ov F b ∨ Q b → U b) : Mz w1 (fun b => U b ∨ w.heap.size ≤ b) g K S ∧ Kp U w w1 := by
  obtain ⟨L', fv', ov', F', h1, h2, h3⟩ := h
  refine ⟨⟨L', fv', ov', F', Q, h1, fun b hb => ?_⟩, ⟨h3.os, h3.tape, h3.output, h3.size, fun k hk hn => h3.block k hk fun q => hn (hU k (.inl q))⟩⟩
  rcases hb with hb | hb
  · rcases h2 b hb with q | q
    · exact .inl (hU b (.inl q))
    · exact .inr q
  · exact .inl (hU b (.inr hb))
theorem Mz.step {w : World} {U : Nat → Prop} {g : Nat} {K : Cg} {S : Ms} (h : Mz w U g K S) (ho : S.out.length ≤ 900000000) :
    Calls Tryz.prog 12 #[.pointer (some ⟨g, 0, none⟩)] w fun z w' => z = .returned (.tuple #[ydV (mstepS K S).2.1, .bool (mstepS K S).2.2]) ∧ Hid (Mz w' (fun b => U b ∨ w.heap.size ≤ b) g K (mstepS K S).1 ∧ Kp U w w') := by
  obtain ⟨L, fv, ov, F, Q, h1, h2⟩ := h
  exact (live_step h1.self ho).mono fun z w' q => ⟨q.1, q.2.out.mz h2⟩
theorem Mz.run {w : World} {U : Nat → Prop} {g : Nat} {K : Cg} {S : Ms} (h : Mz w U g K S) (n : Nat) (hn : n ≤ 100000) (ho : S.out.length + 4200 * n ≤ 900000000) :
    Calls Tryz.prog 15 #[.pointer (some ⟨g, 0, none⟩), .int .i64 (n : Int)] w fun z w' => z = .returned (.tuple #[ydV (mrunS K n S).2.1, .bool (mrunS K n S).2.2]) ∧ Hid (Mz w' (fun b => U b ∨ w.heap.size ≤ b) g K (mrunS K n S).1 ∧ Kp U w w') := by
  obtain ⟨L, fv, ov, F, Q, h1, h2⟩ := h
  exact (run_any h1.self n hn ho).mono fun z w' q => ⟨q.1, q.2.out.mz h2⟩
theorem Mz.depth {w : World} {U : Nat → Prop} {g : Nat} {K : Cg} {S : Ms} (h : Mz w U g K S) :
    Calls Tryz.prog 10 #[.pointer (some ⟨g, 0, none⟩)] w fun z w' => z = .returned (.int .i64 (S.fs.length : Int)) ∧ Below w.heap.size w w' := by
  obtain ⟨L, fv, ov, F, Q, h1, h2⟩ := h
  exact h1.self.depth
theorem Mz.steps {w : World} {U : Nat → Prop} {g : Nat} {K : Cg} {S : Ms} (h : Mz w U g K S) :
    Calls Tryz.prog 18 #[.pointer (some ⟨g, 0, none⟩)] w fun z w' => z = .returned (.int .i64 S.steps) ∧ Below w.heap.size w w' := by
  obtain ⟨L, fv, ov, F, Q, h1, h2⟩ := h
  exact h1.self.steps
theorem Mz.result {w : World} {U : Nat → Prop} {g : Nat} {K : Cg} {S : Ms} (h : Mz w U g K S) :
    Calls Tryz.prog 9 #[.pointer (some ⟨g, 0, none⟩)] w fun z w' => z = .returned (runV S (.slice (some ⟨w.heap.size + 1, 0, none⟩) (S.hp.length + 1) (S.hp.length + 1))) ∧ Hid (∃ vs, Hp.Ans w' (w.heap.size + 1) (Hp.lsA S.hp) (.slice (some ⟨w.heap.size + 1, 0, none⟩) (S.hp.length + 1) (S.hp.length + 1)) vs) ∧ Below w.heap.size w w' := by
  obtain ⟨L, fv, ov, F, Q, h1, h2⟩ := h
  exact h1.self.result
theorem Mz.out {w : World} {U : Nat → Prop} {g : Nat} {K : Cg} {S : Ms} (h : Mz w U g K S) : (mstepS K S).1.out.length ≤ S.out.length + 4200 := by
  obtain ⟨L, fv, ov, F, Q, h1, h2⟩ := h
  exact h1.self.out
theorem newM_mz {w w' : World} {g : Nat} {c : Cd} {inp : List Int} {d : Int} {lim : Nat} (h : NewM w w' g c inp d lim) (hG : Glo w') (h8 : 8 ≤ w.heap.size) :
    ∃ K, Mz w' (fun b => w.heap.size ≤ b) g K (msN (enAt c.ens c.main.toNat) c.main) ∧ K.c = c ∧ K.inp = inp ∧ K.dep = d ∧ K.lim = lim := by
  obtain ⟨K, L, fv, ov, F, Q, h1, h2, h3, h4, h5, h6⟩ := newM_live h hG h8
  exact ⟨K, ⟨L, fv, ov, F, Q, h1, h6⟩, h2, h3, h4, h5⟩
end Go.Proofs.YtahdkffijlfmnaaGreatDoor
