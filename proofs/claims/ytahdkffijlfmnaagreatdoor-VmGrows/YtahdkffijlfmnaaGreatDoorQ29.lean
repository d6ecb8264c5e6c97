import Derived.Test.YtahdkffijlfmnaaGreatDoorQ28
import Derived.Test.YtahdkffijlfmnaaGreatDoorQ26
namespace Go.Proofs.YtahdkffijlfmnaaGreatDoor
open Go.RowKit
open Hp (V vc vcs)

/-- A machine has been made, and has no frame yet. -/
def NewP (w W : World) (g : Nat) (c : Cd) (inp : List Int) (d : Int) (lim mi : Nat) : Prop :=
  ∃ K Q, MachM W g K ms0 [] (.slice none 0 0) (.slice none 0 0) (fun b => b = g) Q ∧ KOk K ∧ K.c = c ∧ K.inp = inp ∧ K.dep = d ∧ K.lim = lim ∧ (∀ b, Q b → w.heap.size ≤ b) ∧ w.heap.size ≤ g ∧ Below w.heap.size w W ∧ W.cell? ⟨w.heap.size, 3, none⟩ = some (.int .i64 (mi : Int)) ∧ mi < K.Es.length
theorem callCopied (a : Value) (w : World) : (callFunc 23 #[a]).run Tryz.prog w = .ok (.enter 23 #[a]) w := by kernel_rfl
theorem callInt64 (a : Value) (w : World) : (callFunc 24 #[a]).run Tryz.prog w = .ok (.enter 24 #[a]) w := by kernel_rfl
theorem callCNew (a : Value) (w : World) : (callFunc 25 #[a]).run Tryz.prog w = .ok (.enter 25 #[a]) w := by kernel_rfl
set_option maxRecDepth 100000 in
set_option maxHeartbeats 4000000 in
theorem new_any {w : World} {iq eq tq nq : Option Addr} {ia ea ta na : Nat} {Es : List Em} {c : Cd} {inp : List Int} (h : CdR w iq eq tq ia ea ta Es c) (hM : CodeM w w.heap.size iq eq tq Es c) (hn : RdS w nq inp.length na (sv inp)) (hi : ∀ x ∈ inp, I64 x) (hil : inp.length ≤ 9223372036854775807) (d l : Int) (hT : Tabs w) :
    Calls Tryz.prog 7 #[.agg #[.slice iq c.ins.length ia, .slice eq c.ens.length ea, .slice tq c.txs.length ta, .int .i64 c.main], .slice nq inp.length na, .agg #[.int .i64 d, .int .i64 l]] w fun z w' => if newE c inp.length d l = 0 then ∃ g, z = .returned (.tuple #[.pointer (some ⟨g, 0, none⟩), .int .i64 0]) ∧ Hid (NewM w w' g c inp d l.toNat ∧ Below w.heap.size w w') else z = .returned (.tuple #[.pointer none, .int .i64 (newE c inp.length d l)]) ∧ Below w.heap.size w w' := by
  have bX : Below w.heap.size w ((w.alloc (.cells #[.slice iq c.ins.length ia, .slice eq c.ens.length ea, .slice tq c.txs.length ta, .int .i64 c.main] 26)).alloc (.cells #[.int .i64 d, .int .i64 l] 29)) := ((Below.refl _ w).alloc (Nat.le_refl _) _).alloc (by simp) _
  have fC : Full ((w.alloc (.cells #[.slice iq c.ins.length ia, .slice eq c.ens.length ea, .slice tq c.txs.length ta, .int .i64 c.main] 26)).alloc (.cells #[.int .i64 d, .int .i64 l] 29)) w.heap.size 26 [.slice iq c.ins.length ia, .slice eq c.ens.length ea, .slice tq c.txs.length ta, .int .i64 c.main] := (Full.new w #[.slice iq c.ins.length ia, .slice eq c.ens.length ea, .slice tq c.txs.length ta, .int .i64 c.main] 26).next ((Below.refl _ _).alloc (Nat.le_refl _) _)
  have fL : Full ((w.alloc (.cells #[.slice iq c.ins.length ia, .slice eq c.ens.length ea, .slice tq c.txs.length ta, .int .i64 c.main] 26)).alloc (.cells #[.int .i64 d, .int .i64 l] 29)) (w.heap.size + 1) 29 [.int .i64 d, .int .i64 l] := by
    have := Full.new (w.alloc (.cells #[.slice iq c.ins.length ia, .slice eq c.ens.length ea, .slice tq c.txs.length ta, .int .i64 c.main] 26)) #[.int .i64 d, .int .i64 l] 29
    rw [World.size_alloc] at this
    exact this
  obtain ⟨X, hX⟩ : ∃ X, (w.alloc (.cells #[.slice iq c.ins.length ia, .slice eq c.ens.length ea, .slice tq c.txs.length ta, .int .i64 c.main] 26)).alloc (.cells #[.int .i64 d, .int .i64 l] 29) = X := ⟨_, rfl⟩
  rw [hX] at bX fC fL
  obtain ⟨l0, -⟩ := fL.cell 0 _ rfl
  obtain ⟨l1, -⟩ := fL.cell 1 _ rfl
  have dR := mayRun_any nq inp.length na d l X
  cases hmr : mayRunS inp.length d l with
  | false =>
    have hE : newE c inp.length d l = 1 := by unfold newE; rw [hmr, if_pos rfl]
    suffices key : Calls Tryz.prog 7 #[.agg #[.slice iq c.ins.length ia, .slice eq c.ens.length ea, .slice tq c.txs.length ta, .int .i64 c.main], .slice nq inp.length na, .agg #[.int .i64 d, .int .i64 l]] w fun z w' => z = .returned (.tuple #[.pointer none, .int .i64 1]) ∧ Below w.heap.size w w' from key.mono fun z w' q => by rw [hE, if_neg (by decide)]; exact q
    rw [hmr] at dR
    clear h hM hn hT hi
    go_enter Tryz.func7, Tryz.ntmps7
    go_wp2_with (first
      | (go_at_call 21; refine dR.mono ?_; rintro z1 w1 ⟨rfl, hb1⟩)
      | fail)
    go_ret2
    exact ⟨rfl, below2 bX hb1⟩
  | true =>
    rw [hmr] at dR
    have HV : Hid (∀ W, Below X.heap.size X W → (Calls Tryz.prog 22 #[codeV iq eq tq ia ea ta c] W fun e w' => e = .returned (.int .i64 (validS c)) ∧ Below W.heap.size W w') ∧ Full W w.heap.size 26 [.slice iq c.ins.length ia, .slice eq c.ens.length ea, .slice tq c.txs.length ta, .int .i64 c.main] ∧ Full W (w.heap.size + 1) 29 [.int .i64 d, .int .i64 l] ∧ Below w.heap.size w W) := fun W b => ⟨valid_any (hM.below (below2 bX b) (Nat.le_refl _)) ia ea ta (below2 bX b).size (hT.next (below2 bX b)), fC.next b, fL.next b, below2 bX b⟩
    unfold codeV at HV
    by_cases hv : validS c = 0
    case neg =>
      have hE : newE c inp.length d l = validS c := by unfold newE; rw [hmr, if_neg (by decide), if_pos hv]
      suffices key : Calls Tryz.prog 7 #[.agg #[.slice iq c.ins.length ia, .slice eq c.ens.length ea, .slice tq c.txs.length ta, .int .i64 c.main], .slice nq inp.length na, .agg #[.int .i64 d, .int .i64 l]] w fun z w' => z = .returned (.tuple #[.pointer none, .int .i64 (validS c)]) ∧ Below w.heap.size w w' from key.mono fun z w' q => by rw [hE, if_neg hv]; exact q
      obtain ⟨e, he⟩ : ∃ e, validS c = e := ⟨_, rfl⟩
      rw [he] at HV hv ⊢
      have k0 : (e == 0) = false := by rw [beq_eq_false_iff_ne]; exact hv
      have k1 : (e != 0) = true := by rw [bne, k0]; rfl
      clear h hM hn hT hi fC fL
      go_enter Tryz.func7, Tryz.ntmps7
      go_wp2_with (first
        | (go_at_call 21; refine dR.mono ?_; rintro z1 w1 ⟨rfl, hb1⟩; obtain ⟨dV, f1, f2, -⟩ := HV.out w1 hb1; obtain ⟨a0, -⟩ := f1.cell 0 _ rfl; obtain ⟨a1, -⟩ := f1.cell 1 _ rfl; obtain ⟨a2, -⟩ := f1.cell 2 _ rfl; obtain ⟨a3, -⟩ := f1.cell 3 _ rfl)
        | (go_at_call 22; refine dV.mono ?_; rintro z2 w2 ⟨rfl, hb2⟩)
        | fail)
      go_ret2
      exact ⟨rfl, below2 (HV.out w1 hb1).2.2.2 hb2⟩
    have hc : CodeOk c := code_ok.1 hv
    obtain ⟨mi, hmi⟩ : ∃ mi : Nat, c.main = (mi : Int) := ⟨c.main.toNat, by have := hc.m0; omega⟩
    have hml : mi < c.ens.length := by have := hc.ml; omega
    have hEl : Es.length = c.ens.length := by rw [← h.en, List.length_map]
    obtain ⟨E, hEE⟩ : ∃ E, Es[mi]? = some E := ⟨Es[mi]'(by omega), List.getElem?_eq_getElem _⟩
    have hEn : enAt c.ens c.main.toNat = E.1 := by
      unfold enAt
      rw [← h.en, hmi, Int.toNat_natCast, List.getD_eq_getElem?_getD, List.getElem?_map, hEE]
      rfl
    have HEN : Hid (∀ W, Below w.heap.size w W → ∃ ge oe, eq = some ⟨ge, oe, none⟩ ∧ W.cell? ⟨ge, oe + mi * 5, none⟩ = some (.string E.1.name) ∧ W.cell? ⟨ge, oe + mi * 5 + 1, none⟩ = some (.int .i64 E.1.start) ∧ W.cell? ⟨ge, oe + mi * 5 + 2, none⟩ = some (.int .i64 E.1.params) ∧ W.cell? ⟨ge, oe + mi * 5 + 3, none⟩ = some (.slice E.2.1 E.1.sorts.length E.2.2) ∧ W.cell? ⟨ge, oe + mi * 5 + 4, none⟩ = some (.int .i64 E.1.result)) := fun W b => by
      obtain ⟨ge, oe, e, r⟩ := h.er.at_ (by omega)
      obtain ⟨hl, rfl⟩ := List.getElem?_eq_some_iff.1 hEE
      have cc : ∀ i v, i < 5 → (ec Es[mi])[i]? = some v → W.cell? ⟨ge, oe + mi * 5 + i, none⟩ = some v := fun i v hi hv => by
        have := r (mi * 5 + i) v ((flat_at ec 5 (fun _ => rfl) Es mi i hl hi).trans hv)
        rw [← Nat.add_assoc] at this
        exact (b.cell (p := ⟨ge, oe + mi * 5 + i, none⟩) (block_lt_of_cell this)).trans this
      exact ⟨ge, oe, e, cc 0 _ (by decide) rfl, cc 1 _ (by decide) rfl, cc 2 _ (by decide) rfl, cc 3 _ (by decide) rfl, cc 4 _ (by decide) rfl⟩
    rw [hv] at HV
    have m0 : (0 : Int) ≤ (mi : Int) := by omega
    have m1 : (mi : Int) < (c.ens.length : Int) := by omega
    by_cases hpr : 0 < E.1.params ∨ E.1.result ≠ 0
    case pos =>
      have hE : newE c inp.length d l = 160 := by unfold newE; rw [hmr, if_neg (by decide), if_neg (by rw [hv]; decide), hEn, if_pos hpr]
      suffices key : Calls Tryz.prog 7 #[.agg #[.slice iq c.ins.length ia, .slice eq c.ens.length ea, .slice tq c.txs.length ta, .int .i64 c.main], .slice nq inp.length na, .agg #[.int .i64 d, .int .i64 l]] w fun z w' => z = .returned (.tuple #[.pointer none, .int .i64 160]) ∧ Below w.heap.size w w' from key.mono fun z w' q => by rw [hE, if_neg (by decide)]; exact q
      rw [hmi] at HV hX ⊢
      obtain ⟨ge, oe, rfl, -⟩ := HEN.out w (Below.refl _ _)
      obtain ⟨ne, hne⟩ : ∃ ne, c.ens.length = ne := ⟨_, rfl⟩
      rw [hne] at HV hX m1 ⊢
      clear h hM hn hT hi fC fL hEE hEn hmi hml hEl hc
      by_cases hp : 0 < E.1.params
      · go_enter Tryz.func7, Tryz.ntmps7
        go_wp2_with (first
          | (go_at_call 21; refine dR.mono ?_; rintro z1 w1 ⟨rfl, hb1⟩; obtain ⟨dV, f1, f2, -⟩ := HV.out w1 hb1; obtain ⟨a0, -⟩ := f1.cell 0 _ rfl; obtain ⟨a1, -⟩ := f1.cell 1 _ rfl; obtain ⟨a2, -⟩ := f1.cell 2 _ rfl; obtain ⟨a3, -⟩ := f1.cell 3 _ rfl)
          | (go_at_call 22; refine dV.mono ?_; rintro z2 w2 ⟨rfl, hb2⟩; have hb2 := below2 hb1 hb2; obtain ⟨-, f3, -, hbw⟩ := HV.out w2 hb2; obtain ⟨b1, -⟩ := f3.cell 1 _ rfl; obtain ⟨b3, -⟩ := f3.cell 3 _ rfl; obtain ⟨ge2, oe2, e2, r0, r1, r2, r3, r4⟩ := HEN.out w2 hbw; cases e2)
          | fail)
        go_ret2
        exact ⟨rfl, hbw.alloc hbw.size _⟩
      · have hr0 : E.1.result ≠ 0 := by
          rcases hpr with r | r
          · exact absurd r hp
          · exact r
        have k0 : (E.1.result == 0) = false := by rw [beq_eq_false_iff_ne]; exact hr0
        have k1 : (E.1.result != 0) = true := by rw [bne, k0]; rfl
        have k2 : ¬ (0 < E.1.params) := hp
        clear hpr hr0
        go_enter Tryz.func7, Tryz.ntmps7
        go_wp2_with (first
          | (go_at_call 21; refine dR.mono ?_; rintro z1 w1 ⟨rfl, hb1⟩; obtain ⟨dV, f1, f2, -⟩ := HV.out w1 hb1; obtain ⟨a0, -⟩ := f1.cell 0 _ rfl; obtain ⟨a1, -⟩ := f1.cell 1 _ rfl; obtain ⟨a2, -⟩ := f1.cell 2 _ rfl; obtain ⟨a3, -⟩ := f1.cell 3 _ rfl)
          | (go_at_call 22; refine dV.mono ?_; rintro z2 w2 ⟨rfl, hb2⟩; have hb2 := below2 hb1 hb2; obtain ⟨-, f3, f4, hbw⟩ := HV.out w2 hb2; obtain ⟨b1, -⟩ := f3.cell 1 _ rfl; obtain ⟨b3, -⟩ := f3.cell 3 _ rfl; obtain ⟨ge2, oe2, e2, r0, r1, r2, r3, r4⟩ := HEN.out w2 hbw; cases e2)
          | fail)
        go_ret2
        exact ⟨rfl, hbw.alloc hbw.size _⟩
    have hp : ¬ 0 < E.1.params := fun q => hpr (.inl q)
    have hr0 : E.1.result = 0 := Classical.byContradiction fun q => hpr (.inr q)
    have hE : newE c inp.length d l = 0 := by unfold newE; rw [hmr, if_neg (by decide), if_neg (by rw [hv]; decide), hEn, if_neg hpr]
    suffices key : Calls Tryz.prog 7 #[.agg #[.slice iq c.ins.length ia, .slice eq c.ens.length ea, .slice tq c.txs.length ta, .int .i64 c.main], .slice nq inp.length na, .agg #[.int .i64 d, .int .i64 l]] w fun z w' => ∃ g, z = .returned (.tuple #[.pointer (some ⟨g, 0, none⟩), .int .i64 0]) ∧ Hid (NewM w w' g c inp d l.toNat ∧ Below w.heap.size w w') from key.mono fun z w' q => by rw [hE, if_pos rfl]; exact q
    have hmr2 : inp.length ≤ 1000 ∧ 1 ≤ d ∧ d ≤ 1000 ∧ 0 ≤ l ∧ l ≤ 100000 := by
      unfold mayRunS at hmr
      simp only [Bool.and_eq_true, decide_eq_true_eq] at hmr
      omega
    obtain ⟨lim, hlim⟩ : ∃ lim : Nat, l = (lim : Int) := ⟨l.toNat, by omega⟩
    have HPO : Hid (∀ W, Below w.heap.size w W → (Calls Tryz.prog 23 #[.agg #[.slice iq c.ins.length ia, .slice eq c.ens.length ea, .slice tq c.txs.length ta, .int .i64 c.main]] W fun z w' => ∃ q5 k5 q6 k6 q7 k7, z = .returned (.agg #[.slice q5 c.ins.length k5, .slice q6 c.ens.length k6, .slice q7 c.txs.length k7, .int .i64 c.main]) ∧ Hid ((∃ M, CdN w' W.heap.size q5 q6 q7 M c) ∧ Below W.heap.size W w')) ∧ (Calls Tryz.prog 24 #[.slice nq inp.length na] W fun z w' => ∃ v', z = .returned v' ∧ Hid (w'.ownsRow W.heap.size 2 1 v' inp.length (sv inp)) ∧ Below W.heap.size W w')) := fun W b => by
      have kr : ∀ {q : Option Addr} {n cap : Nat} {xs : List Value}, RdS w q n cap xs → (0 < n → 0 < xs.length) → RdS W q n cap xs := fun hr hl => hr.next hl b
      refine ⟨copiedCode_any ⟨h.en, kr h.ir (by rw [ic_len]; omega), kr h.er (by rw [ec_len]; omega), kr h.tr (by rw [tv_len]; omega), fun x hx => kr (h.sr x hx) (by rw [sv_len]; omega)⟩ hc, cloneInt64_any (kr hn (by rw [sv_len]; omega)) (by rw [sv_len]; omega) (sv_one _) (by omega)⟩
    rw [hmi] at HV hX HPO ⊢
    obtain ⟨ge, oe, rfl, -⟩ := HEN.out w (Below.refl _ _)
    obtain ⟨ne, hne⟩ : ∃ ne, c.ens.length = ne := ⟨_, rfl⟩
    rw [hne] at HV hX m1 HPO ⊢
    rw [hlim] at HV hX l1 dR ⊢
    clear hmr
    go_enter Tryz.func7, Tryz.ntmps7
    go_wp2_with (first
      | (go_at_call 21; refine dR.mono ?_; rintro z1 w1 ⟨rfl, hb1⟩; obtain ⟨dV, f1, f2, -⟩ := HV.out w1 hb1; obtain ⟨a0, -⟩ := f1.cell 0 _ rfl; obtain ⟨a1, -⟩ := f1.cell 1 _ rfl; obtain ⟨a2, -⟩ := f1.cell 2 _ rfl; obtain ⟨a3, -⟩ := f1.cell 3 _ rfl)
      | (go_at_call 22; refine dV.mono ?_; rintro z2 w2 ⟨rfl, hb2⟩; have hb2 := below2 hb1 hb2; obtain ⟨-, f3, f4, hbw⟩ := HV.out w2 hb2; obtain ⟨b1, -⟩ := f3.cell 1 _ rfl; obtain ⟨b3, -⟩ := f3.cell 3 _ rfl; obtain ⟨ge2, oe2, e2, r0, r1, r2, r3, r4⟩ := HEN.out w2 hbw; cases e2)
      | fail)
    have b3w : Below w2.heap.size w2 (w2.alloc (.cells #[.string E.1.name, .int .i64 E.1.start, .int .i64 E.1.params, .slice E.2.1 E.1.sorts.length E.2.2, .int .i64 0] 71)) := (Below.refl _ w2).alloc (Nat.le_refl _) _
    have HY : Hid (Below X.heap.size X (w2.alloc (.cells #[.string E.1.name, .int .i64 E.1.start, .int .i64 E.1.params, .slice E.2.1 E.1.sorts.length E.2.2, .int .i64 0] 71))) := below2 hb2 b3w
    generalize w2.alloc (.cells #[.string E.1.name, .int .i64 E.1.start, .int .i64 E.1.params, .slice E.2.1 E.1.sorts.length E.2.2, .int .i64 0] 71) = Y at HY ⊢
    clear r0 r1 r2 r3 r4 b1 b3 a0 a1 a2 a3 f1 f2 f3 f4 dV dR b3w hbw hb1 hb2
    have HYD : Hid (Below X.heap.size X Y.drew) := HY.out.drew
    have SV : Hid (∀ W, Below X.heap.size X W → W.cell? ⟨w.heap.size, 0, none⟩ = some (.slice iq c.ins.length ia) ∧ W.cell? ⟨w.heap.size, 1, none⟩ = some (.slice (some ⟨ge, oe, none⟩) ne ea) ∧ W.cell? ⟨w.heap.size, 2, none⟩ = some (.slice tq c.txs.length ta) ∧ W.cell? ⟨w.heap.size, 3, none⟩ = some (.int .i64 (mi : Int)) ∧ W.cell? ⟨w.heap.size + 1, 0, none⟩ = some (.int .i64 d) ∧ W.cell? ⟨w.heap.size + 1, 1, none⟩ = some (.int .i64 (lim : Int))) := fun W b => by
      obtain ⟨-, p1, p2, -⟩ := HV.out W b
      exact ⟨(p1.cell 0 _ rfl).1, (p1.cell 1 _ rfl).1, (p1.cell 2 _ rfl).1, (p1.cell 3 _ rfl).1, (p2.cell 0 _ rfl).1, (p2.cell 1 _ rfl).1⟩
    have HLM : Hid (lim ≤ 100000) := by show _ ≤ _; omega
    have d1 := (HPO.out Y.drew (HV.out _ HYD.out).2.2.2).1
    have HMK : Hid (∀ w5 w6 w7 q5 k5 q6 k6 q7 k7 qn kn, Hid ((∃ M, CdN w5 Y.drew.heap.size q5 q6 q7 M c) ∧ Below Y.drew.heap.size Y.drew w5) → Hid (w6.ownsRow w5.heap.size 2 1 (.slice qn inp.length kn) inp.length (sv inp)) → Hid (Below w5.heap.size w5 w6) → Hid (Below w6.heap.size w6 w7) → NewP w (w7.alloc (.cells #[.slice q5 c.ins.length k5, .slice q6 ne k6, .slice q7 c.txs.length k7, .int .i64 (mi : Int), .slice qn inp.length kn, .int .i64 d, .int .i64 (lim : Int), .slice none 0 0, .int .i64 (lim : Int), .int .i64 0, .slice none 0 0, .slice none 0 0, .int .i64 0, .slice none 0 0, .int .i64 0, .int .i64 0, .int .i64 0] 82)) w7.heap.size c inp d lim mi) := fun w5 w6 w7 q5 k5 q6 k6 q7 k7 qn kn H5 H6 B6 B7 => by
      obtain ⟨⟨M, hM5⟩, b5⟩ := H5.out
      have b7 := below2 B6.out B7.out
      have bA : Below w7.heap.size w7 (w7.alloc (.cells #[.slice q5 c.ins.length k5, .slice q6 ne k6, .slice q7 c.txs.length k7, .int .i64 (mi : Int), .slice qn inp.length kn, .int .i64 d, .int .i64 (lim : Int), .slice none 0 0, .int .i64 (lim : Int), .int .i64 0, .slice none 0 0, .slice none 0 0, .int .i64 0, .slice none 0 0, .int .i64 0, .int .i64 0, .int .i64 0] 82)) := (Below.refl _ w7).alloc (Nat.le_refl _) _
      have bwY : Below w.heap.size w Y.drew := (HV.out _ HYD.out).2.2.2
      have bwA : Below w.heap.size w (w7.alloc (.cells #[.slice q5 c.ins.length k5, .slice q6 ne k6, .slice q7 c.txs.length k7, .int .i64 (mi : Int), .slice qn inp.length kn, .int .i64 d, .int .i64 (lim : Int), .slice none 0 0, .int .i64 (lim : Int), .int .i64 0, .slice none 0 0, .slice none 0 0, .int .i64 0, .slice none 0 0, .int .i64 0, .int .i64 0, .int .i64 0] 82)) := below2 (below2 (below2 bwY b5) b7) bA
      have hlen : c.ens.length = ne := hne
      let K : Cg := ⟨c, q5, k5, q6, k6, q7, k7, M, inp, qn, kn, d, lim⟩
      have hc7 : CodeQ w7 (fun b => Y.drew.heap.size ≤ b ∧ b < w7.heap.size) K := CdN.codeQ (K := K) (hM5.next b7) (own_next H6.out B7.out) b5.size
      have hfA : Full (w7.alloc (.cells #[.slice q5 c.ins.length k5, .slice q6 ne k6, .slice q7 c.txs.length k7, .int .i64 (mi : Int), .slice qn inp.length kn, .int .i64 d, .int .i64 (lim : Int), .slice none 0 0, .int .i64 (lim : Int), .int .i64 0, .slice none 0 0, .slice none 0 0, .int .i64 0, .slice none 0 0, .int .i64 0, .int .i64 0, .int .i64 0] 82)) w7.heap.size 82 (mcell K) := by
        have := Full.new w7 #[.slice q5 c.ins.length k5, .slice q6 ne k6, .slice q7 c.txs.length k7, .int .i64 (mi : Int), .slice qn inp.length kn, .int .i64 d, .int .i64 (lim : Int), .slice none 0 0, .int .i64 (lim : Int), .int .i64 0, .slice none 0 0, .slice none 0 0, .int .i64 0, .slice none 0 0, .int .i64 0, .int .i64 0, .int .i64 0] 82
        unfold mcell
        show Full _ _ _ [.slice q5 c.ins.length k5, .slice q6 c.ens.length k6, .slice q7 c.txs.length k7, .int .i64 c.main, .slice qn inp.length kn, .int .i64 d, .int .i64 (lim : Int), .slice none 0 0, .int .i64 (lim : Int), .int .i64 0, .slice none 0 0, .slice none 0 0, .int .i64 0, .slice none 0 0, .int .i64 0, .int .i64 0, .int .i64 0]
        rw [hlen, hmi]
        exact this
      have hYs : w.heap.size ≤ Y.drew.heap.size := bwY.size
      refine ⟨K, _, mach0 hfA (hc7.same (fun b hb => bA.block b hb.2) bA.size) (fun q => by have := q.2; omega) HLM.out, ⟨hc, hM5.en, by show inp.length ≤ 1000; omega, hi, by show 1 ≤ d; omega, by show d ≤ 1000; omega, HLM.out⟩, rfl, rfl, rfl, rfl, fun b hb => Nat.le_trans hYs hb.1, (below2 (below2 bwY b5) b7).size, bwA, ?_, ?_⟩
      · exact (SV.out _ (below2 (below2 (below2 HYD.out b5) b7) bA)).2.2.2.1
      · show mi < M.length
        rw [← hM5.en, List.length_map] at hml
        exact hml
    go_cut [10] (fun u wx => ∃ g, u = .pointer (some ⟨g, 0, none⟩) ∧ Hid (NewP w wx g c inp d lim mi))
    case first =>
      obtain ⟨s0, s1, s2, s3, s4, s5⟩ := SV.out _ HYD.out
      go_region_law (first
        | (refine step_call (by rfl) 23 [.tmp 34] _ [.agg #[.slice iq c.ins.length ia, .slice (some ⟨ge, oe, none⟩) ne ea, .slice tq c.txs.length ta, .int .i64 (mi : Int)]] (by rfl) (by rfl) (callCopied _) (fun v w' => ∃ q5 k5 q6 k6 q7 k7, v = .agg #[.slice q5 c.ins.length k5, .slice q6 ne k6, .slice q7 c.txs.length k7, .int .i64 (mi : Int)] ∧ Hid ((∃ M, CdN w' Y.drew.heap.size q5 q6 q7 M c) ∧ Below Y.drew.heap.size Y.drew w')) (d1.mono fun _ _ q => by (obtain ⟨q5, k5, q6, k6, q7, k7, r1, r2⟩ := q; exact ⟨_, r1, q5, k5, q6, k6, q7, k7, rfl, r2⟩)) ?_; rintro v5 w5 ⟨q5, k5, q6, k6, q7, k7, rfl, H5⟩; have HB5 : Hid (Below X.heap.size X w5) := below2 HYD.out H5.out.2; obtain ⟨t0, t1, t2, t3, t4, t5⟩ := SV.out _ HB5.out; have d5 := (HPO.out w5 (HV.out _ HB5.out).2.2.2).2)
        | (refine step_call (by rfl) 24 [.tmp 36] _ [.slice nq inp.length na] (by rfl) (by rfl) (callInt64 _) (fun v w' => Hid (w'.ownsRow w5.heap.size 2 1 v inp.length (sv inp)) ∧ Hid (Below w5.heap.size w5 w')) (d5.mono fun _ _ q => by (obtain ⟨v, q1, q2, q3⟩ := q; exact ⟨v, q1, q2, q3⟩)) ?_; rintro v6 w6 ⟨H6, B6⟩; obtain ⟨qn, kn, e6, -, -⟩ := own_slice H6.out; subst e6; have HB6 : Hid (Below X.heap.size X w6) := below2 HB5.out B6.out; obtain ⟨u0, u1, u2, u3, u4, u5⟩ := SV.out _ HB6.out; have d6 := Hp.new_at lim HLM.out w6)
        | (refine step_call (by rfl) 25 [.tmp 40] _ [.int .i64 (lim : Int)] (by rfl) (by rfl) (callCNew _) (fun v w' => v = .pointer (some ⟨w6.heap.size, 0, none⟩) ∧ (w'.cell? ⟨w6.heap.size, 0, none⟩ = some (.int .i64 (lim : Int)) ∧ w'.cell? ⟨w6.heap.size, 1, none⟩ = some (.int .i64 0) ∧ w'.cell? ⟨w6.heap.size, 2, none⟩ = some (.slice none 0 0) ∧ w'.cell? ⟨w6.heap.size, 3, none⟩ = some (.slice none 0 0)) ∧ Hid (Below w6.heap.size w6 w')) (d6.mono fun _ _ q => ⟨_, q.1, rfl, ⟨(Hp.HeapG.zc q.2.1).1, (Hp.HeapG.zc q.2.1).2.1, (Hp.HeapG.zc q.2.1).2.2.1, (Hp.HeapG.zc q.2.1).2.2.2.1⟩, q.2.2⟩) ?_; rintro v7 w7 ⟨rfl, ⟨h0, h1, h2, h3⟩, B7⟩; have HB7 : Hid (Below X.heap.size X w7) := below2 HB6.out B7.out; obtain ⟨x0, x1, x2, x3, x4, x5⟩ := SV.out _ HB7.out))
      all_goals
        clear s0 s1 s2 s3 s4 s5 t0 t1 t2 t3 t4 t5 u0 u1 u2 u3 u4 u5 h0 h1 h2 h3 x0 x1 x2 x3 x4 x5 d1 d5 d6
        go_wp2_with fail
        go_meet
        exact ⟨_, rfl, HMK.out w5 w6 w7 q5 k5 q6 k6 q7 k7 qn kn H5 H6 B6 B7⟩
    case rest =>
      obtain ⟨g, rfl, HP⟩ := hcut
      clear HMK
      obtain ⟨K, Q, pM, pK, pc, pin, pd, pl, pQ, pg, pb, c3, pE⟩ := HP.out
      have hE250 := (pK.ps (K.Es[mi]'pE) (List.getElem_mem pE)).2.2.2
      have dB := begin_any pM pE (by omega) (by simp) (q := none) (cp := 0) (args := []) (by simp) (fun h0 => absurd h0 (by simp))
      have HFB : Hid (∀ w', WentM wc w' g K { ms0 with fs := ms0.fs ++ [⟨(mi : Int), (K.Es[mi]'pE).1.start, slotsS (K.Es[mi]'pE).1.sorts [], []⟩] } [] (.slice none 0 0) (.slice none 0 0) (fun b => b = g) Q → NewM w w' g c inp d lim ∧ Below w.heap.size w w') := fun w' hw => by
        have := newM_of pK pc hmi pE pQ pg pb.size hw
        rw [pin, pd, pl] at this
        refine ⟨this, ?_⟩
        obtain ⟨L', fv', ov', F', -, -, k3⟩ := hw
        have : Below w.heap.size wc w' := k3.below (fun b hb => by
          rcases hb with r | r | r | ⟨m, hm, -⟩
          · have r : b = g := r
            omega
          · cases r
          · cases r
          · cases hm) pb.size
        exact pb.trans this
      have hlt : (lim : Int).toNat = lim := Int.toNat_natCast lim
      clear HP pM pK pc pin pd pl pQ pg pb
      go_wp2_with (first
        | (go_at_call 26; refine dB.mono ?_; rintro z9 w9 ⟨⟨u9, rfl⟩, H9⟩)
        | fail)
      go_ret2
      exact ⟨g, rfl, HFB.out _ H9.out⟩
end Go.Proofs.YtahdkffijlfmnaaGreatDoor

namespace Go.Proofs.YtahdkffijlfmnaaGreatDoor
open Go.RowKit
open Hp (V vc vcs)
theorem stN0 {K : Cg} (hK : KOk K) : StOk K (msN (enAt K.c.ens K.c.main.toNat) K.c.main) := by
  have m0 := hK.c.m0
  have ml := hK.c.ml
  have hl := hK.len
  have hi : K.c.main.toNat < K.Es.length := by omega
  refine ⟨fun f hf => ?_, fun a ha => (by cases ha), Nat.zero_le _, ?_, by show (0 : Int) ≤ 0; decide, by show (0 : Int) ≤ _; decide⟩
  · have hf : f = ⟨K.c.main, (enAt K.c.ens K.c.main.toNat).start, slotsS (enAt K.c.ens K.c.main.toNat).sorts [], []⟩ := by simpa [msN] using hf
    subst hf
    refine ⟨⟨K.c.main.toNat, by show K.c.main = _; omega, hi, ?_⟩, fun v hv => (by cases hv), ?_, Nat.zero_le _⟩
    · show (slotsS (enAt K.c.ens K.c.main.toNat).sorts []).length = _
      rw [slots_len _ _ (Nat.zero_le _), hK.at_ _ hi]
    · exact slots_ok (fun v hv => by cases hv)
  · show ((1 : Nat) : Int) ≤ K.dep
    exact hK.d1
theorem newM_live {w w' : World} {g : Nat} {c : Cd} {inp : List Int} {d : Int} {lim : Nat} (h : NewM w w' g c inp d lim) (hG : Glo w') (h8 : 8 ≤ w.heap.size) :
    ∃ K L fv ov F Q, Live w' g K (msN (enAt c.ens c.main.toNat) c.main) L fv ov F Q ∧ K.c = c ∧ K.inp = inp ∧ K.dep = d ∧ K.lim = lim ∧ ∀ b, foot L fv ov F b ∨ Q b → w.heap.size ≤ b := by
  obtain ⟨K, L, fv, ov, F, Q, hM, hK, rfl, hi, hd, hl, hf⟩ := h
  exact ⟨K, L, fv, ov, F, Q, ⟨hM, ⟨hG, fun b hb q => by have := hf b (.inl q); omega⟩, hK, stN0 hK⟩, rfl, hi, hd, hl, hf⟩
/-! The least machine. -/
def mainB : ByteArray := ⟨#[109, 97, 105, 110]⟩
def eL : En := ⟨mainB, 0, 0, [], 0⟩
def cL : Cd := ⟨[(21, 5, 0), (13, 0, 0)], [eL], [], 0⟩
theorem newE_cL : newE cL 0 1 0 = 0 := by rfl
def sL0 : Ms := msN (enAt cL.ens cL.main.toNat) cL.main
def sL1 : Ms := ⟨[⟨0, 1, [], []⟩], [], 0, [], 1, 0, 0⟩
def sL2 : Ms := ⟨[], [], 0, [], 2, 1, 0⟩
theorem mstepL1 {K : Cg} (hc : K.c = cL) (he : K.Es.map (·.1) = K.c.ens) : mstepS K sL0 = (sL1, (5, false, (0, 0, Hp.e0)), true) := by
  obtain ⟨c, iq, ia, eq, ea, tq, ta, Es, inp, nq, na, dep, lim⟩ := K
  simp only at hc he
  subst hc
  match Es, he with
  | [⟨e, q, cap⟩], he =>
    have : e = eL := by simpa [cL] using he
    subst this
    rfl
theorem mstepL2 {K : Cg} (hc : K.c = cL) (he : K.Es.map (·.1) = K.c.ens) : mstepS K sL1 = (sL2, yd0, false) := by
  obtain ⟨c, iq, ia, eq, ea, tq, ta, Es, inp, nq, na, dep, lim⟩ := K
  simp only at hc he
  subst hc
  match Es, he with
  | [⟨e, q, cap⟩], he =>
    have : e = eL := by simpa [cL] using he
    subst this
    rfl
theorem mrunL {K : Cg} (hc : K.c = cL) (he : K.Es.map (·.1) = K.c.ens) : mrunS K 9 sL0 = (sL1, (5, false, (0, 0, Hp.e0)), true) := by
  show (if (mstepS K sL0).2.2 = true ∨ (mstepS K sL0).1.ph ≠ 0 then mstepS K sL0 else mrunS K 8 (mstepS K sL0).1) = _
  rw [mstepL1 hc he, if_pos (.inl rfl)]
end Go.Proofs.YtahdkffijlfmnaaGreatDoor

namespace Go.Proofs.YtahdkffijlfmnaaGreatDoor
open Go.RowKit
open Hp (V vc vcs)
/-! A machine as the laws carry it: all of its blocks lie in U. -/
def Mz (w : World) (U : Nat → Prop) (g : Nat) (K : Cg) (S : Ms) : Prop :=
  ∃ L fv ov F Q, Live w g K S L fv ov F Q ∧ ∀ b, foot L fv ov F b ∨ Q b → U b
theorem Mz.lt {w : World} {U : Nat → Prop} {g : Nat} {K : Cg} {S : Ms} (h : Mz w U g K S) : Mz w (fun b => U b ∧ b < w.heap.size) g K S := by
  obtain ⟨L, fv, ov, F, Q, h1, h2⟩ := h
  exact ⟨L, fv, ov, F, Q, h1, fun b hb => ⟨h2 b hb, h1.m.lt b hb⟩⟩
theorem Mz.mono {w : World} {U V : Nat → Prop} {g : Nat} {K : Cg} {S : Ms} (h : Mz w U g K S) (hU : ∀ b, U b → b < w.heap.size → V b) : Mz w V g K S := by
  obtain ⟨L, fv, ov, F, Q, h1, h2⟩ := h
  exact ⟨L, fv, ov, F, Q, h1, fun b hb => hU b (h2 b hb) (h1.m.lt b hb)⟩
theorem Mz.next {w w' : World} {U : Nat → Prop} {g : Nat} {K : Cg} {S : Ms} (h : Mz w U g K S) (b : Below w.heap.size w w') : Mz w' U g K S := by
  obtain ⟨L, fv, ov, F, Q, h1, h2⟩ := h
  exact ⟨L, fv, ov, F, Q, h1.next b, h2⟩
theorem Mz.kept {w w' : World} {U V : Nat → Prop} {g : Nat} {K : Cg} {S : Ms} (h : Mz w U g K S) (k : Kp V w w') (hV : ∀ b, V b → ¬ U b ∧ 8 ≤ b) : Mz w' U g K S := by
  obtain ⟨L, fv, ov, F, Q, h1, h2⟩ := h
  exact ⟨L, fv, ov, F, Q, ⟨h1.m.kept k fun b hb hv => (hV b hv).1 (h2 b hb), ⟨h1.g.1.kept k fun b hb hv => by have := (hV b hv).2; omega, h1.g.2⟩, h1.k, h1.s⟩, h2⟩
theorem Mz.kok {w : World} {U : Nat → Prop} {g : Nat} {K : Cg} {S : Ms} (h : Mz w U g K S) : KOk K ∧ StOk K S ∧ Hp.usedS S.hp ≤ K.lim ∧ Glo w := by
  obtain ⟨L, fv, ov, F, Q, h1, h2⟩ := h
  exact ⟨h1.k, h1.s, h1.m.usedL, h1.g.1⟩
theorem LiveW.mz {w w1 : World} {U : Nat → Prop} {g : Nat} {K : Cg} {S : Ms} {L : List Fm} {fv ov : Value} {F Q : Nat → Prop} (h : LiveW w w1 g K S L fv ov F Q) (hU : ∀ b, foot L fv ov F b ∨ Q b → U b) : Mz w1 (fun b => U b ∨ w.heap.size ≤ b) g K S ∧ Kp U w w1 := by
  obtain ⟨L', fv', ov', F', h1, h2, h3⟩ := h
  refine ⟨⟨L', fv', ov', F', Q, h1, fun b hb => ?_⟩, ⟨h3.os, h3.tape, h3.output, h3.size, fun k hk hn => h3.block k hk fun q => hn (hU k (.inl q))⟩⟩
  rcases hb with hb | hb
  · rcases h2 b hb with q | q
    · exact .inl (hU b (.inl q))
    · exact .inr q
  · exact .inl (hU b (.inr hb))
theorem Mz.step {w : World} {U : Nat → Prop} {g : Nat} {K : Cg} {S : Ms} (h : Mz w U g K S) (ho : S.out.length ≤ 900000000) :
    Calls Tryz.prog 12 #[.pointer (some ⟨g, 0, none⟩)] w fun z w' => z = .returned (.tuple #[ydV (mstepS K S).2.1, .bool (mstepS K S).2.2]) ∧ Hid (Mz w' (fun b => U b ∨ w.heap.size ≤ b) g K (mstepS K S).1 ∧ Kp U w w') := by
  obtain ⟨L, fv, ov, F, Q, h1, h2⟩ := h
  exact (live_step h1.self ho).mono fun z w' q => ⟨q.1, q.2.out.mz h2⟩
theorem Mz.run {w : World} {U : Nat → Prop} {g : Nat} {K : Cg} {S : Ms} (h : Mz w U g K S) (n : Nat) (hn : n ≤ 100000) (ho : S.out.length + 4200 * n ≤ 900000000) :
    Calls Tryz.prog 15 #[.pointer (some ⟨g, 0, none⟩), .int .i64 (n : Int)] w fun z w' => z = .returned (.tuple #[ydV (mrunS K n S).2.1, .bool (mrunS K n S).2.2]) ∧ Hid (Mz w' (fun b => U b ∨ w.heap.size ≤ b) g K (mrunS K n S).1 ∧ Kp U w w') := by
  obtain ⟨L, fv, ov, F, Q, h1, h2⟩ := h
  exact (run_any h1.self n hn ho).mono fun z w' q => ⟨q.1, q.2.out.mz h2⟩
theorem Mz.depth {w : World} {U : Nat → Prop} {g : Nat} {K : Cg} {S : Ms} (h : Mz w U g K S) :
    Calls Tryz.prog 10 #[.pointer (some ⟨g, 0, none⟩)] w fun z w' => z = .returned (.int .i64 (S.fs.length : Int)) ∧ Below w.heap.size w w' := by
  obtain ⟨L, fv, ov, F, Q, h1, h2⟩ := h
  exact h1.self.depth
theorem Mz.steps {w : World} {U : Nat → Prop} {g : Nat} {K : Cg} {S : Ms} (h : Mz w U g K S) :
    Calls Tryz.prog 18 #[.pointer (some ⟨g, 0, none⟩)] w fun z w' => z = .returned (.int .i64 S.steps) ∧ Below w.heap.size w w' := by
  obtain ⟨L, fv, ov, F, Q, h1, h2⟩ := h
  exact h1.self.steps
theorem Mz.result {w : World} {U : Nat → Prop} {g : Nat} {K : Cg} {S : Ms} (h : Mz w U g K S) :
    Calls Tryz.prog 9 #[.pointer (some ⟨g, 0, none⟩)] w fun z w' => z = .returned (runV S (.slice (some ⟨w.heap.size + 1, 0, none⟩) (S.hp.length + 1) (S.hp.length + 1))) ∧ Hid (∃ vs, Hp.Ans w' (w.heap.size + 1) (Hp.lsA S.hp) (.slice (some ⟨w.heap.size + 1, 0, none⟩) (S.hp.length + 1) (S.hp.length + 1)) vs) ∧ Below w.heap.size w w' := by
  obtain ⟨L, fv, ov, F, Q, h1, h2⟩ := h
  exact h1.self.result
theorem Mz.out {w : World} {U : Nat → Prop} {g : Nat} {K : Cg} {S : Ms} (h : Mz w U g K S) : (mstepS K S).1.out.length ≤ S.out.length + 4200 := by
  obtain ⟨L, fv, ov, F, Q, h1, h2⟩ := h
  exact h1.self.out
/-- What New has made. -/
theorem newM_mz {w w' : World} {g : Nat} {c : Cd} {inp : List Int} {d : Int} {lim : Nat} (h : NewM w w' g c inp d lim) (hG : Glo w') (h8 : 8 ≤ w.heap.size) :
    ∃ K, Mz w' (fun b => w.heap.size ≤ b) g K (msN (enAt c.ens c.main.toNat) c.main) ∧ K.c = c ∧ K.inp = inp ∧ K.dep = d ∧ K.lim = lim := by
  obtain ⟨K, L, fv, ov, F, Q, h1, h2, h3, h4, h5, h6⟩ := newM_live h hG h8
  exact ⟨K, ⟨L, fv, ov, F, Q, h1, h6⟩, h2, h3, h4, h5⟩
end Go.Proofs.YtahdkffijlfmnaaGreatDoor

namespace Go.Proofs.YtahdkffijlfmnaaGreatDoor
open Go.RowKit
open Hp (V vc vcs)
theorem full_range {w : World} {b : Nat} {t : TypeId} {vs : List Value} (h : Full w b t vs) : w.rangeAt b 0 vs := fun j v hv => by
  rw [Nat.zero_add]
  exact (h.cell j v hv).1
/-- The least machine, in some state. -/
def Lz (w w1 : World) (g : Nat) (S : Ms) : Prop := ∃ K, Mz w1 (fun b => w.heap.size ≤ b) g K S ∧ K.c = cL ∧ Below w.heap.size w w1
theorem Lz.next {w w1 w2 : World} {g : Nat} {S : Ms} (h : Lz w w1 g S) (k : Below w1.heap.size w1 w2) : Lz w w2 g S := by
  obtain ⟨K, h1, h2, h3⟩ := h
  exact ⟨K, h1.next k, h2, below2 h3 k⟩
theorem Lz.went {w w1 w2 : World} {g : Nat} {K : Cg} {S : Ms} (h : Mz w2 (fun b => w.heap.size ≤ b ∨ w1.heap.size ≤ b) g K S) (hc : K.c = cL) (b : Below w.heap.size w w1) (k : Kp (fun b => w.heap.size ≤ b) w1 w2) : Lz w w2 g S :=
  ⟨K, h.mono fun x hx _ => by rcases hx with q | q; exact q; exact Nat.le_trans b.size q, hc, b.trans (k.below (fun _ q => q) b.size)⟩
theorem Lz.run {w w1 : World} {g : Nat} (h : Lz w w1 g sL0) : Calls Tryz.prog 15 #[.pointer (some ⟨g, 0, none⟩), .int .i64 9] w1 fun z w' => z = .returned (.tuple #[.agg #[.int .i64 5, .bool false, .int .i64 0, .int .i64 0, .string Hp.e0], .bool true]) ∧ Hid (Lz w w' g sL1) := by
  obtain ⟨K, h1, h2, h3⟩ := h
  have q := h1.run 9 (by decide) (by decide)
  rw [mrunL h2 h1.kok.1.en] at q
  exact q.mono fun z w' q => ⟨q.1, Lz.went q.2.out.1 h2 h3 q.2.out.2⟩
theorem Lz.step {w w1 : World} {g : Nat} (h : Lz w w1 g sL1) : Calls Tryz.prog 12 #[.pointer (some ⟨g, 0, none⟩)] w1 fun z w' => z = .returned (.tuple #[.agg #[.int .i64 0, .bool false, .int .i64 0, .int .i64 0, .string Hp.e0], .bool false]) ∧ Hid (Lz w w' g sL2) := by
  obtain ⟨K, h1, h2, h3⟩ := h
  have q := h1.step (by decide)
  rw [mstepL2 h2 h1.kok.1.en] at q
  exact q.mono fun z w' q => ⟨q.1, Lz.went q.2.out.1 h2 h3 q.2.out.2⟩
theorem Lz.depth {w w1 : World} {g : Nat} {S : Ms} (h : Lz w w1 g S) : Calls Tryz.prog 10 #[.pointer (some ⟨g, 0, none⟩)] w1 fun z w' => z = .returned (.int .i64 (S.fs.length : Int)) ∧ Below w1.heap.size w1 w' := by
  obtain ⟨K, h1, h2, h3⟩ := h
  exact h1.depth
theorem Lz.steps {w w1 : World} {g : Nat} {S : Ms} (h : Lz w w1 g S) : Calls Tryz.prog 18 #[.pointer (some ⟨g, 0, none⟩)] w1 fun z w' => z = .returned (.int .i64 S.steps) ∧ Below w1.heap.size w1 w' := by
  obtain ⟨K, h1, h2, h3⟩ := h
  exact h1.steps
theorem Lz.result {w w1 : World} {g : Nat} (h : Lz w w1 g sL2) : Calls Tryz.prog 9 #[.pointer (some ⟨g, 0, none⟩)] w1 fun z w' => z = .returned (.agg #[.int .i64 1, .int .i64 0, .string ⟨#[]⟩, .int .i64 0, .int .i64 2, .slice none 0 0, .slice (some ⟨w1.heap.size + 1, 0, none⟩) 1 1]) ∧ Below w1.heap.size w1 w' := by
  obtain ⟨K, h1, h2, h3⟩ := h
  exact h1.result.mono fun z w' q => ⟨q.1, q.2.2⟩
def esL : List Em := [(eL, none, 0)]
theorem leastNew {w X : World} (hG : Glo w) (hX : ((w.alloc (.cells #[.int .i64 21, .int .i64 5, .int .i64 0, .int .i64 13, .int .i64 0, .int .i64 0] 86)).alloc (.cells #[.string mainB, .int .i64 0, .int .i64 0, .slice none 0 0, .int .i64 0] 71)).alloc (.cells #[.slice (some ⟨w.heap.size, 0, none⟩) 2 2, .slice (some ⟨w.heap.size + 1, 0, none⟩) 1 1, .slice none 0 0, .int .i64 0] 26) = X) :
    Below w.heap.size w X ∧ Calls Tryz.prog 7 #[.agg #[.slice (some ⟨w.heap.size, 0, none⟩) 2 2, .slice (some ⟨w.heap.size + 1, 0, none⟩) 1 1, .slice none 0 0, .int .i64 0], .slice none 0 0, .agg #[.int .i64 1, .int .i64 0]] X fun z w' => ∃ g, z = .returned (.tuple #[.pointer (some ⟨g, 0, none⟩), .int .i64 0]) ∧ Hid (Lz w w' g sL0) := by
  obtain ⟨A, hA⟩ : ∃ A, w.alloc (.cells #[.int .i64 21, .int .i64 5, .int .i64 0, .int .i64 13, .int .i64 0, .int .i64 0] 86) = A := ⟨_, rfl⟩
  rw [hA] at hX
  obtain ⟨B, hB⟩ : ∃ B, A.alloc (.cells #[.string mainB, .int .i64 0, .int .i64 0, .slice none 0 0, .int .i64 0] 71) = B := ⟨_, rfl⟩
  rw [hB] at hX
  have zA : A.heap.size = w.heap.size + 1 := by rw [← hA]; simp
  have fA : Full A w.heap.size 86 [.int .i64 21, .int .i64 5, .int .i64 0, .int .i64 13, .int .i64 0, .int .i64 0] := by rw [← hA]; exact Full.new w _ _
  have fB : Full B A.heap.size 71 [.string mainB, .int .i64 0, .int .i64 0, .slice none 0 0, .int .i64 0] := by rw [← hB]; exact Full.new A _ _
  have bA : Below w.heap.size w A := by rw [← hA]; exact (Below.refl _ w).alloc (Nat.le_refl _) _
  have bB : Below A.heap.size A B := by rw [← hB]; exact (Below.refl _ A).alloc (Nat.le_refl _) _
  have bX : Below B.heap.size B X := by rw [← hX]; exact (Below.refl _ B).alloc (Nat.le_refl _) _
  rw [zA] at fB
  have fA2 := (fA.next bB).next bX
  have fB2 := fB.next bX
  have bW : Below w.heap.size w X := below2 (below2 bA bB) bX
  have hC : CdR X (some ⟨w.heap.size, 0, none⟩) (some ⟨w.heap.size + 1, 0, none⟩) none 2 1 0 esL cL := by
    refine ⟨rfl, ⟨fun q => (by cases q), fun _ => ⟨_, _, rfl, full_range fA2⟩⟩, ⟨fun q => (by cases q), fun _ => ⟨_, _, rfl, full_range fB2⟩⟩, ⟨fun _ => ⟨rfl, rfl⟩, fun q => (by cases q)⟩, fun x hx => ?_⟩
    have : x = (eL, none, 0) := by simpa [esL] using hx
    subst this
    exact ⟨fun _ => ⟨rfl, rfl⟩, fun q => by cases q⟩
  have hM := hC.codeM (by decide) (by decide) (by decide) (fun t ht => by cases ht) (fun x hx => by
    have : x = (eL, none, 0) := by simpa [esL] using hx
    subst this
    exact ⟨by decide, by decide⟩)
  have hGX := hG.next bW
  refine ⟨bW, ?_⟩
  have q := new_any (inp := []) (nq := none) (na := 0) hC hM ⟨fun _ => ⟨rfl, rfl⟩, fun q => by cases q⟩ (fun x hx => by cases hx) (by decide) 1 0 hGX.tabs
  refine q.mono fun z w' q => ?_
  rw [if_pos (by exact newE_cL)] at q
  obtain ⟨g, rfl, hq⟩ := q
  obtain ⟨K, k1, k2, -⟩ := newM_mz hq.out.1 (hGX.next hq.out.2) (by have := hGX.tabs.size; omega)
  exact ⟨g, rfl, K, k1.mono fun b hb _ => Nat.le_trans bW.size hb, k2, below2 bW hq.out.2⟩
theorem fldR (a b c d e f h : Value) : ∀ w : World, (Instr.field 46 (.agg #[a, b, c, d, e, f, h]) 0).run Tryz.prog w = .ok (.agg #[a, b]) w := fun w => by
  kernel_rfl
set_option maxRecDepth 100000 in
set_option maxHeartbeats 2000000 in
theorem least_any {w : World} (hG : Glo w) :
    Calls Tryz.prog 8 #[] w fun z w' => z = .returned (.bool true) ∧ Below w.heap.size w w' := by
  obtain ⟨bX, dN⟩ := leastNew hG rfl
  unfold mainB at dN
  clear bX
  go_enter Tryz.func8, Tryz.ntmps8
  go_wp2_with (first
    | (go_at_call 7; refine dN.mono ?_; rintro z1 w1 ⟨g, rfl, H1⟩)
    | (go_at_call 15; refine H1.out.run.mono ?_; rintro z2 w2 ⟨rfl, H2⟩; have HA : Hid (Lz w (w2.alloc (.cells #[.int .i64 5, .bool false, .int .i64 0, .int .i64 0, .string Hp.e0] 54)) g sL1) := H2.out.next ((Below.refl _ w2).alloc (Nat.le_refl _) _))
    | (go_at_call 18; refine HA.out.steps.mono ?_; rintro z3 w3 ⟨rfl, hb3⟩; have HB : Hid (Lz w w3 g sL1) := HA.out.next hb3; clear hb3)
    | (go_at_call 10; refine HB.out.depth.mono ?_; rintro z4 w4 ⟨rfl, hb4⟩; have HC : Hid (Lz w w4 g sL1) := HB.out.next hb4; clear hb4)
    | (go_at_call 12; refine HC.out.step.mono ?_; rintro z5 w5 ⟨rfl, H5⟩; have HD : Hid (Lz w (w5.alloc (.cells #[.int .i64 0, .bool false, .int .i64 0, .int .i64 0, .string Hp.e0] 54)) g sL2) := H5.out.next ((Below.refl _ w5).alloc (Nat.le_refl _) _); clear HB)
    | (go_at_call 9; refine HD.out.result.mono ?_; rintro z6 w6 ⟨rfl, hb6⟩; have hfd := fldR (.int .i64 1) (.int .i64 0) (.string ⟨#[]⟩) (.int .i64 0) (.int .i64 2) (.slice none 0 0) (.slice (some ⟨w5.heap.size + 1 + 1, 0, none⟩) 1 1); have HB : Hid (Lz w w6 g sL2) := HD.out.next hb6; clear hb6)
    | (go_at_call 10; refine HB.out.depth.mono ?_; rintro z7 w7 ⟨rfl, hb7⟩; have HE : Hid (Lz w w7 g sL2) := HB.out.next hb7; clear hb7)
    | fail)
  go_ret
  obtain ⟨K, -, -, hb⟩ := HE.out
  exact ⟨rfl, hb⟩
end Go.Proofs.YtahdkffijlfmnaaGreatDoor
