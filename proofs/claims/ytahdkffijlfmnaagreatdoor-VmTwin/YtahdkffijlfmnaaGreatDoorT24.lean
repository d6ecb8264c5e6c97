import Derived.Test.YtahdkffijlfmnaaGreatDoorT23
namespace Go.Proofs.YtahdkffijlfmnaaGreatDoor
open Go.RowKit
open Hp (V vc vcs)
theorem DoY.after {w w1 w2 : World} {g : Nat} {K : Cg} {L L1 : List Fm} {S1 : Ms} {fv ov : Value} {F Q : Nat → Prop} {gf o : Nat} {z : Ending} {R : Except Int (Ms × Yd)} (h : Mid w w1 g K L S1 L1 fv ov F Q gf o) (k : DoY w1 w2 g K L1 fv ov F Q gf o z R) : DoY w w2 g K L fv ov F Q gf o z R := by
  cases R with
  | error t => exact ⟨k.1, h.tt.trans k.2⟩
  | ok r => exact ⟨k.1, WentM.after h.ft h.kp k.2⟩
theorem GloM.mid' {w W : World} {g : Nat} {K : Cg} {S : Ms} {L L2 : List Fm} {fv ov : Value} {F Q : Nat → Prop} {gf o : Nat} (h : GloM w L fv ov F) (k : Mid w W g K L S L2 fv ov F Q gf o) : GloM W L2 fv ov F := ⟨h.1.kept k.kp h.2, fun x hx q => by
  rcases k.ft x q with r | r
  · exact h.2 x hx r
  · have := h.1.tabs.size
    omega⟩
theorem DoY.ret {w w' : World} {g : Nat} {K : Cg} {L : List Fm} {fv ov : Value} {F Q : Nat → Prop} {gf o : Nat} {z : Ending} {R : Except Int (Ms × Yd)} (h : DoY w w' g K L fv ov F Q gf o z R) : ∃ a b c d e t, z = .returned (.tuple #[.agg #[.int .i64 a, .bool b, .int .i64 c, .int .i64 d, .string e], .int .i64 t]) := by
  cases R with
  | error t => exact ⟨_, _, _, _, _, t, h.1⟩
  | ok r => exact ⟨_, _, _, _, _, 0, h.1⟩
theorem DoOk.jump {K : Cg} {S : Ms} {n : Nat} {m : Fm} {i : Nat} (d : DoOk K S n m i) (p : Int) (hs : m.f.st.length ≤ 400) : DoOk K (S.jump n m.f p) n (m.at' p) i where
  fn := d.fn
  st := d.st
  sl := d.sl
  ln := d.ln
  ss f hf := by
    rcases List.mem_or_eq_of_mem_set hf with r | r
    · exact d.ss f r
    · rw [r]; exact hs
  ps := d.ps
  rd := d.rd
  inp := d.inp
  out := d.out
  nn := d.nn
structure KOk (K : Cg) : Prop where
  c : CodeOk K.c
  en : K.Es.map (·.1) = K.c.ens
  inp : K.inp.length ≤ 1000
  i64 : ∀ x ∈ K.inp, I64 x
  d1 : 1 ≤ K.dep
  d2 : K.dep ≤ 1000
  lim : K.lim ≤ 100000
theorem KOk.len {K : Cg} (h : KOk K) : K.Es.length = K.c.ens.length := by rw [← h.en, List.length_map]
theorem KOk.at_ {K : Cg} (h : KOk K) (i : Nat) (hi : i < K.Es.length) : enAt K.c.ens i = K.Es[i].1 := by
  unfold enAt
  rw [← h.en, List.getD_eq_getElem?_getD, List.getElem?_map, List.getElem?_eq_getElem hi]
  rfl
theorem KOk.start {K : Cg} (h : KOk K) (i : Nat) (hi : i < K.Es.length) : 0 ≤ K.Es[i].1.start ∧ K.Es[i].1.start < (K.c.ins.length : Int) := by
  rw [← h.at_ i hi]
  exact ⟨st_pos h.c.st i (by rw [← h.len]; exact hi), ((st_get h.c.st).2 i (by rw [← h.len]; exact hi)).1⟩
theorem KOk.rng {K : Cg} (h : KOk K) (i : Nat) (hi : i < K.Es.length) {p : Int} (hp : inM K i hi p = true) : ∃ q : Nat, p = (q : Int) ∧ q < K.c.ins.length := by
  unfold inM at hp
  simp only [Bool.and_eq_true, decide_eq_true_eq] at hp
  have h1 := h.start i hi
  have h2 : endM K i ≤ (K.c.ins.length : Int) := by
    unfold endM
    split
    · rename_i h3
      have := (h.start (i + 1) h3).2
      omega
    · omega
  exact ⟨p.toNat, by omega, by omega⟩
theorem KOk.ps {K : Cg} (h : KOk K) : ∀ E ∈ K.Es, 0 ≤ E.1.params ∧ E.1.params ≤ 8 ∧ E.1.params ≤ (E.1.sorts.length : Int) ∧ E.1.sorts.length ≤ 250 := fun E hE => by
  have : E.1 ∈ K.c.ens := by rw [← h.en]; exact List.mem_map_of_mem hE
  have := ent_ok.1 (h.c.es _ this)
  exact ⟨this.p0, this.p8, this.pl, this.sl⟩
theorem DoY.kp {w w' : World} {g : Nat} {K : Cg} {L : List Fm} {fv ov : Value} {F Q : Nat → Prop} {gf o : Nat} {z : Ending} {R : Except Int (Ms × Yd)} (h : DoY w w' g K L fv ov F Q gf o z R) (hg : foot L fv ov F gf) : Kp (foot L fv ov F) w w' := by
  cases R with
  | error t => exact ⟨h.2.kp.os, h.2.kp.tape, h.2.kp.output, h.2.kp.size, fun b hb hn => h.2.kp.block b hb fun q => hn (q ▸ hg)⟩
  | ok S =>
    obtain ⟨-, L', fv', ov', F', -, -, k⟩ := h
    exact k
theorem TopT.sets {w w' : World} {gf o B : Nat} (h : TopT w w' gf o) (hB : w.heap.size ≤ B) (hne : gf ≠ B) (j : Nat) (vs : List Value) : TopT w (w'.setCells B j vs) gf o := by
  obtain ⟨C, C', h1, h2, h3, h4⟩ := h.blk
  exact ⟨h.kp.setCells (.inr hB) vs j, C, C', h1, (sets_heap hne vs j w').trans h2, h3, h4⟩
theorem DoY.sets {w X w' : World} {g : Nat} {K : Cg} {S : Ms} {L L2 : List Fm} {fv ov : Value} {F Q : Nat → Prop} {gf o B : Nat} {z : Ending} {R : Except Int (Ms × Yd)} (hm : Mid w X g K L S L2 fv ov F Q gf o) (k : DoY X w' g K L2 fv ov F Q gf o z R) (hg : foot L2 fv ov F gf) (hB : w.heap.size ≤ B) (hX : B < X.heap.size) (hn : ¬ foot L2 fv ov F B) (hQ : ¬ Q B) (j : Nat) (vs : List Value) : DoY w (w'.setCells B j vs) g K L fv ov F Q gf o z R := by
  cases R with
  | error t => exact ⟨k.1, (hm.tt.trans k.2).sets hB (fun e => hn (e ▸ hg)) j vs⟩
  | ok r =>
    obtain ⟨k0, L', fv', ov', F', k1, k2, k3⟩ := k
    refine ⟨k0, L', fv', ov', F', k1.same (fun b hb => sets_heap (fun e => ?_) vs j w') (by rw [sets_size]; exact Nat.le_refl _), fun b hb => ?_, (hm.kp.trans k3 fun b hb hf => ?_).setCells (.inr hB) vs j⟩
    · subst e
      rcases hb with hb | hb
      · rcases k2 b hb with r | r
        · exact hn r
        · omega
      · exact hQ hb
    · rcases k2 b hb with r | r
      · exact hm.ft b r
      · exact .inr (Nat.le_trans hm.kp.size r)
    · rcases hm.ft b hf with r | r
      · exact r
      · omega
theorem ret_next {w : World} {B : Nat} {t : TypeId} {a b c d e : Value} {tr : Int} {tm : Array Value} (h : Full w B t [a, b, c, d, e]) (h2 : tm[2]?.getD undef = .pointer (some ⟨B, 0, none⟩)) (h3 : tm[3]?.getD undef = .int .i64 tr) :
    (results Tryz.f29 tm).run Tryz.prog w = .ok (.tuple #[.agg #[a, b, c, d, e], .int .i64 tr]) w := by
  simp [results, Tryz.results29, go_sem, h2, h3, (h.cell 0 a rfl).1, (h.cell 1 b rfl).1, (h.cell 2 c rfl).1, (h.cell 3 d rfl).1, (h.cell 4 e rfl).1]
set_option maxRecDepth 100000 in
set_option maxHeartbeats 4000000 in
theorem next_any {w : World} {g : Nat} {K : Cg} {S : Ms} {L : List Fm} {ov : Value} {F Q : Nat → Prop} {gf cap n : Nat} {m : Fm} (h : Now w w g K L ov F Q gf cap n S m) (hG : GloM w L (.slice (some ⟨gf, 0, none⟩) (n + 1) cap) ov F) (hK : KOk K) {i : Nat} (d : DoOk K S n m i) :
    Calls Tryz.prog 29 #[.pointer (some ⟨g, 0, none⟩)] w fun z w' => Hid (DoY w w' g K L (.slice (some ⟨gf, 0, none⟩) (n + 1) cap) ov F Q gf (n * 4) z (mnextS K S)) := by
  obtain ⟨L1, hM, hn1, hm1, hb1⟩ := h.mach
  have hl : S.fs.length = n + 1 := by rw [← hM.abs, List.length_map]; exact hn1
  have hlast : S.fs.getLast? = some m.f := by
    rw [List.getLast?_eq_getElem?, hl, ← hM.abs, List.getElem?_map, show n + 1 - 1 = n from rfl, hm1]
    rfl
  have hfi : m.f.fn.toNat = i := by rw [d.fn.1]; rfl
  unfold mnextS
  rw [hlast]
  show Calls _ _ _ _ fun z w' => Hid (DoY _ _ _ _ _ _ _ _ _ _ _ z (if hi : m.f.fn.toNat < K.Es.length then _ else _))
  rw [dif_pos (by rw [hfi]; exact d.fn.2.1), hl, show n + 1 - 1 = n from rfl]
  simp only [hfi]
  obtain ⟨L2, hlt2, hgf2, hsp⟩ := h.splitD
  have bX : Below w.heap.size w (w.alloc (.cells #[.int .i64 0, .bool false, .int .i64 0, .int .i64 0, .string Hp.e0] 54)) := (Below.refl _ w).alloc (Nat.le_refl _) _
  have fX := Full.new w #[.int .i64 0, .bool false, .int .i64 0, .int .i64 0, .string Hp.e0] 54
  have hXs : w.heap.size < (w.alloc (.cells #[.int .i64 0, .bool false, .int .i64 0, .int .i64 0, .string Hp.e0] 54)).heap.size := by simp
  obtain ⟨hN, hMid⟩ := hsp _ bX
  have hQ : ¬ Q w.heap.size := fun q => by have := hM.code.lt _ q; omega
  have hnB : ¬ foot L2 (.slice (some ⟨gf, 0, none⟩) (n + 1) cap) ov F w.heap.size := fun q => by have := hlt2 _ q; omega
  obtain ⟨X, hX⟩ : ∃ X, w.alloc (.cells #[.int .i64 0, .bool false, .int .i64 0, .int .i64 0, .string Hp.e0] 54) = X := ⟨_, rfl⟩
  rw [hX] at bX fX hXs hN hMid
  have H0 : Hid (Now X X g K L2 ov F Q gf cap n S m) := hN
  have HFY : Hid (∀ W z R, DoY X W g K L2 (.slice (some ⟨gf, 0, none⟩) (n + 1) cap) ov F Q gf (n * 4) z R → Full W w.heap.size 54 [.int .i64 0, .bool false, .int .i64 0, .int .i64 0, .string Hp.e0] ∧ ∀ vs, DoY w (W.setCells w.heap.size 0 vs) g K L (.slice (some ⟨gf, 0, none⟩) (n + 1) cap) ov F Q gf (n * 4) z R) := fun W z R q => ⟨((q.kp hgf2).block _ hXs hnB).trans fX, fun vs => DoY.sets hMid q hgf2 (Nat.le_refl _) hXs hnB hQ 0 vs⟩
  have HFC : Hid (∀ W, Now X W g K L2 ov F Q gf cap n S m → W.cell? ⟨gf, n * 4 + 1, none⟩ = some (.int .i64 m.f.pc) ∧ W.frozen? ⟨gf, n * 4 + 1, none⟩ = false ∧ W.cell? ⟨gf, n * 4 + 3, none⟩ = some m.tv) := fun W hW => ⟨hW.fc.2.1, hW.fc.2.2.2.2 _, hW.fc.2.2.2.1⟩
  have HIN : Hid (∀ W, Now X W g K L2 ov F Q gf cap n S m → Calls Tryz.prog 53 #[.pointer (some ⟨g, 0, none⟩), .int .i64 m.f.pc] W fun z w' => z = .returned (.bool (inM K i d.fn.2.1 m.f.pc)) ∧ Hid (Now X w' g K L2 ov F Q gf cap n S m)) := fun W hW => hW.inPiece d.fn m.f.pc
  cases hin : inM K i d.fn.2.1 m.f.pc with
  | false =>
    rw [if_neg (by decide)]
    rw [hin] at HIN
    clear hM h hG hK hN hMid hsp hlt2 hgf2 bX fX hXs hQ hnB
    go_enter Tryz.func29, Tryz.ntmps29
    go_wp2_with (first
      | (go_at_call 28; refine (Now.top H0.out).mono ?_; rintro z1 w1 ⟨rfl, H1⟩; clear H0; obtain ⟨c1, -, -⟩ := HFC.out w1 H1.out)
      | (go_at_call 53; refine (HIN.out w1 H1.out).mono ?_; rintro z2 w2 ⟨rfl, H2⟩; clear c1; obtain ⟨fB, hD⟩ := HFY.out _ _ _ (H2.out.errY 7); obtain ⟨y0, g0⟩ := fB.cell 0 _ rfl; obtain ⟨y1, g1⟩ := fB.cell 1 _ rfl; obtain ⟨y2, g2⟩ := fB.cell 2 _ rfl; obtain ⟨y3, g3⟩ := fB.cell 3 _ rfl; obtain ⟨y4, g4⟩ := fB.cell 4 _ rfl)
      | fail)
    refine bodyPost_ret (ret_next (B := w.heap.size) (t := 54) (Full.put (g := w.heap.size) [.int .i64 0, .bool false, .int .i64 0, .int .i64 0, .string Hp.e0] (a := []) (b := [.int .i64 0, .bool false, .int .i64 0, .int .i64 0, .string Hp.e0]) (d := []) fB rfl) rfl rfl) rfl ?_
    exact hD [.int .i64 0, .bool false, .int .i64 0, .int .i64 0, .string Hp.e0]
  | true =>
    rw [if_pos rfl]
    rw [hin] at HIN
    obtain ⟨p, hp, hpl⟩ := hK.rng i d.fn.2.1 hin
    have hgd : K.c.ins.getD m.f.pc.toNat (0, 0, 0) = K.c.ins[p] := by rw [hp, Int.toNat_natCast, List.getD_eq_getElem?_getD, List.getElem?_eq_getElem hpl]; rfl
    rw [hgd]
    have hins := hK.c.is _ (List.getElem_mem hpl)
    have HIC : Hid (∀ W, Now X W g K L2 ov F Q gf cap n S m → ∃ gi oi, W.cell? ⟨g, 0, none⟩ = some (.slice (some ⟨gi, oi, none⟩) K.c.ins.length K.ia) ∧ W.cell? ⟨gi, oi + p * 3, none⟩ = some (.int .i64 K.c.ins[p].1) ∧ W.cell? ⟨gi, oi + p * 3 + 1, none⟩ = some (.int .i64 K.c.ins[p].2.1) ∧ W.cell? ⟨gi, oi + p * 3 + 2, none⟩ = some (.int .i64 K.c.ins[p].2.2)) := fun W hW => by
      obtain ⟨L9, hM9, -, -, -⟩ := hW.mach
      obtain ⟨gi, oi, e, -, r0, r1, r2⟩ := hM9.code.ins p hpl
      exact ⟨gi, oi, by rw [← e]; exact hM9.k0, r0, r1, r2⟩
    have HGL : Hid (∀ W, Now X W g K L2 ov F Q gf cap n S m → ∀ k, k < 24 → W.cell? ⟨0, k, none⟩ = some (.int .i64 ((wantsT.getD k 0 : Nat) : Int))) := fun W hW => (hW.glo (hG.mid' hMid)).wants
    have HDO : Hid (∀ W, Now X W g K L2 ov F Q gf cap n (S.jump n m.f (m.f.pc + 1)) (m.at' (m.f.pc + 1)) → ∀ {op a b : Int}, insS (op, a, b) = true → wantsT.getD op.toNat 0 ≤ m.f.st.length → Calls Tryz.prog 54 #[.pointer (some ⟨g, 0, none⟩), .agg #[.int .i64 op, .int .i64 a, .int .i64 b]] W fun z w' => Hid (DoY X w' g K L2 (.slice (some ⟨gf, 0, none⟩) (n + 1) cap) ov F Q gf (n * 4) z (opS K (S.jump n m.f (m.f.pc + 1)) n { m.f with pc := m.f.pc + 1 } i d.fn.2.1 a b op.toNat))) := fun W hW op a b h1 h2 => by
      obtain ⟨L3, -, -, hsp3⟩ := hW.splitD
      obtain ⟨hN3, hMid3⟩ := hsp3 W (Below.refl _ _)
      have hs : m.f.st.length ≤ 400 := by obtain ⟨L8, hT8, -⟩ := hW; exact hT8.hs
      exact (do_any hN3 ((hG.mid' hMid).mid' hMid3) (d.jump _ hs) h1 h2).mono fun z w' q => DoY.after hMid3 q.out
    have hil : K.c.ins.length ≤ 60000 := hK.c.il
    obtain ⟨ni, hni⟩ : ∃ ni, K.c.ins.length = ni := ⟨_, rfl⟩
    rw [hni] at HIC hil
    have hpl2 : p < ni := by omega
    obtain ⟨x, hx⟩ : ∃ x, K.c.ins[p] = x := ⟨_, rfl⟩
    rw [hx] at HIC hins ⊢
    obtain ⟨op, a, b⟩ := x
    obtain ⟨ho0, ho1, -⟩ := ins_rng hins
    obtain ⟨o, rfl⟩ : ∃ o : Nat, op = (o : Int) := ⟨op.toNat, by omega⟩
    have HINS : Hid (insS ((o : Int), a, b) = true) := hins
    obtain ⟨wn, hwn⟩ : ∃ wn, wantsT.getD o 0 = wn := ⟨_, rfl⟩
    have HW1 : Hid (∀ W, Now X W g K L2 ov F Q gf cap n S m → W.cell? ⟨0, o, none⟩ = some (.int .i64 (wn : Int))) := fun W hW => by rw [← hwn]; exact HGL.out W hW o (by omega)
    obtain ⟨q, tc, etv, -, -⟩ := rown_slice (hM.rows m (List.mem_of_getElem? hm1)).2
    obtain ⟨sl, hsl⟩ : ∃ sl, m.f.st.length = sl := ⟨_, rfl⟩
    rw [etv, hsl] at HFC
    show Calls _ _ _ _ fun z w' => Hid (DoY _ _ _ _ _ _ _ _ _ _ _ z (if m.f.st.length < wantsT.getD (o : Int).toNat 0 then _ else opS K _ n _ i _ a b (o : Int).toNat))
    rw [Int.toNat_natCast, hwn, hsl]
    have hw1 : IntKind.i64.wrap ((p : Int) + 1) = ((p : Int) + 1) := by rw [IntKind.wrap_i64]; omega
    have p0 : (0 : Int) ≤ (p : Int) := by omega
    have p1 : (p : Int) < (ni : Int) := by omega
    have o0 : (0 : Int) ≤ (o : Int) := by omega
    have o1 : (o : Int) < 24 := by omega
    have hpc : m.f.pc + 1 = ((p : Int) + 1) := by omega
    have HPC : Hid _ := hpc
    rw [hp] at HFC HIN
    by_cases hlt : sl < wn
    · rw [if_pos hlt]
      have i1 : (sl : Int) < (wn : Int) := by omega
      clear hN hMid hsp hlt2 hgf2 bX fX hXs hQ hnB hM h hG hK hlt hgd hins hwn hsl hx hni hpl hpl2 hil HGL HDO ho0 ho1 hp hin hpc
      go_enter Tryz.func29, Tryz.ntmps29
      go_wp2_with (first
        | (go_at_call 28; refine (Now.top H0.out).mono ?_; rintro z1 w1 ⟨rfl, H1⟩; clear H0; obtain ⟨c1, -, -⟩ := HFC.out w1 H1.out)
        | (go_at_call 53; refine (HIN.out w1 H1.out).mono ?_; rintro z2 w2 ⟨rfl, H2⟩; clear c1; obtain ⟨c2, -, -⟩ := HFC.out w2 H2.out; obtain ⟨gi, oi, e0, e1, e2, e3⟩ := HIC.out w2 H2.out)
        | fail)
      have kd := fun {p : Addr} {u : Value} (q : w2.cell? p = some u) => (show w2.drew.cell? p = some u from q)
      have ka := fun {p : Addr} {u : Value} (q : w2.cell? p = some u) => (((Below.refl _ w2).alloc (Nat.le_refl _) (.cells #[.int .i64 0, .int .i64 0, .int .i64 0] 86)).cell (p := p) (block_lt_of_cell q)).trans q
      have fN := Full.new w2 #[.int .i64 0, .int .i64 0, .int .i64 0] 86
      have c2d := kd c2
      have e0d := kd e0
      have e1d := kd e1
      have e2d := kd e2
      have e3d := kd e3
      have c2a := ka c2
      have e0a := ka e0
      have e1a := ka e1
      have e2a := ka e2
      have e3a := ka e3
      obtain ⟨Z0, hZ0⟩ : ∃ Z0, w2.alloc (.cells #[.int .i64 0, .int .i64 0, .int .i64 0] 86) = Z0 := ⟨_, rfl⟩
      rw [hZ0] at c2a e0a e1a e2a e3a fN
      obtain ⟨n0, m0⟩ := fN.cell 0 _ rfl
      obtain ⟨n1, m1⟩ := fN.cell 1 _ rfl
      obtain ⟨n2, m2⟩ := fN.cell 2 _ rfl
      clear kd ka
      obtain ⟨W3, hW3⟩ : ∃ W3, (((Z0.setCell ⟨w2.heap.size, 0, none⟩ (.int .i64 (o : Int))).setCell ⟨w2.heap.size, 1, none⟩ (.int .i64 a)).setCell ⟨w2.heap.size, 2, none⟩ (.int .i64 b)).drew = W3 := ⟨_, rfl⟩
      have HW3 : Hid (Now X W3 g K L2 ov F Q gf cap n S m ∧ Full W3 w2.heap.size 86 [.int .i64 (o : Int), .int .i64 a, .int .i64 b]) := by
        have b3 : Below w2.heap.size w2 W3 := by
          rw [← hW3, ← hZ0]
          exact (((((Below.refl _ w2).alloc (Nat.le_refl _) _).setCell (p := ⟨w2.heap.size, 0, none⟩) (Nat.le_refl _) _).setCell (p := ⟨w2.heap.size, 1, none⟩) (Nat.le_refl _) _).setCell (p := ⟨w2.heap.size, 2, none⟩) (Nat.le_refl _) _).drew
        have f3 : Full W3 w2.heap.size 86 [.int .i64 (o : Int), .int .i64 a, .int .i64 b] := by
          rw [← hW3]
          exact Full.put (g := w2.heap.size) (t := 86) [.int .i64 (o : Int), .int .i64 a, .int .i64 b] (a := []) (b := [.int .i64 0, .int .i64 0, .int .i64 0]) (d := []) fN rfl
        exact ⟨H2.out.next b3, f3⟩
      clear fN
      go_region_law fail
      all_goals
        clear hW3 hZ0 c2 e0 e1 e2 e3 c2d e0d e1d e2d e3d c2a e0a e1a e2a e3a n0 n1 n2 m0 m1 m2
        obtain ⟨-, -, c3⟩ := HFC.out W3 HW3.out.1
        have x0 := (HW3.out.2.cell 0 _ rfl).1
        have cw := HW1.out W3 HW3.out.1
        go_wp2_with fail
        have yc := cell_regrown c3
        have yx := cell_regrown x0
        have yw := cell_regrown cw
        refine wp_region_quiet_below (by kernel_rfl) (by kernel_rfl) ?_
        repeat (first | go_big_quiet_step (first | fail) | quiet_step (first | fail))
        refine wpQuiet_nil ?_
        intro _ hw'
        obtain ⟨⟨dq, osq⟩, hw''⟩ := hw'
        subst hw''
        have hY := below_regrown W3 dq osq
        first | (change Exit.then _ _ Exit.normal _ (Sort.grow (redrawn W3 dq) osq)) | skip
        generalize Sort.grow (redrawn W3 dq) osq = Y at hY ⊢
        have HY : Hid _ := HW3.out.1.next hY
        have HYI : Hid (Full Y w2.heap.size 86 [.int .i64 (o : Int), .int .i64 a, .int .i64 b]) := HW3.out.2.next hY
        clear yc yx yw c3 x0 cw HW3 hY
        obtain ⟨fB, hD⟩ := HFY.out _ _ _ (HY.out.errY 7)
        obtain ⟨y0, g0⟩ := fB.cell 0 _ rfl
        obtain ⟨y1, g1⟩ := fB.cell 1 _ rfl
        obtain ⟨y2, g2⟩ := fB.cell 2 _ rfl
        obtain ⟨y3, g3⟩ := fB.cell 3 _ rfl
        obtain ⟨y4, g4⟩ := fB.cell 4 _ rfl
        go_wp2
        refine bodyPost_ret (ret_next (B := w.heap.size) (t := 54) (Full.put (g := w.heap.size) [.int .i64 0, .bool false, .int .i64 0, .int .i64 0, .string Hp.e0] (a := []) (b := [.int .i64 0, .bool false, .int .i64 0, .int .i64 0, .string Hp.e0]) (d := []) fB rfl) rfl rfl) rfl ?_
        exact hD [.int .i64 0, .bool false, .int .i64 0, .int .i64 0, .string Hp.e0]
    · rw [if_neg hlt]
      have i1 : ¬ ((sl : Int) < (wn : Int)) := by omega
      have HLE : Hid (wantsT.getD (o : Int).toNat 0 ≤ m.f.st.length) := by show _ ≤ _; rw [Int.toNat_natCast]; omega
      have HD2 : Hid (∀ W, Now X W g K L2 ov F Q gf cap n (S.jump n m.f (m.f.pc + 1)) (m.at' (m.f.pc + 1)) → Calls Tryz.prog 54 #[.pointer (some ⟨g, 0, none⟩), .agg #[.int .i64 (o : Int), .int .i64 a, .int .i64 b]] W fun z w' => Hid (DoY X w' g K L2 (.slice (some ⟨gf, 0, none⟩) (n + 1) cap) ov F Q gf (n * 4) z (opS K (S.jump n m.f (m.f.pc + 1)) n { m.f with pc := m.f.pc + 1 } i d.fn.2.1 a b o))) := fun W hW => by
        have := HDO.out W hW HINS.out HLE.out
        rwa [Int.toNat_natCast] at this
      generalize opS K (S.jump n m.f (m.f.pc + 1)) n { m.f with pc := m.f.pc + 1 } i d.fn.2.1 a b o = R at HD2 ⊢
      have HNE : Hid (∀ W, Now X W g K L2 ov F Q gf cap n S m → W.heap.size = gf → False) := fun W hW e => by
        obtain ⟨L9, hM9, hn9, -, -⟩ := hW.mach
        have := (hM9.fblk (by omega)).lt
        omega
      clear hN hMid hsp hlt2 hgf2 bX fX hXs hQ hnB hM h hG hK hlt hgd hins hwn hsl hx hni hpl hpl2 hil HGL ho0 ho1 hp hin hpc
      go_enter Tryz.func29, Tryz.ntmps29
      go_wp2_with (first
        | (go_at_call 28; refine (Now.top H0.out).mono ?_; rintro z1 w1 ⟨rfl, H1⟩; clear H0; obtain ⟨c1, -, -⟩ := HFC.out w1 H1.out)
        | (go_at_call 53; refine (HIN.out w1 H1.out).mono ?_; rintro z2 w2 ⟨rfl, H2⟩; clear c1; obtain ⟨c2, -, -⟩ := HFC.out w2 H2.out; obtain ⟨gi, oi, e0, e1, e2, e3⟩ := HIC.out w2 H2.out)
        | fail)
      have kd := fun {p : Addr} {u : Value} (q : w2.cell? p = some u) => (show w2.drew.cell? p = some u from q)
      have ka := fun {p : Addr} {u : Value} (q : w2.cell? p = some u) => (((Below.refl _ w2).alloc (Nat.le_refl _) (.cells #[.int .i64 0, .int .i64 0, .int .i64 0] 86)).cell (p := p) (block_lt_of_cell q)).trans q
      have fN := Full.new w2 #[.int .i64 0, .int .i64 0, .int .i64 0] 86
      have c2d := kd c2
      have e0d := kd e0
      have e1d := kd e1
      have e2d := kd e2
      have e3d := kd e3
      have c2a := ka c2
      have e0a := ka e0
      have e1a := ka e1
      have e2a := ka e2
      have e3a := ka e3
      obtain ⟨Z0, hZ0⟩ : ∃ Z0, w2.alloc (.cells #[.int .i64 0, .int .i64 0, .int .i64 0] 86) = Z0 := ⟨_, rfl⟩
      rw [hZ0] at c2a e0a e1a e2a e3a fN
      obtain ⟨n0, m0⟩ := fN.cell 0 _ rfl
      obtain ⟨n1, m1⟩ := fN.cell 1 _ rfl
      obtain ⟨n2, m2⟩ := fN.cell 2 _ rfl
      clear kd ka
      obtain ⟨W3, hW3⟩ : ∃ W3, (((Z0.setCell ⟨w2.heap.size, 0, none⟩ (.int .i64 (o : Int))).setCell ⟨w2.heap.size, 1, none⟩ (.int .i64 a)).setCell ⟨w2.heap.size, 2, none⟩ (.int .i64 b)).drew = W3 := ⟨_, rfl⟩
      have HW3 : Hid (Now X W3 g K L2 ov F Q gf cap n S m ∧ Full W3 w2.heap.size 86 [.int .i64 (o : Int), .int .i64 a, .int .i64 b]) := by
        have b3 : Below w2.heap.size w2 W3 := by
          rw [← hW3, ← hZ0]
          exact (((((Below.refl _ w2).alloc (Nat.le_refl _) _).setCell (p := ⟨w2.heap.size, 0, none⟩) (Nat.le_refl _) _).setCell (p := ⟨w2.heap.size, 1, none⟩) (Nat.le_refl _) _).setCell (p := ⟨w2.heap.size, 2, none⟩) (Nat.le_refl _) _).drew
        have f3 : Full W3 w2.heap.size 86 [.int .i64 (o : Int), .int .i64 a, .int .i64 b] := by
          rw [← hW3]
          exact Full.put (g := w2.heap.size) (t := 86) [.int .i64 (o : Int), .int .i64 a, .int .i64 b] (a := []) (b := [.int .i64 0, .int .i64 0, .int .i64 0]) (d := []) fN rfl
        exact ⟨H2.out.next b3, f3⟩
      clear fN
      go_region_law fail
      all_goals
        clear hW3 hZ0 c2 e0 e1 e2 e3 c2d e0d e1d e2d e3d c2a e0a e1a e2a e3a n0 n1 n2 m0 m1 m2
        obtain ⟨-, -, c3⟩ := HFC.out W3 HW3.out.1
        have x0 := (HW3.out.2.cell 0 _ rfl).1
        have cw := HW1.out W3 HW3.out.1
        go_wp2_with fail
        have yc := cell_regrown c3
        have yx := cell_regrown x0
        have yw := cell_regrown cw
        refine wp_region_quiet_below (by kernel_rfl) (by kernel_rfl) ?_
        repeat (first | go_big_quiet_step (first | fail) | quiet_step (first | fail))
        refine wpQuiet_nil ?_
        intro _ hw'
        obtain ⟨⟨dq, osq⟩, hw''⟩ := hw'
        subst hw''
        have hY := below_regrown W3 dq osq
        first | (change Exit.then _ _ Exit.normal _ (Sort.grow (redrawn W3 dq) osq)) | skip
        generalize Sort.grow (redrawn W3 dq) osq = Y at hY ⊢
        have HY : Hid _ := HW3.out.1.next hY
        have HYI : Hid (Full Y w2.heap.size 86 [.int .i64 (o : Int), .int .i64 a, .int .i64 b]) := HW3.out.2.next hY
        clear yc yx yw c3 x0 cw HW3 hY
        obtain ⟨c9, f9, -⟩ := HFC.out Y HY.out
        have HP : Hid (Now X (Y.setCell ⟨gf, n * 4 + 1, none⟩ (.int .i64 ((p : Int) + 1))) g K L2 ov F Q gf cap n (S.jump n m.f (m.f.pc + 1)) (m.at' (m.f.pc + 1))) := by
          show Now _ _ _ _ _ _ _ _ _ _ _ _ _
          rw [← HPC.out]
          exact HY.out.place _
        have HZI : Hid (Full (Y.setCell ⟨gf, n * 4 + 1, none⟩ (.int .i64 ((p : Int) + 1))) w2.heap.size 86 [.int .i64 (o : Int), .int .i64 a, .int .i64 b]) := HYI.out.other1 (show w2.heap.size ≠ gf from fun e => HNE.out w2 H2.out e)
        obtain ⟨z0, -⟩ := HZI.out.cell 0 _ rfl
        obtain ⟨z1, -⟩ := HZI.out.cell 1 _ rfl
        obtain ⟨z2, -⟩ := HZI.out.cell 2 _ rfl
        have dD := HD2.out _ HP.out
        go_wp2_with (first
          | (go_at_call 54; refine dD.mono ?_; intro z3 w3 H3; obtain ⟨r0, r1, r2, r3, r4, rt, e3⟩ := DoY.ret H3.out; subst e3; obtain ⟨fB, hD⟩ := HFY.out _ _ _ H3.out; obtain ⟨y0, g0⟩ := fB.cell 0 _ rfl; obtain ⟨y1, g1⟩ := fB.cell 1 _ rfl; obtain ⟨y2, g2⟩ := fB.cell 2 _ rfl; obtain ⟨y3, g3⟩ := fB.cell 3 _ rfl; obtain ⟨y4, g4⟩ := fB.cell 4 _ rfl)
          | fail)
        refine bodyPost_ret (ret_next (B := w.heap.size) (t := 54) (Full.put (g := w.heap.size) [.int .i64 r0, .bool r1, .int .i64 r2, .int .i64 r3, .string r4] (a := []) (b := [.int .i64 0, .bool false, .int .i64 0, .int .i64 0, .string Hp.e0]) (d := []) fB rfl) rfl rfl) rfl ?_
        exact hD [.int .i64 r0, .bool r1, .int .i64 r2, .int .i64 r3, .string r4]
end Go.Proofs.YtahdkffijlfmnaaGreatDoor

namespace Go.Proofs.YtahdkffijlfmnaaGreatDoor
open Go.RowKit
open Hp (V vc vcs)
structure FrOk (K : Cg) (f : Fr) : Prop where
  fn : ∃ i : Nat, f.fn = (i : Int) ∧ ∃ h : i < K.Es.length, f.sl.length = K.Es[i].1.sorts.length
  st : ∀ v ∈ f.st, VOk v
  sl : ∀ v ∈ f.sl, VOk v
  ln : f.st.length ≤ 400
structure StOk (K : Cg) (S : Ms) : Prop where
  fr : ∀ f ∈ S.fs, FrOk K f
  hp : ∀ a ∈ S.hp, ∀ v ∈ a.2, VOk v
  rd : S.rd ≤ K.inp.length
  dp : (S.fs.length : Int) ≤ K.dep
  s0 : 0 ≤ S.steps
  s1 : S.steps ≤ 4611686018427387904
theorem StOk.doOk {K : Cg} {S : Ms} (h : StOk K S) (hK : KOk K) {n : Nat} {m : Fm} (hm : m.f ∈ S.fs) (hn : S.fs.length = n + 1) (ho : S.out.length ≤ 900000000) : ∃ i, DoOk K S n m i := by
  obtain ⟨i, h1, h2, h3⟩ := (h.fr _ hm).fn
  have hl := hK.len
  have he := hK.c.el
  have hd := h.dp
  have hd2 := hK.d2
  have hi := hK.inp
  exact ⟨i, ⟨h1, h2, by omega⟩, (h.fr _ hm).st, (h.fr _ hm).sl, h3, fun f hf => (h.fr f hf).ln, hK.ps, h.rd, by omega, ho, by omega⟩
set_option maxHeartbeats 1000000 in
theorem MachM.back {w w' : World} {g : Nat} {K : Cg} {S : Ms} {L : List Fm} {ov : Value} {F Q : Nat → Prop} {gf cap n : Nat} {m : Fm} (h : TopM w g K S L ov F Q gf cap n m) (k : TopT w w' gf (n * 4)) :
    MachM (w'.setCells gf (n * 4) (fmc m)) g K S L (.slice (some ⟨gf, 0, none⟩) (n + 1) cap) ov F Q ∧ (w'.setCells gf (n * 4) (fmc m)).heap[gf]? = w.heap[gf]? := by
  obtain ⟨C, C', h1, h2, h3, h4⟩ := k.blk
  obtain ⟨c0, c1, c2, c3, -⟩ := h.now.fc
  have cc : ∀ j v, w.cell? ⟨gf, j, none⟩ = some v → C[j]? = some v := fun j v hv => by
    simpa [World.cell?, h1] using hv
  have e : (w'.setCells gf (n * 4) (fmc m)).heap[gf]? = w.heap[gf]? := by
    have s1 := set_blk (j := n * 4) h2 (.int .i64 m.f.fn)
    have s2 := set_blk (j := n * 4 + 1) s1 (.int .i64 m.f.pc)
    have s3 := set_blk (j := n * 4 + 1 + 1) s2 m.sv
    have s4 := set_blk (j := n * 4 + 1 + 1 + 1) s3 m.tv
    have e0 : w'.setCells gf (n * 4) (fmc m) = (((w'.setCell ⟨gf, n * 4, none⟩ (.int .i64 m.f.fn)).setCell ⟨gf, n * 4 + 1, none⟩ (.int .i64 m.f.pc)).setCell ⟨gf, n * 4 + 1 + 1, none⟩ m.sv).setCell ⟨gf, n * 4 + 1 + 1 + 1, none⟩ m.tv := rfl
    rw [e0, s4, h1]
    congr 2
    apply Array.ext'
    apply List.ext_getElem?
    intro j
    simp only [Array.set!_eq_setIfInBounds, Array.toList_setIfInBounds, List.getElem?_set, Array.getElem?_toList, List.length_set, Array.length_toList]
    have q0 := cc _ _ c0
    have q1 := cc _ _ c1
    have q2 := cc _ _ c2
    have q3 := cc _ _ c3
    have hlt : ∀ j v, C[j]? = some v → j < C'.size := fun j v hv => by
      rcases Nat.lt_or_ge j C.size with r | r
      · omega
      · rw [Array.getElem?_eq_none r] at hv; cases hv
    by_cases j3 : n * 4 + 1 + 1 + 1 = j
    · subst j3; rw [if_pos rfl, if_pos (hlt _ _ q3)]; exact q3.symm
    rw [if_neg j3]
    by_cases j2 : n * 4 + 1 + 1 = j
    · subst j2; rw [if_pos rfl, if_pos (hlt _ _ q2)]; exact q2.symm
    rw [if_neg j2]
    by_cases j1 : n * 4 + 1 = j
    · subst j1; rw [if_pos rfl, if_pos (hlt _ _ q1)]; exact q1.symm
    rw [if_neg j1]
    by_cases j0 : n * 4 = j
    · subst j0; rw [if_pos rfl, if_pos (hlt _ _ q0)]; exact q0.symm
    rw [if_neg j0]
    exact h4 j (by omega) (by omega)
  refine ⟨h.h.same (fun b hb => ?_) (by rw [sets_size]; exact k.kp.size), e⟩
  by_cases hbg : b = gf
  · rw [hbg]; exact e
  · exact (sets_heap hbg _ _ _).trans (k.kp.block b (h.h.lt b hb) hbg)
theorem WentM.fin {w W w2 w3 : World} {g : Nat} {K : Cg} {S' : Ms} {L : List Fm} {fv ov : Value} {F Q : Nat → Prop} {B : Nat} (hkW : Kp (foot L fv ov F) w W) (h : WentM W w2 g K S' L fv ov F Q) (hlt : ∀ b, foot L fv ov F b ∨ Q b → b < w.heap.size) (hB : w.heap.size ≤ B) (hX : B < W.heap.size) (hk : Kp (fun x => x = B) w2 w3) : WentM w w3 g K S' L fv ov F Q := by
  obtain ⟨L', fv', ov', F', k1, k2, k3⟩ := h
  refine ⟨L', fv', ov', F', k1.kept hk fun b hb e => ?_, fun b hb => ?_, (hkW.trans k3 fun _ _ q => q).trans hk fun i hi e => ?_⟩
  · subst e
    rcases hb with hb | hb
    · rcases k2 b hb with r | r
      · have := hlt b (.inl r)
        omega
      · omega
    · have := hlt b (.inr hb)
      omega
  · rcases k2 b hb with r | r
    · exact .inl r
    · exact .inr (Nat.le_trans hkW.size r)
  · omega
theorem TopT.ex {w w' : World} {gf o j : Nat} {v : Value} (h : TopT w w' gf o) (hc : w.cell? ⟨gf, j, none⟩ = some v) : (∃ u, w'.cell? ⟨gf, j, none⟩ = some u) ∧ w'.frozen? ⟨gf, j, none⟩ = false := by
  obtain ⟨C, C', h1, h2, h3, -⟩ := h.blk
  have hj : j < C.size := by
    rcases Nat.lt_or_ge j C.size with r | r
    · exact r
    · have : C[j]? = some v := by simpa [World.cell?, h1] using hc
      rw [Array.getElem?_eq_none r] at this; cases this
  have := blk_cell h2 j C'[j] (Array.getElem?_eq_getElem (by omega))
  exact ⟨⟨_, this.1⟩, this.2⟩
theorem ret_step {w : World} {B : Nat} {t : TypeId} {a b c d e : Value} {tr : Bool} {tm : Array Value} (h : Full w B t [a, b, c, d, e]) (h2 : tm[2]?.getD undef = .pointer (some ⟨B, 0, none⟩)) (h3 : tm[3]?.getD undef = .bool tr) :
    (results Tryz.f12 tm).run Tryz.prog w = .ok (.tuple #[.agg #[a, b, c, d, e], .bool tr]) w := by
  simp [results, Tryz.results12, go_sem, h2, h3, (h.cell 0 a rfl).1, (h.cell 1 b rfl).1, (h.cell 2 c rfl).1, (h.cell 3 d rfl).1, (h.cell 4 e rfl).1]
theorem push_err {S : Ms} {n : Nat} {f : Fr} {v : V} {t : Int} (h : doPush S n f v = .error t) : t = 7 := by
  unfold doPush pushS at h
  split at h
  · cases h; rfl
  · cases h
theorem plain_err {R : Except Int Ms} {t : Int} (h : plainYd R = .error t) : R = .error t := by
  cases R with
  | error e => cases h; rfl
  | ok r => cases h
theorem pushOr_err {S : Ms} {n : Nat} {f : Fr} {r : V × Int} {t : Int} (h : doPushOr S n f r = .error t) : t ≠ 0 := by
  unfold doPushOr at h
  split at h
  · rw [push_err h]; decide
  · rename_i hn
    cases h
    exact hn
theorem op_err {K : Cg} {S : Ms} {n : Nat} {f : Fr} {i : Nat} {hi : i < K.Es.length} {a b : Int} {o : Nat} {t : Int} (h : opS K S n f i hi a b o = .error t) : t ≠ 0 := by
  unfold opS at h
  split at h
  · rw [push_err (plain_err h)]; decide
  · rw [push_err (plain_err h)]; decide
  · have h := plain_err h
    unfold doTextS at h
    split at h
    · rw [push_err h]; decide
    · cases h; decide
  · have h := plain_err h
    unfold doLoadS at h
    split at h
    · rw [push_err h]; decide
    · cases h; decide
  · have h := plain_err h
    unfold doStoreS at h
    split at h
    · cases h
    · cases h; decide
  · cases h
  · exact pushOr_err (plain_err h)
  · exact pushOr_err (plain_err h)
  · have h := plain_err h
    unfold doJumpS at h
    split at h
    · cases h
    · cases h; decide
  · have h := plain_err h
    unfold doFalseS doJumpS at h
    split at h
    · split at h
      · split at h
        · cases h
        · cases h; decide
      · cases h
    · cases h; decide
  · have h := plain_err h
    unfold doCallS at h
    split at h
    · split at h
      · cases h; decide
      · split at h
        · cases h; decide
        · split at h
          · cases h; decide
          · cases h
    · cases h; decide
  · have h := plain_err h
    unfold doRetS at h
    split at h
    · cases h; decide
    · split at h
      · cases h; decide
      · split at h
        · cases h; decide
        · cases h
  · have h := plain_err h
    unfold doDoneS at h
    split at h
    · cases h
    · cases h; decide
  · have h := plain_err h
    unfold doNewS at h
    split at h
    · exact pushOr_err h
    · cases h; decide
  · have h := plain_err h
    unfold doGetS at h
    split at h
    · exact pushOr_err h
    · split at h
      · exact pushOr_err h
      · cases h; decide
  · have h := plain_err h
    unfold doPutS at h
    split at h
    · split at h
      · cases h
      · rename_i hn
        cases h
        exact hn
    · cases h; decide
  · have h := plain_err h
    unfold doLenS at h
    split at h
    · rw [push_err h]; decide
    · exact pushOr_err h
  · have h := plain_err h
    unfold doStrS at h
    split at h
    · rw [push_err h]; decide
    · cases h; decide
  · have h := plain_err h
    unfold doPrintS at h
    split at h
    · cases h; decide
    · split at h
      · cases h; decide
      · cases h
  · have h := plain_err h
    unfold doReadS at h
    split at h
    · cases hp : doPush S n f (1, K.inp[S.rd], Hp.e0) with
      | error e =>
        rw [hp] at h
        cases h
        rw [push_err hp]; decide
      | ok r => rw [hp] at h; cases h
    · cases h; decide
  · cases h
  · split at h
    · cases h
    · cases h; decide
  · cases h
  · cases h
theorem next_err {K : Cg} {S : Ms} {t : Int} (h : mnextS K S = .error t) : t ≠ 0 := by
  unfold mnextS at h
  split at h
  · cases h; decide
  · split at h
    · split at h
      · split at h
        · cases h; decide
        · exact op_err h
      · cases h; decide
    · cases h; decide
set_option maxRecDepth 100000 in
set_option maxHeartbeats 4000000 in
theorem step_any {w : World} {g : Nat} {K : Cg} {S : Ms} {L : List Fm} {fv ov : Value} {F Q : Nat → Prop} (h : MachM w g K S L fv ov F Q) (hG : GloM w L fv ov F) (hK : KOk K) (hS : StOk K S) (ho : S.out.length ≤ 900000000) :
    Calls Tryz.prog 12 #[.pointer (some ⟨g, 0, none⟩)] w fun z w' => z = .returned (.tuple #[ydV (mstepS K S).2.1, .bool (mstepS K S).2.2]) ∧ Hid (WentM w w' g K (mstepS K S).1 L fv ov F Q) := by
  have bX : Below w.heap.size w (w.alloc (.cells #[.int .i64 0, .bool false, .int .i64 0, .int .i64 0, .string Hp.e0] 54)) := (Below.refl _ w).alloc (Nat.le_refl _) _
  have fX := Full.new w #[.int .i64 0, .bool false, .int .i64 0, .int .i64 0, .string Hp.e0] 54
  have hXs : (w.alloc (.cells #[.int .i64 0, .bool false, .int .i64 0, .int .i64 0, .string Hp.e0] 54)).heap.size = w.heap.size + 1 := by simp
  obtain ⟨X, hX⟩ : ∃ X, w.alloc (.cells #[.int .i64 0, .bool false, .int .i64 0, .int .i64 0, .string Hp.e0] 54) = X := ⟨_, rfl⟩
  rw [hX] at bX fX hXs
  have hMX := h.next bX
  have c15 := hMX.k15
  have c7 := hMX.k7
  have c14 := hMX.k14
  have g14 := hMX.un 14
  obtain ⟨y0, g0⟩ := fX.cell 0 _ rfl
  obtain ⟨y1, g1⟩ := fX.cell 1 _ rfl
  obtain ⟨y2, g2⟩ := fX.cell 2 _ rfl
  obtain ⟨y3, g3⟩ := fX.cell 3 _ rfl
  obtain ⟨y4, g4⟩ := fX.cell 4 _ rfl
  obtain ⟨fq, fcap, hfv, hfc, hfr⟩ := rown_slice h.fr
  have hll : L.length = S.fs.length := by rw [← h.abs, List.length_map]
  have HEND : Hid (WentM w X g K S L fv ov F Q ∧ Full X w.heap.size 54 [.int .i64 0, .bool false, .int .i64 0, .int .i64 0, .string Hp.e0]) := ⟨⟨L, fv, ov, F, hMX, fun b hb => .inl hb, Kp.of bX⟩, fX⟩
  by_cases hph : S.ph = 0
  · by_cases hfs : S.fs = []
    · have hms : mstepS K S = (S, yd0, false) := by unfold mstepS; rw [if_neg (fun q => q.2 hfs)]
      rw [hms]
      rw [hfs] at hll
      rw [hfv, hll] at c7
      rw [hph] at c15
      clear hms h hG hK hS ho hfr hMX bX fX c14 g14
      go_enter Tryz.func12, Tryz.ntmps12
      go_wp2
      rw [five_self HEND.out.2]
      refine bodyPost_ret (ret_step HEND.out.2 rfl rfl) rfl ⟨rfl, HEND.out.1⟩
    · obtain ⟨n, hn⟩ : ∃ n, S.fs.length = n + 1 := ⟨S.fs.length - 1, by
        have : S.fs.length ≠ 0 := fun e => hfs (List.eq_nil_of_length_eq_zero e)
        omega⟩
      obtain ⟨gf, rfl, -⟩ := hfr (by omega)
      have hLn : L.length = n + 1 := by omega
      obtain ⟨m, hm⟩ : ∃ m, L[n]? = some m := ⟨L[n], List.getElem?_eq_getElem (by omega)⟩
      rw [hLn] at hfv
      rw [hfv] at c7 h hMX hG HEND ⊢
      rw [hph] at c15
      obtain ⟨n1, hn1⟩ : ∃ n1, n + 1 = n1 := ⟨_, rfl⟩
      have HN1 : Hid _ := hn1
      rw [hn1] at c7
      have k1 : ((n1 : Int) == 0) = false := by rw [beq_eq_false_iff_ne]; omega
      have k2 : ¬ ((n1 : Int) = 0) := by omega
      have hs0 := hS.s0
      have hs1 := hS.s1
      have hw1 : IntKind.i64.wrap (S.steps + 1) = S.steps + 1 := by rw [IntKind.wrap_i64]; omega
      obtain ⟨st, hst⟩ : ∃ st, min (S.steps + 1) 4611686018427387904 = st := ⟨_, rfl⟩
      have HMS : Hid (mstepS K S = match mnextS K { S with steps := st } with | .error t => ({ S with steps := st, ph := 2, tr := t }, yd0, false) | .ok r => (r.1, r.2, r.2.1 != 0)) := by
        show _ = _
        unfold mstepS
        rw [if_pos ⟨hph, hfs⟩, hst]
        rfl
      obtain ⟨i, hDO⟩ := StOk.doOk (S := { S with steps := st }) (m := m) (n := n) ⟨hS.fr, hS.hp, hS.rd, hS.dp, by show 0 ≤ st; omega, by show st ≤ _; omega⟩ hK (by rw [← h.abs]; exact List.mem_map_of_mem (List.mem_of_getElem? hm)) hn ho
      obtain ⟨hM1, hk1⟩ := hMX.stepped st
      obtain ⟨X1, hX1⟩ : ∃ X1, X.setCell ⟨g, 14, none⟩ (.int .i64 st) = X1 := ⟨_, rfl⟩
      rw [hX1] at hM1 hk1
      have hkw : Kp (foot L (.slice (some ⟨gf, 0, none⟩) (n + 1) fcap) ov F) w X1 := (Kp.of bX).trans hk1 fun _ _ q => q
      have hs400 : m.f.st.length ≤ 400 := hDO.ss m.f (by show m.f ∈ S.fs; rw [← h.abs]; exact List.mem_map_of_mem (List.mem_of_getElem? hm))
      have HTM : Hid (∀ W, Below X1.heap.size X1 W → TopM W g K { S with steps := st } L ov F Q gf fcap n m) := fun W b => ⟨hM1.next b, hLn, hm, by have := hS.dp; have := hK.d2; omega, hs400⟩
      have HNX : Hid (∀ W, Below X1.heap.size X1 W → Calls Tryz.prog 29 #[.pointer (some ⟨g, 0, none⟩)] W fun z w' => Hid (DoY W w' g K L (.slice (some ⟨gf, 0, none⟩) (n + 1) fcap) ov F Q gf (n * 4) z (mnextS K { S with steps := st }))) := fun W b => next_any (HTM.out W b).now ⟨(hG.1.kept hkw hG.2).next b, hG.2⟩ hK hDO
      obtain ⟨sq, sc, esv, -, -⟩ := rown_slice (hM1.rows m (List.mem_of_getElem? hm)).1
      obtain ⟨tq, tc, etv, -, -⟩ := rown_slice (hM1.rows m (List.mem_of_getElem? hm)).2
      have HSV : Hid (m.sv = .slice sq m.f.sl.length sc ∧ m.tv = .slice tq m.f.st.length tc) := ⟨esv, etv⟩
      have HTZ : Hid (∀ t, mnextS K { S with steps := st } = .error t → t ≠ 0) := fun t ht => next_err ht
      have HLT : Hid (∀ b, foot L (.slice (some ⟨gf, 0, none⟩) (n + 1) fcap) ov F b ∨ Q b → b < w.heap.size) := h.lt
      have HKW : Hid _ := hkw
      have hzX : X1.heap.size = w.heap.size + 1 := by rw [← hX1, set_size]; exact hXs
      have hgl : g < w.heap.size := h.heap.blk.1.lt
      have HF1 : Hid (Full X1 w.heap.size 54 [.int .i64 0, .bool false, .int .i64 0, .int .i64 0, .string Hp.e0]) := by
        show Full _ _ _ _
        rw [← hX1]
        exact fX.other1 (show w.heap.size ≠ g by omega)
      clear esv etv h hG hK hS ho hfv hMX hM1 hk1 hkw hDO HEND hfs fX bX
      cases hR : mnextS K { S with steps := st } with
      | ok r =>
        rw [hR] at HNX HMS
        rw [HMS.out]
        obtain ⟨S', hk, hh, v⟩ := r
        go_enter Tryz.func12, Tryz.ntmps12
        go_wp2_with (first
          | (go_at_call 28; refine (top_any (HTM.out X1 (Below.refl _ _)).h.k7 (HTM.out X1 (Below.refl _ _)).hb).mono ?_; rintro z1 w1 ⟨rfl, hb1⟩; obtain ⟨f0, f1, f2, f3, -⟩ := (HTM.out w1 hb1).now.fc; rw [HSV.out.1] at f2; rw [HSV.out.2] at f3)
          | fail)
        have hbW : Below X1.heap.size X1 (w1.alloc (.cells #[.int .i64 m.f.fn, .int .i64 m.f.pc, .slice sq m.f.sl.length sc, .slice tq m.f.st.length tc] 89)) := below2 hb1 ((Below.refl _ w1).alloc (Nat.le_refl _) _)
        have hW2 : w.heap.size < (w1.alloc (.cells #[.int .i64 m.f.fn, .int .i64 m.f.pc, .slice sq m.f.sl.length sc, .slice tq m.f.st.length tc] 89)).heap.size := by have := hbW.size; omega
        clear f0 f1 f2 f3
        generalize w1.alloc (.cells #[.int .i64 m.f.fn, .int .i64 m.f.pc, .slice sq m.f.sl.length sc, .slice tq m.f.st.length tc] 89) = W at hbW hW2 ⊢
        refine (HNX.out W hbW).mono ?_
        intro z2 w2 H2
        obtain ⟨e2, H3⟩ := H2.out
        have hfg : foot L (.slice (some ⟨gf, 0, none⟩) (n + 1) fcap) ov F gf := .inr (.inl ((HTM.out W hbW).h.fob (by omega)))
        have f4 : Full w2 w.heap.size 54 [.int .i64 0, .bool false, .int .i64 0, .int .i64 0, .string Hp.e0] := ((H2.out.kp hfg).block _ hW2 fun q => by have := HLT.out _ (.inl q); omega).trans (HF1.out.next hbW)
        have HW : Hid _ := H3
        have HKP : Hid (Kp (foot L (.slice (some ⟨gf, 0, none⟩) (n + 1) fcap) ov F) w W) := HKW.out.next hbW
        subst e2
        unfold ydV yl
        clear H2 H3 hfg
        have f5 : Full (w2.alloc (.cells #[.int .i64 hk, .bool hh, .int .i64 v.1, .int .i64 v.2.1, .string v.2.2] 54)) w.heap.size 54 [.int .i64 0, .bool false, .int .i64 0, .int .i64 0, .string Hp.e0] := f4.next ((Below.refl _ w2).alloc (Nat.le_refl _) _)
        have HZ : Hid (Kp (fun x => x = w.heap.size) w2 (w2.alloc (.cells #[.int .i64 hk, .bool hh, .int .i64 v.1, .int .i64 v.2.1, .string v.2.2] 54))) := Kp.of ((Below.refl _ w2).alloc (Nat.le_refl _) _)
        obtain ⟨y0, g0⟩ := f5.cell 0 _ rfl
        obtain ⟨y1, g1⟩ := f5.cell 1 _ rfl
        obtain ⟨y2, g2⟩ := f5.cell 2 _ rfl
        obtain ⟨y3, g3⟩ := f5.cell 3 _ rfl
        obtain ⟨y4, g4⟩ := f5.cell 4 _ rfl
        have hb2 : w.heap.size < w2.heap.size := f4.lt
        go_wp2_with fail
        have f6 := Full.new w2 #[.int .i64 hk, .bool hh, .int .i64 v.1, .int .i64 v.2.1, .string v.2.2] 54
        obtain ⟨Z, hZ⟩ : ∃ Z, w2.alloc (.cells #[.int .i64 hk, .bool hh, .int .i64 v.1, .int .i64 v.2.1, .string v.2.2] 54) = Z := ⟨_, rfl⟩
        rw [hZ] at f5 f6 HZ y0 y1 y2 y3 y4 g0 g1 g2 g3 g4 ⊢
        obtain ⟨l0, -⟩ := f6.cell 0 _ rfl
        obtain ⟨l1, -⟩ := f6.cell 1 _ rfl
        obtain ⟨l2, -⟩ := f6.cell 2 _ rfl
        obtain ⟨l3, -⟩ := f6.cell 3 _ rfl
        obtain ⟨l4, -⟩ := f6.cell 4 _ rfl
        have l0d : Z.drew.cell? ⟨w2.heap.size, 0, none⟩ = some (.int .i64 hk) := l0
        have l1d : Z.drew.cell? ⟨w2.heap.size, 1, none⟩ = some (.bool hh) := l1
        have l2d : Z.drew.cell? ⟨w2.heap.size, 2, none⟩ = some (.int .i64 v.1) := l2
        have l3d : Z.drew.cell? ⟨w2.heap.size, 3, none⟩ = some (.int .i64 v.2.1) := l3
        have l4d : Z.drew.cell? ⟨w2.heap.size, 4, none⟩ = some (.string v.2.2) := l4
        obtain ⟨E, hE⟩ : ∃ E, (((((Z.setCell ⟨w.heap.size, 0, none⟩ (.int .i64 hk)).setCell ⟨w.heap.size, 1, none⟩ (.bool hh)).setCell ⟨w.heap.size, 2, none⟩ (.int .i64 v.1)).setCell ⟨w.heap.size, 3, none⟩ (.int .i64 v.2.1)).setCell ⟨w.heap.size, 4, none⟩ (.string v.2.2)) = E := ⟨_, rfl⟩
        have f7 : Full E w2.heap.size 54 [.int .i64 hk, .bool hh, .int .i64 v.1, .int .i64 v.2.1, .string v.2.2] := by
          rw [← hE]
          exact Full.other (b := w.heap.size) (o := 0) (us := [.int .i64 hk, .bool hh, .int .i64 v.1, .int .i64 v.2.1, .string v.2.2]) f6 (by omega)
        have f8 : Full E w.heap.size 54 [.int .i64 hk, .bool hh, .int .i64 v.1, .int .i64 v.2.1, .string v.2.2] := by
          rw [← hE]
          exact Full.put (g := w.heap.size) (t := 54) [.int .i64 hk, .bool hh, .int .i64 v.1, .int .i64 v.2.1, .string v.2.2] (a := []) (b := [.int .i64 0, .bool false, .int .i64 0, .int .i64 0, .string Hp.e0]) (d := []) f5 rfl
        obtain ⟨p0, -⟩ := f7.cell 0 _ rfl
        have p0d : E.drew.cell? ⟨w2.heap.size, 0, none⟩ = some (.int .i64 hk) := p0
        have HFE : Hid (Full E.drew w.heap.size 54 [.int .i64 hk, .bool hh, .int .i64 v.1, .int .i64 v.2.1, .string v.2.2] ∧ WentM w E.drew g K S' L (.slice (some ⟨gf, 0, none⟩) (n + 1) fcap) ov F Q) := by
          refine ⟨f8, WentM.fin HKP.out HW.out HLT.out (Nat.le_refl _) hW2 ?_⟩
          have : Kp (fun x => x = w.heap.size) w2 E := by
            rw [← hE]
            exact Kp.setCells (F := fun x => x = w.heap.size) (B := w.heap.size) (.inl rfl) [.int .i64 hk, .bool hh, .int .i64 v.1, .int .i64 v.2.1, .string v.2.2] 0 HZ.out
          exact this.next (Below.refl _ E).drew
        clear f4 f5 f6 f7 f8 HZ HW HKP
        go_region_law fail
        all_goals
          clear l0 l1 l2 l3 l4 l0d l1d l2d l3d l4d y0 y1 y2 y3 y4 g0 g1 g2 g3 g4 p0 p0d
          go_wp2
          refine bodyPost_ret (ret_step HFE.out.1 rfl rfl) rfl ⟨rfl, HFE.out.2⟩
      | error t =>
        rw [hR] at HNX HMS
        rw [HMS.out]
        have HT0 : Hid (t ≠ 0) := HTZ.out t hR
        go_enter Tryz.func12, Tryz.ntmps12
        go_wp2_with (first
          | (go_at_call 28; refine (top_any (HTM.out X1 (Below.refl _ _)).h.k7 (HTM.out X1 (Below.refl _ _)).hb).mono ?_; rintro z1 w1 ⟨rfl, hb1⟩; obtain ⟨f0, f1, f2, f3, -⟩ := (HTM.out w1 hb1).now.fc; rw [HSV.out.1] at f2; rw [HSV.out.2] at f3)
          | fail)
        have hbW : Below X1.heap.size X1 (w1.alloc (.cells #[.int .i64 m.f.fn, .int .i64 m.f.pc, .slice sq m.f.sl.length sc, .slice tq m.f.st.length tc] 89)) := below2 hb1 ((Below.refl _ w1).alloc (Nat.le_refl _) _)
        have hW2 : w.heap.size < (w1.alloc (.cells #[.int .i64 m.f.fn, .int .i64 m.f.pc, .slice sq m.f.sl.length sc, .slice tq m.f.st.length tc] 89)).heap.size := by have := hbW.size; omega
        have fBf := Full.new w1 #[.int .i64 m.f.fn, .int .i64 m.f.pc, .slice sq m.f.sl.length sc, .slice tq m.f.st.length tc] 89
        have hw1s : w.heap.size < w1.heap.size := by have := hb1.size; omega
        clear f0 f1 f2 f3
        generalize w1.alloc (.cells #[.int .i64 m.f.fn, .int .i64 m.f.pc, .slice sq m.f.sl.length sc, .slice tq m.f.st.length tc] 89) = W at hbW hW2 fBf ⊢
        refine (HNX.out W hbW).mono ?_
        intro z2 w2 H2
        obtain ⟨e2, H3⟩ := H2.out
        have hT := HTM.out W hbW
        have hgfl : gf < w.heap.size := HLT.out gf (.inl (.inr (.inl (hT.h.fob (by omega)))))
        have f4 : Full w2 w.heap.size 54 [.int .i64 0, .bool false, .int .i64 0, .int .i64 0, .string Hp.e0] := (H3.kp.block _ hW2 (by omega)).trans (HF1.out.next hbW)
        have f5 : Full w2 w1.heap.size 89 [.int .i64 m.f.fn, .int .i64 m.f.pc, .slice sq m.f.sl.length sc, .slice tq m.f.st.length tc] := (H3.kp.block _ fBf.lt (by omega)).trans fBf
        subst e2
        unfold ydV yl yd0
        clear H2
        have HTT : Hid (TopT W w2 gf (n * 4)) := H3
        have k3 : (t == 0) = false := by rw [beq_eq_false_iff_ne]; exact HT0.out
        have k4 : (t != 0) = true := by rw [bne, k3]; rfl
        have k5 : ¬ t = 0 := HT0.out
        have hgne : g ≠ gf := fun e => hT.h.nv gf (.inl (hT.h.fob (by omega))) (by rw [← e]; exact hT.h.heap.blk.2.1)
        have b2a : Below w2.heap.size w2 (w2.alloc (.cells #[.int .i64 0, .bool false, .int .i64 0, .int .i64 0, .string Hp.e0] 54)) := (Below.refl _ w2).alloc (Nat.le_refl _) _
        have c72 : (w2.alloc (.cells #[.int .i64 0, .bool false, .int .i64 0, .int .i64 0, .string Hp.e0] 54)).cell? ⟨g, 7, none⟩ = some (.slice (some ⟨gf, 0, none⟩) (n + 1) fcap) := by
          have e1 : w2.heap[g]? = W.heap[g]? := H3.kp.block g hT.h.heap.blk.1.lt hgne
          have hgl2 : g < w2.heap.size := Nat.lt_of_lt_of_le hT.h.heap.blk.1.lt H3.kp.size
          exact (b2a.cell (p := ⟨g, 7, none⟩) hgl2).trans ((World.cell?_of_block (w := W) (a := ⟨g, 7, none⟩) e1).trans hT.h.k7)
        have HTW : Hid (TopM W g K { S with steps := st } L ov F Q gf fcap n m) := hT
        have HE : Hid (∀ w3, Below w2.heap.size w2 w3 → Full w3 w1.heap.size 89 [.int .i64 m.f.fn, .int .i64 m.f.pc, .slice sq m.f.sl.length sc, .slice tq m.f.st.length tc] ∧ Full w3 w.heap.size 54 [.int .i64 0, .bool false, .int .i64 0, .int .i64 0, .string Hp.e0] ∧ TopT W w3 gf (n * 4)) := fun w3 b3 => ⟨f5.next b3, f4.next b3, HTT.out.trans (TopT.of HTT.out.b2 b3)⟩
        have HBK : Hid (∀ w3, Below w2.heap.size w2 w3 → MachM (w3.setCells gf (n * 4) [.int .i64 m.f.fn, .int .i64 m.f.pc, .slice sq m.f.sl.length sc, .slice tq m.f.st.length tc]) g K { S with steps := st } L (.slice (some ⟨gf, 0, none⟩) (n + 1) fcap) ov F Q ∧ Kp (foot L (.slice (some ⟨gf, 0, none⟩) (n + 1) fcap) ov F) w (w3.setCells gf (n * 4) [.int .i64 m.f.fn, .int .i64 m.f.pc, .slice sq m.f.sl.length sc, .slice tq m.f.st.length tc])) := fun w3 b3 => by
          have qT := (HE.out w3 b3).2.2
          have hb := MachM.back HTW.out qT
          have ef : fmc m = [.int .i64 m.f.fn, .int .i64 m.f.pc, .slice sq m.f.sl.length sc, .slice tq m.f.st.length tc] := by unfold fmc; rw [HSV.out.1, HSV.out.2]
          rw [ef] at hb
          have hfg : foot L (.slice (some ⟨gf, 0, none⟩) (n + 1) fcap) ov F gf := .inr (.inl (HTW.out.h.fob (by omega)))
          exact ⟨hb.1, ((HKW.out.next hbW).trans qT.kp fun i _ e => by (have e : i = gf := e; rw [e]; exact hfg)).setCells (.inl hfg) _ _⟩
        have HEN : Hid (∀ w4, MachM w4 g K { S with steps := st } L (.slice (some ⟨gf, 0, none⟩) (n + 1) fcap) ov F Q → Kp (foot L (.slice (some ⟨gf, 0, none⟩) (n + 1) fcap) ov F) w w4 → Full w4 w.heap.size 54 [.int .i64 0, .bool false, .int .i64 0, .int .i64 0, .string Hp.e0] →
            (∃ u, w4.cell? ⟨g, 15, none⟩ = some u) ∧ w4.frozen? ⟨g, 15, none⟩ = false ∧ (∃ u, (w4.setCell ⟨g, 15, none⟩ (.int .i64 2)).cell? ⟨g, 16, none⟩ = some u) ∧ (w4.setCell ⟨g, 15, none⟩ (.int .i64 2)).frozen? ⟨g, 16, none⟩ = false ∧ Full ((w4.setCell ⟨g, 15, none⟩ (.int .i64 2)).setCell ⟨g, 16, none⟩ (.int .i64 t)) w.heap.size 54 [.int .i64 0, .bool false, .int .i64 0, .int .i64 0, .string Hp.e0] ∧ WentM w ((w4.setCell ⟨g, 15, none⟩ (.int .i64 2)).setCell ⟨g, 16, none⟩ (.int .i64 t)) g K { S with steps := st, ph := 2, tr := t } L (.slice (some ⟨gf, 0, none⟩) (n + 1) fcap) ov F Q) := fun w4 m4 k4 f4 => by
          obtain ⟨m5, k5⟩ := m4.phase 2
          obtain ⟨m6, k6⟩ := m5.trapped t
          have hne : w.heap.size ≠ g := by omega
          exact ⟨⟨_, m4.k15⟩, m4.un 15, ⟨_, m5.k16⟩, m5.un 16, (f4.other1 hne).other1 hne, ⟨L, _, ov, F, m6, fun b hb => .inl hb, (k4.trans k5 fun _ _ q => q).trans k6 fun _ _ q => q⟩⟩
        have b0d := b2a.drew
        have qd0 := HE.out _ b0d
        obtain ⟨e0, -⟩ := qd0.1.cell 0 _ rfl
        obtain ⟨e1, -⟩ := qd0.1.cell 1 _ rfl
        obtain ⟨e2, -⟩ := qd0.1.cell 2 _ rfl
        obtain ⟨e3, -⟩ := qd0.1.cell 3 _ rfl
        have dT : Calls Tryz.prog 28 #[.pointer (some ⟨g, 0, none⟩)] (w2.alloc (.cells #[.int .i64 0, .bool false, .int .i64 0, .int .i64 0, .string Hp.e0] 54)).drew fun z w' => ∃ v, z = .returned v ∧ v = .pointer (some ⟨gf, n * 4, none⟩) ∧ Hid (Below w2.heap.size w2 w') := (top_any (w := (w2.alloc (.cells #[.int .i64 0, .bool false, .int .i64 0, .int .i64 0, .string Hp.e0] 54)).drew) c72 hT.hb).mono fun _ _ q => ⟨_, q.1, rfl, below2 b0d q.2⟩
        clear f4 f5 hT H3 c72 qd0 b0d
        go_wp2_with fail
        go_region_law (first
          | (refine step_call (by rfl) 28 [.tmp 42] _ [.pointer (some ⟨g, 0, none⟩)] (by rfl) (by rfl) (callTop _) (fun v w' => v = .pointer (some ⟨gf, n * 4, none⟩) ∧ Hid (Below w2.heap.size w2 w')) dT ?_; rintro v3 w3 ⟨rfl, hb3⟩; obtain ⟨q5, q4, qT⟩ := HE.out w3 hb3.out; obtain ⟨f0, -⟩ := q5.cell 0 _ rfl; obtain ⟨f1, -⟩ := q5.cell 1 _ rfl; obtain ⟨f2, -⟩ := q5.cell 2 _ rfl; obtain ⟨f3, -⟩ := q5.cell 3 _ rfl; obtain ⟨⟨u0, r0⟩, s0⟩ := qT.ex (HTW.out.now.fc).1; obtain ⟨⟨u1, r1⟩, s1⟩ := qT.ex (HTW.out.now.fc).2.1; obtain ⟨⟨u2, r2⟩, s2⟩ := qT.ex (HTW.out.now.fc).2.2.1; obtain ⟨⟨u3, r3⟩, s3⟩ := qT.ex (HTW.out.now.fc).2.2.2.1; clear q5 qT; obtain ⟨M4, K4⟩ := HBK.out w3 hb3.out; have q6 : Full (w3.setCells gf (n * 4) [.int .i64 m.f.fn, .int .i64 m.f.pc, .slice sq m.f.sl.length sc, .slice tq m.f.st.length tc]) w.heap.size 54 [.int .i64 0, .bool false, .int .i64 0, .int .i64 0, .string Hp.e0] := q4.other (by omega); have HM4 : Hid _ := HEN.out _ M4 K4 q6; clear M4 K4 q6 q4))
        all_goals
          clear e0 e1 e2 e3 f0 f1 f2 f3 r0 r1 r2 r3 s0 s1 s2 s3
          change Exit.then _ _ Exit.normal _ (w3.setCells gf (n * 4) [.int .i64 m.f.fn, .int .i64 m.f.pc, .slice sq m.f.sl.length sc, .slice tq m.f.st.length tc])
          generalize w3.setCells gf (n * 4) [.int .i64 m.f.fn, .int .i64 m.f.pc, .slice sq m.f.sl.length sc, .slice tq m.f.st.length tc] = W4 at HM4 ⊢
          obtain ⟨⟨u5, c5⟩, g5, ⟨u6, c6⟩, g6, f6, hW6⟩ := HM4.out
          have HW6 : Hid _ := hW6
          obtain ⟨y0, g0⟩ := f6.cell 0 _ rfl
          obtain ⟨y1, g1⟩ := f6.cell 1 _ rfl
          obtain ⟨y2, g2⟩ := f6.cell 2 _ rfl
          obtain ⟨y3, g3⟩ := f6.cell 3 _ rfl
          obtain ⟨y4, g4⟩ := f6.cell 4 _ rfl
          clear HM4 hW6
          go_wp2
          rw [five_self f6]
          refine bodyPost_ret (ret_step f6 rfl rfl) rfl ⟨rfl, HW6⟩
  · have hms : mstepS K S = (S, yd0, false) := by unfold mstepS; rw [if_neg (fun q => hph q.1)]
    rw [hms]
    have k0 : (S.ph == 0) = false := by rw [beq_eq_false_iff_ne]; exact hph
    have k1 : (S.ph != 0) = true := by rw [bne, k0]; rfl
    clear hms h hG hK hS ho hfr hMX bX fX c14 g14
    go_enter Tryz.func12, Tryz.ntmps12
    go_wp2
    rw [five_self HEND.out.2]
    refine bodyPost_ret (ret_step HEND.out.2 rfl rfl) rfl ⟨rfl, HEND.out.1⟩
end Go.Proofs.YtahdkffijlfmnaaGreatDoor

namespace Go.Proofs.YtahdkffijlfmnaaGreatDoor
open Go.RowKit
open Hp (V vc vcs)
def Cg.nrm (K : Cg) : Cg := { K with iq := none, ia := 0, eq := none, ea := 0, tq := none, ta := 0, nq := none, na := 0, Es := K.Es.map fun x => (x.1, none, 0) }
theorem nrm_len (K : Cg) : K.nrm.Es.length = K.Es.length := List.length_map ..
theorem nrm_at (K : Cg) (i : Nat) (h : i < K.nrm.Es.length) : (K.nrm.Es[i]'h).1 = (K.Es[i]'(by rw [nrm_len] at h; exact h)).1 := by simp [Cg.nrm]
theorem nrm_end (K : Cg) (i : Nat) : endM K.nrm i = endM K i := by
  unfold endM
  by_cases h : i + 1 < K.Es.length
  · rw [dif_pos (by rw [nrm_len]; exact h), dif_pos h, nrm_at]
  · rw [dif_neg (by rw [nrm_len]; exact h), dif_neg h]
    rfl
theorem nrm_in (K : Cg) (i : Nat) (h : i < K.nrm.Es.length) (h' : i < K.Es.length) (p : Int) : inM K.nrm i h p = inM K i h' p := by
  unfold inM
  rw [nrm_end, nrm_at]
theorem nrm_op (K : Cg) (S : Ms) (n : Nat) (f : Fr) (i : Nat) (h : i < K.nrm.Es.length) (h' : i < K.Es.length) (a b : Int) (o : Nat) : opS K.nrm S n f i h a b o = opS K S n f i h' a b o := by
  unfold opS
  split
  case h_5 => simp only [doStoreS, nrm_at]
  case h_9 => simp only [doJumpS, nrm_in K i h h']
  case h_10 => simp only [doFalseS, doJumpS, nrm_in K i h h']
  case h_11 => simp only [doCallS, nrm_at, nrm_len]; rfl
  case h_12 => simp only [doRetS, nrm_at]
  case h_13 => simp only [doDoneS, nrm_at]
  all_goals rfl
theorem nrm_next (K : Cg) (S : Ms) : mnextS K.nrm S = mnextS K S := by
  unfold mnextS
  split
  · rfl
  · rename_i f _
    by_cases hi : f.fn.toNat < K.Es.length
    · have hi' : f.fn.toNat < K.nrm.Es.length := by rw [nrm_len]; exact hi
      rw [dif_pos hi, dif_pos hi', nrm_in K _ hi' hi]
      have e : K.nrm.c = K.c := rfl
      rw [e, nrm_op K _ _ _ _ hi' hi]
    · rw [dif_neg hi, dif_neg (by rw [nrm_len]; exact hi)]
theorem nrm_step (K : Cg) (S : Ms) : mstepS K.nrm S = mstepS K S := by
  unfold mstepS
  rw [nrm_next]
structure Alk (K K' : Cg) : Prop where
  c : K.c = K'.c
  i : K.inp = K'.inp
  d : K.dep = K'.dep
  l : K.lim = K'.lim
theorem Alk.nrm {K K' : Cg} (h : Alk K K') (a : KOk K) (b : KOk K') : K.nrm = K'.nrm := by
  have e : (K.Es.map fun x : Em => ((x.1, none, 0) : Em)) = K'.Es.map fun x => (x.1, none, 0) := by
    have q : K.Es.map (·.1) = K'.Es.map (·.1) := by rw [a.en, b.en, h.c]
    have := congrArg (List.map fun e : En => ((e, none, 0) : Em)) q
    rw [List.map_map, List.map_map] at this
    exact this
  unfold Cg.nrm
  rw [e, h.c, h.i, h.d, h.l]
theorem Alk.step {K K' : Cg} (h : Alk K K') (a : KOk K) (b : KOk K') (S : Ms) : mstepS K S = mstepS K' S := by rw [← nrm_step K, ← nrm_step K', h.nrm a b]
end Go.Proofs.YtahdkffijlfmnaaGreatDoor
