import Derived.Test.YtahdkffijlfmnaaGreatDoorT14
namespace Go.Proofs.YtahdkffijlfmnaaGreatDoor
open Go.RowKit
open Hp (V vc vcs)
def enV (x : Em) : Value := .agg #[.string x.1.name, .int .i64 x.1.start, .int .i64 x.1.params, .slice x.2.1 x.1.sorts.length x.2.2, .int .i64 x.1.result]
theorem ret_ent {w : World} {B : Nat} {t : TypeId} {a b c d e : Value} {tm : Array Value} (h : Full w B t [a, b, c, d, e]) (h2 : tm[2]?.getD undef = .pointer (some ⟨B, 0, none⟩)) :
    (results Tryz.f72 tm).run Tryz.prog w = .ok (.agg #[a, b, c, d, e]) w := by
  simp [results, Tryz.results72, go_sem, h2, (h.cell 0 a rfl).1, (h.cell 1 b rfl).1, (h.cell 2 c rfl).1, (h.cell 3 d rfl).1, (h.cell 4 e rfl).1]
set_option maxRecDepth 100000 in
set_option maxHeartbeats 2000000 in
theorem mentry_any {w : World} {g : Nat} {K : Cg} {S : Ms} {L : List Fm} {fv ov : Value} {F Q : Nat → Prop} (h : MachM w g K S L fv ov F Q) {n : Nat} {m : Fm} (hn : L.length = n + 1) (hm : L[n]? = some m) (hb : n + 1 ≤ 9223372036854775807) {i : Nat} (hf : m.f.fn = (i : Int)) (hi : i < K.Es.length) :
    Calls Tryz.prog 72 #[.pointer (some ⟨g, 0, none⟩)] w fun z w' => z = .returned (enV K.Es[i]) ∧ Below w.heap.size w w' := by
  obtain ⟨gf, cap, e, hc, hr, -⟩ := h.fc (by omega)
  obtain ⟨r0, -, -, -⟩ := hr n m hm
  have c7 := h.k7
  have c1 := h.k1
  rw [e, hn] at c7
  rw [hf] at r0
  rw [← h.code.len] at c1
  obtain ⟨ge, o, he, -, e0, e1, e2, e3, e4⟩ := h.code.ent i hi
  rw [he] at c1
  unfold enV
  obtain ⟨x, hx⟩ : ∃ x, K.Es[i] = x := ⟨_, rfl⟩
  rw [hx] at e0 e1 e2 e3 e4 ⊢
  have i0 : (0 : Int) ≤ (i : Int) := by omega
  obtain ⟨ne, hne⟩ : ∃ ne, K.Es.length = ne := ⟨_, rfl⟩
  rw [hne] at c1 hi
  have i1 : (i : Int) < (ne : Int) := by omega
  obtain ⟨X, hX⟩ : ∃ X, w.alloc (.cells #[.string Hp.e0, .int .i64 0, .int .i64 0, .slice none 0 0, .int .i64 0] 71) = X := ⟨_, rfl⟩
  have bX : Below w.heap.size w X := by rw [← hX]; exact (Below.refl _ w).alloc (Nat.le_refl _) _
  have fX : Full X w.heap.size 71 [.string Hp.e0, .int .i64 0, .int .i64 0, .slice none 0 0, .int .i64 0] := by rw [← hX]; exact Full.new w _ _
  have HS : Hid (∀ w', Below w.heap.size w w' → w'.cell? ⟨gf, n * 4, none⟩ = some (.int .i64 (i : Int)) ∧ w'.cell? ⟨g, 1, none⟩ = some (.slice (some ⟨ge, o, none⟩) ne K.ea) ∧ w'.cell? ⟨ge, o + i * 5, none⟩ = some (.string x.1.name) ∧ w'.cell? ⟨ge, o + i * 5 + 1, none⟩ = some (.int .i64 x.1.start) ∧ w'.cell? ⟨ge, o + i * 5 + 2, none⟩ = some (.int .i64 x.1.params) ∧ w'.cell? ⟨ge, o + i * 5 + 3, none⟩ = some (.slice x.2.1 x.1.sorts.length x.2.2) ∧ w'.cell? ⟨ge, o + i * 5 + 4, none⟩ = some (.int .i64 x.1.result) ∧ Below w.heap.size w w') := fun w' hb' => by
    have k := fun {a : Addr} {v : Value} (q : w.cell? a = some v) => (hb'.cell (p := a) (block_lt_of_cell q)).trans q
    exact ⟨k r0, k c1, k e0, k e1, k e2, k e3, k e4, hb'⟩
  have bD : Below w.heap.size w X.drew := bX.drew
  have d1 : Calls Tryz.prog 28 #[.pointer (some ⟨g, 0, none⟩)] X.drew fun z w'' => z = .returned (.pointer (some ⟨gf, n * 4, none⟩)) ∧ Hid (Below w.heap.size w w'' ∧ Full w'' w.heap.size 71 [.string Hp.e0, .int .i64 0, .int .i64 0, .slice none 0 0, .int .i64 0]) := (top_any ((bD.cell (p := ⟨g, 7, none⟩) (block_lt_of_cell c7)).trans c7) hb).mono fun z w' q => ⟨q.1, below2 bD q.2, (fX.next (Below.refl _ X).drew).next q.2⟩
  have HF : Hid (∀ w'', Full w'' w.heap.size 71 [.string Hp.e0, .int .i64 0, .int .i64 0, .slice none 0 0, .int .i64 0] → Below w.heap.size w w'' → Full (((((w''.setCell ⟨w.heap.size, 0, none⟩ (.string x.1.name)).setCell ⟨w.heap.size, 1, none⟩ (.int .i64 x.1.start)).setCell ⟨w.heap.size, 2, none⟩ (.int .i64 x.1.params)).setCell ⟨w.heap.size, 3, none⟩ (.slice x.2.1 x.1.sorts.length x.2.2)).setCell ⟨w.heap.size, 4, none⟩ (.int .i64 x.1.result)) w.heap.size 71 [.string x.1.name, .int .i64 x.1.start, .int .i64 x.1.params, .slice x.2.1 x.1.sorts.length x.2.2, .int .i64 x.1.result] ∧ Below w.heap.size w (((((w''.setCell ⟨w.heap.size, 0, none⟩ (.string x.1.name)).setCell ⟨w.heap.size, 1, none⟩ (.int .i64 x.1.start)).setCell ⟨w.heap.size, 2, none⟩ (.int .i64 x.1.params)).setCell ⟨w.heap.size, 3, none⟩ (.slice x.2.1 x.1.sorts.length x.2.2)).setCell ⟨w.heap.size, 4, none⟩ (.int .i64 x.1.result))) := fun w'' f b => ⟨Full.put (g := w.heap.size) (t := 71) [.string x.1.name, .int .i64 x.1.start, .int .i64 x.1.params, .slice x.2.1 x.1.sorts.length x.2.2, .int .i64 x.1.result] (a := []) (b := [.string Hp.e0, .int .i64 0, .int .i64 0, .slice none 0 0, .int .i64 0]) (d := []) f rfl, ((((b.setCell (p := ⟨w.heap.size, 0, none⟩) (Nat.le_refl _) _).setCell (p := ⟨w.heap.size, 1, none⟩) (Nat.le_refl _) _).setCell (p := ⟨w.heap.size, 2, none⟩) (Nat.le_refl _) _).setCell (p := ⟨w.heap.size, 3, none⟩) (Nat.le_refl _) _).setCell (p := ⟨w.heap.size, 4, none⟩) (Nat.le_refl _) _⟩
  clear e0 e1 e2 e3 e4 r0 hr h c1 c7 bX fX
  go_enter Tryz.func72, Tryz.ntmps72
  go_upto_region 1 with fail
  go_region_held3 (fun w' => w'.cell? ⟨gf, n * 4, none⟩ = some (.int .i64 (i : Int)) ∧ w'.cell? ⟨g, 1, none⟩ = some (.slice (some ⟨ge, o, none⟩) ne K.ea) ∧ w'.cell? ⟨ge, o + i * 5, none⟩ = some (.string x.1.name) ∧ w'.cell? ⟨ge, o + i * 5 + 1, none⟩ = some (.int .i64 x.1.start) ∧ w'.cell? ⟨ge, o + i * 5 + 2, none⟩ = some (.int .i64 x.1.params) ∧ w'.cell? ⟨ge, o + i * 5 + 3, none⟩ = some (.slice x.2.1 x.1.sorts.length x.2.2) ∧ w'.cell? ⟨ge, o + i * 5 + 4, none⟩ = some (.int .i64 x.1.result) ∧ Below w.heap.size w w') (exact HS.out _ (by first | with_reducible assumption | with_reducible exact hb9.1 | with_reducible exact hb9.2))
    (first
    | (go_at_call 28; (with_reducible refine d1.mono ?_); rintro z9 w9 ⟨rfl, hq9⟩; obtain ⟨hb8, hf8⟩ := hq9.out; obtain ⟨hf9, hb9⟩ := HF.out _ hf8 hb8; obtain ⟨t0, g0⟩ := hf8.cell 0 _ rfl; obtain ⟨t1, g1⟩ := hf8.cell 1 _ rfl; obtain ⟨t2, g2⟩ := hf8.cell 2 _ rfl; obtain ⟨t3, g3⟩ := hf8.cell 3 _ rfl; obtain ⟨t4, g4⟩ := hf8.cell 4 _ rfl)
    | fail)
  go_wp2
  exact bodyPost_ret (ret_ent hf9 rfl) rfl ⟨rfl, hb9⟩
def endM (K : Cg) (i : Nat) : Int := if h : i + 1 < K.Es.length then (K.Es[i + 1]).1.start else (K.c.ins.length : Int)
set_option maxRecDepth 100000 in
set_option maxHeartbeats 2000000 in
theorem pieceEnd_cel {w : World} {g : Nat} {K : Cg} {Q : Nat → Prop} (c0 : w.cell? ⟨g, 0, none⟩ = some (.slice K.iq K.c.ins.length K.ia)) (c1 : w.cell? ⟨g, 1, none⟩ = some (.slice K.eq K.c.ens.length K.ea)) (h : CodeQ w Q K) {i : Nat} (hi : i < K.Es.length) (hE : K.Es.length ≤ 100000) :
    Calls Tryz.prog 73 #[.pointer (some ⟨g, 0, none⟩), .int .i64 (i : Int)] w fun z w' => z = .returned (.int .i64 (endM K i)) ∧ Below w.heap.size w w' := by
  rw [← h.len] at c1
  unfold endM
  have hw1 : IntKind.i64.wrap ((i : Int) + 1) = ((i + 1 : Nat) : Int) := by rw [IntKind.wrap_i64]; omega
  obtain ⟨ne, hne⟩ : ∃ ne, K.Es.length = ne := ⟨_, rfl⟩
  by_cases hc : i + 1 < K.Es.length
  · rw [dif_pos hc]
    obtain ⟨ge, o, he, -, e0, e1, e2, e3, e4⟩ := h.ent (i + 1) hc
    rw [he] at c1
    obtain ⟨x, hx⟩ : ∃ x, K.Es[i + 1] = x := ⟨_, rfl⟩
    rw [hx] at e0 e1 e2 e3 e4 ⊢
    obtain ⟨j, hj⟩ : ∃ j, i + 1 = j := ⟨_, rfl⟩
    rw [hj] at e0 e1 e2 e3 e4 hw1
    rw [hne] at c1
    have i0 : (0 : Int) ≤ (j : Int) := by omega
    have i1 : (j : Int) < (ne : Int) := by omega
    have i2 : ((i : Int) + 1 < (ne : Int)) := by omega
    clear h hi hE hx hc hne
    go_enter Tryz.func73, Tryz.ntmps73
    go_wp2
    go_ret
    exact ⟨rfl, Below.refl _ _⟩
  · rw [dif_neg hc]
    rw [hne] at c1
    have i1 : ¬ (((i + 1 : Nat) : Int) < (ne : Int)) := by omega
    clear h hi hE hc hne
    go_enter Tryz.func73, Tryz.ntmps73
    go_wp2
    go_ret
    exact ⟨rfl, Below.refl _ _⟩
theorem mpieceEnd_any {w : World} {g : Nat} {K : Cg} {S : Ms} {L : List Fm} {fv ov : Value} {F Q : Nat → Prop} (h : MachM w g K S L fv ov F Q) {i : Nat} (hi : i < K.Es.length) (hE : K.Es.length ≤ 100000) :
    Calls Tryz.prog 73 #[.pointer (some ⟨g, 0, none⟩), .int .i64 (i : Int)] w fun z w' => z = .returned (.int .i64 (endM K i)) ∧ Below w.heap.size w w' := pieceEnd_cel h.k0 h.k1 h.code hi hE
end Go.Proofs.YtahdkffijlfmnaaGreatDoor

namespace Go.Proofs.YtahdkffijlfmnaaGreatDoor
open Go.RowKit
open Hp (V vc vcs)
theorem fldE (a b c d e : Value) (k : Nat) (v : Value) (hv : [a, b, c, d, e][k]? = some v) : ∀ w : World, (Instr.field 71 (.agg #[a, b, c, d, e]) k).run Tryz.prog w = .ok v w := fun w => by
  match k, hv with
  | 0, hv => cases hv; simp [go_sem, Instr.field]; rfl
  | 1, hv => cases hv; simp [go_sem, Instr.field]; rfl
  | 2, hv => cases hv; simp [go_sem, Instr.field]; rfl
  | 3, hv => cases hv; simp [go_sem, Instr.field]; rfl
  | 4, hv => cases hv; simp [go_sem, Instr.field]; rfl
def inM (K : Cg) (i : Nat) (hi : i < K.Es.length) (p : Int) : Bool := decide (K.Es[i].1.start ≤ p) && decide (p < endM K i)
set_option maxRecDepth 100000 in
set_option maxHeartbeats 2000000 in
theorem inPiece_any {w : World} {g : Nat} {K : Cg} {S : Ms} {L : List Fm} {fv ov : Value} {F Q : Nat → Prop} (h : MachM w g K S L fv ov F Q) {n : Nat} {m : Fm} (hn : L.length = n + 1) (hm : L[n]? = some m) (hb : n + 1 ≤ 9223372036854775807) {i : Nat} (hf : m.f.fn = (i : Int)) (hi : i < K.Es.length) (hE : K.Es.length ≤ 100000) (p : Int) :
    Calls Tryz.prog 53 #[.pointer (some ⟨g, 0, none⟩), .int .i64 p] w fun z w' => z = .returned (.bool (inM K i hi p)) ∧ Below w.heap.size w w' := by
  obtain ⟨gf, cap, e, hc, hr, -⟩ := h.fc (by omega)
  obtain ⟨r0, -, -, -⟩ := hr n m hm
  have c7 := h.k7
  rw [e, hn] at c7
  rw [hf] at r0
  unfold inM
  have d1 := mentry_any h hn hm hb hf hi
  have HT : Hid (∀ w', Below w.heap.size w w' → w'.cell? ⟨gf, n * 4, none⟩ = some (.int .i64 (i : Int)) ∧ (Calls Tryz.prog 28 #[.pointer (some ⟨g, 0, none⟩)] w' fun z w'' => z = .returned (.pointer (some ⟨gf, n * 4, none⟩)) ∧ Below w.heap.size w w'') ∧ Calls Tryz.prog 73 #[.pointer (some ⟨g, 0, none⟩), .int .i64 (i : Int)] w' fun z w'' => z = .returned (.int .i64 (endM K i)) ∧ Below w.heap.size w w'') := fun w' b =>
    ⟨(b.cell (p := ⟨gf, n * 4, none⟩) (block_lt_of_cell r0)).trans r0, (top_any ((b.cell (p := ⟨g, 7, none⟩) (block_lt_of_cell c7)).trans c7) hb).mono fun z w'' q => ⟨q.1, below2 b q.2⟩, (mpieceEnd_any (h.next b) hi hE).mono fun z w'' q => ⟨q.1, below2 b q.2⟩⟩
  unfold enV at d1
  generalize K.Es[i] = x at d1 ⊢
  have hfd := fldE (.string x.1.name) (.int .i64 x.1.start) (.int .i64 x.1.params) (.slice x.2.1 x.1.sorts.length x.2.2) (.int .i64 x.1.result) 1 _ rfl
  generalize endM K i = N at HT ⊢
  clear h hr r0 c7
  by_cases h1 : x.1.start ≤ p
  · by_cases h2 : p < N
    all_goals
      have HR : Hid ((decide (x.1.start ≤ p) && decide (p < N)) = decide (p < N)) := by show _ = _; rw [decide_eq_true h1]; rfl
      rw [HR.out]
      go_enter Tryz.func53, Tryz.ntmps53
      go_wp2_with (first
        | (go_at_call 72; refine d1.mono ?_; rintro z1 w1 ⟨rfl, hb1⟩; clear d1; obtain ⟨t1, dT, -⟩ := HT.out w1 hb1)
        | (go_at_call 28; refine dT.mono ?_; rintro z2 w2 ⟨rfl, hb2⟩; clear dT; obtain ⟨t2, -, dP⟩ := HT.out w2 hb2)
        | (go_at_call 73; refine dP.mono ?_; rintro z3 w3 ⟨rfl, hb3⟩; clear dP)
        | fail)
      go_ret
      exact ⟨by simp [h2] <;> omega, hb3⟩
  · have HR : Hid ((decide (x.1.start ≤ p) && decide (p < N)) = false) := by show _ = _; rw [decide_eq_false h1]; rfl
    rw [HR.out]
    go_enter Tryz.func53, Tryz.ntmps53
    go_wp2_with (first
      | (go_at_call 72; refine d1.mono ?_; rintro z1 w1 ⟨rfl, hb1⟩; clear d1)
      | fail)
    go_ret
    exact ⟨rfl, hb1⟩
end Go.Proofs.YtahdkffijlfmnaaGreatDoor

namespace Go.Proofs.YtahdkffijlfmnaaGreatDoor
open Go.RowKit
open Hp (V vc vcs)
def haveS (A : Hp.Hp) (v : V) : Bool := if v.1 = 4 then (Hp.findH A v).2 == 0 else v.1 != 0 && Hp.okV v.1 v.2.1 v.2.2
set_option maxRecDepth 100000 in
set_option maxHeartbeats 2000000 in
theorem mayHave_any {w : World} {g : Nat} {K : Cg} {S : Ms} {L : List Fm} {fv ov : Value} {F Q : Nat → Prop} (h : MachM w g K S L fv ov F Q) (v : V) (hs : v.2.2.size ≤ 9223372036854775807) :
    Calls Tryz.prog 66 #[.pointer (some ⟨g, 0, none⟩), .agg #[.int .i64 v.1, .int .i64 v.2.1, .string v.2.2]] w fun z w' => z = .returned (.bool (haveS S.hp v)) ∧ Below w.heap.size w w' := by
  obtain ⟨k, n, s⟩ := v
  obtain ⟨X, hX⟩ : ∃ X, w.alloc (.cells #[.int .i64 k, .int .i64 n, .string s] 52) = X := ⟨_, rfl⟩
  have bX : Below w.heap.size w X := by rw [← hX]; exact (Below.refl _ w).alloc (Nat.le_refl _) _
  have fX : Full X w.heap.size 52 [.int .i64 k, .int .i64 n, .string s] := by rw [← hX]; exact Full.new w _ _
  have x0 := (fX.cell 0 _ rfl).1
  have x1 := (fX.cell 1 _ rfl).1
  have x2 := (fX.cell 2 _ rfl).1
  unfold haveS
  show Calls _ _ #[_, .agg #[.int .i64 k, .int .i64 n, .string s]] _ fun z w' => z = .returned (.bool (if k = 4 then (Hp.findH S.hp (k, n, s)).2 == 0 else k != 0 && Hp.okV k n s)) ∧ _
  by_cases hk : k = 4
  · rw [if_pos hk]
    subst hk
    have d1 : ∀ d os, Calls Tryz.prog 103 #[.pointer (some ⟨g, 8, none⟩), .agg #[.int .i64 4, .int .i64 n, .string s]] (Sort.grow (redrawn X d) os) fun e w'' => e = .returned (.tuple #[.int .i64 ((Hp.findH S.hp (4, n, s)).1.2.length : Int), .int .i64 (Hp.findH S.hp (4, n, s)).2]) ∧ ∃ z : Regrown, w'' = Sort.grow (redrawn X z.d) z.os := fun d os => Calls.regrown_of (Hp.lenH_any ((h.next bX).next (below_regrown X d os)).heap (4, n, s) hs)
    generalize Hp.findH S.hp (4, n, s) = R at d1 ⊢
    have y0 := cell_regrown x0
    have y1 := cell_regrown x1
    have y2 := cell_regrown x2
    clear h fX
    go_enter Tryz.func66, Tryz.ntmps66
    go_upto_region 2 with fail
    refine wp_region_quiet_below (by kernel_rfl) (by kernel_rfl) ?_
    repeat (first | go_big_quiet_step (first | with_reducible exact d1 _ _) | quiet_step (first | with_reducible exact d1 _ _))
    refine wpQuiet_nil ?_
    intro _ hw'
    obtain ⟨⟨dq, osq⟩, hw''⟩ := hw'
    subst hw''
    have hY := below_regrown X dq osq
    first | (change Exit.then _ _ Exit.normal _ (Sort.grow (redrawn X dq) osq)) | skip
    generalize Sort.grow (redrawn X dq) osq = Y at hY ⊢
    clear d1
    go_wp2
    go_ret
    exact ⟨rfl, below2 bX hY⟩
  · rw [if_neg hk]
    have k4 : (k == 4) = false := by rw [beq_eq_false_iff_ne]; exact hk
    by_cases h0 : k = 0
    · subst h0
      clear h fX
      go_enter Tryz.func66, Tryz.ntmps66
      go_wp2
      go_ret
      exact ⟨rfl, bX⟩
    · have k0 : (k == 0) = false := by rw [beq_eq_false_iff_ne]; exact h0
      have k1 : (k != 0) = true := by rw [bne, k0]; rfl
      have HR : Hid ((k != 0 && Hp.okV k n s) = Hp.okV k n s) := by show _ = _; rw [k1]; rfl
      rw [HR.out]
      have d1 : Calls Tryz.prog 70 #[.agg #[.int .i64 k, .int .i64 n, .string s]] X fun e w' => e = .returned (.bool (Hp.okV k n s)) ∧ Below w.heap.size w w' := (Hp.valid_any k n s X hs).mono fun e w' q => ⟨q.1, below2 bX q.2⟩
      generalize Hp.okV k n s = R at d1 ⊢
      clear h fX bX HR
      go_enter Tryz.func66, Tryz.ntmps66
      go_wp2_with (first | (go_at_call 70; refine d1.mono ?_; rintro z1 w1 ⟨rfl, hb1⟩; clear d1) | fail)
      go_ret
      exact ⟨rfl, hb1⟩
def fitV (A : Hp.Hp) (v : V) (s : Int) : Bool := v.1 == kindS s && haveS A v
set_option maxRecDepth 100000 in
set_option maxHeartbeats 2000000 in
theorem mfits_any {w : World} {g : Nat} {K : Cg} {S : Ms} {L : List Fm} {fv ov : Value} {F Q : Nat → Prop} (h : MachM w g K S L fv ov F Q) (v : V) (so : Int) (hs : v.2.2.size ≤ 9223372036854775807) :
    Calls Tryz.prog 102 #[.pointer (some ⟨g, 0, none⟩), .agg #[.int .i64 v.1, .int .i64 v.2.1, .string v.2.2], .int .i64 so] w fun z w' => z = .returned (.bool (fitV S.hp v so)) ∧ Below w.heap.size w w' := by
  obtain ⟨k, n, s⟩ := v
  obtain ⟨X, hX⟩ : ∃ X, w.alloc (.cells #[.int .i64 k, .int .i64 n, .string s] 52) = X := ⟨_, rfl⟩
  have bX : Below w.heap.size w X := by rw [← hX]; exact (Below.refl _ w).alloc (Nat.le_refl _) _
  have fX : Full X w.heap.size 52 [.int .i64 k, .int .i64 n, .string s] := by rw [← hX]; exact Full.new w _ _
  have x0 := (fX.cell 0 _ rfl).1
  have x1 := (fX.cell 1 _ rfl).1
  have x2 := (fX.cell 2 _ rfl).1
  unfold fitV
  show Calls _ _ #[_, .agg #[.int .i64 k, .int .i64 n, .string s], _] _ fun z w' => z = .returned (.bool (k == kindS so && haveS S.hp (k, n, s))) ∧ _
  have d1 : ∀ d os, Calls Tryz.prog 51 #[.int .i64 so] (Sort.grow (redrawn X d) os) fun e w'' => e = .returned (.int .i64 (kindS so)) ∧ ∃ z : Regrown, w'' = Sort.grow (redrawn X z.d) z.os := fun d os => Calls.regrown_of ((kindOf_any so _).mono fun e w' q => ⟨q.1, by rw [q.2]; exact Below.refl _ _⟩)
  have d2 : ∀ d os, Calls Tryz.prog 66 #[.pointer (some ⟨g, 0, none⟩), .agg #[.int .i64 k, .int .i64 n, .string s]] (Sort.grow (redrawn X d) os) fun e w'' => e = .returned (.bool (haveS S.hp (k, n, s))) ∧ ∃ z : Regrown, w'' = Sort.grow (redrawn X z.d) z.os := fun d os => Calls.regrown_of (mayHave_any ((h.next bX).next (below_regrown X d os)) (k, n, s) hs)
  generalize haveS S.hp (k, n, s) = R at d2 ⊢
  generalize kindS so = kk at d1 ⊢
  have y0 := cell_regrown x0
  have y1 := cell_regrown x1
  have y2 := cell_regrown x2
  clear h fX
  cases hk : (k == kk) with
  | false =>
    go_enter Tryz.func102, Tryz.ntmps102
    go_upto_region 1 with fail
    refine wp_region_quiet_below (by kernel_rfl) (by kernel_rfl) ?_
    repeat (first | go_big_quiet_step (first | with_reducible exact d1 _ _ | with_reducible exact d2 _ _) | quiet_step (first | with_reducible exact d1 _ _ | with_reducible exact d2 _ _))
    refine wpQuiet_nil ?_
    intro _ hw'
    obtain ⟨⟨dq, osq⟩, hw''⟩ := hw'
    subst hw''
    have hY := below_regrown X dq osq
    first | (change Exit.then _ _ Exit.normal _ (Sort.grow (redrawn X dq) osq)) | skip
    generalize Sort.grow (redrawn X dq) osq = Y at hY ⊢
    clear d1 d2
    go_wp2
    go_ret
    exact ⟨rfl, below2 bX hY⟩
  | true =>
    go_enter Tryz.func102, Tryz.ntmps102
    go_upto_region 1 with fail
    refine wp_region_quiet_below (by kernel_rfl) (by kernel_rfl) ?_
    repeat (first | go_big_quiet_step (first | with_reducible exact d1 _ _ | with_reducible exact d2 _ _) | quiet_step (first | with_reducible exact d1 _ _ | with_reducible exact d2 _ _))
    refine wpQuiet_nil ?_
    intro _ hw'
    obtain ⟨⟨dq, osq⟩, hw''⟩ := hw'
    subst hw''
    have hY := below_regrown X dq osq
    first | (change Exit.then _ _ Exit.normal _ (Sort.grow (redrawn X dq) osq)) | skip
    generalize Sort.grow (redrawn X dq) osq = Y at hY ⊢
    clear d1 d2
    go_wp2
    go_ret
    exact ⟨rfl, below2 bX hY⟩
end Go.Proofs.YtahdkffijlfmnaaGreatDoor

namespace Go.Proofs.YtahdkffijlfmnaaGreatDoor
open Go.RowKit
open Hp (V vc vcs)
theorem fm_set {L : List Fm} {i : Nat} {m m' : Fm} (hi : L[i]? = some m) (j : Nat) (hj : j < 4) (v : Value) (e : fmc m' = (fmc m).set j v) : (L.flatMap fmc).set (i * 4 + j) v = (L.set i m').flatMap fmc := by
  obtain ⟨hil, rfl⟩ := List.getElem?_eq_some_iff.1 hi
  have hl := flat_lenF fmc 4 (fun _ => rfl) L
  apply List.ext_getElem?
  intro k
  rw [flat_set fmc 4 (fun _ => rfl) L i hil m' k, List.getElem?_set, e, List.getElem?_set]
  have hf : (fmc L[i]).length = 4 := rfl
  by_cases h1 : i * 4 + j = k
  · rw [if_pos h1, if_pos (by omega), if_pos (by omega), if_pos (by omega), if_pos (by rw [hf]; omega)]
  · rw [if_neg h1]
    by_cases h2 : i * 4 ≤ k ∧ k < i * 4 + 4
    · rw [if_pos h2, if_neg (by omega)]
      have := flat_at fmc 4 (fun _ => rfl) L i (k - i * 4) hil (by omega)
      rwa [show i * 4 + (k - i * 4) = k by omega] at this
    · rw [if_neg h2]
theorem fr_set {w w' : World} {L : List Fm} {gf cap i : Nat} {m m' : Fm} (hf : OwnR w 89 4 (.slice (some ⟨gf, 0, none⟩) L.length cap) L.length (L.flatMap fmc)) (hi : L[i]? = some m) (j : Nat) (hj : j < 4) (v : Value) (e : fmc m' = (fmc m).set j v) (hb : w'.heap[gf]? = (w.setCell ⟨gf, i * 4 + j, none⟩ v).heap[gf]?) : OwnR w' 89 4 (.slice (some ⟨gf, 0, none⟩) L.length cap) L.length ((L.set i m').flatMap fmc) := by
  have hil := (List.getElem?_eq_some_iff.1 hi).1
  rw [← fm_set hi j hj v e]
  refine rown_same (rown_set1 hf (i * 4 + j) (by omega) v) fun g hg => ?_
  have hg := obk_own hg
  cases hg
  exact hb
def Fm.st' (m : Fm) (tv : Value) (st : List V) : Fm := ⟨{ m.f with st := st }, m.sv, tv⟩
def Ms.setF (S : Ms) (i : Nat) (f : Fr) : Ms := { S with fs := S.fs.set i f }
theorem MachM.stack {w w' : World} {g : Nat} {K : Cg} {S : Ms} {L : List Fm} {ov : Value} {F Q : Nat → Prop} {gf cap : Nat} (h : MachM w g K S L (.slice (some ⟨gf, 0, none⟩) L.length cap) ov F Q) {i : Nat} {m : Fm} (hi : L[i]? = some m) {tv' sv0 : Value} {st : List V} (hp : Pu w w' gf (i * 4 + 3) sv0 tv') (h0 : ∀ b, (obk sv0) = some b → (obk m.tv) = some b)
    (ht : OwnR w' 52 3 tv' st.length (vcs st)) (ft : ∀ b, (obk tv') = some b → (obk m.tv) = some b ∨ w.heap.size ≤ b) :
    MachM w' g K (S.setF i { m.f with st := st }) (L.set i (m.st' tv' st)) (.slice (some ⟨gf, 0, none⟩) L.length cap) ov F Q ∧ (∀ b, foot (L.set i (m.st' tv' st)) (.slice (some ⟨gf, 0, none⟩) L.length cap) ov F b → foot L (.slice (some ⟨gf, 0, none⟩) L.length cap) ov F b ∨ w.heap.size ≤ b) ∧ Kp (foot L (.slice (some ⟨gf, 0, none⟩) L.length cap) ov F) w w' := by
  have hm : m ∈ L := List.mem_of_getElem? hi
  have hk : Kp (fun x => (obk (Value.slice (some ⟨gf, 0, none⟩) L.length cap)) = some x ∨ (obk m.sv) = some x ∨ (obk m.tv) = some x) w w' := ⟨hp.kp.os, hp.kp.tape, hp.kp.output, hp.kp.size, fun b hb hn => hp.kp.block b hb fun q => hn (by
    rcases q with rfl | q
    · exact .inl (h.fob (List.length_pos_of_mem hm))
    · exact .inr (.inr (h0 b q)))⟩
  obtain ⟨r1, r2⟩ := h.rows m hm
  have hs := (h.sep i i m m hi hi).1
  have hkf : Kp (foot L (.slice (some ⟨gf, 0, none⟩) L.length cap) ov F) w w' := ⟨hp.kp.os, hp.kp.tape, hp.kp.output, hp.kp.size, fun b hb hn => hk.block b hb fun q => hn (by
    rcases q with q | q | q
    · exact .inr (.inl q)
    · exact .inr (.inr (.inr ⟨m, hm, .inl q⟩))
    · exact .inr (.inr (.inr ⟨m, hm, .inr q⟩)))⟩
  have hsv : OwnR w' 52 3 m.sv m.f.sl.length (vcs m.f.sl) := rown_same r1 fun b hb => hp.kp.block b (rown_blk r1 b hb).lt fun q => by
    rcases q with rfl | q
    · exact rown_ne r1 (h.fblk (List.length_pos_of_mem hm)) (by decide) hb
    · exact hs b hb (h0 b q)
  have := h.frame hi (m' := m.st' tv' st) hk (fr_set h.fr hi 3 (by decide) tv' rfl hp.fbk) hsv ht (fun b hb => .inl hb) ft (fun b hb q => by
    rcases ft b q with r | r
    · exact hs b hb r
    · have := (rown_blk r1 b hb).lt; omega)
  exact ⟨this.1, this.2, hkf⟩
structure TopT (w w' : World) (gf o : Nat) : Prop where
  kp : Kp (fun x => x = gf) w w'
  blk : ∃ C C' : Array Value, w.heap[gf]? = some (.cells C 89) ∧ w'.heap[gf]? = some (.cells C' 89) ∧ C'.size = C.size ∧ ∀ j, j ≠ o + 1 → j ≠ o + 3 → C'[j]? = C[j]?
theorem TopT.b2 {w w' : World} {gf o : Nat} (h : TopT w w' gf o) : Blk w' gf 89 0 := by
  obtain ⟨C, C', -, h2, -⟩ := h.blk
  exact ⟨C', h2, Nat.zero_le _⟩
theorem TopT.refl {w : World} {gf o n : Nat} (h : Blk w gf 89 n) : TopT w w gf o := by
  obtain ⟨C, hC, -⟩ := h
  exact ⟨Kp.refl _ _, C, C, hC, hC, rfl, fun _ _ _ => rfl⟩
theorem TopT.trans {w w1 w2 : World} {gf o : Nat} (h : TopT w w1 gf o) (k : TopT w1 w2 gf o) : TopT w w2 gf o := by
  obtain ⟨C, C1, h1, h2, h3, h4⟩ := h.blk
  obtain ⟨D, D1, k1, k2, k3, k4⟩ := k.blk
  rw [h2] at k1
  cases k1
  exact ⟨h.kp.trans k.kp fun _ _ q => q, C, D1, h1, k2, k3.trans h3, fun j a b => (k4 j a b).trans (h4 j a b)⟩
theorem TopT.of {w w' : World} {gf o n : Nat} (h : Blk w gf 89 n) (k : Below w.heap.size w w') : TopT w w' gf o := by
  have hl := h.lt
  obtain ⟨C, hC, -⟩ := h
  exact ⟨Kp.of k, C, C, hC, (k.block gf hl).trans hC, rfl, fun _ _ _ => rfl⟩
theorem TopT.pu {w w' : World} {gf o n : Nat} {sv0 v : Value} (h : Blk w gf 89 n) (k : Pu w w' gf (o + 3) sv0 v) (h0 : (obk sv0) = none) : TopT w w' gf o := by
  obtain ⟨C, hC, -⟩ := h
  refine ⟨⟨k.kp.os, k.kp.tape, k.kp.output, k.kp.size, fun b hb hn => k.kp.block b hb fun q => hn (by rcases q with q | q; exact q; rw [h0] at q; cases q)⟩, C, C.set! (o + 3) v, hC, k.fbk.trans (set_blk hC v), by simp, fun j _ h3 => ?_⟩
  simp only [Array.set!_eq_setIfInBounds]
  rw [Array.getElem?_setIfInBounds_ne (Ne.symm h3)]
end Go.Proofs.YtahdkffijlfmnaaGreatDoor

namespace Go.Proofs.YtahdkffijlfmnaaGreatDoor
open Go.RowKit
open Hp (V vc vcs)
def WentM (w w' : World) (g : Nat) (K : Cg) (S' : Ms) (L : List Fm) (fv ov : Value) (F Q : Nat → Prop) : Prop :=
  ∃ L' fv' ov' F', MachM w' g K S' L' fv' ov' F' Q ∧ (∀ b, foot L' fv' ov' F' b → foot L fv ov F b ∨ w.heap.size ≤ b) ∧ Kp (foot L fv ov F) w w'
def DoR (w w' : World) (g : Nat) (K : Cg) (L : List Fm) (fv ov : Value) (F Q : Nat → Prop) (gf o : Nat) (z : Ending) (R : Except Int Ms) : Prop :=
  match R with
  | .error t => z = .returned (.int .i64 t) ∧ TopT w w' gf o
  | .ok S' => z = .returned (.int .i64 0) ∧ WentM w w' g K S' L fv ov F Q
def pushS (f : Fr) (v : V) : Except Int Fr := if f.st.length = 400 then .error 7 else .ok { f with st := f.st ++ [v] }
structure Mid (w w1 : World) (g : Nat) (K : Cg) (L : List Fm) (S1 : Ms) (L1 : List Fm) (fv ov : Value) (F Q : Nat → Prop) (gf o : Nat) : Prop where
  m : MachM w1 g K S1 L1 fv ov F Q
  ft : ∀ b, foot L1 fv ov F b → foot L fv ov F b ∨ w.heap.size ≤ b
  kp : Kp (foot L fv ov F) w w1
  tt : TopT w w1 gf o
theorem DoR.after {w w1 w2 : World} {g : Nat} {K : Cg} {L L1 : List Fm} {S1 : Ms} {fv ov : Value} {F Q : Nat → Prop} {gf o : Nat} {z : Ending} {R : Except Int Ms} (h : Mid w w1 g K L S1 L1 fv ov F Q gf o) (k : DoR w1 w2 g K L1 fv ov F Q gf o z R) : DoR w w2 g K L fv ov F Q gf o z R := by
  cases R with
  | error t => exact ⟨k.1, h.tt.trans k.2⟩
  | ok S' =>
    obtain ⟨k1, L', fv', ov', F', k2, k3, k4⟩ := k
    refine ⟨k1, L', fv', ov', F', k2, fun b hb => ?_, h.kp.trans k4 fun b hb hf => ?_⟩
    · rcases k3 b hb with r | r
      · exact h.ft b r
      · exact .inr (Nat.le_trans h.kp.size r)
    · rcases h.ft b hf with r | r
      · exact r
      · omega
theorem Mid.refl {w : World} {g : Nat} {K : Cg} {S : Ms} {L : List Fm} {ov : Value} {F Q : Nat → Prop} {gf n cap o : Nat} (h : MachM w g K S L (.slice (some ⟨gf, 0, none⟩) n cap) ov F Q) (hL : 0 < L.length) : Mid w w g K L S L (.slice (some ⟨gf, 0, none⟩) n cap) ov F Q gf o := ⟨h, fun _ q => .inl q, Kp.refl _ _, TopT.refl (h.fblk hL)⟩
theorem Mid.next {w w1 w2 : World} {g : Nat} {K : Cg} {L L1 : List Fm} {S1 : Ms} {ov : Value} {F Q : Nat → Prop} {gf n cap o : Nat} (h : Mid w w1 g K L S1 L1 (.slice (some ⟨gf, 0, none⟩) n cap) ov F Q gf o) (k : Below w1.heap.size w1 w2) : Mid w w2 g K L S1 L1 (.slice (some ⟨gf, 0, none⟩) n cap) ov F Q gf o :=
  ⟨h.m.next k, h.ft, h.kp.next k, h.tt.trans (TopT.of h.tt.b2 k)⟩
theorem Mid.trans {w w1 w2 : World} {g : Nat} {K : Cg} {L L1 L2 : List Fm} {S1 S2 : Ms} {fv ov : Value} {F Q : Nat → Prop} {gf o : Nat} (h : Mid w w1 g K L S1 L1 fv ov F Q gf o) (k : Mid w1 w2 g K L1 S2 L2 fv ov F Q gf o) : Mid w w2 g K L S2 L2 fv ov F Q gf o :=
  ⟨k.m, fun b hb => by
    rcases k.ft b hb with r | r
    · exact h.ft b r
    · exact .inr (Nat.le_trans h.kp.size r), h.kp.trans k.kp fun b hb hf => by
    rcases h.ft b hf with r | r
    · exact r
    · omega, h.tt.trans k.tt⟩
theorem mpush_any {w : World} {g : Nat} {K : Cg} {S : Ms} {L : List Fm} {ov : Value} {F Q : Nat → Prop} {gf cap : Nat} (h : MachM w g K S L (.slice (some ⟨gf, 0, none⟩) L.length cap) ov F Q) {i : Nat} {m : Fm} (hi : L[i]? = some m) (hs : m.f.st.length ≤ 400) (v : V) (o : Nat) :
    Calls Tryz.prog 107 #[.pointer (some ⟨gf, i * 4, none⟩), .agg #[.int .i64 v.1, .int .i64 v.2.1, .string v.2.2]] w fun z w' => Hid (DoR w w' g K L (.slice (some ⟨gf, 0, none⟩) L.length cap) ov F Q gf o z ((pushS m.f v).map (S.setF i))) := by
  have hm : m ∈ L := List.mem_of_getElem? hi
  have hL : 0 < L.length := List.length_pos_of_mem hm
  obtain ⟨gf', cap', e, -, hr, hu⟩ := h.fc hL
  cases e
  obtain ⟨-, -, -, r3⟩ := hr i m hi
  have hrow := (h.rows m hm).2
  refine (push_any (fo := i * 4) r3 (hu _) hrow (rown_ne hrow (h.fblk hL) (by decide)) hs v).mono fun z w' hq => ?_
  have hq := hq.out
  unfold PushR at hq
  unfold pushS
  show DoR _ _ _ _ _ _ _ _ _ _ _ _ _
  by_cases h4 : m.f.st.length = 400
  · rw [if_pos h4] at hq ⊢
    exact ⟨hq.1, TopT.of (h.fblk hL) hq.2⟩
  · rw [if_neg h4] at hq ⊢
    obtain ⟨h1, sv', h2, h3, h5⟩ := hq
    have e2 : vcs m.f.st ++ vc v = vcs (m.f.st ++ [v]) := by rw [Hp.vcs_app]; simp [vcs]
    have e3 : (m.f.st ++ [v]).length = m.f.st.length + 1 := by simp
    rw [e2, ← e3] at h3
    obtain ⟨k1, k2, k3⟩ := h.stack hi h2 (fun b hb => hb) h3 h5
    exact ⟨h1, _, _, _, _, k1, k2, k3⟩
theorem mpop_any {w : World} {g : Nat} {K : Cg} {S : Ms} {L : List Fm} {ov : Value} {F Q : Nat → Prop} {gf cap : Nat} (h : MachM w g K S L (.slice (some ⟨gf, 0, none⟩) L.length cap) ov F Q) {i : Nat} {m : Fm} (hi : L[i]? = some m) (hs : m.f.st.length ≤ 400) {xs : List V} {v : V} (hx : m.f.st = xs ++ [v]) :
    Calls Tryz.prog 109 #[.pointer (some ⟨gf, i * 4, none⟩)] w fun z w' => z = .returned (.agg #[.int .i64 v.1, .int .i64 v.2.1, .string v.2.2]) ∧ Hid (∃ tv', Mid w w' g K L (S.setF i { m.f with st := xs }) (L.set i (m.st' tv' xs)) (.slice (some ⟨gf, 0, none⟩) L.length cap) ov F Q gf (i * 4)) := by
  have hm : m ∈ L := List.mem_of_getElem? hi
  have hL : 0 < L.length := List.length_pos_of_mem hm
  obtain ⟨gf', cap', e, -, hr, hu⟩ := h.fc hL
  cases e
  obtain ⟨-, -, -, r3⟩ := hr i m hi
  have hrow := (h.rows m hm).2
  have hlen : m.f.st.length = xs.length + 1 := by rw [hx]; simp
  obtain ⟨q, cp, etv, hcp, hq⟩ := rown_slice hrow
  obtain ⟨gs, rfl, -⟩ := hq (by omega)
  rw [etv] at r3 hrow
  rw [hlen] at r3 hcp
  have hv : w.rangeAt gs (xs.length * 3) (vc v) := by
    have := vcs_at hrow (m := xs.length) (by omega) rfl
    have e1 : m.f.st[xs.length]'(by omega) = v := by simp [hx]
    rwa [e1] at this
  refine (pop_any (fo := i * 4) r3 (hu _) hv (by omega) hcp).mono fun z w' hq => ⟨hq.1, ?_⟩
  have hpu := hq.2.out
  have ht := own_take hrow (k := xs.length) (by omega)
  have e1 : m.f.st.take xs.length = xs := by rw [hx]; simp
  rw [e1] at ht
  have hne : gs ≠ gf := fun q => rown_ne hrow (h.fblk hL) (by decide) (by rw [q]; exact obk_pos (by omega))
  have hgl : gs < w.heap.size := (rown_blk hrow gs (obk_pos (by omega))).lt
  have ht' : OwnR w' 52 3 (.slice (some ⟨gs, 0, none⟩) xs.length cp) xs.length (vcs xs) := rown_same ht fun b hb => by
    have hb := obk_own hb
    cases hb
    exact hpu.kp.block gs hgl fun q => by
      rcases q with q | q
      · exact hne q
      · cases q
  obtain ⟨k1, k2, k3⟩ := h.stack hi hpu (fun b hb => by cases hb) ht' (fun b hb => .inl (by rw [etv]; exact hb))
  exact ⟨_, k1, k2, k3, TopT.pu (h.fblk hL) hpu rfl⟩
end Go.Proofs.YtahdkffijlfmnaaGreatDoor

namespace Go.Proofs.YtahdkffijlfmnaaGreatDoor
open Go.RowKit
open Hp (V vc vcs)
structure TopM (w : World) (g : Nat) (K : Cg) (S : Ms) (L : List Fm) (ov : Value) (F Q : Nat → Prop) (gf cap n : Nat) (m : Fm) : Prop where
  h : MachM w g K S L (.slice (some ⟨gf, 0, none⟩) (n + 1) cap) ov F Q
  hn : L.length = n + 1
  hm : L[n]? = some m
  hb : n + 1 ≤ 9223372036854775807
  hs : m.f.st.length ≤ 400
structure Now (w0 w : World) (g : Nat) (K : Cg) (L0 : List Fm) (ov : Value) (F Q : Nat → Prop) (gf cap n : Nat) (S : Ms) (m : Fm) : Prop where
  ex : ∃ L, TopM w g K S L ov F Q gf cap n m ∧ Mid w0 w g K L0 S L (.slice (some ⟨gf, 0, none⟩) (n + 1) cap) ov F Q gf (n * 4)
section
variable {w0 w : World} {g : Nat} {K : Cg} {S : Ms} {L0 : List Fm} {ov : Value} {F Q : Nat → Prop} {gf cap n : Nat} {m : Fm}
theorem TopM.now {L : List Fm} (h : TopM w g K S L ov F Q gf cap n m) : Now w w g K L ov F Q gf cap n S m := ⟨L, h, Mid.refl h.h (by have := h.hn; omega)⟩
theorem Now.next {w' : World} (h : Now w0 w g K L0 ov F Q gf cap n S m) (k : Below w.heap.size w w') : Now w0 w' g K L0 ov F Q gf cap n S m := by
  obtain ⟨L, h, k0⟩ := h
  exact ⟨L, ⟨h.h.next k, h.hn, h.hm, h.hb, h.hs⟩, k0.next k⟩
theorem Now.top (h : Now w0 w g K L0 ov F Q gf cap n S m) : Calls Tryz.prog 28 #[.pointer (some ⟨g, 0, none⟩)] w fun z w' => z = .returned (.pointer (some ⟨gf, n * 4, none⟩)) ∧ Hid (Now w0 w' g K L0 ov F Q gf cap n S m) := by
  obtain ⟨L, h, k⟩ := h
  exact (top_any h.h.k7 h.hb).mono fun z w' q => ⟨q.1, Now.next ⟨L, h, k⟩ q.2⟩
def doPush (S : Ms) (n : Nat) (f : Fr) (v : V) : Except Int Ms := (pushS f v).map (S.setF n)
theorem Now.push (h : Now w0 w g K L0 ov F Q gf cap n S m) (v : V) :
    Calls Tryz.prog 107 #[.pointer (some ⟨gf, n * 4, none⟩), .agg #[.int .i64 v.1, .int .i64 v.2.1, .string v.2.2]] w fun z w' => Hid (DoR w0 w' g K L0 (.slice (some ⟨gf, 0, none⟩) (n + 1) cap) ov F Q gf (n * 4) z (doPush S n m.f v)) := by
  obtain ⟨L, h, k⟩ := h
  have hh := h.h
  rw [← h.hn] at hh k ⊢
  exact (mpush_any hh h.hm h.hs v (n * 4)).mono fun _ _ q => DoR.after k q.out
theorem DoR.ret {w' : World} {L : List Fm} {fv : Value} {o : Nat} {z : Ending} {R : Except Int Ms} (h : DoR w w' g K L fv ov F Q gf o z R) : ∃ t, z = .returned (.int .i64 t) := by
  cases R with
  | error t => exact ⟨t, h.1⟩
  | ok S => exact ⟨0, h.1⟩
def Ms.cut (S : Ms) (n : Nat) (f : Fr) (xs : List V) : Ms := S.setF n { f with st := xs }
theorem Now.pop (h : Now w0 w g K L0 ov F Q gf cap n S m) {xs : List V} {v : V} (hx : m.f.st = xs ++ [v]) :
    Calls Tryz.prog 109 #[.pointer (some ⟨gf, n * 4, none⟩)] w fun z w' => z = .returned (.agg #[.int .i64 v.1, .int .i64 v.2.1, .string v.2.2]) ∧ Hid (∃ tv', Now w0 w' g K L0 ov F Q gf cap n (S.cut n m.f xs) (m.st' tv' xs)) := by
  obtain ⟨L, h, k⟩ := h
  have hh := h.h
  have e := h.hn
  rw [← e] at hh
  have hl : n < L.length := by omega
  refine (mpop_any hh h.hm h.hs hx).mono fun z w' q => ⟨q.1, ?_⟩
  obtain ⟨tv', q⟩ := q.2.out
  rw [e] at q
  refine ⟨tv', L.set n (m.st' tv' xs), ⟨q.m, by rw [List.length_set]; exact e, by rw [List.getElem?_set_self hl], h.hb, ?_⟩, k.trans q⟩
  have := h.hs
  rw [hx] at this
  show xs.length ≤ 400
  simp at this
  omega
theorem Now.err (h : Now w0 w g K L0 ov F Q gf cap n S m) (t : Int) : DoR w0 w g K L0 (.slice (some ⟨gf, 0, none⟩) (n + 1) cap) ov F Q gf (n * 4) (.returned (.int .i64 t)) (.error t) := by
  obtain ⟨L, h, k⟩ := h
  exact ⟨rfl, k.tt⟩
theorem Now.ok (h : Now w0 w g K L0 ov F Q gf cap n S m) : DoR w0 w g K L0 (.slice (some ⟨gf, 0, none⟩) (n + 1) cap) ov F Q gf (n * 4) (.returned (.int .i64 0)) (.ok S) := by
  obtain ⟨L, h, k⟩ := h
  exact ⟨rfl, L, _, _, _, k.m, k.ft, k.kp⟩
end
def doPushOr (S : Ms) (n : Nat) (f : Fr) (r : V × Int) : Except Int Ms := if r.2 = 0 then doPush S n f r.1 else .error r.2
set_option maxRecDepth 100000 in
set_option maxHeartbeats 2000000 in
theorem Now.pushOr {w0 w : World} {g : Nat} {K : Cg} {S : Ms} {L0 : List Fm} {ov : Value} {F Q : Nat → Prop} {gf cap n : Nat} {m : Fm} (h : Now w0 w g K L0 ov F Q gf cap n S m) (v : V) (t : Int) :
    Calls Tryz.prog 110 #[.pointer (some ⟨gf, n * 4, none⟩), .agg #[.int .i64 v.1, .int .i64 v.2.1, .string v.2.2], .int .i64 t] w fun z w' => Hid (DoR w0 w' g K L0 (.slice (some ⟨gf, 0, none⟩) (n + 1) cap) ov F Q gf (n * 4) z (doPushOr S n m.f (v, t))) := by
  obtain ⟨k, j, s⟩ := v
  unfold doPushOr
  show Calls _ _ #[_, .agg #[.int .i64 k, .int .i64 j, .string s], _] _ fun z w' => Hid (DoR _ _ _ _ _ _ _ _ _ _ _ _ (if t = 0 then doPush S n m.f (k, j, s) else .error t))
  have hX : ∀ X, Below w.heap.size w X → Now w0 X g K L0 ov F Q gf cap n S m := fun X b => h.next b
  have hA : Below w.heap.size w (w.alloc (.cells #[.int .i64 k, .int .i64 j, .string s] 52)) := (Below.refl _ w).alloc (Nat.le_refl _) _
  by_cases ht : t = 0
  · subst ht
    rw [if_pos rfl]
    obtain ⟨X, eX⟩ : ∃ X, w.alloc (.cells #[.int .i64 k, .int .i64 j, .string s] 52) = X := ⟨_, rfl⟩
    have fX : Full X w.heap.size 52 [.int .i64 k, .int .i64 j, .string s] := by rw [← eX]; exact Full.new w _ _
    rw [eX] at hA
    have d1 := (hX _ hA).push (k, j, s)
    have x0 := (fX.cell 0 _ rfl).1
    have x1 := (fX.cell 1 _ rfl).1
    have x2 := (fX.cell 2 _ rfl).1
    generalize doPush S n m.f (k, j, s) = R at d1 ⊢
    clear hX hA h fX
    go_enter Tryz.func110, Tryz.ntmps110
    go_wp2_with (first | (go_at_call 107; refine d1.mono ?_; intro z3 w3 hq3; clear d1; obtain ⟨t3, e3⟩ := DoR.ret hq3.out; subst e3) | fail)
    go_ret
    exact hq3
  · rw [if_neg ht]
    have k0 : (t == 0) = false := by rw [beq_eq_false_iff_ne]; exact ht
    have k1 : (t != 0) = true := by rw [bne, k0]; rfl
    have HE := fun X b => (hX X b).err t
    clear hX h
    go_enter Tryz.func110, Tryz.ntmps110
    go_wp2
    go_ret
    exact HE _ hA
set_option maxRecDepth 100000 in
set_option maxHeartbeats 2000000 in
theorem doInt_any {w : World} {g : Nat} {K : Cg} {S : Ms} {L : List Fm} {ov : Value} {F Q : Nat → Prop} {gf cap n : Nat} {m : Fm} (h : Now w w g K L ov F Q gf cap n S m) (a : Int) :
    Calls Tryz.prog 74 #[.pointer (some ⟨g, 0, none⟩), .int .i64 a] w fun z w' => Hid (DoR w w' g K L (.slice (some ⟨gf, 0, none⟩) (n + 1) cap) ov F Q gf (n * 4) z (doPush S n m.f (1, a, Hp.e0))) := by
  have H0 : Hid (Now w w g K L ov F Q gf cap n S m) := h
  clear h
  go_enter Tryz.func74, Tryz.ntmps74
  go_wp2_with (first
    | (go_at_call 28; refine (Now.top H0.out).mono ?_; rintro z1 w1 ⟨rfl, H1⟩; clear H0)
    | (go_at_call 108; refine (mnumber_any _ w1).mono ?_; rintro z2 w2 ⟨rfl, hb2⟩; have H2 : Hid (Now w w2 g K L ov F Q gf cap n S m) := H1.out.next hb2; clear H1 hb2)
    | (go_at_call 107; refine (Now.push H2.out (1, a, Hp.e0)).mono ?_; intro z3 w3 hq3; obtain ⟨t3, e3⟩ := DoR.ret hq3.out; subst e3)
    | fail)
  go_ret
  exact hq3
end Go.Proofs.YtahdkffijlfmnaaGreatDoor

namespace Go.Proofs.YtahdkffijlfmnaaGreatDoor
open Go.RowKit
open Hp (V vc vcs)
set_option maxRecDepth 100000 in
set_option maxHeartbeats 2000000 in
theorem doBool_any {w : World} {g : Nat} {K : Cg} {S : Ms} {L : List Fm} {ov : Value} {F Q : Nat → Prop} {gf cap n : Nat} {m : Fm} (h : Now w w g K L ov F Q gf cap n S m) (a : Int) :
    Calls Tryz.prog 75 #[.pointer (some ⟨g, 0, none⟩), .int .i64 a] w fun z w' => Hid (DoR w w' g K L (.slice (some ⟨gf, 0, none⟩) (n + 1) cap) ov F Q gf (n * 4) z (doPush S n m.f (2, a, Hp.e0))) := by
  have H0 : Hid (Now w w g K L ov F Q gf cap n S m) := h
  clear h
  go_enter Tryz.func75, Tryz.ntmps75
  go_wp2_with (first
    | (go_at_call 28; refine (Now.top H0.out).mono ?_; rintro z1 w1 ⟨rfl, H1⟩; clear H0)
    | (go_at_call 107; refine (Now.push H1.out (2, a, Hp.e0)).mono ?_; intro z3 w3 hq3; obtain ⟨t3, e3⟩ := DoR.ret hq3.out; subst e3)
    | fail)
  go_ret
  exact hq3
set_option maxRecDepth 100000 in
set_option maxHeartbeats 2000000 in
theorem doPop_any {w : World} {g : Nat} {K : Cg} {S : Ms} {L : List Fm} {ov : Value} {F Q : Nat → Prop} {gf cap n : Nat} {m : Fm} (h : Now w w g K L ov F Q gf cap n S m) {xs : List V} {v : V} (hx : m.f.st = xs ++ [v]) :
    Calls Tryz.prog 79 #[.pointer (some ⟨g, 0, none⟩)] w fun z w' => Hid (DoR w w' g K L (.slice (some ⟨gf, 0, none⟩) (n + 1) cap) ov F Q gf (n * 4) z (.ok (S.cut n m.f xs))) := by
  have H0 : Hid (Now w w g K L ov F Q gf cap n S m) := h
  have HX : Hid (m.f.st = xs ++ [v]) := hx
  clear h hx
  go_enter Tryz.func79, Tryz.ntmps79
  go_wp2_with (first
    | (go_at_call 28; refine (Now.top H0.out).mono ?_; rintro z1 w1 ⟨rfl, H1⟩; clear H0)
    | (go_at_call 109; refine (Now.pop H1.out HX.out).mono ?_; rintro z2 w2 ⟨rfl, H2⟩; clear H1)
    | fail)
  go_ret
  obtain ⟨tv', H2⟩ := H2.out
  exact H2.ok
def vt (r : Hp.VT) : V × Int := ((r.1, r.2.1, r.2.2.1), r.2.2.2)
def cutPush (S : Ms) (n : Nat) (f : Fr) (xs : List V) (r : V × Int) : Except Int Ms := doPushOr (S.cut n f xs) n { f with st := xs } r
set_option maxRecDepth 100000 in
set_option maxHeartbeats 2000000 in
theorem doUn_any {w : World} {g : Nat} {K : Cg} {S : Ms} {L : List Fm} {ov : Value} {F Q : Nat → Prop} {gf cap n : Nat} {m : Fm} (h : Now w w g K L ov F Q gf cap n S m) {xs : List V} {v : V} (hx : m.f.st = xs ++ [v]) (hv : v.2.2.size ≤ 9223372036854775807) (op : Int) :
    Calls Tryz.prog 80 #[.pointer (some ⟨g, 0, none⟩), .int .i64 op] w fun z w' => Hid (DoR w w' g K L (.slice (some ⟨gf, 0, none⟩) (n + 1) cap) ov F Q gf (n * 4) z (cutPush S n m.f xs (vt (Hp.unS op v.1 v.2.1 v.2.2)))) := by
  have H0 : Hid (Now w w g K L ov F Q gf cap n S m) := h
  have HX : Hid (m.f.st = xs ++ [v] ∧ v.2.2.size ≤ 9223372036854775807) := ⟨hx, hv⟩
  clear h hx hv
  have HU := fun W => Hp.unary_any op v.1 v.2.1 v.2.2 W HX.out.2
  obtain ⟨r, hr⟩ : ∃ r, Hp.unS op v.1 v.2.1 v.2.2 = r := ⟨_, rfl⟩
  rw [hr] at HU ⊢
  have HU : Hid _ := HU
  go_enter Tryz.func80, Tryz.ntmps80
  go_wp2_with (first
    | (go_at_call 28; refine (Now.top H0.out).mono ?_; rintro z1 w1 ⟨rfl, H1⟩; clear H0)
    | (go_at_call 109; refine (Now.pop H1.out HX.out.1).mono ?_; rintro z2 w2 ⟨rfl, H2⟩; clear H1; obtain ⟨tv', H2⟩ := H2.out; replace H2 : Hid _ := H2)
    | (go_at_call 111; refine (HU.out w2).mono ?_; rintro z3 w3 ⟨rfl, hb3⟩; have H3 := H2.out.next hb3; replace H3 : Hid _ := H3; clear H2 hb3)
    | (go_at_call 110; refine (Now.pushOr H3.out (r.1, r.2.1, r.2.2.1) r.2.2.2).mono ?_; intro z4 w4 hq4; obtain ⟨t4, e4⟩ := DoR.ret hq4.out; subst e4)
    | fail)
  go_ret
  exact hq4
set_option maxRecDepth 100000 in
set_option maxHeartbeats 2000000 in
theorem doBin_any {w : World} {g : Nat} {K : Cg} {S : Ms} {L : List Fm} {ov : Value} {F Q : Nat → Prop} {gf cap n : Nat} {m : Fm} (h : Now w w g K L ov F Q gf cap n S m) {xs : List V} {v u : V} (hx : m.f.st = (xs ++ [v]) ++ [u]) (hv : v.2.2.size ≤ 9223372036854775807) (hu : u.2.2.size ≤ 9223372036854775807) (op : Int) :
    Calls Tryz.prog 81 #[.pointer (some ⟨g, 0, none⟩), .int .i64 op] w fun z w' => Hid (DoR w w' g K L (.slice (some ⟨gf, 0, none⟩) (n + 1) cap) ov F Q gf (n * 4) z (cutPush (S.cut n m.f (xs ++ [v])) n { m.f with st := xs ++ [v] } xs (vt (Hp.binS op v.1 v.2.1 v.2.2 u.1 u.2.1 u.2.2)))) := by
  have H0 : Hid (Now w w g K L ov F Q gf cap n S m) := h
  have HX : Hid (m.f.st = (xs ++ [v]) ++ [u]) := hx
  have HU := fun W => Hp.binary_any op v.1 v.2.1 v.2.2 u.1 u.2.1 u.2.2 W hv hu
  clear h hx hv hu
  obtain ⟨r, hr⟩ : ∃ r, Hp.binS op v.1 v.2.1 v.2.2 u.1 u.2.1 u.2.2 = r := ⟨_, rfl⟩
  rw [hr] at HU ⊢
  have HU : Hid _ := HU
  go_enter Tryz.func81, Tryz.ntmps81
  go_wp2_with (first
    | (go_at_call 28; refine (Now.top H0.out).mono ?_; rintro z1 w1 ⟨rfl, H1⟩; clear H0)
    | (go_at_call 109; refine (Now.pop H1.out HX.out).mono ?_; rintro z2 w2 ⟨rfl, H2⟩; clear H1; obtain ⟨tv', H2⟩ := H2.out; replace H2 : Hid _ := H2)
    | (go_at_call 109; refine (Now.pop (xs := xs) (v := v) H2.out rfl).mono ?_; rintro z5 w5 ⟨rfl, H5⟩; clear H2; obtain ⟨tv5, H5⟩ := H5.out; replace H5 : Hid _ := H5)
    | (go_at_call 112; refine (HU.out _).mono ?_; rintro z3 w3 ⟨rfl, hb3⟩; have H3 := ((H5.out.next ((Below.refl _ _).alloc (Nat.le_refl _) _)).next ((Below.refl _ _).alloc (Nat.le_refl _) _)).next hb3; replace H3 : Hid _ := H3; clear H5 hb3)
    | (go_at_call 110; refine (Now.pushOr H3.out (r.1, r.2.1, r.2.2.1) r.2.2.2).mono ?_; intro z4 w4 hq4; obtain ⟨t4, e4⟩ := DoR.ret hq4.out; subst e4)
    | fail)
  go_ret
  exact hq4
end Go.Proofs.YtahdkffijlfmnaaGreatDoor

namespace Go.Proofs.YtahdkffijlfmnaaGreatDoor
open Go.RowKit
open Hp (V vc vcs)
def Fm.at' (m : Fm) (p : Int) : Fm := ⟨{ m.f with pc := p }, m.sv, m.tv⟩
def Ms.jump (S : Ms) (n : Nat) (f : Fr) (p : Int) : Ms := S.setF n { f with pc := p }
theorem Now.place {w0 w : World} {g : Nat} {K : Cg} {S : Ms} {L0 : List Fm} {ov : Value} {F Q : Nat → Prop} {gf cap n : Nat} {m : Fm} (h : Now w0 w g K L0 ov F Q gf cap n S m) (p : Int) : Now w0 (w.setCell ⟨gf, n * 4 + 1, none⟩ (.int .i64 p)) g K L0 ov F Q gf cap n (S.jump n m.f p) (m.at' p) := by
  obtain ⟨L, h, k⟩ := h
  have hl : n < L.length := by have := h.hn; omega
  have hmm : m ∈ L := List.mem_of_getElem? h.hm
  have hfr := h.h.fr
  have hb := h.h.fblk (by have := h.hn; omega)
  rw [← h.hn] at hfr
  have hk : Kp (fun x => x = gf) w (w.setCell ⟨gf, n * 4 + 1, none⟩ (.int .i64 p)) := (Kp.refl (fun x => x = gf) w).setCell (p := ⟨gf, n * 4 + 1, none⟩) (.inl rfl) _
  have hset := fr_set (w' := w.setCell ⟨gf, n * 4 + 1, none⟩ (.int .i64 p)) (m' := m.at' p) hfr h.hm 1 (by decide) (.int .i64 p) rfl rfl
  obtain ⟨r1, r2⟩ := h.h.rows m hmm
  have keep : ∀ {v : Value} {q : Nat} {xs : List Value}, OwnR w 52 3 v q xs → OwnR (w.setCell ⟨gf, n * 4 + 1, none⟩ (.int .i64 p)) 52 3 v q xs := fun ho => rown_same ho fun b hbk => set_heap (a := ⟨gf, n * 4 + 1, none⟩) fun e => rown_ne ho hb (by decide) (hbk.trans (congrArg some e))
  have hfv : (obk (Value.slice (some ⟨gf, 0, none⟩) (n + 1) cap)) = some gf := h.h.fob (by omega)
  have hkk : Kp (fun x => (obk (Value.slice (some ⟨gf, 0, none⟩) (n + 1) cap)) = some x ∨ (obk m.sv) = some x ∨ (obk m.tv) = some x) w (w.setCell ⟨gf, n * 4 + 1, none⟩ (.int .i64 p)) := ⟨hk.os, hk.tape, hk.output, hk.size, fun b hbl hn => hk.block b hbl fun e => hn (.inl (by rw [e]; exact hfv))⟩
  have hkf : Kp (foot L (.slice (some ⟨gf, 0, none⟩) (n + 1) cap) ov F) w (w.setCell ⟨gf, n * 4 + 1, none⟩ (.int .i64 p)) := ⟨hk.os, hk.tape, hk.output, hk.size, fun b hbl hn => hk.block b hbl fun e => hn (.inr (.inl (by rw [e]; exact hfv)))⟩
  rw [h.hn] at hset
  have e2 := h.h.frame h.hm (m' := m.at' p) hkk (by rw [h.hn]; exact hset) (keep r1) (keep r2) (fun b hb => .inl hb) (fun b hb => .inl hb) (fun b hb => (h.h.sep n n m m h.hm h.hm).1 b hb)
  refine ⟨L.set n (m.at' p), ⟨e2.1, by rw [List.length_set]; exact h.hn, by rw [List.getElem?_set_self hl], h.hb, h.hs⟩, k.trans ⟨e2.1, e2.2, hkf, hk, ?_⟩⟩
  obtain ⟨C, hC, -⟩ := hb
  refine ⟨C, C.set! (n * 4 + 1) (.int .i64 p), hC, set_blk hC _, by simp, fun j h1 _ => ?_⟩
  simp only [Array.set!_eq_setIfInBounds]
  rw [Array.getElem?_setIfInBounds_ne (Ne.symm h1)]
theorem Now.fc {w0 w : World} {g : Nat} {K : Cg} {S : Ms} {L0 : List Fm} {ov : Value} {F Q : Nat → Prop} {gf cap n : Nat} {m : Fm} (h : Now w0 w g K L0 ov F Q gf cap n S m) : w.cell? ⟨gf, n * 4, none⟩ = some (.int .i64 m.f.fn) ∧ w.cell? ⟨gf, n * 4 + 1, none⟩ = some (.int .i64 m.f.pc) ∧ w.cell? ⟨gf, n * 4 + 2, none⟩ = some m.sv ∧ w.cell? ⟨gf, n * 4 + 3, none⟩ = some m.tv ∧ ∀ j, w.frozen? ⟨gf, j, none⟩ = false := by
  obtain ⟨L, h, k⟩ := h
  obtain ⟨gf', cap', e, -, hr, hu⟩ := h.h.fc (by have := h.hn; omega)
  have e1 : gf = gf' := by injection e with e1 _ _; injection e1 with e1; injection e1
  subst e1
  obtain ⟨a, b, c, d⟩ := hr n m h.hm
  exact ⟨a, b, c, d, hu⟩
theorem Now.mach {w0 w : World} {g : Nat} {K : Cg} {S : Ms} {L0 : List Fm} {ov : Value} {F Q : Nat → Prop} {gf cap n : Nat} {m : Fm} (h : Now w0 w g K L0 ov F Q gf cap n S m) : ∃ L, MachM w g K S L (.slice (some ⟨gf, 0, none⟩) (n + 1) cap) ov F Q ∧ L.length = n + 1 ∧ L[n]? = some m ∧ n + 1 ≤ 9223372036854775807 := by
  obtain ⟨L, h, k⟩ := h
  exact ⟨L, h.h, h.hn, h.hm, h.hb⟩
def FnOk (K : Cg) (f : Fr) (i : Nat) : Prop := f.fn = (i : Int) ∧ i < K.Es.length ∧ K.Es.length ≤ 100000
theorem Now.inPiece {w0 w : World} {g : Nat} {K : Cg} {S : Ms} {L0 : List Fm} {ov : Value} {F Q : Nat → Prop} {gf cap n : Nat} {m : Fm} (h : Now w0 w g K L0 ov F Q gf cap n S m) {i : Nat} (hf : FnOk K m.f i) (p : Int) :
    Calls Tryz.prog 53 #[.pointer (some ⟨g, 0, none⟩), .int .i64 p] w fun z w' => z = .returned (.bool (inM K i hf.2.1 p)) ∧ Hid (Now w0 w' g K L0 ov F Q gf cap n S m) := by
  obtain ⟨L, a, b, c, d⟩ := h.mach
  exact (inPiece_any a b c d hf.1 hf.2.1 hf.2.2 p).mono fun z w' q => ⟨q.1, h.next q.2⟩
def doJumpS (K : Cg) (S : Ms) (n : Nat) (f : Fr) (i : Nat) (hi : i < K.Es.length) (p : Int) : Except Int Ms := if inM K i hi p = true then .ok (S.jump n f p) else .error 7
set_option maxRecDepth 100000 in
set_option maxHeartbeats 2000000 in
theorem Now.doJump {w0 w : World} {g : Nat} {K : Cg} {S : Ms} {L : List Fm} {ov : Value} {F Q : Nat → Prop} {gf cap n : Nat} {m : Fm} (h : Now w0 w g K L ov F Q gf cap n S m) {i : Nat} (hf : FnOk K m.f i) (p : Int) :
    Calls Tryz.prog 82 #[.pointer (some ⟨g, 0, none⟩), .int .i64 p] w fun z w' => Hid (DoR w0 w' g K L (.slice (some ⟨gf, 0, none⟩) (n + 1) cap) ov F Q gf (n * 4) z (doJumpS K S n m.f i hf.2.1 p)) := by
  have HF : Hid (FnOk K m.f i) := hf
  have d1 := h.inPiece HF.out p
  unfold doJumpS
  obtain ⟨r, hr⟩ : ∃ r, inM K i hf.2.1 p = r := ⟨_, rfl⟩
  rw [hr] at d1 ⊢
  clear h hr hf
  cases r with
  | false =>
    rw [if_neg (by decide)]
    go_enter Tryz.func82, Tryz.ntmps82
    go_wp2_with (first
      | (go_at_call 53; refine d1.mono ?_; rintro z1 w1 ⟨rfl, H1⟩; clear d1)
      | fail)
    go_ret
    exact H1.out.err 7
  | true =>
    rw [if_pos rfl]
    go_enter Tryz.func82, Tryz.ntmps82
    go_wp2_with (first
      | (go_at_call 53; refine d1.mono ?_; rintro z1 w1 ⟨rfl, H1⟩; clear d1)
      | (go_at_call 28; refine (Now.top H1.out).mono ?_; rintro z2 w2 ⟨rfl, H2⟩; clear H1; obtain ⟨-, f1, -, -, fu⟩ := H2.out.fc; have fz := fu (n * 4 + 1); clear fu)
      | fail)
    go_ret
    exact (H2.out.place p).ok
end Go.Proofs.YtahdkffijlfmnaaGreatDoor

namespace Go.Proofs.YtahdkffijlfmnaaGreatDoor
open Go.RowKit
open Hp (V vc vcs)
theorem Now.alloc {w0 w : World} {g : Nat} {K : Cg} {S : Ms} {L0 : List Fm} {ov : Value} {F Q : Nat → Prop} {gf cap n : Nat} {m : Fm} (h : Now w0 w g K L0 ov F Q gf cap n S m) (o : Obj) : Now w0 (w.alloc o) g K L0 ov F Q gf cap n S m := h.next ((Below.refl _ _).alloc (Nat.le_refl _) _)
def doFalseS (K : Cg) (S : Ms) (n : Nat) (f : Fr) (i : Nat) (hi : i < K.Es.length) (p : Int) (xs : List V) (v : V) : Except Int Ms :=
  if v.1 = 2 then (if v.2.1 = 0 then doJumpS K (S.cut n f xs) n { f with st := xs } i hi p else .ok (S.cut n f xs)) else .error 7
set_option maxRecDepth 100000 in
set_option maxHeartbeats 2000000 in
theorem doFalse_any {w : World} {g : Nat} {K : Cg} {S : Ms} {L : List Fm} {ov : Value} {F Q : Nat → Prop} {gf cap n : Nat} {m : Fm} (h : Now w w g K L ov F Q gf cap n S m) {xs : List V} {v : V} (hx : m.f.st = xs ++ [v]) {i : Nat} (hf : FnOk K m.f i) (p : Int) :
    Calls Tryz.prog 83 #[.pointer (some ⟨g, 0, none⟩), .int .i64 p] w fun z w' => Hid (DoR w w' g K L (.slice (some ⟨gf, 0, none⟩) (n + 1) cap) ov F Q gf (n * 4) z (doFalseS K S n m.f i hf.2.1 p xs v)) := by
  obtain ⟨k, j, s⟩ := v
  have H0 : Hid (Now w w g K L ov F Q gf cap n S m) := h
  have HX : Hid (m.f.st = xs ++ [(k, j, s)]) := hx
  have HF : Hid (FnOk K m.f i) := hf
  unfold doFalseS
  show Calls _ _ _ _ fun z w' => Hid (DoR _ _ _ _ _ _ _ _ _ _ _ _ (if k = 2 then (if j = 0 then _ else _) else _))
  clear h hx
  have e5 : ¬ ((2 : Int) = 0) := by decide
  by_cases h1 : k = 2
  · subst h1
    rw [if_pos rfl]
    by_cases h2 : j = 0
    · subst h2
      rw [if_pos rfl]
      go_enter Tryz.func83, Tryz.ntmps83
      go_wp2_with (first
        | (go_at_call 28; refine (Now.top H0.out).mono ?_; rintro z1 w1 ⟨rfl, H1⟩; clear H0)
        | (go_at_call 109; refine (Now.pop H1.out HX.out).mono ?_; rintro z2 w2 ⟨rfl, H2⟩; clear H1; obtain ⟨tv', H2⟩ := H2.out; replace H2 : Hid _ := H2)
        | (go_at_call 82; refine (Now.doJump (H2.out.alloc _) (i := i) HF.out p).mono ?_; intro z4 w4 hq4; obtain ⟨t4, e4⟩ := DoR.ret hq4.out; subst e4)
        | fail)
      go_ret
      exact hq4
    · rw [if_neg h2]
      have k0 : (j == 0) = false := by rw [beq_eq_false_iff_ne]; exact h2
      clear hf
      go_enter Tryz.func83, Tryz.ntmps83
      go_wp2_with (first
        | (go_at_call 28; refine (Now.top H0.out).mono ?_; rintro z1 w1 ⟨rfl, H1⟩; clear H0)
        | (go_at_call 109; refine (Now.pop H1.out HX.out).mono ?_; rintro z2 w2 ⟨rfl, H2⟩; clear H1; obtain ⟨tv', H2⟩ := H2.out; replace H2 : Hid _ := H2)
        | fail)
      go_ret
      exact (H2.out.alloc _).ok
  · rw [if_neg h1]
    have k0 : (k == 2) = false := by rw [beq_eq_false_iff_ne]; exact h1
    have k1 : (k != 2) = true := by rw [bne, k0]; rfl
    clear hf
    go_enter Tryz.func83, Tryz.ntmps83
    go_wp2_with (first
      | (go_at_call 28; refine (Now.top H0.out).mono ?_; rintro z1 w1 ⟨rfl, H1⟩; clear H0)
      | (go_at_call 109; refine (Now.pop H1.out HX.out).mono ?_; rintro z2 w2 ⟨rfl, H2⟩; clear H1; obtain ⟨tv', H2⟩ := H2.out; replace H2 : Hid _ := H2)
      | fail)
    go_ret
    exact (H2.out.alloc _).err 7
def doLoadS (S : Ms) (n : Nat) (f : Fr) (a : Nat) : Except Int Ms := if h : a < f.sl.length then doPush S n f f.sl[a] else .error 7
set_option maxRecDepth 100000 in
set_option maxHeartbeats 2000000 in
theorem doLoad_any {w : World} {g : Nat} {K : Cg} {S : Ms} {L : List Fm} {ov : Value} {F Q : Nat → Prop} {gf cap n : Nat} {m : Fm} (h : Now w w g K L ov F Q gf cap n S m) (a : Nat) :
    Calls Tryz.prog 77 #[.pointer (some ⟨g, 0, none⟩), .int .i64 (a : Int)] w fun z w' => Hid (DoR w w' g K L (.slice (some ⟨gf, 0, none⟩) (n + 1) cap) ov F Q gf (n * 4) z (doLoadS S n m.f a)) := by
  have H0 : Hid (Now w w g K L ov F Q gf cap n S m) := h
  obtain ⟨L1, hM, -, hm, -⟩ := h.mach
  have hmm : m ∈ L1 := List.mem_of_getElem? hm
  have hrow := (hM.rows m hmm).1
  obtain ⟨q, c, esv, -, hr⟩ := rown_slice hrow
  unfold doLoadS
  have i0 : (0 : Int) ≤ (a : Int) := by omega
  by_cases ha : a < m.f.sl.length
  · rw [dif_pos ha]
    obtain ⟨gs, rfl, hr⟩ := hr (by omega)
    have HC : Hid (∀ w', Now w w' g K L ov F Q gf cap n S m → w'.cell? ⟨gf, n * 4 + 2, none⟩ = some (.slice (some ⟨gs, 0, none⟩) m.f.sl.length c) ∧ w'.cell? ⟨gs, a * 3, none⟩ = some (.int .i64 (m.f.sl[a]).1) ∧ w'.cell? ⟨gs, a * 3 + 1, none⟩ = some (.int .i64 (m.f.sl[a]).2.1) ∧ w'.cell? ⟨gs, a * 3 + 2, none⟩ = some (.string (m.f.sl[a]).2.2)) := fun w' h' => by
      obtain ⟨L2, hM, -, hm, -⟩ := h'.mach
      have hrow := (hM.rows m (List.mem_of_getElem? hm)).1
      rw [esv] at hrow
      have hv := vcs_at hrow ha rfl
      refine ⟨by rw [← esv]; exact h'.fc.2.2.1, ?_, ?_, ?_⟩
      · exact hv 0 _ rfl
      · exact hv 1 _ rfl
      · exact hv 2 _ rfl
    obtain ⟨v, hv⟩ : ∃ v, m.f.sl[a] = v := ⟨_, rfl⟩
    rw [hv] at HC ⊢
    obtain ⟨k, j, s⟩ := v
    obtain ⟨N, hN⟩ : ∃ N, m.f.sl.length = N := ⟨_, rfl⟩
    rw [hN] at HC
    have i1 : (a : Int) < (N : Int) := by omega
    have i2 : ¬ ((N : Int) ≤ (a : Int)) := by omega
    clear hrow hr hM hm h hv hN ha
    go_enter Tryz.func77, Tryz.ntmps77
    go_wp2_with (first
      | (go_at_call 28; refine (Now.top H0.out).mono ?_; rintro z1 w1 ⟨rfl, H1⟩; clear H0; obtain ⟨c0, c1, c2, c3⟩ := HC.out w1 H1.out)
      | (go_at_call 107; refine (Now.push H1.out (k, j, s)).mono ?_; intro z4 w4 hq4; obtain ⟨t4, e4⟩ := DoR.ret hq4.out; subst e4)
      | fail)
    go_ret
    exact hq4
  · rw [dif_neg ha]
    have HC : Hid (∀ w', Now w w' g K L ov F Q gf cap n S m → w'.cell? ⟨gf, n * 4 + 2, none⟩ = some (.slice q m.f.sl.length c)) := fun w' h' => by rw [← esv]; exact h'.fc.2.2.1
    obtain ⟨N, hN⟩ : ∃ N, m.f.sl.length = N := ⟨_, rfl⟩
    rw [hN] at HC
    have i2 : ((N : Int) ≤ (a : Int)) := by omega
    clear hrow hr hM hm h hN ha
    go_enter Tryz.func77, Tryz.ntmps77
    go_wp2_with (first
      | (go_at_call 28; refine (Now.top H0.out).mono ?_; rintro z1 w1 ⟨rfl, H1⟩; clear H0; have c0 := HC.out w1 H1.out)
      | fail)
    go_ret
    exact H1.out.err 7
end Go.Proofs.YtahdkffijlfmnaaGreatDoor
