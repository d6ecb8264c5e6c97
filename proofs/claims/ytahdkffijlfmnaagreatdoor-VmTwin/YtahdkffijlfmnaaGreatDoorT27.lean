import Derived.Test.YtahdkffijlfmnaaGreatDoorT25
namespace Go.Proofs.YtahdkffijlfmnaaGreatDoor
open Go.RowKit
open Hp (V vc vcs)
structure Live (w : World) (g : Nat) (K : Cg) (S : Ms) (L : List Fm) (fv ov : Value) (F Q : Nat → Prop) : Prop where
  m : MachM w g K S L fv ov F Q
  g : GloM w L fv ov F
  k : KOk K
  s : StOk K S
def LiveW (w w' : World) (g : Nat) (K : Cg) (S' : Ms) (L : List Fm) (fv ov : Value) (F Q : Nat → Prop) : Prop :=
  ∃ L' fv' ov' F', Live w' g K S' L' fv' ov' F' Q ∧ (∀ b, foot L' fv' ov' F' b → foot L fv ov F b ∨ w.heap.size ≤ b) ∧ Kp (foot L fv ov F) w w'
theorem Live.went {w w' : World} {g : Nat} {K : Cg} {S S' : Ms} {L : List Fm} {fv ov : Value} {F Q : Nat → Prop} (h : Live w g K S L fv ov F Q) (hs : StOk K S') (k : WentM w w' g K S' L fv ov F Q) : LiveW w w' g K S' L fv ov F Q := by
  obtain ⟨L', fv', ov', F', k1, k2, k3⟩ := k
  refine ⟨L', fv', ov', F', ⟨k1, ⟨h.g.1.kept k3 h.g.2, fun b hb q => ?_⟩, h.k, hs⟩, k2, k3⟩
  rcases k2 b q with r | r
  · exact h.g.2 b hb r
  · have := h.g.1.tabs.size
    omega
theorem Live.self {w : World} {g : Nat} {K : Cg} {S : Ms} {L : List Fm} {fv ov : Value} {F Q : Nat → Prop} (h : Live w g K S L fv ov F Q) : LiveW w w g K S L fv ov F Q := ⟨L, fv, ov, F, h, fun _ q => .inl q, Kp.refl _ _⟩
theorem Live.next {w w' : World} {g : Nat} {K : Cg} {S : Ms} {L : List Fm} {fv ov : Value} {F Q : Nat → Prop} (h : Live w g K S L fv ov F Q) (b : Below w.heap.size w w') : Live w' g K S L fv ov F Q := ⟨h.m.next b, ⟨h.g.1.next b, h.g.2⟩, h.k, h.s⟩
theorem LiveW.next {w w1 w2 : World} {g : Nat} {K : Cg} {S : Ms} {L : List Fm} {fv ov : Value} {F Q : Nat → Prop} (h : LiveW w w1 g K S L fv ov F Q) (b : Below w1.heap.size w1 w2) : LiveW w w2 g K S L fv ov F Q := by
  obtain ⟨L', fv', ov', F', h1, h2, h3⟩ := h
  exact ⟨L', fv', ov', F', h1.next b, h2, h3.next b⟩
theorem live_step {w w1 : World} {g : Nat} {K : Cg} {S : Ms} {L : List Fm} {fv ov : Value} {F Q : Nat → Prop} (h : LiveW w w1 g K S L fv ov F Q) (ho : S.out.length ≤ 900000000) :
    Calls Tryz.prog 12 #[.pointer (some ⟨g, 0, none⟩)] w1 fun z w' => z = .returned (.tuple #[ydV (mstepS K S).2.1, .bool (mstepS K S).2.2]) ∧ Hid (LiveW w w' g K (mstepS K S).1 L fv ov F Q) := by
  obtain ⟨L1, fv1, ov1, F1, h1, h2, h3⟩ := id h
  refine (step_any h1.m h1.g h1.k h1.s ho).mono fun z w' q => ⟨q.1, ?_⟩
  have h4 := h1.went (step_ok h1.k h1.s h1.m.used).1 q.2.out
  obtain ⟨L2, fv2, ov2, F2, k1, k2, k3⟩ := h4
  refine ⟨L2, fv2, ov2, F2, k1, fun b hb => ?_, h3.trans k3 fun b hb hf => ?_⟩
  · rcases k2 b hb with r | r
    · exact h2 b r
    · exact .inr (Nat.le_trans h3.size r)
  · rcases h2 b hf with r | r
    · exact r
    · omega
theorem LiveW.out {w w1 : World} {g : Nat} {K : Cg} {S : Ms} {L : List Fm} {fv ov : Value} {F Q : Nat → Prop} (h : LiveW w w1 g K S L fv ov F Q) : (mstepS K S).1.out.length ≤ S.out.length + 4200 := by
  obtain ⟨L1, fv1, ov1, F1, h1, -⟩ := h
  obtain ⟨-, l, l1, l2⟩ := step_ok h1.k h1.s h1.m.used
  rw [l1, List.length_append]
  omega
theorem LiveW.k15 {w w1 : World} {g : Nat} {K : Cg} {S : Ms} {L : List Fm} {fv ov : Value} {F Q : Nat → Prop} (h : LiveW w w1 g K S L fv ov F Q) : w1.cell? ⟨g, 15, none⟩ = some (.int .i64 S.ph) := by
  obtain ⟨L1, fv1, ov1, F1, h1, -⟩ := h
  exact h1.m.k15
theorem Live.sets {w1 X wv W3 : World} {g : Nat} {K : Cg} {S1 S' : Ms} {L1 : List Fm} {fv1 ov1 : Value} {F1 Q : Nat → Prop} (h1 : Live w1 g K S1 L1 fv1 ov1 F1 Q) (bX : Below w1.heap.size w1 X) (k : LiveW X wv g K S' L1 fv1 ov1 F1 Q) {B : Nat} (hB : w1.heap.size ≤ B) (hBX : B < X.heap.size) (hk : Kp (fun x => x = B) wv W3) : LiveW w1 W3 g K S' L1 fv1 ov1 F1 Q := by
  obtain ⟨L', fv', ov', F', k1, k2, k3⟩ := k
  have hlt := h1.m.lt
  have h8 := h1.g.1.tabs.size
  refine ⟨L', fv', ov', F', ⟨k1.m.kept hk fun b hb e => ?_, ⟨k1.g.1.kept hk fun b hb e => ?_, k1.g.2⟩, k1.k, k1.s⟩, fun b hb => ?_, ((Kp.of bX).trans k3 fun _ _ q => q).trans hk fun i hi e => ?_⟩
  · have e : b = B := e
    rcases hb with hb | hb
    · rcases k2 b hb with r | r
      · have := hlt b (.inl r)
        omega
      · omega
    · have := hlt b (.inr hb)
      omega
  · have e : b = B := e
    omega
  · rcases k2 b hb with r | r
    · exact .inl r
    · exact .inr (Nat.le_trans bX.size r)
  · have e : i = B := e
    omega
theorem ret_run {w : World} {B : Nat} {t : TypeId} {a b c d e : Value} {tr : Bool} {tm : Array Value} (h : Full w B t [a, b, c, d, e]) (h2 : tm[4]?.getD undef = .pointer (some ⟨B, 0, none⟩)) (h3 : tm[5]?.getD undef = .bool tr) :
    (results Tryz.f15 tm).run Tryz.prog w = .ok (.tuple #[.agg #[a, b, c, d, e], .bool tr]) w := by
  simp [results, Tryz.results15, go_sem, h2, h3, (h.cell 0 a rfl).1, (h.cell 1 b rfl).1, (h.cell 2 c rfl).1, (h.cell 3 d rfl).1, (h.cell 4 e rfl).1]
set_option maxRecDepth 100000 in
set_option maxHeartbeats 4000000 in
theorem run_any {w w1 : World} {g : Nat} {K : Cg} {S : Ms} {L : List Fm} {fv ov : Value} {F Q : Nat → Prop} (h : LiveW w w1 g K S L fv ov F Q) (n : Nat) (hn : n ≤ 100000) (ho : S.out.length + 4200 * n ≤ 900000000) :
    Calls Tryz.prog 15 #[.pointer (some ⟨g, 0, none⟩), .int .i64 (n : Int)] w1 fun z w' => z = .returned (.tuple #[ydV (mrunS K n S).2.1, .bool (mrunS K n S).2.2]) ∧ Hid (LiveW w w' g K (mrunS K n S).1 L fv ov F Q) := by
  obtain ⟨L1, fv1, ov1, F1, h1, hft, hkp⟩ := id h
  have HFT : Hid _ := hft
  have HKP : Hid _ := hkp
  clear hft hkp
  have hmin : min (n : Int) 1000000 = (n : Int) := by omega
  have bX : Below w1.heap.size w1 (w1.alloc (.cells #[.int .i64 0, .bool false, .int .i64 0, .int .i64 0, .string Hp.e0] 54)) := (Below.refl _ w1).alloc (Nat.le_refl _) _
  have fX := Full.new w1 #[.int .i64 0, .bool false, .int .i64 0, .int .i64 0, .string Hp.e0] 54
  have hXs : (w1.alloc (.cells #[.int .i64 0, .bool false, .int .i64 0, .int .i64 0, .string Hp.e0] 54)).heap.size = w1.heap.size + 1 := by simp
  obtain ⟨X, hX⟩ : ∃ X, w1.alloc (.cells #[.int .i64 0, .bool false, .int .i64 0, .int .i64 0, .string Hp.e0] 54) = X := ⟨_, rfl⟩
  rw [hX] at bX fX hXs
  have HST : Hid (LiveW X X g K S L1 fv1 ov1 F1 Q ∧ mrunS K (n - 0) S = mrunS K n S ∧ S.out.length + 4200 * (n - 0) ≤ 900000000) := ⟨(h1.next bX).self, rfl, ho⟩
  have HFU : Hid (∀ W S', LiveW X W g K S' L1 fv1 ov1 F1 Q → Full W w1.heap.size 54 [.int .i64 0, .bool false, .int .i64 0, .int .i64 0, .string Hp.e0]) := fun W S' hW => by
    obtain ⟨L', fv', ov', F', -, -, k3⟩ := hW
    exact (k3.block _ (by omega) fun q => by have := h1.m.lt _ (.inl q); omega).trans fX
  have HEN : Hid (∀ W W3 S', LiveW X W g K S' L1 fv1 ov1 F1 Q → Kp (fun x => x = w1.heap.size) W W3 → LiveW w W3 g K S' L fv ov F Q) := fun W W3 S' hW hk => by
    obtain ⟨L0, fv0, ov0, F0, g1, g2, g3⟩ := Live.sets h1 bX hW (Nat.le_refl _) (by omega) hk
    exact ⟨L0, fv0, ov0, F0, g1, fun b hb => by
      rcases g2 b hb with r | r
      · exact HFT.out b r
      · exact .inr (Nat.le_trans HKP.out.size r), HKP.out.trans g3 fun b hb hf => by
      rcases HFT.out b hf with r | r
      · exact r
      · omega⟩
  clear h h1 bX ho
  go_enter Tryz.func15, Tryz.ntmps15
  go_wp2_with fail
  go_loopw [10] (fun v wv => ∃ (j : Nat) (S' : Ms), j ≤ n ∧ v = .int .i64 (j : Int) ∧ Hid (LiveW X wv g K S' L1 fv1 ov1 F1 Q ∧ mrunS K (n - j) S' = mrunS K n S ∧ S'.out.length + 4200 * (n - j) ≤ 900000000)) (fun v _ => n - (intOf v).toNat)
  case atStart => exact ⟨0, S, Nat.zero_le _, rfl, HST⟩
  case round =>
    obtain ⟨j, S', hj, rfl, hI⟩ := hrel
    by_cases hlt : j < n
    case neg =>
      obtain rfl : j = n := by omega
      have f1 := HFU.out _ _ hI.out.1
      obtain ⟨y0, g0⟩ := f1.cell 0 _ rfl
      obtain ⟨y1, g1⟩ := f1.cell 1 _ rfl
      obtain ⟨y2, g2⟩ := f1.cell 2 _ rfl
      obtain ⟨y3, g3⟩ := f1.cell 3 _ rfl
      obtain ⟨y4, g4⟩ := f1.cell 4 _ rfl
      have he : mrunS K j S = (S', yd0, false) := by
        have := hI.out.2.1
        rw [Nat.sub_self] at this
        exact this.symm
      have HRE : Hid (mrunS K j S = (S', yd0, false)) := he
      clear he
      go_wp2
      rw [five_self f1]
      refine bodyPost_ret (ret_run f1 rfl rfl) rfl ?_
      rw [HRE.out]
      exact ⟨rfl, HEN.out _ _ _ hI.out.1 (Kp.refl _ _)⟩
    have j0 : (0 : Int) ≤ (j : Int) := Int.natCast_nonneg _
    have j1 : (j : Int) < (n : Int) := Int.ofNat_lt.2 hlt
    have hw : IntKind.i64.wrap ((j : Int) + 1) = ((j + 1 : Nat) : Int) := by rw [IntKind.wrap_i64]; omega
    have dS := live_step hI.out.1 (by have := hI.out.2.2; omega)
    have hrun : mrunS K n S = if (mstepS K S').2.2 = true ∨ (mstepS K S').1.ph ≠ 0 then mstepS K S' else mrunS K (n - (j + 1)) (mstepS K S').1 := by
      rw [← hI.out.2.1, show n - j = (n - (j + 1)) + 1 by omega]
      rfl
    have hout := hI.out.1.out
    have hle : (mstepS K S').1.out.length + 4200 * (n - (j + 1)) ≤ 900000000 := by have := hI.out.2.2; omega
    obtain ⟨R, hR⟩ : ∃ R, mstepS K S' = R := ⟨_, rfl⟩
    rw [hR] at dS hrun hle
    clear hout hR
    obtain ⟨S2, ⟨yh, yb, yv⟩, ok⟩ := R
    have HLE : Hid _ := hle
    clear hle
    have hoff : w1.heap.size < X.heap.size := by omega
    have HOF : Hid _ := hoff
    clear hoff
    cases ok
    case true =>
      have hd : true = true ∨ S2.ph ≠ 0 := .inl rfl
      have HRU : Hid (mrunS K n S = (S2, (yh, yb, yv), true)) := by
        show _ = _
        rw [hrun, if_pos hd]
      clear hrun hd
      go_wp2_with (first
        | (go_at_call 12; refine dS.mono ?_; rintro z2 w2 ⟨rfl, H2⟩; unfold ydV yl; have f4 := HFU.out w2 _ H2.out; have f5 : Full (w2.alloc (.cells #[.int .i64 yh, .bool yb, .int .i64 yv.1, .int .i64 yv.2.1, .string yv.2.2] 54)) w1.heap.size 54 [.int .i64 0, .bool false, .int .i64 0, .int .i64 0, .string Hp.e0] := f4.next ((Below.refl _ w2).alloc (Nat.le_refl _) _); obtain ⟨y0, g0⟩ := f5.cell 0 _ rfl; obtain ⟨y1, g1⟩ := f5.cell 1 _ rfl; obtain ⟨y2, g2⟩ := f5.cell 2 _ rfl; obtain ⟨y3, g3⟩ := f5.cell 3 _ rfl; obtain ⟨y4, g4⟩ := f5.cell 4 _ rfl; clear dS)
        | fail)
      refine bodyPost_ret (ret_run (B := w1.heap.size) (Full.put (g := w1.heap.size) (t := 54) [.int .i64 yh, .bool yb, .int .i64 yv.1, .int .i64 yv.2.1, .string yv.2.2] (a := []) (b := [.int .i64 0, .bool false, .int .i64 0, .int .i64 0, .string Hp.e0]) (d := []) f5 rfl) rfl rfl) rfl ?_
      rw [HRU.out]
      refine ⟨rfl, ?_⟩
      exact HEN.out _ _ _ H2.out (Kp.setCells (F := fun x => x = w1.heap.size) (B := w1.heap.size) (.inl rfl) [.int .i64 yh, .bool yb, .int .i64 yv.1, .int .i64 yv.2.1, .string yv.2.2] 0 (Kp.of ((Below.refl _ w2).alloc (Nat.le_refl _) _)))
    by_cases hp : S2.ph = 0
    case neg =>
      have hd : false = true ∨ S2.ph ≠ 0 := .inr hp
      have hp1 : (S2.ph == 0) = false := by simpa using hp
      have HRU : Hid (mrunS K n S = (S2, (yh, yb, yv), false)) := by
        show _ = _
        rw [hrun, if_pos hd]
      clear hrun hd
      go_wp2_with (first
        | (go_at_call 12; refine dS.mono ?_; rintro z2 w2 ⟨rfl, H2⟩; unfold ydV yl; have f4 := HFU.out w2 _ H2.out; have k15 := (H2.out.next ((Below.refl _ w2).alloc (Nat.le_refl _) (.cells #[.int .i64 yh, .bool yb, .int .i64 yv.1, .int .i64 yv.2.1, .string yv.2.2] 54))).k15; have f5 : Full (w2.alloc (.cells #[.int .i64 yh, .bool yb, .int .i64 yv.1, .int .i64 yv.2.1, .string yv.2.2] 54)) w1.heap.size 54 [.int .i64 0, .bool false, .int .i64 0, .int .i64 0, .string Hp.e0] := f4.next ((Below.refl _ w2).alloc (Nat.le_refl _) _); obtain ⟨y0, g0⟩ := f5.cell 0 _ rfl; obtain ⟨y1, g1⟩ := f5.cell 1 _ rfl; obtain ⟨y2, g2⟩ := f5.cell 2 _ rfl; obtain ⟨y3, g3⟩ := f5.cell 3 _ rfl; obtain ⟨y4, g4⟩ := f5.cell 4 _ rfl; clear dS)
        | fail)
      refine bodyPost_ret (ret_run (B := w1.heap.size) (Full.put (g := w1.heap.size) (t := 54) [.int .i64 yh, .bool yb, .int .i64 yv.1, .int .i64 yv.2.1, .string yv.2.2] (a := []) (b := [.int .i64 0, .bool false, .int .i64 0, .int .i64 0, .string Hp.e0]) (d := []) f5 rfl) rfl rfl) rfl ?_
      rw [HRU.out]
      refine ⟨rfl, ?_⟩
      exact HEN.out _ _ _ H2.out (Kp.setCells (F := fun x => x = w1.heap.size) (B := w1.heap.size) (.inl rfl) [.int .i64 yh, .bool yb, .int .i64 yv.1, .int .i64 yv.2.1, .string yv.2.2] 0 (Kp.of ((Below.refl _ w2).alloc (Nat.le_refl _) _)))
    have hd : ¬ (false = true ∨ S2.ph ≠ 0) := by simp [hp]
    have HRU : Hid (mrunS K n S = mrunS K (n - (j + 1)) S2) := by
      show _ = _
      rw [hrun, if_neg hd]
    clear hrun hd
    go_wp2_with (first
      | (go_at_call 12; refine dS.mono ?_; rintro z2 w2 ⟨rfl, H2⟩; unfold ydV yl; have k15 := (H2.out.next ((Below.refl _ w2).alloc (Nat.le_refl _) (.cells #[.int .i64 yh, .bool yb, .int .i64 yv.1, .int .i64 yv.2.1, .string yv.2.2] 54))).k15; rw [hp] at k15; clear dS)
      | fail)
    refine ⟨⟨j + 1, S2, hlt, by simp, H2.out.next ((Below.refl _ w2).alloc (Nat.le_refl _) _), HRU.out.symm, HLE.out⟩, ?_⟩
    show n - ((j : Int) + 1).toNat < n - ((j : Int)).toNat
    omega
end Go.Proofs.YtahdkffijlfmnaaGreatDoor

namespace Go.Proofs.YtahdkffijlfmnaaGreatDoor
open Go.RowKit
open Hp (V vc vcs)
theorem LiveW.depth {w w1 : World} {g : Nat} {K : Cg} {S : Ms} {L : List Fm} {fv ov : Value} {F Q : Nat → Prop} (h : LiveW w w1 g K S L fv ov F Q) :
    Calls Tryz.prog 10 #[.pointer (some ⟨g, 0, none⟩)] w1 fun z w' => z = .returned (.int .i64 (S.fs.length : Int)) ∧ Below w1.heap.size w1 w' := by
  obtain ⟨L1, fv1, ov1, F1, h1, -⟩ := h
  have k7 := h1.m.k7
  obtain ⟨fq, fcap, hfv, -, -⟩ := rown_slice h1.m.fr
  have hll : L1.length = S.fs.length := by rw [← h1.m.abs, List.length_map]
  rw [hfv, hll] at k7
  clear h1 hfv hll
  go_enter Tryz.func10, Tryz.ntmps10
  go_wp2
  go_ret
  exact ⟨rfl, Below.refl _ _⟩
theorem LiveW.steps {w w1 : World} {g : Nat} {K : Cg} {S : Ms} {L : List Fm} {fv ov : Value} {F Q : Nat → Prop} (h : LiveW w w1 g K S L fv ov F Q) :
    Calls Tryz.prog 18 #[.pointer (some ⟨g, 0, none⟩)] w1 fun z w' => z = .returned (.int .i64 S.steps) ∧ Below w1.heap.size w1 w' := by
  obtain ⟨L1, fv1, ov1, F1, h1, -⟩ := h
  have k14 := h1.m.k14
  clear h1
  go_enter Tryz.func18, Tryz.ntmps18
  go_wp2
  go_ret
  exact ⟨rfl, Below.refl _ _⟩
theorem few_any (n : Int) (w : World) :
    Calls Tryz.prog 11 #[.int .i64 n] w fun z w' => z = .returned (.int .i64 (if n < 0 then 0 else n % 5000)) ∧ Below w.heap.size w w' := by
  by_cases hn : n < 0
  · rw [if_pos hn]
    go_enter Tryz.func11, Tryz.ntmps11
    go_wp2
    go_ret
    exact ⟨rfl, Below.refl _ _⟩
  · rw [if_neg hn]
    have hn0 : 0 ≤ n := by omega
    have ht : n.tmod 5000 = n % 5000 := Int.tmod_eq_emod_of_nonneg hn0
    go_enter Tryz.func11, Tryz.ntmps11
    go_wp2
    go_ret
    exact ⟨rfl, Below.refl _ _⟩
theorem conv_rown {w : World} {v : Value} {n : Nat} {l : List UInt8} (h : OwnR w 5 1 v n (Hp.bv l)) : (convert 80 9 v).run Tryz.prog w = .ok (.string ⟨l.toArray⟩) w := by
  rcases h with h | ⟨q, rfl, rfl, e⟩ | ⟨-, hl, g, cap, cur, fz, rfl, h1, h2, h3, h4, h5, h6⟩
  · exact Hp.conv_own h
  · have hl : l = [] := by
      have := congrArg List.length e
      rw [Hp.bv_len] at this
      exact List.eq_nil_of_length_eq_zero this
    subst hl
    cases q with
    | none => exact run_convert_bytes_nil w 80 5 Tryz.underlying80 Tryz.underlying5 0 0 9 Tryz.underlying9
    | some a => exact run_convert_bytes_back (P := Tryz.prog) w 80 9 5 a 0 [] Tryz.underlying80 Tryz.underlying5 Tryz.underlying9 (fun j hj => absurd hj (by simp))
  · rw [Hp.bv_len] at hl
    subst hl
    refine run_convert_bytes_back (P := Tryz.prog) w 80 9 5 ⟨g, 0, none⟩ cap l Tryz.underlying80 Tryz.underlying5 Tryz.underlying9 (fun j hj => ?_)
    rw [Addr.add_mid]
    have := ownM_range h1 h6 j (.int .u8 (l[j].toNat : Int)) (by unfold Hp.bv; rw [List.getElem?_map, List.getElem?_eq_getElem hj]; rfl)
    exact this
def runV (S : Ms) (a : Value) : Value := .agg #[.int .i64 S.ph, .int .i64 S.tr, .string ⟨S.out.toArray⟩, .int .i64 (S.rd : Int), .int .i64 S.steps, .slice none 0 0, a]
theorem MachM.arrs {w : World} {g : Nat} {K : Cg} {S : Ms} {L : List Fm} {fv ov : Value} {F Q : Nat → Prop} (h : MachM w g K S L fv ov F Q) :
    Calls Tryz.prog 27 #[.pointer (some ⟨g, 8, none⟩)] w fun e w' => e = .returned (.slice (some ⟨w.heap.size, 0, none⟩) (S.hp.length + 1) (S.hp.length + 1)) ∧ Hid (∃ vs, Hp.Ans w' w.heap.size (Hp.lsA S.hp) (.slice (some ⟨w.heap.size, 0, none⟩) (S.hp.length + 1) (S.hp.length + 1)) vs) ∧ Below w.heap.size w w' := by
  have q := Hp.arrays_any h.heap
  exact q
theorem MachM.conv {w : World} {g : Nat} {K : Cg} {S : Ms} {L : List Fm} {fv : Value} {oq : Option Addr} {n c : Nat} {F Q : Nat → Prop} (h : MachM w g K S L fv (.slice oq n c) F Q) :
    (convert 80 9 (.slice oq n c)).run Tryz.prog w = .ok (.string ⟨S.out.toArray⟩) w := conv_rown h.out
theorem ret_res {w : World} {B : Nat} {t : TypeId} {a b c d e f h : Value} {tm : Array Value} (hF : Full w B t [a, b, c, d, e, f, h]) (h2 : tm[2]?.getD undef = .pointer (some ⟨B, 0, none⟩)) :
    (results Tryz.f9 tm).run Tryz.prog w = .ok (.agg #[a, b, c, d, e, f, h]) w := by
  simp [results, Tryz.results9, go_sem, h2, (hF.cell 0 a rfl).1, (hF.cell 1 b rfl).1, (hF.cell 2 c rfl).1, (hF.cell 3 d rfl).1, (hF.cell 4 e rfl).1, (hF.cell 5 f rfl).1, (hF.cell 6 h rfl).1]
set_option maxRecDepth 100000 in
set_option maxHeartbeats 2000000 in
theorem LiveW.result {w w1 : World} {g : Nat} {K : Cg} {S : Ms} {L : List Fm} {fv ov : Value} {F Q : Nat → Prop} (h : LiveW w w1 g K S L fv ov F Q) :
    Calls Tryz.prog 9 #[.pointer (some ⟨g, 0, none⟩)] w1 fun z w' => z = .returned (runV S (.slice (some ⟨w1.heap.size + 1, 0, none⟩) (S.hp.length + 1) (S.hp.length + 1))) ∧ Hid (∃ vs, Hp.Ans w' (w1.heap.size + 1) (Hp.lsA S.hp) (.slice (some ⟨w1.heap.size + 1, 0, none⟩) (S.hp.length + 1) (S.hp.length + 1)) vs) ∧ Below w1.heap.size w1 w' := by
  obtain ⟨L1, fv1, ov1, F1, h1, -⟩ := h
  have HM : Hid (∀ W, Below w1.heap.size w1 W → MachM W g K S L1 fv1 ov1 F1 Q) := fun W b => h1.m.next b
  obtain ⟨oq, ocap, hov, -, -⟩ := rown_slice h1.m.out
  subst hov
  have HS : Hid (∀ w', Below w1.heap.size w1 w' → w'.cell? ⟨g, 12, none⟩ = some (.int .i64 (S.rd : Int)) ∧ w'.cell? ⟨g, 13, none⟩ = some (.slice oq S.out.length ocap) ∧ w'.cell? ⟨g, 14, none⟩ = some (.int .i64 S.steps) ∧ w'.cell? ⟨g, 15, none⟩ = some (.int .i64 S.ph) ∧ w'.cell? ⟨g, 16, none⟩ = some (.int .i64 S.tr) ∧ (convert 80 9 (.slice oq S.out.length ocap)).run Tryz.prog w' = .ok (.string ⟨S.out.toArray⟩) w' ∧ Below w1.heap.size w1 w') := fun w' b => ⟨(HM.out w' b).k12, (HM.out w' b).k13, (HM.out w' b).k14, (HM.out w' b).k15, (HM.out w' b).k16, (HM.out w' b).conv, b⟩
  clear h1
  unfold runV
  obtain ⟨ga, hga⟩ : ∃ ga, w1.heap.size + 1 = ga := ⟨_, rfl⟩
  rw [hga]
  obtain ⟨X, hX⟩ : ∃ X, w1.alloc (.cells #[.int .i64 0, .int .i64 0, .string Hp.e0, .int .i64 0, .int .i64 0, .slice none 0 0, .slice none 0 0] 46) = X := ⟨_, rfl⟩
  have bX : Below w1.heap.size w1 X := by rw [← hX]; exact (Below.refl _ w1).alloc (Nat.le_refl _) _
  have fX : Full X w1.heap.size 46 [.int .i64 0, .int .i64 0, .string Hp.e0, .int .i64 0, .int .i64 0, .slice none 0 0, .slice none 0 0] := by rw [← hX]; exact Full.new w1 _ _
  have hXs : X.drew.heap.size = ga := by rw [← hX, ← hga]; simp
  have d1 : Calls Tryz.prog 27 #[.pointer (some ⟨g, 8, none⟩)] X.drew fun z w'' => z = .returned (.slice (some ⟨ga, 0, none⟩) (S.hp.length + 1) (S.hp.length + 1)) ∧ Hid ((∃ vs, Hp.Ans w'' ga (Hp.lsA S.hp) (.slice (some ⟨ga, 0, none⟩) (S.hp.length + 1) (S.hp.length + 1)) vs) ∧ Below w1.heap.size w1 w'' ∧ Full w'' w1.heap.size 46 [.int .i64 0, .int .i64 0, .string Hp.e0, .int .i64 0, .int .i64 0, .slice none 0 0, .slice none 0 0]) := by
    have q := (HM.out _ bX.drew).arrs
    rw [hXs] at q
    refine q.mono fun z w'' q => ⟨q.1, q.2.1.out, below2 bX.drew (by rw [hXs]; exact q.2.2), (fX.next (Below.refl _ X).drew).next (by rw [hXs]; exact q.2.2)⟩
  have HF : Hid (∀ w'', (∃ vs, Hp.Ans w'' ga (Hp.lsA S.hp) (.slice (some ⟨ga, 0, none⟩) (S.hp.length + 1) (S.hp.length + 1)) vs) → Full w'' w1.heap.size 46 [.int .i64 0, .int .i64 0, .string Hp.e0, .int .i64 0, .int .i64 0, .slice none 0 0, .slice none 0 0] → Below w1.heap.size w1 w'' → (∃ vs, Hp.Ans (((((((w''.setCell ⟨w1.heap.size, 0, none⟩ (.int .i64 S.ph)).setCell ⟨w1.heap.size, 1, none⟩ (.int .i64 S.tr)).setCell ⟨w1.heap.size, 2, none⟩ (.string ⟨S.out.toArray⟩)).setCell ⟨w1.heap.size, 3, none⟩ (.int .i64 (S.rd : Int))).setCell ⟨w1.heap.size, 4, none⟩ (.int .i64 S.steps)).setCell ⟨w1.heap.size, 5, none⟩ (.slice none 0 0)).setCell ⟨w1.heap.size, 6, none⟩ (.slice (some ⟨ga, 0, none⟩) (S.hp.length + 1) (S.hp.length + 1))) ga (Hp.lsA S.hp) (.slice (some ⟨ga, 0, none⟩) (S.hp.length + 1) (S.hp.length + 1)) vs) ∧ Full (((((((w''.setCell ⟨w1.heap.size, 0, none⟩ (.int .i64 S.ph)).setCell ⟨w1.heap.size, 1, none⟩ (.int .i64 S.tr)).setCell ⟨w1.heap.size, 2, none⟩ (.string ⟨S.out.toArray⟩)).setCell ⟨w1.heap.size, 3, none⟩ (.int .i64 (S.rd : Int))).setCell ⟨w1.heap.size, 4, none⟩ (.int .i64 S.steps)).setCell ⟨w1.heap.size, 5, none⟩ (.slice none 0 0)).setCell ⟨w1.heap.size, 6, none⟩ (.slice (some ⟨ga, 0, none⟩) (S.hp.length + 1) (S.hp.length + 1))) w1.heap.size 46 [.int .i64 S.ph, .int .i64 S.tr, .string ⟨S.out.toArray⟩, .int .i64 (S.rd : Int), .int .i64 S.steps, .slice none 0 0, (.slice (some ⟨ga, 0, none⟩) (S.hp.length + 1) (S.hp.length + 1))] ∧ Below w1.heap.size w1 (((((((w''.setCell ⟨w1.heap.size, 0, none⟩ (.int .i64 S.ph)).setCell ⟨w1.heap.size, 1, none⟩ (.int .i64 S.tr)).setCell ⟨w1.heap.size, 2, none⟩ (.string ⟨S.out.toArray⟩)).setCell ⟨w1.heap.size, 3, none⟩ (.int .i64 (S.rd : Int))).setCell ⟨w1.heap.size, 4, none⟩ (.int .i64 S.steps)).setCell ⟨w1.heap.size, 5, none⟩ (.slice none 0 0)).setCell ⟨w1.heap.size, 6, none⟩ (.slice (some ⟨ga, 0, none⟩) (S.hp.length + 1) (S.hp.length + 1)))) := fun w'' a f b => ⟨by
    obtain ⟨vs, a⟩ := a
    have hkp : Kp (fun x => x = w1.heap.size) w'' (((((((w''.setCell ⟨w1.heap.size, 0, none⟩ (.int .i64 S.ph)).setCell ⟨w1.heap.size, 1, none⟩ (.int .i64 S.tr)).setCell ⟨w1.heap.size, 2, none⟩ (.string ⟨S.out.toArray⟩)).setCell ⟨w1.heap.size, 3, none⟩ (.int .i64 (S.rd : Int))).setCell ⟨w1.heap.size, 4, none⟩ (.int .i64 S.steps)).setCell ⟨w1.heap.size, 5, none⟩ (.slice none 0 0)).setCell ⟨w1.heap.size, 6, none⟩ (.slice (some ⟨ga, 0, none⟩) (S.hp.length + 1) (S.hp.length + 1))) := Kp.setCells (F := fun x => x = w1.heap.size) (B := w1.heap.size) (.inl rfl) [.int .i64 S.ph, .int .i64 S.tr, .string ⟨S.out.toArray⟩, .int .i64 (S.rd : Int), .int .i64 S.steps, .slice none 0 0, (.slice (some ⟨ga, 0, none⟩) (S.hp.length + 1) (S.hp.length + 1))] 0 (Kp.refl _ w'')
    exact ⟨vs, a.same fun k hk hl => hkp.block k hl (by show ¬ k = w1.heap.size; omega)⟩, Full.put (g := w1.heap.size) (t := 46) [.int .i64 S.ph, .int .i64 S.tr, .string ⟨S.out.toArray⟩, .int .i64 (S.rd : Int), .int .i64 S.steps, .slice none 0 0, (.slice (some ⟨ga, 0, none⟩) (S.hp.length + 1) (S.hp.length + 1))] (a := []) (b := [.int .i64 0, .int .i64 0, .string Hp.e0, .int .i64 0, .int .i64 0, .slice none 0 0, .slice none 0 0]) (d := []) f rfl, (((((((b.setCell (p := ⟨w1.heap.size, 0, none⟩) (Nat.le_refl _) _).setCell (p := ⟨w1.heap.size, 1, none⟩) (Nat.le_refl _) _).setCell (p := ⟨w1.heap.size, 2, none⟩) (Nat.le_refl _) _).setCell (p := ⟨w1.heap.size, 3, none⟩) (Nat.le_refl _) _).setCell (p := ⟨w1.heap.size, 4, none⟩) (Nat.le_refl _) _).setCell (p := ⟨w1.heap.size, 5, none⟩) (Nat.le_refl _) _).setCell (p := ⟨w1.heap.size, 6, none⟩) (Nat.le_refl _) _)⟩
  have bD : Below w1.heap.size w1 X.drew := bX.drew
  clear bX fX hXs
  go_enter Tryz.func9, Tryz.ntmps9
  go_upto_region 1 with fail
  go_region_held3 (fun w' => w'.cell? ⟨g, 12, none⟩ = some (.int .i64 (S.rd : Int)) ∧ w'.cell? ⟨g, 13, none⟩ = some (.slice oq S.out.length ocap) ∧ w'.cell? ⟨g, 14, none⟩ = some (.int .i64 S.steps) ∧ w'.cell? ⟨g, 15, none⟩ = some (.int .i64 S.ph) ∧ w'.cell? ⟨g, 16, none⟩ = some (.int .i64 S.tr) ∧ (convert 80 9 (.slice oq S.out.length ocap)).run Tryz.prog w' = .ok (.string ⟨S.out.toArray⟩) w' ∧ Below w1.heap.size w1 w') (exact HS.out _ (by first | with_reducible assumption | with_reducible exact hb9.1 | with_reducible exact hb9.2))
    (first
    | (go_at_call 27; (with_reducible refine d1.mono ?_); rintro z9 w9 ⟨rfl, hq9⟩; obtain ⟨ha8, hb8, hf8⟩ := hq9.out; obtain ⟨ha9, hf9, hb9⟩ := HF.out _ ha8 hf8 hb8; obtain ⟨t0, g0⟩ := hf8.cell 0 _ rfl; obtain ⟨t1, g1⟩ := hf8.cell 1 _ rfl; obtain ⟨t2, g2⟩ := hf8.cell 2 _ rfl; obtain ⟨t3, g3⟩ := hf8.cell 3 _ rfl; obtain ⟨t4, g4⟩ := hf8.cell 4 _ rfl; obtain ⟨t5, g5⟩ := hf8.cell 5 _ rfl; obtain ⟨t6, g6⟩ := hf8.cell 6 _ rfl)
    | fail)
  go_wp2
  exact bodyPost_ret (ret_res hf9 rfl) rfl ⟨rfl, ha9, hb9⟩
end Go.Proofs.YtahdkffijlfmnaaGreatDoor

namespace Go.Proofs.YtahdkffijlfmnaaGreatDoor
open Go.RowKit
open Hp (V vc vcs)
end Go.Proofs.YtahdkffijlfmnaaGreatDoor

namespace Go.Proofs.YtahdkffijlfmnaaGreatDoor
open Go.RowKit
open Hp (V vc vcs)
set_option maxRecDepth 100000 in
set_option maxHeartbeats 1000000 in
theorem sameRun_any {w : World} {S : Ms} {g1 g2 c1 c2 : Nat} {Ls : List (List V)} (h1 : Hp.ListsAt w g1 Ls) (h2 : Hp.ListsAt w g2 Ls) (hl : Ls.length ≤ 100001) (hel : ∀ L ∈ Ls, L.length ≤ 100000) :
    Calls Tryz.prog 13 #[runV S (.slice (some ⟨g1, 0, none⟩) Ls.length c1), runV S (.slice (some ⟨g2, 0, none⟩) Ls.length c2)] w fun e w' => e = .returned (.bool true) ∧ Below w.heap.size w w' := by
  have HS : Hid (∀ Y, Below w.heap.size w Y → Calls Tryz.prog 30 #[.slice (some ⟨g1, 0, none⟩) Ls.length c1, .slice (some ⟨g2, 0, none⟩) Ls.length c2] Y fun e w' => e = .returned (.bool true) ∧ Below Y.heap.size Y w') := fun Y hY => by
    have k : ∀ {g}, Hp.ListsAt w g Ls → Hp.ListsAt Y g Ls := fun {g} h n hn => by
      obtain ⟨q, c, e, r⟩ := h n hn
      refine ⟨q, c, (hY.cell (p := ⟨g, n, none⟩) (block_lt_of_cell e)).trans e, fun h0 => ?_⟩
      obtain ⟨b, e1, e2⟩ := r h0
      exact ⟨b, e1, fun j v hv => (hY.cell (p := ⟨b, 0 + j, none⟩) (block_lt_of_cell (e2 j v hv))).trans (e2 j v hv)⟩
    exact Hp.same_any (k h1) (k h2) hl hel
  clear h1 h2 hl hel
  unfold runV
  have bX : Below w.heap.size w ((w.alloc (.cells #[.int .i64 S.ph, .int .i64 S.tr, .string ⟨S.out.toArray⟩, .int .i64 (S.rd : Int), .int .i64 S.steps, .slice none 0 0, .slice (some ⟨g1, 0, none⟩) Ls.length c1] 46)).alloc (.cells #[.int .i64 S.ph, .int .i64 S.tr, .string ⟨S.out.toArray⟩, .int .i64 (S.rd : Int), .int .i64 S.steps, .slice none 0 0, .slice (some ⟨g2, 0, none⟩) Ls.length c2] 46)) := ((Below.refl _ w).alloc (Nat.le_refl _) _).alloc (by simp) _
  have fA : Full ((w.alloc (.cells #[.int .i64 S.ph, .int .i64 S.tr, .string ⟨S.out.toArray⟩, .int .i64 (S.rd : Int), .int .i64 S.steps, .slice none 0 0, .slice (some ⟨g1, 0, none⟩) Ls.length c1] 46)).alloc (.cells #[.int .i64 S.ph, .int .i64 S.tr, .string ⟨S.out.toArray⟩, .int .i64 (S.rd : Int), .int .i64 S.steps, .slice none 0 0, .slice (some ⟨g2, 0, none⟩) Ls.length c2] 46)) w.heap.size 46 [.int .i64 S.ph, .int .i64 S.tr, .string ⟨S.out.toArray⟩, .int .i64 (S.rd : Int), .int .i64 S.steps, .slice none 0 0, .slice (some ⟨g1, 0, none⟩) Ls.length c1] := (Full.new w #[.int .i64 S.ph, .int .i64 S.tr, .string ⟨S.out.toArray⟩, .int .i64 (S.rd : Int), .int .i64 S.steps, .slice none 0 0, .slice (some ⟨g1, 0, none⟩) Ls.length c1] 46).next ((Below.refl _ (w.alloc (.cells #[.int .i64 S.ph, .int .i64 S.tr, .string ⟨S.out.toArray⟩, .int .i64 (S.rd : Int), .int .i64 S.steps, .slice none 0 0, .slice (some ⟨g1, 0, none⟩) Ls.length c1] 46))).alloc (Nat.le_refl _) _)
  have fB : Full ((w.alloc (.cells #[.int .i64 S.ph, .int .i64 S.tr, .string ⟨S.out.toArray⟩, .int .i64 (S.rd : Int), .int .i64 S.steps, .slice none 0 0, .slice (some ⟨g1, 0, none⟩) Ls.length c1] 46)).alloc (.cells #[.int .i64 S.ph, .int .i64 S.tr, .string ⟨S.out.toArray⟩, .int .i64 (S.rd : Int), .int .i64 S.steps, .slice none 0 0, .slice (some ⟨g2, 0, none⟩) Ls.length c2] 46)) (w.alloc (.cells #[.int .i64 S.ph, .int .i64 S.tr, .string ⟨S.out.toArray⟩, .int .i64 (S.rd : Int), .int .i64 S.steps, .slice none 0 0, .slice (some ⟨g1, 0, none⟩) Ls.length c1] 46)).heap.size 46 [.int .i64 S.ph, .int .i64 S.tr, .string ⟨S.out.toArray⟩, .int .i64 (S.rd : Int), .int .i64 S.steps, .slice none 0 0, .slice (some ⟨g2, 0, none⟩) Ls.length c2] := Full.new (w.alloc (.cells #[.int .i64 S.ph, .int .i64 S.tr, .string ⟨S.out.toArray⟩, .int .i64 (S.rd : Int), .int .i64 S.steps, .slice none 0 0, .slice (some ⟨g1, 0, none⟩) Ls.length c1] 46)) #[.int .i64 S.ph, .int .i64 S.tr, .string ⟨S.out.toArray⟩, .int .i64 (S.rd : Int), .int .i64 S.steps, .slice none 0 0, .slice (some ⟨g2, 0, none⟩) Ls.length c2] 46
  have hz : (w.alloc (.cells #[.int .i64 S.ph, .int .i64 S.tr, .string ⟨S.out.toArray⟩, .int .i64 (S.rd : Int), .int .i64 S.steps, .slice none 0 0, .slice (some ⟨g1, 0, none⟩) Ls.length c1] 46)).heap.size = w.heap.size + 1 := by simp
  rw [hz] at fB
  have a0 := (fA.cell 0 _ rfl).1
  have a1 := (fA.cell 1 _ rfl).1
  have a2 := (fA.cell 2 _ rfl).1
  have a3 := (fA.cell 3 _ rfl).1
  have a4 := (fA.cell 4 _ rfl).1
  have a5 := (fA.cell 5 _ rfl).1
  have a6 := (fA.cell 6 _ rfl).1
  have b0 := (fB.cell 0 _ rfl).1
  have b1 := (fB.cell 1 _ rfl).1
  have b2 := (fB.cell 2 _ rfl).1
  have b3 := (fB.cell 3 _ rfl).1
  have b4 := (fB.cell 4 _ rfl).1
  have b5 := (fB.cell 5 _ rfl).1
  have b6 := (fB.cell 6 _ rfl).1
  have HBX : Hid (Below w.heap.size w ((w.alloc (.cells #[.int .i64 S.ph, .int .i64 S.tr, .string ⟨S.out.toArray⟩, .int .i64 (S.rd : Int), .int .i64 S.steps, .slice none 0 0, .slice (some ⟨g1, 0, none⟩) Ls.length c1] 46)).alloc (.cells #[.int .i64 S.ph, .int .i64 S.tr, .string ⟨S.out.toArray⟩, .int .i64 (S.rd : Int), .int .i64 S.steps, .slice none 0 0, .slice (some ⟨g2, 0, none⟩) Ls.length c2] 46))) := bX
  clear fA fB bX hz
  go_enter Tryz.func13, Tryz.ntmps13
  go_wp2_with (first
    | (go_at_call 30; refine (HS.out _ HBX.out).mono ?_; rintro z1 w1 ⟨rfl, hb1⟩)
    | fail)
  go_ret
  exact ⟨rfl, below2 HBX.out hb1⟩
end Go.Proofs.YtahdkffijlfmnaaGreatDoor

namespace Go.Proofs.YtahdkffijlfmnaaGreatDoor
open Go.RowKit
open Hp (V vc vcs)
theorem MachM.usedL {w : World} {g : Nat} {K : Cg} {S : Ms} {L : List Fm} {fv ov : Value} {F Q : Nat → Prop} (h : MachM w g K S L fv ov F Q) : Hp.usedS S.hp ≤ K.lim := by
  obtain ⟨As, rq, rn, rg, ro, av, e, hh⟩ := h.heap
  rw [← e]
  exact hh.le
end Go.Proofs.YtahdkffijlfmnaaGreatDoor

namespace Go.Proofs.YtahdkffijlfmnaaGreatDoor
open Go.RowKit
open Hp (V vc vcs)
def HvN (n : Nat) (v : V) : Prop := (1 ≤ v.1 ∧ v.1 ≤ 4) ∧ Hp.okV v.1 v.2.1 v.2.2 = true ∧ (v.1 = 4 → v.2.1 ≤ (n : Int))
theorem HvN.mono {n m : Nat} {v : V} (h : HvN n v) (hm : n ≤ m) : HvN m v := ⟨h.1, h.2.1, fun e => by have := h.2.2 e; omega⟩
theorem okV_rng {k n : Int} {s : ByteArray} (h : Hp.okV k n s = true) : 0 ≤ k ∧ k ≤ 4 := by
  unfold Hp.okV at h
  repeat' split at h
  all_goals first | omega | cases h
theorem may_hv {v : V} {k : Int} {n : Nat} (hk : 1 ≤ k ∧ k ≤ 4) (h : Hp.mayS v k n = true) : HvN n v ∧ v.1 = k := by
  unfold Hp.mayS at h
  simp only [Bool.and_eq_true, beq_iff_eq, Bool.or_eq_true, bne_iff_ne, ne_eq, decide_eq_true_eq] at h
  obtain ⟨⟨h1, h2⟩, h3⟩ := h
  refine ⟨⟨by omega, h2, fun e => ?_⟩, h1⟩
  rcases h3 with r | r
  · omega
  · exact r
theorem hv_may {v : V} {n : Nat} (h : HvN n v) : Hp.mayS v v.1 n = true := by
  unfold Hp.mayS
  simp only [Bool.and_eq_true, beq_iff_eq, Bool.or_eq_true, bne_iff_ne, ne_eq, decide_eq_true_eq]
  refine ⟨⟨trivial, h.2.1⟩, ?_⟩
  by_cases e : v.1 = 4
  · exact .inr (h.2.2 e)
  · exact .inl e
theorem hv_iff {A : Hp.Hp} {v : V} : haveS A v = true ↔ HvN A.length v := by
  unfold haveS
  split
  · rename_i h4
    unfold Hp.findH
    constructor
    · intro h
      split at h
      · cases h
      · rename_i hm
        simp only [Bool.not_eq_false] at hm
        exact (may_hv ⟨by decide, by decide⟩ hm).1
    · intro h
      have hm := hv_may h
      rw [h4] at hm
      rw [if_neg (by rw [hm]; simp)]
      split <;> rfl
  · rename_i h4
    simp only [Bool.and_eq_true, bne_iff_ne, ne_eq]
    constructor
    · rintro ⟨h0, h1⟩
      have := okV_rng h1
      exact ⟨by omega, h1, fun e => absurd e h4⟩
    · intro h
      exact ⟨by have := h.1; omega, h.2.1⟩
theorem hv1 (n : Nat) (x : Int) : HvN n (1, x, Hp.e0) := ⟨⟨by show (1 : Int) ≤ 1; decide, by show (1 : Int) ≤ 4; decide⟩, by unfold Hp.okV; simp, fun e => by cases e⟩
theorem hv2 (n : Nat) {x : Int} (h : x = 0 ∨ x = 1) : HvN n (2, x, Hp.e0) := ⟨⟨by show (1 : Int) ≤ 2; decide, by show (2 : Int) ≤ 4; decide⟩, by rcases h with rfl | rfl <;> (unfold Hp.okV; simp), fun e => by cases e⟩
theorem hv3 (n : Nat) {s : ByteArray} (h : s.size ≤ 256) : HvN n (3, 0, s) := ⟨⟨by show (1 : Int) ≤ 3; decide, by show (3 : Int) ≤ 4; decide⟩, by unfold Hp.okV; simpa using h, fun e => by cases e⟩
theorem hvT (n : Nat) (b : Bool) : HvN n (vt (Hp.truS b)).1 := hv2 n (by cases b; exact .inl rfl; exact .inr rfl)
theorem cmp_hv (n : Nat) (op o : Int) (h : (vt (Hp.cmpS op o)).2 = 0) : HvN n (vt (Hp.cmpS op o)).1 := by
  unfold Hp.cmpS at h ⊢
  repeat' split
  all_goals first | exact hvT n _ | skip
  all_goals simp_all [vt, Hp.stuckS]
theorem un_hv (m : Nat) (op k n : Int) (s : ByteArray) (h : (vt (Hp.unS op k n s)).2 = 0) : HvN m (vt (Hp.unS op k n s)).1 := by
  unfold Hp.unS at h ⊢
  split
  · exact hv1 m _
  · rename_i h1
    rw [if_neg h1] at h
    split
    · exact hvT m _
    · rename_i h2
      rw [if_neg h2] at h
      cases h
theorem ints_hv (m : Nat) (op a b : Int) (h : (vt (Hp.intsS op a b)).2 = 0) : HvN m (vt (Hp.intsS op a b)).1 := by
  revert h
  unfold Hp.intsS
  repeat' split
  all_goals intro h
  all_goals first | exact hv1 m _ | (cases h; done) | exact cmp_hv m _ _ h
theorem texts_hv (m : Nat) (op : Int) (a b : ByteArray) (h : (vt (Hp.textsS op a b)).2 = 0) : HvN m (vt (Hp.textsS op a b)).1 := by
  revert h
  unfold Hp.textsS
  repeat' split
  all_goals intro h
  · cases h
  · rename_i hs
    exact hv3 m (by rw [ByteArray.size_append]; omega)
  · exact cmp_hv m _ _ h
theorem names_hv (m : Nat) (op a b : Int) (h : (vt (Hp.namesS op a b)).2 = 0) : HvN m (vt (Hp.namesS op a b)).1 := by
  revert h
  unfold Hp.namesS
  split
  all_goals intro h
  · exact cmp_hv m _ _ h
  · cases h
theorem bin_hv (m : Nat) (op k n : Int) (s : ByteArray) (k' n' : Int) (s' : ByteArray) (h : (vt (Hp.binS op k n s k' n' s')).2 = 0) : HvN m (vt (Hp.binS op k n s k' n' s')).1 := by
  revert h
  unfold Hp.binS
  repeat' split
  all_goals intro h
  all_goals first | exact ints_hv m _ _ _ h | exact texts_hv m _ _ _ h | exact names_hv m _ _ _ h | (cases h; done)
theorem at_hv (m : Nat) (k n : Int) (s : ByteArray) (k' n' : Int) (s' : ByteArray) (h : (vt (Hp.atS k n s k' n' s')).2 = 0) : HvN m (vt (Hp.atS k n s k' n' s')).1 := by
  revert h
  unfold Hp.atS
  repeat' split
  all_goals intro h
  all_goals first | exact hv1 m _ | (cases h; done)
structure FrG (K : Cg) (n : Nat) (f : Fr) : Prop where
  st : ∀ v ∈ f.st, HvN n v
  sl : ∀ v ∈ f.sl, HvN n v
  kd : ∃ i : Nat, f.fn = (i : Int) ∧ ∃ h : i < K.Es.length, f.sl.map (·.1) = K.Es[i].1.sorts.map kindS ∧ K.Es[i].1.start ≤ f.pc ∧ f.pc ≤ endM K i
theorem FrG.mono {K : Cg} {n m : Nat} {f : Fr} (h : FrG K n f) (hm : n ≤ m) : FrG K m f := ⟨fun v hv => (h.st v hv).mono hm, fun v hv => (h.sl v hv).mono hm, h.kd⟩
theorem FrG.st' {K : Cg} {n : Nat} {f : Fr} (h : FrG K n f) {xs : List V} (hx : ∀ v ∈ xs, HvN n v) : FrG K n { f with st := xs } := ⟨hx, h.sl, h.kd⟩
theorem FrG.drop {K : Cg} {n : Nat} {f : Fr} (h : FrG K n f) : FrG K n { f with st := f.st.dropLast } := h.st' fun v hv => h.st v (drop_mem hv)
theorem FrG.pc' {K : Cg} {n : Nat} {f : Fr} (h : FrG K n f) {p : Int} {i : Nat} (hi : i < K.Es.length) (hf : f.fn = (i : Int)) (h1 : K.Es[i].1.start ≤ p) (h2 : p ≤ endM K i) : FrG K n { f with pc := p } := by
  obtain ⟨j, j1, j2, j3, -, -⟩ := h.kd
  obtain rfl : i = j := by omega
  exact ⟨h.st, h.sl, i, hf, hi, j3, h1, h2⟩
def HpG (A : Hp.Hp) : Prop := ∀ a ∈ A, (1 ≤ a.1 ∧ a.1 ≤ 4) ∧ ∀ v ∈ a.2, HvN A.length v ∧ v.1 = a.1
structure BdG (K : Cg) (S : Ms) : Prop where
  fr : ∀ f ∈ S.fs, FrG K S.hp.length f
  hp : HpG S.hp
  mn : ∀ f, S.fs[0]? = some f → f.fn = K.c.main
theorem BdG.setF {K : Cg} {S : Ms} (h : BdG K S) (n : Nat) {f : Fr} (hf : FrG K S.hp.length f) (hm : n = 0 → f.fn = K.c.main) : BdG K (S.setF n f) where
  fr x hx := by
    rcases List.mem_or_eq_of_mem_set hx with r | r
    · exact h.fr x r
    · rw [r]; exact hf
  hp := h.hp
  mn x hx := by
    have hx : (S.fs.set n f)[0]? = some x := hx
    rw [List.getElem?_set] at hx
    split at hx
    · rename_i e
      split at hx
      · cases hx; exact hm e
      · cases hx
    · exact h.mn x hx
theorem BdG.heap {K : Cg} {S : Ms} (h : BdG K S) {A : Hp.Hp} (hA : HpG A) (hl : S.hp.length ≤ A.length) : BdG K (S.heap A) := ⟨fun f hf => (h.fr f hf).mono hl, hA, h.mn⟩
theorem BdG.left {K : Cg} {S : Ms} (h : BdG K S) (n : Nat) : BdG K (S.left n) := ⟨fun f hf => h.fr f (List.mem_of_mem_take hf), h.hp, fun f hf => by
  have hf : (S.fs.take n)[0]? = some f := hf
  rw [List.getElem?_take] at hf
  split at hf
  · exact h.mn f hf
  · cases hf⟩
structure RnG (K : Cg) (S : Ms) : Prop where
  b : BdG K S
  p : S.ph = 0
  t : S.tr = 0
  n : S.fs ≠ []
structure StG (K : Cg) (S : Ms) : Prop where
  b : BdG K S
  ph : (S.ph = 0 ∧ S.tr = 0 ∧ S.fs ≠ []) ∨ (S.ph = 1 ∧ S.tr = 0 ∧ S.fs = []) ∨ (S.ph = 2 ∧ Tr7 S.tr ∧ S.fs ≠ [])
theorem RnG.st {K : Cg} {S : Ms} (h : RnG K S) : StG K S := ⟨h.b, .inl ⟨h.p, h.t, h.n⟩⟩
theorem set_ne {α : Type} {l : List α} {n : Nat} {x : α} (h : l ≠ []) : l.set n x ≠ [] := by simpa using h
theorem RnG.setF {K : Cg} {S : Ms} (h : RnG K S) (n : Nat) {f : Fr} (hf : FrG K S.hp.length f) (hm : n = 0 → f.fn = K.c.main) : RnG K (S.setF n f) := ⟨h.b.setF n hf hm, h.p, h.t, set_ne h.n⟩
theorem push_g {K : Cg} {S S' : Ms} {n : Nat} {f : Fr} {v : V} (h : RnG K S) (hf : FrG K S.hp.length f) (hm : n = 0 → f.fn = K.c.main) (hv : HvN S.hp.length v) (e : doPush S n f v = .ok S') : RnG K S' := by
  unfold doPush pushS at e
  split at e
  · cases e
  · cases e
    refine h.setF n (hf.st' fun u hu => ?_) hm
    rcases List.mem_append.1 hu with r | r
    · exact hf.st u r
    · rw [List.mem_singleton.1 r]; exact hv
theorem pushOr_g {K : Cg} {S S' : Ms} {n : Nat} {f : Fr} {r : V × Int} (h : RnG K S) (hf : FrG K S.hp.length f) (hm : n = 0 → f.fn = K.c.main) (hv : r.2 = 0 → HvN S.hp.length r.1) (e : doPushOr S n f r = .ok S') : RnG K S' := by
  unfold doPushOr at e
  split at e
  · rename_i h0
    exact push_g h hf hm (hv h0) e
  · cases e
theorem get_hv {A : Hp.Hp} (hA : HpG A) (v : V) (i : Int) (h : (Hp.getH A v i).2 = 0) : HvN A.length (Hp.getH A v i).1 := by
  unfold Hp.getH at h ⊢
  split
  · rename_i hp
    have hpl : Hp.placeH A v i = Hp.findH A v ∧ 0 ≤ i ∧ i < ((Hp.findH A v).1.2.length : Int) := by
      unfold Hp.placeH at hp ⊢
      split
      · rename_i hq
        rw [if_pos hq] at hp
        cases hp
      · rename_i hq
        rw [if_neg hq] at hp
        have : ¬ (i < 0 ∨ ((Hp.findH A v).1.2.length : Int) ≤ i) := fun r => hq ⟨hp, r⟩
        exact ⟨rfl, by omega, by omega⟩
    obtain ⟨e, i0, i1⟩ := hpl
    rw [e]
    show HvN A.length ((Hp.findH A v).1.2.getD i.toNat Hp.zv)
    have hlt : i.toNat < (Hp.findH A v).1.2.length := by omega
    rw [List.getD_eq_getElem?_getD, List.getElem?_eq_getElem hlt]
    have hmem := List.getElem_mem hlt
    show HvN A.length ((Hp.findH A v).1.2[i.toNat])
    generalize (Hp.findH A v).1.2[i.toNat] = x at hmem
    unfold Hp.findH at hmem
    split at hmem
    · cases hmem
    split at hmem
    · cases hmem
    · rw [List.getD_eq_getElem?_getD] at hmem
      cases hg : A[v.2.1.toNat - 1]? with
      | none => rw [hg] at hmem; cases hmem
      | some y =>
        rw [hg] at hmem
        exact ((hA y (List.mem_of_getElem? hg)).2 x hmem).1
  · rename_i hp
    rw [if_neg hp] at h
    exact absurd h hp
theorem put_hv {A : Hp.Hp} (hA : HpG A) (v : V) (i : Int) (x : V) : HpG (Hp.putH A v i x).1 ∧ (Hp.putH A v i x).1.length = A.length := by
  unfold Hp.putH
  split
  · rename_i hp
    split
    · exact ⟨hA, rfl⟩
    · rename_i hm
      simp only [Bool.not_eq_false] at hm
      have hl : (A.modify (v.2.1.toNat - 1) fun a => (a.1, a.2.set i.toNat x)).length = A.length := by rw [List.length_modify]
      refine ⟨fun a ha => ?_, hl⟩
      show (1 ≤ a.1 ∧ a.1 ≤ 4) ∧ ∀ u ∈ a.2, HvN (A.modify (v.2.1.toNat - 1) fun a => (a.1, a.2.set i.toNat x)).length u ∧ u.1 = a.1
      rw [hl]
      obtain ⟨k, hk⟩ := List.mem_iff_getElem?.1 ha
      rw [List.getElem?_modify] at hk
      cases hg : A[k]? with
      | none => rw [hg] at hk; simp at hk
      | some y =>
        rw [hg] at hk
        have hy := hA y (List.mem_of_getElem? hg)
        have hk : some (if v.2.1.toNat - 1 = k then (y.1, y.2.set i.toNat x) else y) = some a := hk
        injection hk with hk
        subst hk
        split
        · rename_i e
          refine ⟨hy.1, fun u hu => ?_⟩
          rcases List.mem_or_eq_of_mem_set hu with r | r
          · exact hy.2 u r
          · rw [r]
            have e2 : (Hp.placeH A v i).1.1 = y.1 := by
              unfold Hp.placeH at hp hm ⊢
              split
              · rename_i hq
                rw [if_pos hq] at hp
                cases hp
              · rename_i hq
                rw [if_neg hq] at hp
                have hnl : ¬ (i < 0 ∨ ((Hp.findH A v).1.2.length : Int) ≤ i) := fun r => hq ⟨hp, r⟩
                unfold Hp.findH at hp hnl ⊢
                split
                · rename_i h1
                  rw [if_pos h1] at hp
                  cases hp
                · rename_i h1
                  rw [if_neg h1] at hnl
                  split
                  · rename_i h2
                    rw [if_pos h2] at hnl
                    exfalso
                    apply hnl
                    show i < 0 ∨ ((0 : Nat) : Int) ≤ i
                    omega
                  · rw [e, List.getD_eq_getElem?_getD, hg]
                    rfl
            rw [e2] at hm
            exact may_hv hy.1 hm
        · exact hy
  · exact ⟨hA, rfl⟩
theorem okz {k : Int} (h : 1 ≤ k ∧ k ≤ 4) : Hp.okV k 0 Hp.e0 = true := by
  have : k = 1 ∨ k = 2 ∨ k = 3 ∨ k = 4 := by omega
  rcases this with rfl | rfl | rfl | rfl <;> (unfold Hp.okV; simp)
  decide
theorem hvz (n : Nat) {k : Int} (h : 1 ≤ k ∧ k ≤ 4) : HvN n (k, 0, Hp.e0) := ⟨h, okz h, fun _ => by show (0 : Int) ≤ _; omega⟩
theorem make_hv {A : Hp.Hp} (hA : HpG A) (lim : Nat) (kind n : Int) : HpG (Hp.makeH A lim kind n).1 ∧ A.length ≤ (Hp.makeH A lim kind n).1.length ∧ ((Hp.makeH A lim kind n).2.2 = 0 → HvN (Hp.makeH A lim kind n).1.length (Hp.makeH A lim kind n).2.1) := by
  unfold Hp.makeH
  split
  · exact ⟨hA, Nat.le_refl _, fun h => by cases h⟩
  split
  · exact ⟨hA, Nat.le_refl _, fun h => by cases h⟩
  split
  · exact ⟨hA, Nat.le_refl _, fun h => by cases h⟩
  · rename_i h1 h2 h3
    have hl : (A ++ [(kind, List.replicate n.toNat (kind, (0 : Int), Hp.e0))]).length = A.length + 1 := by simp
    refine ⟨fun a ha => ?_, by rw [hl]; omega, fun _ => ⟨⟨by show (1 : Int) ≤ 4; decide, by show (4 : Int) ≤ 4; decide⟩, ?_, fun _ => by show (A.length : Int) + 1 ≤ _; rw [hl]; push_cast; omega⟩⟩
    · show (1 ≤ a.1 ∧ a.1 ≤ 4) ∧ ∀ v ∈ a.2, HvN (A ++ [(kind, List.replicate n.toNat (kind, (0 : Int), Hp.e0))]).length v ∧ v.1 = a.1
      rw [hl]
      rcases List.mem_append.1 ha with r | r
      · exact ⟨(hA a r).1, fun v hv => ⟨((hA a r).2 v hv).1.mono (Nat.le_succ _), ((hA a r).2 v hv).2⟩⟩
      · rw [List.mem_singleton.1 r]
        refine ⟨by omega, fun v hv => ?_⟩
        rw [(List.mem_replicate.1 hv).2]
        exact ⟨hvz _ (by omega), rfl⟩
    · show Hp.okV 4 ((A.length : Int) + 1) Hp.e0 = true
      unfold Hp.okV
      simp
      omega
theorem sort_kind {s : Int} (h : sortS s = true) : 1 ≤ kindS s ∧ kindS s ≤ 4 := by
  unfold sortS at h
  simp only [Bool.and_eq_true, decide_eq_true_eq] at h
  unfold kindS
  omega
theorem fitL_map {A : Hp.Hp} : ∀ {vs : List V} {so : List Int}, fitL A vs so 0 = true → vs.length ≤ so.length → vs.map (·.1) = (so.take vs.length).map kindS ∧ ∀ v ∈ vs, HvN A.length v := by
  intro vs
  induction vs with
  | nil => intro so _ _; exact ⟨rfl, fun v hv => by cases hv⟩
  | cons a l ih =>
    intro so h hl
    cases so with
    | nil => simp at hl
    | cons s r =>
      have h' : fitV A a s = true ∧ fitL A l r 0 = true := by
        unfold fitL at h ⊢
        simpa using h
      obtain ⟨h1, h2⟩ := h'
      obtain ⟨i1, i2⟩ := ih h2 (by simpa using hl)
      unfold fitV at h1
      simp only [Bool.and_eq_true, beq_iff_eq] at h1
      refine ⟨?_, fun v hv => ?_⟩
      · show a.1 :: l.map (·.1) = _
        rw [i1, h1.1]
        rfl
      · rcases List.mem_cons.1 hv with e | e
        · rw [e]; exact hv_iff.1 h1.2
        · exact i2 v e
theorem map_fitL {A : Hp.Hp} : ∀ {vs : List V} {so : List Int}, vs.map (·.1) = so.map kindS → (∀ v ∈ vs, HvN A.length v) → fitL A vs so 0 = true := by
  intro vs
  induction vs with
  | nil => intro so _ _; unfold fitL; simp
  | cons a l ih =>
    intro so h hv
    cases so with
    | nil => simp at h
    | cons s r =>
      have hh : a.1 = kindS s ∧ l.map (·.1) = r.map kindS := by simpa using h
      have h2 := ih hh.2 fun v hm => hv v (List.mem_cons_of_mem _ hm)
      have h1 : fitV A a s = true := by
        unfold fitV
        simp only [Bool.and_eq_true, beq_iff_eq]
        exact ⟨hh.1, hv_iff.2 (hv a List.mem_cons_self)⟩
      unfold fitL at h2 ⊢
      simpa [h1] using h2
theorem slots_g {n : Nat} {so : List Int} {args : List V} (hs : ∀ s ∈ so, sortS s = true) (hm : args.map (·.1) = (so.take args.length).map kindS) (ha : ∀ v ∈ args, HvN n v) : (slotsS so args).map (·.1) = so.map kindS ∧ ∀ v ∈ slotsS so args, HvN n v := by
  have hz : ∀ s ∈ so, (zeroV s).1 = kindS s ∧ HvN n (zeroV s) := fun s hs' => by
    have := sort_kind (hs s hs')
    unfold zeroV
    rw [if_pos (by omega)]
    exact ⟨rfl, hvz n this⟩
  unfold slotsS
  refine ⟨?_, fun v hv => ?_⟩
  · rw [List.map_append, hm, List.map_map]
    have e : (so.drop args.length).map ((fun v : V => v.1) ∘ zeroV) = (so.drop args.length).map kindS := List.map_congr_left fun s hs' => (hz s (List.mem_of_mem_drop hs')).1
    rw [e, ← List.map_append, List.take_append_drop]
  · rcases List.mem_append.1 hv with r | r
    · exact ha v r
    · obtain ⟨s, hs', rfl⟩ := List.mem_map.1 r
      exact (hz s (List.mem_of_mem_drop hs')).2
end Go.Proofs.YtahdkffijlfmnaaGreatDoor

namespace Go.Proofs.YtahdkffijlfmnaaGreatDoor
open Go.RowKit
open Hp (V vc vcs)
theorem lsA_el {A : Hp.Hp} (h : Hp.usedS A ≤ 100000) : ∀ L ∈ Hp.lsA A, L.length ≤ 100000 := fun L hL => by
  rcases List.mem_cons.1 hL with rfl | hL
  · exact Nat.zero_le _
  · obtain ⟨x, hx, rfl⟩ := List.mem_map.1 hL
    have := Hp.used_mem hx
    omega
theorem lsA_le {A : Hp.Hp} (h : Hp.usedS A ≤ 100000) : (Hp.lsA A).length ≤ 100001 := by
  have := Hp.used_ge A
  rw [Hp.lsA_len]
  omega
end Go.Proofs.YtahdkffijlfmnaaGreatDoor
