import Derived.Test.YtahdkffijlfmnaaGreatDoorQ25
namespace Go.Proofs.YtahdkffijlfmnaaGreatDoor
open Go.RowKit
open Hp (V vc vcs)
/-- Two traps have their reason. -/
def Er (K : Cg) (S : Ms) (n : Nat) (t : Int) : Prop := (t = 5 → K.inp.length ≤ S.rd) ∧ (t = 3 → ((n + 1 : Nat) : Int) = K.dep) ∧ t ≠ 0
theorem erN {K : Cg} {S : Ms} {n : Nat} {t : Int} (a : t ≠ 5) (b : t ≠ 3) (c : t ≠ 0 := by decide) : Er K S n t := ⟨fun e => absurd e a, fun e => absurd e b, c⟩
theorem er7 {K : Cg} {S : Ms} {n : Nat} {t : Int} (a : t = 7) : Er K S n t := by subst a; exact erN (by decide) (by decide)
theorem erOr {K : Cg} {S T : Ms} {n m : Nat} {f : Fr} {r : V × Int} {t : Int} (hr : r.2 ≠ 5 ∧ r.2 ≠ 3) (h : doPushOr T m f r = .error t) : Er K S n t := by
  unfold doPushOr at h
  split at h
  · exact er7 (push_err h)
  · rename_i h0; cases h; exact erN hr.1 hr.2 h0
theorem l0 : (0 : Int) ≠ 5 ∧ (0 : Int) ≠ 3 := ⟨by decide, by decide⟩
theorem l1 : (1 : Int) ≠ 5 ∧ (1 : Int) ≠ 3 := ⟨by decide, by decide⟩
theorem l2 : (2 : Int) ≠ 5 ∧ (2 : Int) ≠ 3 := ⟨by decide, by decide⟩
theorem l4 : (4 : Int) ≠ 5 ∧ (4 : Int) ≠ 3 := ⟨by decide, by decide⟩
theorem l6 : (6 : Int) ≠ 5 ∧ (6 : Int) ≠ 3 := ⟨by decide, by decide⟩
theorem l7 : (7 : Int) ≠ 5 ∧ (7 : Int) ≠ 3 := ⟨by decide, by decide⟩
theorem cmp_er (op o : Int) : (Hp.cmpS op o).2.2.2 ≠ 5 ∧ (Hp.cmpS op o).2.2.2 ≠ 3 := by
  unfold Hp.cmpS
  repeat' split
  all_goals first | exact l0 | exact l7 | exact l1 | exact l2 | exact l4 | exact l6
theorem un_er (op k n : Int) (s : ByteArray) : (vt (Hp.unS op k n s)).2 ≠ 5 ∧ (vt (Hp.unS op k n s)).2 ≠ 3 := by
  unfold Hp.unS
  repeat' split
  all_goals first | exact l0 | exact l7 | exact l1 | exact l2 | exact l4 | exact l6
theorem bin_er (op k n : Int) (s : ByteArray) (k' n' : Int) (s' : ByteArray) : (vt (Hp.binS op k n s k' n' s')).2 ≠ 5 ∧ (vt (Hp.binS op k n s k' n' s')).2 ≠ 3 := by
  unfold Hp.binS Hp.intsS Hp.textsS Hp.namesS
  repeat' split
  all_goals first | exact cmp_er _ _ | exact l0 | exact l7 | exact l1 | exact l2 | exact l4 | exact l6
theorem at_er (k n : Int) (s : ByteArray) (k' n' : Int) (s' : ByteArray) : (vt (Hp.atS k n s k' n' s')).2 ≠ 5 ∧ (vt (Hp.atS k n s k' n' s')).2 ≠ 3 := by
  unfold Hp.atS
  repeat' split
  all_goals first | exact l0 | exact l7 | exact l1 | exact l2 | exact l4 | exact l6
theorem make_er (A : Hp.Hp) (lim : Nat) (kind n : Int) : (Hp.makeH A lim kind n).2.2 ≠ 5 ∧ (Hp.makeH A lim kind n).2.2 ≠ 3 := by
  unfold Hp.makeH
  repeat' split
  all_goals first | exact l0 | exact l7 | exact l1 | exact l2 | exact l4 | exact l6
theorem findH_er (A : Hp.Hp) (v : V) : (Hp.findH A v).2 ≠ 5 ∧ (Hp.findH A v).2 ≠ 3 := by
  unfold Hp.findH
  repeat' split
  all_goals first | exact l0 | exact l7 | exact l1 | exact l2 | exact l4 | exact l6
theorem find_er (A : Hp.Hp) (v x : V) : ((x, (Hp.findH A v).2) : V × Int).2 ≠ 5 ∧ ((x, (Hp.findH A v).2) : V × Int).2 ≠ 3 := findH_er A v
theorem place_er (A : Hp.Hp) (v : V) (i : Int) : (Hp.placeH A v i).2 ≠ 5 ∧ (Hp.placeH A v i).2 ≠ 3 := by
  unfold Hp.placeH
  split
  · first | exact l0 | exact l7 | exact l1 | exact l2 | exact l4 | exact l6
  · exact findH_er A v
theorem get_er (A : Hp.Hp) (v : V) (i : Int) : (Hp.getH A v i).2 ≠ 5 ∧ (Hp.getH A v i).2 ≠ 3 := by
  unfold Hp.getH
  split
  · first | exact l0 | exact l7 | exact l1 | exact l2 | exact l4 | exact l6
  · exact place_er A v i
theorem put_er (A : Hp.Hp) (v : V) (i : Int) (x : V) : (Hp.putH A v i x).2 ≠ 5 ∧ (Hp.putH A v i x).2 ≠ 3 := by
  unfold Hp.putH
  split
  · split
    · first | exact l0 | exact l7 | exact l1 | exact l2 | exact l4 | exact l6
    · first | exact l0 | exact l7 | exact l1 | exact l2 | exact l4 | exact l6
  · exact place_er A v i
theorem op_er {K : Cg} {S : Ms} {n : Nat} {f : Fr} {i : Nat} {hi : i < K.Es.length} {a b : Int} {o : Nat} {t : Int} (h : opS K S n f i hi a b o = .error t) : Er K S n t := by
  unfold opS at h
  split at h
  · exact er7 (push_err (plain_err h))
  · exact er7 (push_err (plain_err h))
  · have h := plain_err h
    unfold doTextS at h
    split at h
    · exact er7 (push_err h)
    · cases h; exact erN (by decide) (by decide)
  · have h := plain_err h
    unfold doLoadS at h
    split at h
    · exact er7 (push_err h)
    · cases h; exact erN (by decide) (by decide)
  · have h := plain_err h
    unfold doStoreS at h
    split at h
    · cases h
    · cases h; exact erN (by decide) (by decide)
  · cases h
  · exact erOr (un_er ..) (plain_err h)
  · exact erOr (bin_er ..) (plain_err h)
  · have h := plain_err h
    unfold doJumpS at h
    split at h
    · cases h
    · cases h; exact erN (by decide) (by decide)
  · have h := plain_err h
    unfold doFalseS doJumpS at h
    split at h
    · split at h
      · split at h
        · cases h
        · cases h; exact erN (by decide) (by decide)
      · cases h
    · cases h; exact erN (by decide) (by decide)
  · have h := plain_err h
    unfold doCallS at h
    split at h
    · split at h
      · cases h; exact erN (by decide) (by decide)
      · split at h
        · cases h; exact erN (by decide) (by decide)
        · split at h
          · rename_i hd; cases h; exact ⟨fun q => absurd q (by decide), fun _ => hd, by decide⟩
          · cases h
    · cases h; exact erN (by decide) (by decide)
  · have h := plain_err h
    unfold doRetS at h
    split at h
    · cases h; exact erN (by decide) (by decide)
    · split at h
      · cases h; exact erN (by decide) (by decide)
      · split at h
        · cases h; exact erN (by decide) (by decide)
        · cases h
  · have h := plain_err h
    unfold doDoneS at h
    split at h
    · cases h
    · cases h; exact erN (by decide) (by decide)
  · have h := plain_err h
    unfold doNewS at h
    split at h
    · exact erOr (make_er ..) h
    · cases h; exact erN (by decide) (by decide)
  · have h := plain_err h
    unfold doGetS at h
    split at h
    · exact erOr (at_er ..) h
    · split at h
      · exact erOr (get_er ..) h
      · cases h; exact erN (by decide) (by decide)
  · have h := plain_err h
    unfold doPutS at h
    split at h
    · split at h
      · cases h
      · rename_i h0
        cases h
        exact erN (put_er ..).1 (put_er ..).2 h0
    · cases h; exact erN (by decide) (by decide)
  · have h := plain_err h
    unfold doLenS at h
    split at h
    · exact er7 (push_err h)
    · exact erOr (find_er ..) h
  · have h := plain_err h
    unfold doStrS at h
    split at h
    · exact er7 (push_err h)
    · cases h; exact erN (by decide) (by decide)
  · have h := plain_err h
    unfold doPrintS at h
    split at h
    · cases h; exact erN (by decide) (by decide)
    · split at h
      · cases h; exact erN (by decide) (by decide)
      · cases h
  · have h := plain_err h
    unfold doReadS at h
    split at h
    · cases hp : doPush S n f (1, K.inp[S.rd], Hp.e0) with
      | error e =>
        rw [hp] at h
        cases h
        exact er7 (push_err hp)
      | ok r => rw [hp] at h; cases h
    · rename_i hr; cases h; exact ⟨fun _ => Nat.le_of_not_lt hr, fun q => absurd q (by decide), by decide⟩
  · cases h
  · split at h
    · cases h
    · cases h; exact erN (by decide) (by decide)
  · cases h
  · cases h
theorem next_er {K : Cg} {S : Ms} {t : Int} (h : mnextS K S = .error t) : Er K S (S.fs.length - 1) t := by
  unfold mnextS at h
  split at h
  · cases h; exact er7 rfl
  · split at h
    · split at h
      · split at h
        · cases h; exact er7 rfl
        · have q := op_er h
          exact ⟨fun e => q.1 e, q.2⟩
      · cases h; exact er7 rfl
    · cases h; exact er7 rfl
end Go.Proofs.YtahdkffijlfmnaaGreatDoor

namespace Go.Proofs.YtahdkffijlfmnaaGreatDoor
open Go.RowKit
open Hp (V vc vcs)

/-- A machine that lies there, with all that is known of it. -/
structure Live (w : World) (g : Nat) (K : Cg) (S : Ms) (L : List Fm) (fv ov : Value) (F Q : Nat → Prop) : Prop where
  m : MachM w g K S L fv ov F Q
  g : GloM w L fv ov F
  k : KOk K
  s : StOk K S
/-- A machine has gone on, and all is known of it still. -/
def LiveW (w w' : World) (g : Nat) (K : Cg) (S' : Ms) (L : List Fm) (fv ov : Value) (F Q : Nat → Prop) : Prop :=
  ∃ L' fv' ov' F', Live w' g K S' L' fv' ov' F' Q ∧ (∀ b, foot L' fv' ov' F' b → foot L fv ov F b ∨ w.heap.size ≤ b) ∧ Kp (foot L fv ov F) w w'
theorem Live.went {w w' : World} {g : Nat} {K : Cg} {S S' : Ms} {L : List Fm} {fv ov : Value} {F Q : Nat → Prop} (h : Live w g K S L fv ov F Q) (hs : StOk K S') (k : WentM w w' g K S' L fv ov F Q) : LiveW w w' g K S' L fv ov F Q := by
  obtain ⟨L', fv', ov', F', k1, k2, k3⟩ := k
  refine ⟨L', fv', ov', F', ⟨k1, ⟨h.g.1.kept k3 h.g.2, fun b hb q => ?_⟩, h.k, hs⟩, k2, k3⟩
  rcases k2 b q with r | r
  · exact h.g.2 b hb r
  · have := h.g.1.tabs.size
    omega
theorem Live.self {w : World} {g : Nat} {K : Cg} {S : Ms} {L : List Fm} {fv ov : Value} {F Q : Nat → Prop} (h : Live w g K S L fv ov F Q) : LiveW w w g K S L fv ov F Q := ⟨L, fv, ov, F, h, fun _ q => .inl q, Kp.refl _ _⟩
theorem Live.next {w w' : World} {g : Nat} {K : Cg} {S : Ms} {L : List Fm} {fv ov : Value} {F Q : Nat → Prop} (h : Live w g K S L fv ov F Q) (b : Below w.heap.size w w') : Live w' g K S L fv ov F Q := ⟨h.m.next b, ⟨h.g.1.next b, h.g.2⟩, h.k, h.s⟩
theorem LiveW.next {w w1 w2 : World} {g : Nat} {K : Cg} {S : Ms} {L : List Fm} {fv ov : Value} {F Q : Nat → Prop} (h : LiveW w w1 g K S L fv ov F Q) (b : Below w1.heap.size w1 w2) : LiveW w w2 g K S L fv ov F Q := by
  obtain ⟨L', fv', ov', F', h1, h2, h3⟩ := h
  exact ⟨L', fv', ov', F', h1.next b, h2, h3.next b⟩
theorem LiveW.trans {w w1 w2 : World} {g : Nat} {K : Cg} {S1 S2 : Ms} {L : List Fm} {fv ov : Value} {F Q : Nat → Prop} (h : LiveW w w1 g K S1 L fv ov F Q) (k : ∀ L' fv' ov' F', Live w1 g K S1 L' fv' ov' F' Q → LiveW w1 w2 g K S2 L' fv' ov' F' Q) : LiveW w w2 g K S2 L fv ov F Q := by
  obtain ⟨L', fv', ov', F', h1, h2, h3⟩ := h
  obtain ⟨L2, fv2, ov2, F2, k1, k2, k3⟩ := k L' fv' ov' F' h1
  refine ⟨L2, fv2, ov2, F2, k1, fun b hb => ?_, h3.trans k3 fun b hb hf => ?_⟩
  · rcases k2 b hb with r | r
    · exact h2 b r
    · exact .inr (Nat.le_trans h3.size r)
  · rcases h2 b hf with r | r
    · exact r
    · omega
/-- Step, of such a machine. -/
theorem live_step {w w1 : World} {g : Nat} {K : Cg} {S : Ms} {L : List Fm} {fv ov : Value} {F Q : Nat → Prop} (h : LiveW w w1 g K S L fv ov F Q) (ho : S.out.length ≤ 900000000) :
    Calls Tryz.prog 12 #[.pointer (some ⟨g, 0, none⟩)] w1 fun z w' => z = .returned (.tuple #[ydV (mstepS K S).2.1, .bool (mstepS K S).2.2]) ∧ Hid (LiveW w w' g K (mstepS K S).1 L fv ov F Q) := by
  obtain ⟨L1, fv1, ov1, F1, h1, h2, h3⟩ := id h
  refine (step_any h1.m h1.g h1.k h1.s ho).mono fun z w' q => ⟨q.1, ?_⟩
  have h4 := h1.went (step_ok h1.k h1.s h1.m.used).1 q.2.out
  obtain ⟨L2, fv2, ov2, F2, k1, k2, k3⟩ := h4
  refine ⟨L2, fv2, ov2, F2, k1, fun b hb => ?_, h3.trans k3 fun b hb hf => ?_⟩
  · rcases k2 b hb with r | r
    · exact h2 b r
    · exact .inr (Nat.le_trans h3.size r)
  · rcases h2 b hf with r | r
    · exact r
    · omega
theorem LiveW.out {w w1 : World} {g : Nat} {K : Cg} {S : Ms} {L : List Fm} {fv ov : Value} {F Q : Nat → Prop} (h : LiveW w w1 g K S L fv ov F Q) : (mstepS K S).1.out.length ≤ S.out.length + 4200 := by
  obtain ⟨L1, fv1, ov1, F1, h1, -⟩ := h
  obtain ⟨-, l, l1, l2⟩ := step_ok h1.k h1.s h1.m.used
  rw [l1, List.length_append]
  omega
theorem LiveW.k15 {w w1 : World} {g : Nat} {K : Cg} {S : Ms} {L : List Fm} {fv ov : Value} {F Q : Nat → Prop} (h : LiveW w w1 g K S L fv ov F Q) : w1.cell? ⟨g, 15, none⟩ = some (.int .i64 S.ph) := by
  obtain ⟨L1, fv1, ov1, F1, h1, -⟩ := h
  exact h1.m.k15
/-- What is written into a block that is new since does not matter. -/
theorem Live.sets {w1 X wv W3 : World} {g : Nat} {K : Cg} {S1 S' : Ms} {L1 : List Fm} {fv1 ov1 : Value} {F1 Q : Nat → Prop} (h1 : Live w1 g K S1 L1 fv1 ov1 F1 Q) (bX : Below w1.heap.size w1 X) (k : LiveW X wv g K S' L1 fv1 ov1 F1 Q) {B : Nat} (hB : w1.heap.size ≤ B) (hBX : B < X.heap.size) (hk : Kp (fun x => x = B) wv W3) : LiveW w1 W3 g K S' L1 fv1 ov1 F1 Q := by
  obtain ⟨L', fv', ov', F', k1, k2, k3⟩ := k
  have hlt := h1.m.lt
  have h8 := h1.g.1.tabs.size
  refine ⟨L', fv', ov', F', ⟨k1.m.kept hk fun b hb e => ?_, ⟨k1.g.1.kept hk fun b hb e => ?_, k1.g.2⟩, k1.k, k1.s⟩, fun b hb => ?_, ((Kp.of bX).trans k3 fun _ _ q => q).trans hk fun i hi e => ?_⟩
  · have e : b = B := e
    rcases hb with hb | hb
    · rcases k2 b hb with r | r
      · have := hlt b (.inl r)
        omega
      · omega
    · have := hlt b (.inr hb)
      omega
  · have e : b = B := e
    omega
  · rcases k2 b hb with r | r
    · exact .inl r
    · exact .inr (Nat.le_trans bX.size r)
  · have e : i = B := e
    omega
theorem ret_run {w : World} {B : Nat} {t : TypeId} {a b c d e : Value} {tr : Bool} {tm : Array Value} (h : Full w B t [a, b, c, d, e]) (h2 : tm[4]?.getD undef = .pointer (some ⟨B, 0, none⟩)) (h3 : tm[5]?.getD undef = .bool tr) :
    (results Tryz.f15 tm).run Tryz.prog w = .ok (.tuple #[.agg #[a, b, c, d, e], .bool tr]) w := by
  simp [results, Tryz.results15, go_sem, h2, h3, (h.cell 0 a rfl).1, (h.cell 1 b rfl).1, (h.cell 2 c rfl).1, (h.cell 3 d rfl).1, (h.cell 4 e rfl).1]
set_option maxRecDepth 100000 in
set_option maxHeartbeats 4000000 in
theorem run_any {w w1 : World} {g : Nat} {K : Cg} {S : Ms} {L : List Fm} {fv ov : Value} {F Q : Nat → Prop} (h : LiveW w w1 g K S L fv ov F Q) (n : Nat) (hn : n ≤ 100000) (ho : S.out.length + 4200 * n ≤ 900000000) :
    Calls Tryz.prog 15 #[.pointer (some ⟨g, 0, none⟩), .int .i64 (n : Int)] w1 fun z w' => z = .returned (.tuple #[ydV (mrunS K n S).2.1, .bool (mrunS K n S).2.2]) ∧ Hid (LiveW w w' g K (mrunS K n S).1 L fv ov F Q) := by
  obtain ⟨L1, fv1, ov1, F1, h1, hft, hkp⟩ := id h
  have HFT : Hid _ := hft
  have HKP : Hid _ := hkp
  clear hft hkp
  have hmin : min (n : Int) 1000000 = (n : Int) := by omega
  have bX : Below w1.heap.size w1 (w1.alloc (.cells #[.int .i64 0, .bool false, .int .i64 0, .int .i64 0, .string Hp.e0] 54)) := (Below.refl _ w1).alloc (Nat.le_refl _) _
  have fX := Full.new w1 #[.int .i64 0, .bool false, .int .i64 0, .int .i64 0, .string Hp.e0] 54
  have hXs : (w1.alloc (.cells #[.int .i64 0, .bool false, .int .i64 0, .int .i64 0, .string Hp.e0] 54)).heap.size = w1.heap.size + 1 := by simp
  obtain ⟨X, hX⟩ : ∃ X, w1.alloc (.cells #[.int .i64 0, .bool false, .int .i64 0, .int .i64 0, .string Hp.e0] 54) = X := ⟨_, rfl⟩
  rw [hX] at bX fX hXs
  have HST : Hid (LiveW X X g K S L1 fv1 ov1 F1 Q ∧ mrunS K (n - 0) S = mrunS K n S ∧ S.out.length + 4200 * (n - 0) ≤ 900000000) := ⟨(h1.next bX).self, rfl, ho⟩
  have HFU : Hid (∀ W S', LiveW X W g K S' L1 fv1 ov1 F1 Q → Full W w1.heap.size 54 [.int .i64 0, .bool false, .int .i64 0, .int .i64 0, .string Hp.e0]) := fun W S' hW => by
    obtain ⟨L', fv', ov', F', -, -, k3⟩ := hW
    exact (k3.block _ (by omega) fun q => by have := h1.m.lt _ (.inl q); omega).trans fX
  have HEN : Hid (∀ W W3 S', LiveW X W g K S' L1 fv1 ov1 F1 Q → Kp (fun x => x = w1.heap.size) W W3 → LiveW w W3 g K S' L fv ov F Q) := fun W W3 S' hW hk => by
    obtain ⟨L0, fv0, ov0, F0, g1, g2, g3⟩ := Live.sets h1 bX hW (Nat.le_refl _) (by omega) hk
    exact ⟨L0, fv0, ov0, F0, g1, fun b hb => by
      rcases g2 b hb with r | r
      · exact HFT.out b r
      · exact .inr (Nat.le_trans HKP.out.size r), HKP.out.trans g3 fun b hb hf => by
      rcases HFT.out b hf with r | r
      · exact r
      · omega⟩
  clear h h1 bX ho
  go_enter Tryz.func15, Tryz.ntmps15
  go_wp2_with fail
  go_loopw [10] (fun v wv => ∃ (j : Nat) (S' : Ms), j ≤ n ∧ v = .int .i64 (j : Int) ∧ Hid (LiveW X wv g K S' L1 fv1 ov1 F1 Q ∧ mrunS K (n - j) S' = mrunS K n S ∧ S'.out.length + 4200 * (n - j) ≤ 900000000)) (fun v _ => n - (intOf v).toNat)
  case atStart => exact ⟨0, S, Nat.zero_le _, rfl, HST⟩
  case round =>
    obtain ⟨j, S', hj, rfl, hI⟩ := hrel
    by_cases hlt : j < n
    case neg =>
      obtain rfl : j = n := by omega
      have f1 := HFU.out _ _ hI.out.1
      obtain ⟨y0, g0⟩ := f1.cell 0 _ rfl
      obtain ⟨y1, g1⟩ := f1.cell 1 _ rfl
      obtain ⟨y2, g2⟩ := f1.cell 2 _ rfl
      obtain ⟨y3, g3⟩ := f1.cell 3 _ rfl
      obtain ⟨y4, g4⟩ := f1.cell 4 _ rfl
      have he : mrunS K j S = (S', yd0, false) := by
        have := hI.out.2.1
        rw [Nat.sub_self] at this
        exact this.symm
      have HRE : Hid (mrunS K j S = (S', yd0, false)) := he
      clear he
      go_wp2
      rw [five_self f1]
      refine bodyPost_ret (ret_run f1 rfl rfl) rfl ?_
      rw [HRE.out]
      exact ⟨rfl, HEN.out _ _ _ hI.out.1 (Kp.refl _ _)⟩
    have j0 : (0 : Int) ≤ (j : Int) := Int.natCast_nonneg _
    have j1 : (j : Int) < (n : Int) := Int.ofNat_lt.2 hlt
    have hw : IntKind.i64.wrap ((j : Int) + 1) = ((j + 1 : Nat) : Int) := by rw [IntKind.wrap_i64]; omega
    have dS := live_step hI.out.1 (by have := hI.out.2.2; omega)
    have hrun : mrunS K n S = if (mstepS K S').2.2 = true ∨ (mstepS K S').1.ph ≠ 0 then mstepS K S' else mrunS K (n - (j + 1)) (mstepS K S').1 := by
      rw [← hI.out.2.1, show n - j = (n - (j + 1)) + 1 by omega]
      rfl
    have hout := hI.out.1.out
    have hle : (mstepS K S').1.out.length + 4200 * (n - (j + 1)) ≤ 900000000 := by have := hI.out.2.2; omega
    obtain ⟨R, hR⟩ : ∃ R, mstepS K S' = R := ⟨_, rfl⟩
    rw [hR] at dS hrun hle
    clear hout hR
    obtain ⟨S2, ⟨yh, yb, yv⟩, ok⟩ := R
    have HLE : Hid _ := hle
    clear hle
    have hoff : w1.heap.size < X.heap.size := by omega
    have HOF : Hid _ := hoff
    clear hoff
    cases ok
    case true =>
      have hd : true = true ∨ S2.ph ≠ 0 := .inl rfl
      have HRU : Hid (mrunS K n S = (S2, (yh, yb, yv), true)) := by
        show _ = _
        rw [hrun, if_pos hd]
      clear hrun hd
      go_wp2_with (first
        | (go_at_call 12; refine dS.mono ?_; rintro z2 w2 ⟨rfl, H2⟩; unfold ydV yl; have f4 := HFU.out w2 _ H2.out; have f5 : Full (w2.alloc (.cells #[.int .i64 yh, .bool yb, .int .i64 yv.1, .int .i64 yv.2.1, .string yv.2.2] 54)) w1.heap.size 54 [.int .i64 0, .bool false, .int .i64 0, .int .i64 0, .string Hp.e0] := f4.next ((Below.refl _ w2).alloc (Nat.le_refl _) _); obtain ⟨y0, g0⟩ := f5.cell 0 _ rfl; obtain ⟨y1, g1⟩ := f5.cell 1 _ rfl; obtain ⟨y2, g2⟩ := f5.cell 2 _ rfl; obtain ⟨y3, g3⟩ := f5.cell 3 _ rfl; obtain ⟨y4, g4⟩ := f5.cell 4 _ rfl; clear dS)
        | fail)
      refine bodyPost_ret (ret_run (B := w1.heap.size) (Full.put (g := w1.heap.size) (t := 54) [.int .i64 yh, .bool yb, .int .i64 yv.1, .int .i64 yv.2.1, .string yv.2.2] (a := []) (b := [.int .i64 0, .bool false, .int .i64 0, .int .i64 0, .string Hp.e0]) (d := []) f5 rfl) rfl rfl) rfl ?_
      rw [HRU.out]
      refine ⟨rfl, ?_⟩
      exact HEN.out _ _ _ H2.out (Kp.setCells (F := fun x => x = w1.heap.size) (B := w1.heap.size) (.inl rfl) [.int .i64 yh, .bool yb, .int .i64 yv.1, .int .i64 yv.2.1, .string yv.2.2] 0 (Kp.of ((Below.refl _ w2).alloc (Nat.le_refl _) _)))
    by_cases hp : S2.ph = 0
    case neg =>
      have hd : false = true ∨ S2.ph ≠ 0 := .inr hp
      have hp1 : (S2.ph == 0) = false := by simpa using hp
      have HRU : Hid (mrunS K n S = (S2, (yh, yb, yv), false)) := by
        show _ = _
        rw [hrun, if_pos hd]
      clear hrun hd
      go_wp2_with (first
        | (go_at_call 12; refine dS.mono ?_; rintro z2 w2 ⟨rfl, H2⟩; unfold ydV yl; have f4 := HFU.out w2 _ H2.out; have k15 := (H2.out.next ((Below.refl _ w2).alloc (Nat.le_refl _) (.cells #[.int .i64 yh, .bool yb, .int .i64 yv.1, .int .i64 yv.2.1, .string yv.2.2] 54))).k15; have f5 : Full (w2.alloc (.cells #[.int .i64 yh, .bool yb, .int .i64 yv.1, .int .i64 yv.2.1, .string yv.2.2] 54)) w1.heap.size 54 [.int .i64 0, .bool false, .int .i64 0, .int .i64 0, .string Hp.e0] := f4.next ((Below.refl _ w2).alloc (Nat.le_refl _) _); obtain ⟨y0, g0⟩ := f5.cell 0 _ rfl; obtain ⟨y1, g1⟩ := f5.cell 1 _ rfl; obtain ⟨y2, g2⟩ := f5.cell 2 _ rfl; obtain ⟨y3, g3⟩ := f5.cell 3 _ rfl; obtain ⟨y4, g4⟩ := f5.cell 4 _ rfl; clear dS)
        | fail)
      refine bodyPost_ret (ret_run (B := w1.heap.size) (Full.put (g := w1.heap.size) (t := 54) [.int .i64 yh, .bool yb, .int .i64 yv.1, .int .i64 yv.2.1, .string yv.2.2] (a := []) (b := [.int .i64 0, .bool false, .int .i64 0, .int .i64 0, .string Hp.e0]) (d := []) f5 rfl) rfl rfl) rfl ?_
      rw [HRU.out]
      refine ⟨rfl, ?_⟩
      exact HEN.out _ _ _ H2.out (Kp.setCells (F := fun x => x = w1.heap.size) (B := w1.heap.size) (.inl rfl) [.int .i64 yh, .bool yb, .int .i64 yv.1, .int .i64 yv.2.1, .string yv.2.2] 0 (Kp.of ((Below.refl _ w2).alloc (Nat.le_refl _) _)))
    have hd : ¬ (false = true ∨ S2.ph ≠ 0) := by simp [hp]
    have HRU : Hid (mrunS K n S = mrunS K (n - (j + 1)) S2) := by
      show _ = _
      rw [hrun, if_neg hd]
    clear hrun hd
    go_wp2_with (first
      | (go_at_call 12; refine dS.mono ?_; rintro z2 w2 ⟨rfl, H2⟩; unfold ydV yl; have k15 := (H2.out.next ((Below.refl _ w2).alloc (Nat.le_refl _) (.cells #[.int .i64 yh, .bool yb, .int .i64 yv.1, .int .i64 yv.2.1, .string yv.2.2] 54))).k15; rw [hp] at k15; clear dS)
      | fail)
    refine ⟨⟨j + 1, S2, hlt, by simp, H2.out.next ((Below.refl _ w2).alloc (Nat.le_refl _) _), HRU.out.symm, HLE.out⟩, ?_⟩
    show n - ((j : Int) + 1).toNat < n - ((j : Int)).toNat
    omega
end Go.Proofs.YtahdkffijlfmnaaGreatDoor

namespace Go.Proofs.YtahdkffijlfmnaaGreatDoor
open Go.RowKit
open Hp (V vc vcs)
theorem LiveW.depth {w w1 : World} {g : Nat} {K : Cg} {S : Ms} {L : List Fm} {fv ov : Value} {F Q : Nat → Prop} (h : LiveW w w1 g K S L fv ov F Q) :
    Calls Tryz.prog 10 #[.pointer (some ⟨g, 0, none⟩)] w1 fun z w' => z = .returned (.int .i64 (S.fs.length : Int)) ∧ Below w1.heap.size w1 w' := by
  obtain ⟨L1, fv1, ov1, F1, h1, -⟩ := h
  have k7 := h1.m.k7
  obtain ⟨fq, fcap, hfv, -, -⟩ := rown_slice h1.m.fr
  have hll : L1.length = S.fs.length := by rw [← h1.m.abs, List.length_map]
  rw [hfv, hll] at k7
  clear h1 hfv hll
  go_enter Tryz.func10, Tryz.ntmps10
  go_wp2
  go_ret
  exact ⟨rfl, Below.refl _ _⟩
theorem LiveW.steps {w w1 : World} {g : Nat} {K : Cg} {S : Ms} {L : List Fm} {fv ov : Value} {F Q : Nat → Prop} (h : LiveW w w1 g K S L fv ov F Q) :
    Calls Tryz.prog 18 #[.pointer (some ⟨g, 0, none⟩)] w1 fun z w' => z = .returned (.int .i64 S.steps) ∧ Below w1.heap.size w1 w' := by
  obtain ⟨L1, fv1, ov1, F1, h1, -⟩ := h
  have k14 := h1.m.k14
  clear h1
  go_enter Tryz.func18, Tryz.ntmps18
  go_wp2
  go_ret
  exact ⟨rfl, Below.refl _ _⟩
theorem few_any (n : Int) (w : World) :
    Calls Tryz.prog 11 #[.int .i64 n] w fun z w' => z = .returned (.int .i64 (if n < 0 then 0 else n % 5000)) ∧ Below w.heap.size w w' := by
  by_cases hn : n < 0
  · rw [if_pos hn]
    go_enter Tryz.func11, Tryz.ntmps11
    go_wp2
    go_ret
    exact ⟨rfl, Below.refl _ _⟩
  · rw [if_neg hn]
    have hn0 : 0 ≤ n := by omega
    have ht : n.tmod 5000 = n % 5000 := Int.tmod_eq_emod_of_nonneg hn0
    go_enter Tryz.func11, Tryz.ntmps11
    go_wp2
    go_ret
    exact ⟨rfl, Below.refl _ _⟩
theorem conv_rown {w : World} {v : Value} {n : Nat} {l : List UInt8} (h : OwnR w 5 1 v n (Hp.bv l)) : (convert 80 9 v).run Tryz.prog w = .ok (.string ⟨l.toArray⟩) w := by
  rcases h with h | ⟨q, rfl, rfl, e⟩
  · exact Hp.conv_own h
  · have hl : l = [] := by
      have := congrArg List.length e
      rw [Hp.bv_len] at this
      exact List.eq_nil_of_length_eq_zero this
    subst hl
    cases q with
    | none => exact run_convert_bytes_nil w 80 5 Tryz.underlying80 Tryz.underlying5 0 0 9 Tryz.underlying9
    | some a => exact run_convert_bytes_back (P := Tryz.prog) w 80 9 5 a 0 [] Tryz.underlying80 Tryz.underlying5 Tryz.underlying9 (fun j hj => absurd hj (by simp))
/-- What Result tells. -/
def runV (S : Ms) (a : Value) : Value := .agg #[.int .i64 S.ph, .int .i64 S.tr, .string ⟨S.out.toArray⟩, .int .i64 (S.rd : Int), .int .i64 S.steps, .slice none 0 0, a]
theorem MachM.arrs {w : World} {g : Nat} {K : Cg} {S : Ms} {L : List Fm} {fv ov : Value} {F Q : Nat → Prop} (h : MachM w g K S L fv ov F Q) :
    Calls Tryz.prog 27 #[.pointer (some ⟨g, 8, none⟩)] w fun e w' => e = .returned (.slice (some ⟨w.heap.size, 0, none⟩) (S.hp.length + 1) (S.hp.length + 1)) ∧ Hid (∃ vs, Hp.Ans w' w.heap.size (Hp.lsA S.hp) (.slice (some ⟨w.heap.size, 0, none⟩) (S.hp.length + 1) (S.hp.length + 1)) vs) ∧ Below w.heap.size w w' := by
  have q := Hp.arrays_any h.heap
  exact q
theorem MachM.conv {w : World} {g : Nat} {K : Cg} {S : Ms} {L : List Fm} {fv : Value} {oq : Option Addr} {n c : Nat} {F Q : Nat → Prop} (h : MachM w g K S L fv (.slice oq n c) F Q) :
    (convert 80 9 (.slice oq n c)).run Tryz.prog w = .ok (.string ⟨S.out.toArray⟩) w := conv_rown h.out
theorem ret_res {w : World} {B : Nat} {t : TypeId} {a b c d e f h : Value} {tm : Array Value} (hF : Full w B t [a, b, c, d, e, f, h]) (h2 : tm[2]?.getD undef = .pointer (some ⟨B, 0, none⟩)) :
    (results Tryz.f9 tm).run Tryz.prog w = .ok (.agg #[a, b, c, d, e, f, h]) w := by
  simp [results, Tryz.results9, go_sem, h2, (hF.cell 0 a rfl).1, (hF.cell 1 b rfl).1, (hF.cell 2 c rfl).1, (hF.cell 3 d rfl).1, (hF.cell 4 e rfl).1, (hF.cell 5 f rfl).1, (hF.cell 6 h rfl).1]
set_option maxRecDepth 100000 in
set_option maxHeartbeats 2000000 in
theorem LiveW.result {w w1 : World} {g : Nat} {K : Cg} {S : Ms} {L : List Fm} {fv ov : Value} {F Q : Nat → Prop} (h : LiveW w w1 g K S L fv ov F Q) :
    Calls Tryz.prog 9 #[.pointer (some ⟨g, 0, none⟩)] w1 fun z w' => z = .returned (runV S (.slice (some ⟨w1.heap.size + 1, 0, none⟩) (S.hp.length + 1) (S.hp.length + 1))) ∧ Hid (∃ vs, Hp.Ans w' (w1.heap.size + 1) (Hp.lsA S.hp) (.slice (some ⟨w1.heap.size + 1, 0, none⟩) (S.hp.length + 1) (S.hp.length + 1)) vs) ∧ Below w1.heap.size w1 w' := by
  obtain ⟨L1, fv1, ov1, F1, h1, -⟩ := h
  have HM : Hid (∀ W, Below w1.heap.size w1 W → MachM W g K S L1 fv1 ov1 F1 Q) := fun W b => h1.m.next b
  obtain ⟨oq, ocap, hov, -, -⟩ := rown_slice h1.m.out
  subst hov
  have HS : Hid (∀ w', Below w1.heap.size w1 w' → w'.cell? ⟨g, 12, none⟩ = some (.int .i64 (S.rd : Int)) ∧ w'.cell? ⟨g, 13, none⟩ = some (.slice oq S.out.length ocap) ∧ w'.cell? ⟨g, 14, none⟩ = some (.int .i64 S.steps) ∧ w'.cell? ⟨g, 15, none⟩ = some (.int .i64 S.ph) ∧ w'.cell? ⟨g, 16, none⟩ = some (.int .i64 S.tr) ∧ (convert 80 9 (.slice oq S.out.length ocap)).run Tryz.prog w' = .ok (.string ⟨S.out.toArray⟩) w' ∧ Below w1.heap.size w1 w') := fun w' b => ⟨(HM.out w' b).k12, (HM.out w' b).k13, (HM.out w' b).k14, (HM.out w' b).k15, (HM.out w' b).k16, (HM.out w' b).conv, b⟩
  clear h1
  unfold runV
  obtain ⟨ga, hga⟩ : ∃ ga, w1.heap.size + 1 = ga := ⟨_, rfl⟩
  rw [hga]
  obtain ⟨X, hX⟩ : ∃ X, w1.alloc (.cells #[.int .i64 0, .int .i64 0, .string Hp.e0, .int .i64 0, .int .i64 0, .slice none 0 0, .slice none 0 0] 46) = X := ⟨_, rfl⟩
  have bX : Below w1.heap.size w1 X := by rw [← hX]; exact (Below.refl _ w1).alloc (Nat.le_refl _) _
  have fX : Full X w1.heap.size 46 [.int .i64 0, .int .i64 0, .string Hp.e0, .int .i64 0, .int .i64 0, .slice none 0 0, .slice none 0 0] := by rw [← hX]; exact Full.new w1 _ _
  have hXs : X.drew.heap.size = ga := by rw [← hX, ← hga]; simp
  have d1 : Calls Tryz.prog 27 #[.pointer (some ⟨g, 8, none⟩)] X.drew fun z w'' => z = .returned (.slice (some ⟨ga, 0, none⟩) (S.hp.length + 1) (S.hp.length + 1)) ∧ Hid ((∃ vs, Hp.Ans w'' ga (Hp.lsA S.hp) (.slice (some ⟨ga, 0, none⟩) (S.hp.length + 1) (S.hp.length + 1)) vs) ∧ Below w1.heap.size w1 w'' ∧ Full w'' w1.heap.size 46 [.int .i64 0, .int .i64 0, .string Hp.e0, .int .i64 0, .int .i64 0, .slice none 0 0, .slice none 0 0]) := by
    have q := (HM.out _ bX.drew).arrs
    rw [hXs] at q
    refine q.mono fun z w'' q => ⟨q.1, q.2.1.out, below2 bX.drew (by rw [hXs]; exact q.2.2), (fX.next (Below.refl _ X).drew).next (by rw [hXs]; exact q.2.2)⟩
  have HF : Hid (∀ w'', (∃ vs, Hp.Ans w'' ga (Hp.lsA S.hp) (.slice (some ⟨ga, 0, none⟩) (S.hp.length + 1) (S.hp.length + 1)) vs) → Full w'' w1.heap.size 46 [.int .i64 0, .int .i64 0, .string Hp.e0, .int .i64 0, .int .i64 0, .slice none 0 0, .slice none 0 0] → Below w1.heap.size w1 w'' → (∃ vs, Hp.Ans (((((((w''.setCell ⟨w1.heap.size, 0, none⟩ (.int .i64 S.ph)).setCell ⟨w1.heap.size, 1, none⟩ (.int .i64 S.tr)).setCell ⟨w1.heap.size, 2, none⟩ (.string ⟨S.out.toArray⟩)).setCell ⟨w1.heap.size, 3, none⟩ (.int .i64 (S.rd : Int))).setCell ⟨w1.heap.size, 4, none⟩ (.int .i64 S.steps)).setCell ⟨w1.heap.size, 5, none⟩ (.slice none 0 0)).setCell ⟨w1.heap.size, 6, none⟩ (.slice (some ⟨ga, 0, none⟩) (S.hp.length + 1) (S.hp.length + 1))) ga (Hp.lsA S.hp) (.slice (some ⟨ga, 0, none⟩) (S.hp.length + 1) (S.hp.length + 1)) vs) ∧ Full (((((((w''.setCell ⟨w1.heap.size, 0, none⟩ (.int .i64 S.ph)).setCell ⟨w1.heap.size, 1, none⟩ (.int .i64 S.tr)).setCell ⟨w1.heap.size, 2, none⟩ (.string ⟨S.out.toArray⟩)).setCell ⟨w1.heap.size, 3, none⟩ (.int .i64 (S.rd : Int))).setCell ⟨w1.heap.size, 4, none⟩ (.int .i64 S.steps)).setCell ⟨w1.heap.size, 5, none⟩ (.slice none 0 0)).setCell ⟨w1.heap.size, 6, none⟩ (.slice (some ⟨ga, 0, none⟩) (S.hp.length + 1) (S.hp.length + 1))) w1.heap.size 46 [.int .i64 S.ph, .int .i64 S.tr, .string ⟨S.out.toArray⟩, .int .i64 (S.rd : Int), .int .i64 S.steps, .slice none 0 0, (.slice (some ⟨ga, 0, none⟩) (S.hp.length + 1) (S.hp.length + 1))] ∧ Below w1.heap.size w1 (((((((w''.setCell ⟨w1.heap.size, 0, none⟩ (.int .i64 S.ph)).setCell ⟨w1.heap.size, 1, none⟩ (.int .i64 S.tr)).setCell ⟨w1.heap.size, 2, none⟩ (.string ⟨S.out.toArray⟩)).setCell ⟨w1.heap.size, 3, none⟩ (.int .i64 (S.rd : Int))).setCell ⟨w1.heap.size, 4, none⟩ (.int .i64 S.steps)).setCell ⟨w1.heap.size, 5, none⟩ (.slice none 0 0)).setCell ⟨w1.heap.size, 6, none⟩ (.slice (some ⟨ga, 0, none⟩) (S.hp.length + 1) (S.hp.length + 1)))) := fun w'' a f b => ⟨by
    obtain ⟨vs, a⟩ := a
    have hkp : Kp (fun x => x = w1.heap.size) w'' (((((((w''.setCell ⟨w1.heap.size, 0, none⟩ (.int .i64 S.ph)).setCell ⟨w1.heap.size, 1, none⟩ (.int .i64 S.tr)).setCell ⟨w1.heap.size, 2, none⟩ (.string ⟨S.out.toArray⟩)).setCell ⟨w1.heap.size, 3, none⟩ (.int .i64 (S.rd : Int))).setCell ⟨w1.heap.size, 4, none⟩ (.int .i64 S.steps)).setCell ⟨w1.heap.size, 5, none⟩ (.slice none 0 0)).setCell ⟨w1.heap.size, 6, none⟩ (.slice (some ⟨ga, 0, none⟩) (S.hp.length + 1) (S.hp.length + 1))) := Kp.setCells (F := fun x => x = w1.heap.size) (B := w1.heap.size) (.inl rfl) [.int .i64 S.ph, .int .i64 S.tr, .string ⟨S.out.toArray⟩, .int .i64 (S.rd : Int), .int .i64 S.steps, .slice none 0 0, (.slice (some ⟨ga, 0, none⟩) (S.hp.length + 1) (S.hp.length + 1))] 0 (Kp.refl _ w'')
    exact ⟨vs, a.same fun k hk hl => hkp.block k hl (by show ¬ k = w1.heap.size; omega)⟩, Full.put (g := w1.heap.size) (t := 46) [.int .i64 S.ph, .int .i64 S.tr, .string ⟨S.out.toArray⟩, .int .i64 (S.rd : Int), .int .i64 S.steps, .slice none 0 0, (.slice (some ⟨ga, 0, none⟩) (S.hp.length + 1) (S.hp.length + 1))] (a := []) (b := [.int .i64 0, .int .i64 0, .string Hp.e0, .int .i64 0, .int .i64 0, .slice none 0 0, .slice none 0 0]) (d := []) f rfl, (((((((b.setCell (p := ⟨w1.heap.size, 0, none⟩) (Nat.le_refl _) _).setCell (p := ⟨w1.heap.size, 1, none⟩) (Nat.le_refl _) _).setCell (p := ⟨w1.heap.size, 2, none⟩) (Nat.le_refl _) _).setCell (p := ⟨w1.heap.size, 3, none⟩) (Nat.le_refl _) _).setCell (p := ⟨w1.heap.size, 4, none⟩) (Nat.le_refl _) _).setCell (p := ⟨w1.heap.size, 5, none⟩) (Nat.le_refl _) _).setCell (p := ⟨w1.heap.size, 6, none⟩) (Nat.le_refl _) _)⟩
  have bD : Below w1.heap.size w1 X.drew := bX.drew
  clear bX fX hXs
  go_enter Tryz.func9, Tryz.ntmps9
  go_upto_region 1 with fail
  go_region_held3 (fun w' => w'.cell? ⟨g, 12, none⟩ = some (.int .i64 (S.rd : Int)) ∧ w'.cell? ⟨g, 13, none⟩ = some (.slice oq S.out.length ocap) ∧ w'.cell? ⟨g, 14, none⟩ = some (.int .i64 S.steps) ∧ w'.cell? ⟨g, 15, none⟩ = some (.int .i64 S.ph) ∧ w'.cell? ⟨g, 16, none⟩ = some (.int .i64 S.tr) ∧ (convert 80 9 (.slice oq S.out.length ocap)).run Tryz.prog w' = .ok (.string ⟨S.out.toArray⟩) w' ∧ Below w1.heap.size w1 w') (exact HS.out _ (by first | with_reducible assumption | with_reducible exact hb9.1 | with_reducible exact hb9.2))
    (first
    | (go_at_call 27; (with_reducible refine d1.mono ?_); rintro z9 w9 ⟨rfl, hq9⟩; obtain ⟨ha8, hb8, hf8⟩ := hq9.out; obtain ⟨ha9, hf9, hb9⟩ := HF.out _ ha8 hf8 hb8; obtain ⟨t0, g0⟩ := hf8.cell 0 _ rfl; obtain ⟨t1, g1⟩ := hf8.cell 1 _ rfl; obtain ⟨t2, g2⟩ := hf8.cell 2 _ rfl; obtain ⟨t3, g3⟩ := hf8.cell 3 _ rfl; obtain ⟨t4, g4⟩ := hf8.cell 4 _ rfl; obtain ⟨t5, g5⟩ := hf8.cell 5 _ rfl; obtain ⟨t6, g6⟩ := hf8.cell 6 _ rfl)
    | fail)
  go_wp2
  exact bodyPost_ret (ret_res hf9 rfl) rfl ⟨rfl, ha9, hb9⟩
end Go.Proofs.YtahdkffijlfmnaaGreatDoor

namespace Go.Proofs.YtahdkffijlfmnaaGreatDoor
open Go.RowKit
open Hp (V vc vcs)
/-- How many cells arrays take. -/
def celS : List (List V) → Nat
  | [] => 0
  | _ :: r => (r.map fun l => l.length + 1).sum
theorem celS_take {a : List V} {r : List (List V)} (n : Nat) (hn : n < r.length) : celS ((a :: r).take (n + 2)) = celS ((a :: r).take (n + 1)) + (r[n].length + 1) := by
  show ((r.take (n + 1)).map fun l => l.length + 1).sum = ((r.take n).map fun l => l.length + 1).sum + (r[n].length + 1)
  rw [List.take_succ_eq_append_getElem hn, List.map_append, List.sum_append]
  simp
theorem celS_step {Ls : List (List V)} {n : Nat} (h1 : 1 ≤ n) (hn : n < Ls.length) : celS (Ls.take (n + 1)) = celS (Ls.take n) + (Ls[n].length + 1) := by
  match Ls, n with
  | a :: r, k + 1 => exact celS_take k (by simpa using hn)
theorem celS_le {Ls : List (List V)} (hel : ∀ L ∈ Ls, L.length ≤ 100000) (n : Nat) : celS (Ls.take n) ≤ n * 100001 := by
  match Ls with
  | [] => simp [celS]
  | a :: r =>
    match n with
    | 0 => simp [celS]
    | n + 1 =>
      show ((r.take n).map fun l => l.length + 1).sum ≤ _
      have : ∀ (r : List (List V)) (n : Nat), (∀ L ∈ r, L.length ≤ 100000) → ((r.take n).map fun l => l.length + 1).sum ≤ n * 100001 := by
        intro r
        induction r with
        | nil => intro n _; simp
        | cons x r ih =>
          intro n hx
          match n with
          | 0 => simp
          | n + 1 =>
            have h1 := ih n fun L hL => hx L (List.mem_cons_of_mem _ hL)
            have h2 := hx x List.mem_cons_self
            simp only [List.take_succ_cons, List.map_cons, List.sum_cons]
            omega
      exact Nat.le_trans (this r n fun L hL => hel L (List.mem_cons_of_mem _ hL)) (Nat.mul_le_mul_right _ (Nat.le_succ n))
set_option maxRecDepth 100000 in
set_option maxHeartbeats 1000000 in
theorem cells_any {w : World} {g c : Nat} {Ls : List (List V)} (h1 : Hp.ListsAt w g Ls) (hl : Ls.length ≤ 100001) (h0 : 0 < Ls.length) (hel : ∀ L ∈ Ls, L.length ≤ 100000) :
    Calls Tryz.prog 32 #[.slice (some ⟨g, 0, none⟩) Ls.length c] w fun e w' => e = .returned (.int .i64 (celS Ls : Int)) ∧ Below w.heap.size w w' := by
  have H1 : Hid (∀ Y, Below w.heap.size w Y → ∀ n (hn : n < Ls.length), ∃ q c, Y.cell? ⟨g, n, none⟩ = some (.slice q Ls[n].length c)) := fun Y hY n hn => by
    obtain ⟨q, c, e, -⟩ := h1.get hY n hn
    exact ⟨q, c, e⟩
  have HC : Hid (∀ n, celS (Ls.take n) ≤ n * 100001) := celS_le hel
  clear h1
  go_enter Tryz.func32, Tryz.ntmps32
  go_wp2_with fail
  go_loopw [3, 4] (fun b v wr => ∃ n : Nat, 1 ≤ n ∧ n ≤ Ls.length ∧ v = .int .i64 (n : Int) ∧ b = .int .i64 (celS (Ls.take n) : Int) ∧ Hid (Below w.heap.size w wr)) (fun _ v _ => Ls.length - (intOf v).toNat)
  case atStart =>
    refine ⟨1, Nat.le_refl _, h0, rfl, ?_, Below.refl _ _⟩
    match Ls, h0 with
    | a :: r, _ => rfl
  case round =>
    obtain ⟨n, hn1, hn, rfl, rfl, hB⟩ := hrel
    by_cases hlt : n < Ls.length
    case neg =>
      obtain rfl : n = Ls.length := by omega
      rw [List.take_length]
      go_wp2
      first | (change bodyPost Tryz.prog Tryz.f32 _ Exit.ret _ _) | (simp only [Exit.noGoto])
      go_ret
      exact ⟨rfl, hB.out⟩
    have n0 : (0 : Int) ≤ (n : Int) := Int.natCast_nonneg _
    have n1 : (n : Int) < (Ls.length : Int) := Int.ofNat_lt.2 hlt
    have hst : Hid (celS (Ls.take (n + 1)) = celS (Ls.take n) + (Ls[n].length + 1)) := celS_step hn1 hlt
    have hc1 := HC.out (n + 1)
    obtain ⟨q, cc, y1⟩ := H1.out wr hB.out n hlt
    have hw1 : IntKind.i64.wrap ((celS (Ls.take n) : Int) + (Ls[n].length : Int)) = (celS (Ls.take n) : Int) + (Ls[n].length : Int) := by have := hst.out; rw [IntKind.wrap_i64]; omega
    have hw2 : IntKind.i64.wrap ((celS (Ls.take n) : Int) + (Ls[n].length : Int) + 1) = (celS (Ls.take n) : Int) + (Ls[n].length : Int) + 1 := by have := hst.out; rw [IntKind.wrap_i64]; omega
    clear hc1 HC
    go_wp2
    refine ⟨⟨n + 1, by omega, hlt, by simp, by rw [hst.out]; push_cast; rw [Int.add_assoc], hB⟩, ?_⟩
    show Ls.length - ((n : Int) + 1).toNat < Ls.length - ((n : Int)).toNat
    omega
set_option maxRecDepth 100000 in
set_option maxHeartbeats 1000000 in
theorem grown_any {w : World} {g1 g2 c1 c2 : Nat} {A B : List (List V)} (h1 : Hp.ListsAt w g1 A) (h2 : Hp.ListsAt w g2 B) (hab : A.length ≤ B.length) (he : ∀ n (h1 : n < A.length) (h2 : n < B.length), A[n].length = B[n].length) (hl : B.length ≤ 100001) :
    Calls Tryz.prog 31 #[.slice (some ⟨g1, 0, none⟩) A.length c1, .slice (some ⟨g2, 0, none⟩) B.length c2] w fun e w' => e = .returned (.bool true) ∧ Below w.heap.size w w' := by
  have H1 : Hid (∀ Y, Below w.heap.size w Y → ∀ n, n < A.length → ∃ q c q' c' l, Y.cell? ⟨g1, n, none⟩ = some (.slice q l c) ∧ Y.cell? ⟨g2, n, none⟩ = some (.slice q' l c')) := fun Y hY n hn => by
    obtain ⟨q, c, e, -⟩ := h1.get hY n hn
    obtain ⟨q', c', e', -⟩ := h2.get hY n (by omega)
    rw [← he n hn (by omega)] at e'
    exact ⟨q, c, q', c', _, e, e'⟩
  have hlt0 : ¬ ((B.length : Int) < (A.length : Int)) := by omega
  have HAB : Hid (A.length ≤ B.length) := hab
  clear h1 h2 he hab
  go_enter Tryz.func31, Tryz.ntmps31
  go_wp2_with fail
  go_loopw [5] (fun v wr => ∃ n : Nat, n ≤ A.length ∧ v = .int .i64 (n : Int) ∧ Hid (Below w.heap.size w wr)) (fun v _ => A.length - (intOf v).toNat)
  case atStart => exact ⟨0, Nat.zero_le _, rfl, Below.refl _ _⟩
  case round =>
    obtain ⟨n, hn, rfl, hB⟩ := hrel
    by_cases hlt : n < A.length
    case neg =>
      obtain rfl : n = A.length := by omega
      go_wp2
      first | (change bodyPost Tryz.prog Tryz.f31 _ Exit.ret _ _) | (simp only [Exit.noGoto])
      go_ret
      exact ⟨rfl, hB.out⟩
    have n0 : (0 : Int) ≤ (n : Int) := Int.natCast_nonneg _
    have n1 : (n : Int) < (A.length : Int) := Int.ofNat_lt.2 hlt
    have n2 : (n : Int) < (B.length : Int) := by have := HAB.out; omega
    obtain ⟨q, c, q', c', l, y1, y2⟩ := H1.out wr hB.out n hlt
    have nl : ((l : Int) != (l : Int)) = false := by simp
    have z1 := cell_regrown y1
    have z2 := cell_regrown y2
    go_wp2_with fail
    refine wp_region_quiet_below (by kernel_rfl) (by kernel_rfl) ?_
    repeat (first | go_big_quiet_step (first | fail) | quiet_step (first | fail))
    refine wpQuiet_nil ?_
    intro _ hw'
    obtain ⟨⟨dq, osq⟩, hw''⟩ := hw'
    subst hw''
    have hY := below_regrown wr dq osq
    first | (change Exit.then _ _ Exit.normal _ (Sort.grow (redrawn wr dq) osq)) | skip
    generalize Sort.grow (redrawn wr dq) osq = Y at hY ⊢
    have HBY : Hid (Below w.heap.size w Y) := below2 hB.out hY
    clear hY y1 y2 z1 z2
    go_wp2
    refine ⟨⟨n + 1, hlt, by simp, HBY⟩, ?_⟩
    show A.length - ((n : Int) + 1).toNat < A.length - ((n : Int)).toNat
    omega
end Go.Proofs.YtahdkffijlfmnaaGreatDoor

namespace Go.Proofs.YtahdkffijlfmnaaGreatDoor
open Go.RowKit
open Hp (V vc vcs)
set_option maxRecDepth 100000 in
set_option maxHeartbeats 1000000 in
theorem sameRun_any {w : World} {S : Ms} {g1 g2 c1 c2 : Nat} {Ls : List (List V)} (h1 : Hp.ListsAt w g1 Ls) (h2 : Hp.ListsAt w g2 Ls) (hl : Ls.length ≤ 100001) (hel : ∀ L ∈ Ls, L.length ≤ 100000) :
    Calls Tryz.prog 13 #[runV S (.slice (some ⟨g1, 0, none⟩) Ls.length c1), runV S (.slice (some ⟨g2, 0, none⟩) Ls.length c2)] w fun e w' => e = .returned (.bool true) ∧ Below w.heap.size w w' := by
  have HS : Hid (∀ Y, Below w.heap.size w Y → Calls Tryz.prog 30 #[.slice (some ⟨g1, 0, none⟩) Ls.length c1, .slice (some ⟨g2, 0, none⟩) Ls.length c2] Y fun e w' => e = .returned (.bool true) ∧ Below Y.heap.size Y w') := fun Y hY => by
    have k : ∀ {g}, Hp.ListsAt w g Ls → Hp.ListsAt Y g Ls := fun {g} h n hn => by
      obtain ⟨q, c, e, r⟩ := h n hn
      refine ⟨q, c, (hY.cell (p := ⟨g, n, none⟩) (block_lt_of_cell e)).trans e, fun h0 => ?_⟩
      obtain ⟨b, e1, e2⟩ := r h0
      exact ⟨b, e1, fun j v hv => (hY.cell (p := ⟨b, 0 + j, none⟩) (block_lt_of_cell (e2 j v hv))).trans (e2 j v hv)⟩
    exact Hp.same_any (k h1) (k h2) hl hel
  clear h1 h2 hl hel
  unfold runV
  have bX : Below w.heap.size w ((w.alloc (.cells #[.int .i64 S.ph, .int .i64 S.tr, .string ⟨S.out.toArray⟩, .int .i64 (S.rd : Int), .int .i64 S.steps, .slice none 0 0, .slice (some ⟨g1, 0, none⟩) Ls.length c1] 46)).alloc (.cells #[.int .i64 S.ph, .int .i64 S.tr, .string ⟨S.out.toArray⟩, .int .i64 (S.rd : Int), .int .i64 S.steps, .slice none 0 0, .slice (some ⟨g2, 0, none⟩) Ls.length c2] 46)) := ((Below.refl _ w).alloc (Nat.le_refl _) _).alloc (by simp) _
  have fA : Full ((w.alloc (.cells #[.int .i64 S.ph, .int .i64 S.tr, .string ⟨S.out.toArray⟩, .int .i64 (S.rd : Int), .int .i64 S.steps, .slice none 0 0, .slice (some ⟨g1, 0, none⟩) Ls.length c1] 46)).alloc (.cells #[.int .i64 S.ph, .int .i64 S.tr, .string ⟨S.out.toArray⟩, .int .i64 (S.rd : Int), .int .i64 S.steps, .slice none 0 0, .slice (some ⟨g2, 0, none⟩) Ls.length c2] 46)) w.heap.size 46 [.int .i64 S.ph, .int .i64 S.tr, .string ⟨S.out.toArray⟩, .int .i64 (S.rd : Int), .int .i64 S.steps, .slice none 0 0, .slice (some ⟨g1, 0, none⟩) Ls.length c1] := (Full.new w #[.int .i64 S.ph, .int .i64 S.tr, .string ⟨S.out.toArray⟩, .int .i64 (S.rd : Int), .int .i64 S.steps, .slice none 0 0, .slice (some ⟨g1, 0, none⟩) Ls.length c1] 46).next ((Below.refl _ (w.alloc (.cells #[.int .i64 S.ph, .int .i64 S.tr, .string ⟨S.out.toArray⟩, .int .i64 (S.rd : Int), .int .i64 S.steps, .slice none 0 0, .slice (some ⟨g1, 0, none⟩) Ls.length c1] 46))).alloc (Nat.le_refl _) _)
  have fB : Full ((w.alloc (.cells #[.int .i64 S.ph, .int .i64 S.tr, .string ⟨S.out.toArray⟩, .int .i64 (S.rd : Int), .int .i64 S.steps, .slice none 0 0, .slice (some ⟨g1, 0, none⟩) Ls.length c1] 46)).alloc (.cells #[.int .i64 S.ph, .int .i64 S.tr, .string ⟨S.out.toArray⟩, .int .i64 (S.rd : Int), .int .i64 S.steps, .slice none 0 0, .slice (some ⟨g2, 0, none⟩) Ls.length c2] 46)) (w.alloc (.cells #[.int .i64 S.ph, .int .i64 S.tr, .string ⟨S.out.toArray⟩, .int .i64 (S.rd : Int), .int .i64 S.steps, .slice none 0 0, .slice (some ⟨g1, 0, none⟩) Ls.length c1] 46)).heap.size 46 [.int .i64 S.ph, .int .i64 S.tr, .string ⟨S.out.toArray⟩, .int .i64 (S.rd : Int), .int .i64 S.steps, .slice none 0 0, .slice (some ⟨g2, 0, none⟩) Ls.length c2] := Full.new (w.alloc (.cells #[.int .i64 S.ph, .int .i64 S.tr, .string ⟨S.out.toArray⟩, .int .i64 (S.rd : Int), .int .i64 S.steps, .slice none 0 0, .slice (some ⟨g1, 0, none⟩) Ls.length c1] 46)) #[.int .i64 S.ph, .int .i64 S.tr, .string ⟨S.out.toArray⟩, .int .i64 (S.rd : Int), .int .i64 S.steps, .slice none 0 0, .slice (some ⟨g2, 0, none⟩) Ls.length c2] 46
  have hz : (w.alloc (.cells #[.int .i64 S.ph, .int .i64 S.tr, .string ⟨S.out.toArray⟩, .int .i64 (S.rd : Int), .int .i64 S.steps, .slice none 0 0, .slice (some ⟨g1, 0, none⟩) Ls.length c1] 46)).heap.size = w.heap.size + 1 := by simp
  rw [hz] at fB
  have a0 := (fA.cell 0 _ rfl).1
  have a1 := (fA.cell 1 _ rfl).1
  have a2 := (fA.cell 2 _ rfl).1
  have a3 := (fA.cell 3 _ rfl).1
  have a4 := (fA.cell 4 _ rfl).1
  have a5 := (fA.cell 5 _ rfl).1
  have a6 := (fA.cell 6 _ rfl).1
  have b0 := (fB.cell 0 _ rfl).1
  have b1 := (fB.cell 1 _ rfl).1
  have b2 := (fB.cell 2 _ rfl).1
  have b3 := (fB.cell 3 _ rfl).1
  have b4 := (fB.cell 4 _ rfl).1
  have b5 := (fB.cell 5 _ rfl).1
  have b6 := (fB.cell 6 _ rfl).1
  have HBX : Hid (Below w.heap.size w ((w.alloc (.cells #[.int .i64 S.ph, .int .i64 S.tr, .string ⟨S.out.toArray⟩, .int .i64 (S.rd : Int), .int .i64 S.steps, .slice none 0 0, .slice (some ⟨g1, 0, none⟩) Ls.length c1] 46)).alloc (.cells #[.int .i64 S.ph, .int .i64 S.tr, .string ⟨S.out.toArray⟩, .int .i64 (S.rd : Int), .int .i64 S.steps, .slice none 0 0, .slice (some ⟨g2, 0, none⟩) Ls.length c2] 46))) := bX
  clear fA fB bX hz
  go_enter Tryz.func13, Tryz.ntmps13
  go_wp2_with (first
    | (go_at_call 30; refine (HS.out _ HBX.out).mono ?_; rintro z1 w1 ⟨rfl, hb1⟩)
    | fail)
  go_ret
  exact ⟨rfl, below2 HBX.out hb1⟩
end Go.Proofs.YtahdkffijlfmnaaGreatDoor

namespace Go.Proofs.YtahdkffijlfmnaaGreatDoor
open Go.RowKit
open Hp (V vc vcs)
theorem plain_yd {R : Except Int Ms} {r : Ms × Yd} (h : plainYd R = .ok r) : r.2 = yd0 := by
  cases R with
  | error t => cases h
  | ok S => cases h; rfl
theorem hook_of {o : Nat} {a b : Int} (ho : o = 21 ∨ o = 22 ∨ o = 23) (h : insS ((o : Int), a, b) = true) : 1 ≤ a := by
  unfold insS mayS at h
  rcases ho with rfl | rfl | rfl
  all_goals
    simp only [Bool.and_eq_true, decide_eq_true_eq] at h
    exact h.2.2.1.1
/-- Who yields does nothing else. -/
theorem op_yd {K : Cg} {S : Ms} {n : Nat} {f : Fr} {i : Nat} {hi : i < K.Es.length} {a b : Int} {o : Nat} {r : Ms × Yd} (hins : insS ((o : Int), a, b) = true) (e : opS K S n f i hi a b o = .ok r) : r.2 = yd0 ∨ (1 ≤ r.2.1 ∧ r.1 = S) := by
  unfold opS at e
  split at e
  case h_21 => cases e; exact .inr ⟨hook_of (.inl rfl) hins, rfl⟩
  case h_22 =>
    split at e
    · cases e; exact .inr ⟨hook_of (.inr (.inl rfl)) hins, rfl⟩
    · cases e
  case h_23 => cases e; exact .inr ⟨hook_of (.inr (.inr rfl)) hins, rfl⟩
  all_goals first | exact .inl (plain_yd e) | (cases e; exact .inl rfl)
theorem next_yd {K : Cg} {S : Ms} {r : Ms × Yd} (hK : KOk K) (h : StOk K S) (e : mnextS K S = .ok r) : r.2 = yd0 ∨ (1 ≤ r.2.1 ∧ r.1.ph = S.ph) := by
  obtain ⟨f, hi, a, b, o, hf, hfo, hins, hn, e⟩ := next_of hK h e
  rcases op_yd hins e with q | ⟨q1, q2⟩
  · exact .inl q
  · exact .inr ⟨q1, by rw [q2]; rfl⟩
theorem cel_used (A : Hp.Hp) : celS (Hp.lsA A) = Hp.usedS A := by
  show ((A.map (·.2)).map fun l => l.length + 1).sum = _
  induction A with
  | nil => rfl
  | cons x A ih => simp only [List.map_cons, List.sum_cons, ih, Hp.usedS]
theorem MachM.usedL {w : World} {g : Nat} {K : Cg} {S : Ms} {L : List Fm} {fv ov : Value} {F Q : Nat → Prop} (h : MachM w g K S L fv ov F Q) : Hp.usedS S.hp ≤ K.lim := by
  obtain ⟨As, rq, rn, rg, ro, av, e, hh⟩ := h.heap
  rw [← e]
  exact hh.le
/-- What may be said of a step. -/
structure Wt (K : Cg) (S S' : Ms) : Prop where
  st : S'.steps = S.steps + 1
  out : ∃ l, S'.out = S.out ++ l ∧ l.length ≤ 4200
  rd0 : S.rd ≤ S'.rd
  rd1 : S'.rd ≤ S.rd + 1
  rdK : S'.rd ≤ K.inp.length
  hp : ∃ l, lens S'.hp = lens S.hp ++ l
  f0 : S.fs.length ≤ S'.fs.length + 1
  f1 : S'.fs.length ≤ S.fs.length + 1
  fd : (S'.fs.length : Int) ≤ K.dep
  pe : S'.fs.length = 0 ↔ S'.ph = 1
  tr : S'.ph ≠ 2 → S'.tr = 0
  tp : S'.ph = 2 → S'.out = S.out ∧ S'.rd = S.rd ∧ S'.fs.length = S.fs.length ∧ S'.hp = S.hp ∧ S'.tr ≠ 0 ∧ (S'.tr = 5 → S'.rd = K.inp.length) ∧ (S'.tr = 3 → (S'.fs.length : Int) = K.dep)
theorem step_wt {K : Cg} {S : Ms} (hK : KOk K) (h : StOk K S) (hu : Hp.usedS S.hp ≤ 100000) (hp : S.ph = 0) (ht : S.tr = 0) (hf : S.fs ≠ []) (hs : S.steps + 1 ≤ 4611686018427387904) :
    Wt K S (mstepS K S).1 ∧ (((mstepS K S).2.2 = false ∧ (mstepS K S).2.1 = yd0) ∨ ((mstepS K S).2.2 = true ∧ 1 ≤ (mstepS K S).2.1.1 ∧ (mstepS K S).1.ph = 0)) := by
  obtain ⟨k1, k2⟩ := step_ok hK h hu
  have hs' : StOk K { S with steps := S.steps + 1 } := ⟨h.fr, h.hp, h.rd, h.dp, by show 0 ≤ S.steps + 1; have := h.s0; omega, hs⟩
  have hl : 0 < S.fs.length := List.length_pos_iff.2 hf
  rcases step_gw (K := K) hp hf hs with ⟨⟨y, e, hy⟩, g⟩ | ⟨t, e, hq⟩
  · have hph : (mstepS K S).1.ph ≠ 2 := by
      rcases g.ph with ⟨-, q⟩ | ⟨-, q⟩
      · rw [q]; decide
      · rw [q]; show S.ph ≠ 2; rw [hp]; decide
    refine ⟨⟨g.st, k2, g.rd0, g.rd1, k1.rd, g.hp, g.f0, g.f1, k1.dp, ⟨fun q => ?_, fun q => ?_⟩, fun _ => g.tr.trans ht, fun q => absurd q hph⟩, ?_⟩
    · rcases g.ph with ⟨-, r⟩ | ⟨r, -⟩
      · exact r
      · omega
    · rcases g.ph with ⟨r, -⟩ | ⟨-, r⟩
      · exact r
      · rw [r] at q; have : S.ph = 1 := q; omega
    · rw [hy]
      rcases next_yd hK hs' e with q | ⟨q1, q2⟩
      · have q : y = yd0 := q
        subst q
        exact .inl ⟨rfl, rfl⟩
      · have q1 : 1 ≤ y.1 := q1
        refine .inr ⟨?_, q1, q2.trans hp⟩
        show (y.1 != 0) = true
        rw [bne_iff_ne]
        omega
  · have q := next_er e
    rw [hq] at k1 ⊢
    refine ⟨⟨rfl, ⟨[], (List.append_nil _).symm, by simp⟩, Nat.le_refl _, Nat.le_succ _, k1.rd, ⟨[], (List.append_nil _).symm⟩, Nat.le_succ _, Nat.le_succ _, k1.dp, ⟨fun r => ?_, fun r => ?_⟩, fun r => absurd rfl r, fun _ => ⟨rfl, rfl, rfl, rfl, q.2.2, fun r => ?_, fun r => ?_⟩⟩, .inl ⟨rfl, rfl⟩⟩
    · have r : S.fs.length = 0 := r
      omega
    · have r : (2 : Int) = 1 := r
      omega
    · exact Nat.le_antisymm k1.rd (q.1 r)
    · have := q.2.1 r
      rw [← this]
      show (S.fs.length : Int) = ((S.fs.length - 1 + 1 : Nat) : Int)
      omega
end Go.Proofs.YtahdkffijlfmnaaGreatDoor
