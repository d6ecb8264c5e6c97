import Derived.Test.YtdcioemjmmhbhaaDoorFind
namespace Go.Proofs.YtdcioemjmmhbhaaDoor
open Go.RowKit

/-- Two cells that may be written. -/
def Box2 (W : World) (B : Nat) (a b : Value) : Prop := (W.cell? ⟨B, 0, none⟩ = some a ∧ W.frozen? ⟨B, 0, none⟩ = false) ∧ (W.cell? ⟨B, 1, none⟩ = some b ∧ W.frozen? ⟨B, 1, none⟩ = false)
theorem Box2.new (W : World) (a b : Value) (t : TypeId) : Box2 (W.alloc (.cells #[a, b] t)) W.heap.size a b := by
  have h := World.alloc_heap_new W (.cells #[a, b] t)
  refine ⟨⟨?_, ?_⟩, ?_, ?_⟩
  all_goals first | (unfold World.cell?; rw [h]; rfl) | (unfold World.frozen?; rw [h]; rfl)
theorem Box2.same {W W' : World} {B : Nat} {a b : Value} (h : Box2 W B a b) (e : W'.heap[B]? = W.heap[B]?) : Box2 W' B a b := by
  have c := fun o => World.cell?_of_block (w := W) (w' := W') (a := ⟨B, o, none⟩) e
  have f := fun o => World.frozen?_of_block (w := W) (w' := W') (a := ⟨B, o, none⟩) e
  exact ⟨⟨(c 0).trans h.1.1, (f 0).trans h.1.2⟩, (c 1).trans h.2.1, (f 1).trans h.2.2⟩
theorem Box2.below {W W' : World} {B D : Nat} {a b : Value} (h : Box2 W B a b) (hb : Below D W W') (hB : B < D) : Box2 W' B a b := h.same (hb.block B hB)
theorem Box2.alloc {W : World} {B : Nat} {a b : Value} (h : Box2 W B a b) (o : Obj) (hB : B < W.heap.size) : Box2 (W.alloc o) B a b := h.same (Below.heap_alloc W o B hB)
def put2 (W : World) (B : Nat) (a b : Value) : World := (W.setCell ⟨B, 0, none⟩ a).setCell ⟨B, 1, none⟩ b
theorem Box2.put {W : World} {B : Nat} {a b : Value} (h : Box2 W B a b) (a' b' : Value) : Box2 (put2 W B a' b') B a' b' := by
  obtain ⟨⟨h0, f0⟩, h1, f1⟩ := h
  have e1 : (W.setCell ⟨B, 0, none⟩ a').cell? ⟨B, 1, none⟩ = some b := by rw [World.cell?_setCell_other _ _ _ _ (by simp)]; exact h1
  unfold put2
  refine ⟨⟨?_, ?_⟩, ?_, ?_⟩
  · rw [World.cell?_setCell_other _ _ _ _ (by simp)]
    exact World.cell?_setCell_same' _ _ _ (by rw [h0]; rfl)
  · rw [World.frozen?_setCell, World.frozen?_setCell]; exact f0
  · exact World.cell?_setCell_same' _ _ _ (by rw [e1]; rfl)
  · rw [World.frozen?_setCell, World.frozen?_setCell]; exact f1
theorem below_put2 {W W0 : World} {B D : Nat} (h : Below D W0 W) (hB : D ≤ B) (a b : Value) : Below D W0 (put2 W B a b) := (h.setCell (p := ⟨B, 0, none⟩) hB _).setCell (p := ⟨B, 1, none⟩) hB _

def arV (a : Ar) : Value := .agg #[.int .i64 a.kind, .slice a.q a.els.length a.els.length]
def za : Ar := ⟨0, [], none, 0, 0⟩
/-- What find answers. -/
def findA (As : List Ar) (v : V) : Ar × Int := if mayS v 4 As.length = false then (za, 7) else if v.2.1 = 0 then (za, 0) else (As.getD (v.2.1.toNat - 1) za, 0)
theorem may_ref {v : V} {n : Nat} (h : mayS v 4 n = true) : v.1 = 4 ∧ 0 ≤ v.2.1 ∧ v.2.1 ≤ (n : Int) ∧ v.2.2 = e0 := by
  unfold mayS at h
  simp only [Bool.and_eq_true, beq_iff_eq, Bool.or_eq_true, decide_eq_true_eq] at h
  obtain ⟨⟨h1, h2⟩, h3⟩ := h
  rw [h1] at h2
  unfold okV at h2
  simp at h2
  refine ⟨h1, h2.1, ?_, eq_e0 h2.2⟩
  rcases h3 with h3 | h3
  · simp at h3
  · exact h3

set_option maxRecDepth 100000 in
set_option maxHeartbeats 2000000 in
theorem find_any {w : World} {p lim : Nat} {As : List Ar} {rq : Option Addr} {rn rg ro : Nat} {av : Value} {F : Nat → Prop} (h : HeapAt w p lim As rq rn rg ro av F) (k n : Int) (s : ByteArray) (hs : s.size ≤ 9223372036854775807) :
    Calls Tryd.prog 34 #[.pointer (some ⟨p, 0, none⟩), .agg #[.int .i64 k, .int .i64 n, .string s]] w fun e w' => e = .returned (.tuple #[arV (findA As (k, n, s)).1, .int .i64 (findA As (k, n, s)).2]) ∧ Below w.heap.size w w' := by
  have b0 := Box3.new w k n s 37
  have b1 := Box2.new (w.alloc (.cells #[.int .i64 k, .int .i64 n, .string s] 37)) (.int .i64 0) (.slice none 0 0) 82
  rw [World.size_alloc] at b1
  replace b0 := b0.alloc (.cells #[.int .i64 0, .slice none 0 0] 82)
  have B0 : Below w.heap.size w ((w.alloc (.cells #[.int .i64 k, .int .i64 n, .string s] 37)).alloc (.cells #[.int .i64 0, .slice none 0 0] 82)) := ((Below.refl _ w).alloc (Nat.le_refl _) _).alloc (by simp) _
  have z0 : ((w.alloc (.cells #[.int .i64 k, .int .i64 n, .string s] 37)).alloc (.cells #[.int .i64 0, .slice none 0 0] 82)).heap.size = w.heap.size + 2 := by simp
  have hR := may_ref (v := (k, n, s)) (n := As.length)
  have HF : Hid (findA As (k, n, s) = if mayS (k, n, s) 4 As.length = false then (za, 7) else if n = 0 then (za, 0) else (As.getD (n.toNat - 1) za, 0)) := rfl
  have hM := fun W : World => mayBe_any k n s 4 As.length W hs
  generalize mayS (k, n, s) 4 As.length = mb at hM hR HF
  generalize findA As (k, n, s) = R at HF ⊢
  go_enter Tryd.func34, Tryd.ntmps34
  go_wp2_with fail
  generalize (w.alloc (.cells #[.int .i64 k, .int .i64 n, .string s] 37)).alloc (.cells #[.int .i64 0, .slice none 0 0] 82) = X at b0 b1 B0 z0 ⊢
  replace h := h.next B0
  have y0 := cell_regrown b0.1.1.1
  have y1 := cell_regrown b0.1.2.1
  have y2 := cell_regrown b0.2.1
  have c1 : ∀ d os, Calls Tryd.prog 36 #[.pointer (some ⟨p, 0, none⟩)] (Sort.grow (redrawn X d) os) fun e w'' => e = .returned (.int .i64 (As.length : Int)) ∧ ∃ z : Regrown, w'' = Sort.grow (redrawn X z.d) z.os := fun d os =>
    Calls.regrown_of ((count_any (h.next (below_regrown X d os))).mono fun e w' q => ⟨q.1, by rw [q.2]; exact Below.refl _ _⟩)
  have c2 : ∀ d os, Calls Tryd.prog 52 #[.agg #[.int .i64 k, .int .i64 n, .string s], .int .i64 4, .int .i64 (As.length : Int)] (Sort.grow (redrawn X d) os) fun e w'' => e = .returned (.bool mb) ∧ ∃ z : Regrown, w'' = Sort.grow (redrawn X z.d) z.os := fun d os =>
    Calls.regrown_of (hM _)
  refine wp_region_quiet_below (by kernel_rfl) (by kernel_rfl) ?_
  repeat (first | go_big_quiet_step (first | with_reducible exact c1 _ _ | with_reducible exact c2 _ _) | quiet_step (first | with_reducible exact c1 _ _ | with_reducible exact c2 _ _))
  refine wpQuiet_nil ?_
  intro _ hw'
  obtain ⟨⟨dq, osq⟩, hw''⟩ := hw'
  subst hw''
  have hY := below_regrown X dq osq
  change Exit.then _ _ Exit.normal _ (Sort.grow (redrawn X dq) osq)
  generalize Sort.grow (redrawn X dq) osq = Y at hY ⊢
  clear c1 c2
  clear y0 y1 y2
  replace h := h.next hY
  replace b0 := b0.below hY (by omega)
  replace b1 := b1.below hY (by omega)
  replace B0 := below2 B0 hY
  have z1 := hY.size
  clear hY
  obtain ⟨⟨⟨x0, f0⟩, ⟨x1, f1⟩⟩, x2, f2⟩ := id b0
  obtain ⟨⟨y0, g0⟩, ⟨y1, g1⟩⟩ := id b1
  have HB : Hid (∀ a b, Below w.heap.size w (put2 Y (w.heap.size + 1) a b) ∧ Box2 (put2 Y (w.heap.size + 1) a b) (w.heap.size + 1) a b) := fun a b => ⟨below_put2 B0 (Nat.le_succ _) _ _, b1.put a b⟩
  clear b0 b1 B0
  cases mb with
  | false =>
    rw [if_pos rfl] at HF
    clear h hR
    go_wp2
    change bodyPost Tryd.prog _ _ _ _ (put2 Y (w.heap.size + 1) (.int .i64 0) (.slice none 0 0))
    obtain ⟨hB, hb⟩ := HB.out (.int .i64 0) (.slice none 0 0)
    generalize put2 Y (w.heap.size + 1) (.int .i64 0) (.slice none 0 0) = Z at hB hb ⊢
    obtain ⟨⟨p0, -⟩, p1, -⟩ := hb
    exact bodyPost_ret (v := .tuple #[arV za, .int .i64 7]) (by simp [results, Tryd.results34, go_sem, p0, p1, arV, za]) rfl ⟨by rw [HF.out], hB⟩
  | true =>
    obtain ⟨-, r1, r2, -⟩ := hR rfl
    rw [if_neg (by decide)] at HF
    clear hR
    by_cases hn : n = 0
    · rw [if_pos hn] at HF
      subst hn
      clear h r1 r2
      go_wp2
      change bodyPost Tryd.prog _ _ _ _ (put2 Y (w.heap.size + 1) (.int .i64 0) (.slice none 0 0))
      obtain ⟨hB, hb⟩ := HB.out (.int .i64 0) (.slice none 0 0)
      generalize put2 Y (w.heap.size + 1) (.int .i64 0) (.slice none 0 0) = Z at hB hb ⊢
      obtain ⟨⟨p0, -⟩, p1, -⟩ := hb
      exact bodyPost_ret (v := .tuple #[arV za, .int .i64 0]) (by simp [results, Tryd.results34, go_sem, p0, p1, arV, za]) rfl ⟨by rw [HF.out], hB⟩
    · rw [if_neg hn] at HF
      obtain ⟨i, rfl⟩ : ∃ i : Nat, n = (i : Int) + 1 := ⟨n.toNat - 1, by omega⟩
      have hi : i < As.length := by omega
      have hl := h.len.1
      rw [show ((i : Int) + 1).toNat - 1 = i by omega, List.getD_eq_getElem?_getD, List.getElem?_eq_getElem hi, Option.getD_some] at HF
      have h3 := h.c3
      obtain ⟨q, cap, rfl, hcap, hr⟩ := own_slice h.arrs
      obtain ⟨ag, rfl, hr2⟩ := hr (by omega)
      obtain ⟨x, hx⟩ : ∃ x, As[i] = x := ⟨_, rfl⟩
      have e0' := flat_at ac 2 (fun _ => rfl) As i 0 hi (by decide)
      have e1' := flat_at ac 2 (fun _ => rfl) As i 1 hi (by decide)
      rw [hx] at e0' e1' HF
      have a0 : Y.cell? ⟨ag, i * 2, none⟩ = some (.int .i64 x.kind) := by
        have := hr2 (i * 2 + 0) (.int .i64 x.kind) (e0'.trans rfl)
        rwa [Nat.zero_add, Nat.add_zero] at this
      have a1 : Y.cell? ⟨ag, i * 2 + 1, none⟩ = some (.slice x.q x.els.length x.els.length) := by
        have := hr2 (i * 2 + 1) (.slice x.q x.els.length x.els.length) (e1'.trans rfl)
        rwa [Nat.zero_add] at this
      have hw : IntKind.i64.wrap (i : Int) = (i : Int) := by rw [IntKind.wrap_i64]; omega
      have hw' : wrap64 (i : Int) = (i : Int) := by unfold wrap64; omega
      have i0 : (0 : Int) ≤ (i : Int) := by omega
      have i1 : (i : Int) < (As.length : Int) := by omega
      have hnz : ((i : Int) + 1 == 0) = false := by simp; omega
      have HR : Hid (Value.tuple #[arV R.1, .int .i64 R.2] = .tuple #[.agg #[.int .i64 x.kind, .slice x.q x.els.length x.els.length], .int .i64 0]) := by rw [HF.out]; rfl
      clear h hr hr2 e0' e1' hx r1 r2 hn hl hi HF
      generalize x.kind = kk at a0 HR
      generalize x.q = qq at a1 HR
      generalize x.els.length = ll at a1 HR
      go_wp2_with fail
      go_region
      change Exit.then _ _ Exit.normal _ (put2 Y (w.heap.size + 1) (.int .i64 kk) (.slice qq ll ll)).drew
      obtain ⟨hB, hb⟩ := HB.out (.int .i64 kk) (.slice qq ll ll)
      replace hB := hB.drew
      replace hb : Box2 (put2 Y (w.heap.size + 1) (.int .i64 kk) (.slice qq ll ll)).drew (w.heap.size + 1) (.int .i64 kk) (.slice qq ll ll) := hb
      generalize (put2 Y (w.heap.size + 1) (.int .i64 kk) (.slice qq ll ll)).drew = Z at hB hb ⊢
      obtain ⟨⟨p0, -⟩, p1, -⟩ := hb
      clear x0 x1 x2 f0 f1 f2 y0 y1 g0 g1 h3 a0 a1 HB
      go_wp2
      exact bodyPost_ret (v := .tuple #[.agg #[.int .i64 kk, .slice qq ll ll], .int .i64 0]) (by simp [results, Tryd.results34, go_sem, p0, p1]) rfl ⟨by rw [HR.out], hB⟩
end Go.Proofs.YtdcioemjmmhbhaaDoor
