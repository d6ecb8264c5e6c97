import Derived.Test.YtekgnogjfggnmaaDoorAlike
namespace Go.Proofs.YtekgnogjfggnmaaDoor
open Go.RowKit

theorem ndV_inj {x y : Nd} (h : ∀ (j : Nat) (v : Value), (ndV x)[j]? = some v → (ndV y)[j]? = some v) : x = y := by
  obtain ⟨kd, ps, nm, lb, ty, op, it, tx, zz⟩ := x
  obtain ⟨kd', ps', nm', lb', ty', op', it', tx', zz'⟩ := y
  have h0 := h 0 _ rfl
  have h1 := h 1 _ rfl
  have h2 := h 2 _ rfl
  have h3 := h 3 _ rfl
  have h4 := h 4 _ rfl
  have h5 := h 5 _ rfl
  have h6 := h 6 _ rfl
  have h7 := h 7 _ rfl
  have h8 := h 8 _ rfl
  simp [ndV] at h0 h1 h2 h3 h4 h5 h6 h7 h8
  subst h0 h1 h2 h3 h4 h5 h6 h7 h8
  rfl

theorem nd_ext {A B : List Nd} (hl : A.length = B.length) (h : ∀ i, i < A.length → nd A i = nd B i) : A = B := by
  apply List.ext_getElem hl
  intro i h1 h2
  have := h i h1
  simpa [nd, h1, h2] using this

/-- One slice, one list. -/
theorem rd_inj {w : World} {p : Option Addr} {A B : List Nd} (hl : A.length = B.length) (ha : Rd w p A) (hb : Rd w p B) : A = B := by
  by_cases hne : A = []
  · subst hne
    exact (List.length_eq_zero_iff.1 hl.symm).symm
  · have hne' : B ≠ [] := fun e => hne (List.length_eq_zero_iff.1 (by rw [hl, e]; rfl))
    obtain ⟨g, o, rfl, h1⟩ := ha hne
    obtain ⟨g', o', e, h2⟩ := hb hne'
    cases e
    refine nd_ext hl fun i hi => ndV_inj fun j v hv => ?_
    have e1 := h1.c i hi j v hv
    have hj : j < 9 := (Array.getElem?_eq_some_iff.1 hv).1
    obtain ⟨u, hu⟩ : ∃ u, (ndV (nd B i))[j]? = some u := ⟨_, Array.getElem?_eq_getElem (show j < (ndV (nd B i)).size from hj)⟩
    have e2 := h2.c i (by omega) j u hu
    rw [e1] at e2
    rw [hu, ← e2]

/-- What a slice reads as. -/
def Reads (w : World) (p : Option Addr) (n : Nat) (L : List Nd) : Prop := Fine L ∧ L.length = n ∧ Rd w p L
theorem Reads.next {w w' : World} {p : Option Addr} {n : Nat} {L : List Nd} (h : Reads w p n L) (hb : Below w.heap.size w w') : Reads w' p n L := ⟨h.1, h.2.1, h.2.2.next hb⟩
theorem Reads.eq {w : World} {p : Option Addr} {n : Nat} {A B : List Nd} (ha : Reads w p n A) (hb : Reads w p n B) : A = B := rd_inj (ha.2.1.trans hb.2.1.symm) ha.2.2 hb.2.2

theorem isTree_rel (w : World) (p : Option Addr) (n cap : Nat) (h : ∃ L, Reads w p n L) (hk : KwAt w) :
    Calls Tryd.prog 30 #[.slice p n cap] w fun e w' => (∃ b, e = .returned (.bool b) ∧ Hid (∀ L, Reads w p n L → b = treeS nameS typeS L)) ∧ Below w.heap.size w w' := by
  obtain ⟨L, hL⟩ := h
  obtain ⟨hf, rfl, hr⟩ := hL
  exact (isTree_any w p cap L hf hr hk).mono fun e w' he => ⟨⟨_, he.1, fun L' h' => by rw [Reads.eq ⟨hf, rfl, hr⟩ h']⟩, he.2⟩

set_option maxHeartbeats 400000 in
theorem valid_any (w : World) (p : Option Addr) (n cap : Nat) (L : List Nd) (h : Reads w p n L) (hk : KwAt w) :
    Calls Tryd.prog 7 #[.agg #[.slice p n cap]] w fun e w' => e = .returned (.int .i64 (if treeS nameS typeS L then 0 else 30)) ∧ Below w.heap.size w w' := by
  obtain ⟨w1, hw1⟩ : ∃ w1, w.alloc (.cells #[.slice p n cap] 24) = w1 := ⟨_, rfl⟩
  have B1 : Hid (Below w.heap.size w w1) := by rw [← hw1]; exact (Below.refl _ w).alloc (Nat.le_refl _) _
  have c1 : w1.cell? ⟨w.heap.size, 0, none⟩ = some (.slice p n cap) := by rw [← hw1]; exact cell_new _ _ _ _ _ rfl
  have H : Hid (Calls Tryd.prog 30 #[.slice p n cap] w1 fun e w' => e = .returned (.bool (treeS nameS typeS L)) ∧ Below w1.heap.size w1 w') := by
    have hr := h.next B1.out
    obtain ⟨hf, rfl, hr⟩ := hr
    exact isTree_any w1 p cap L hf hr (hk.next B1.out)
  clear h hk
  obtain ⟨b, hb⟩ : ∃ b, treeS nameS typeS L = b := ⟨_, rfl⟩
  rw [hb] at H ⊢
  clear hb
  cases b with
  | true =>
    go_enter Tryd.func7, Tryd.ntmps7
    go_wp2_with (first
      | (go_at_call 30; refine H.out.mono ?_; rintro e w2 ⟨rfl, hb2⟩)
      | go_in)
    go_ret
    exact ⟨rfl, B1.out.trans (hb2.mono B1.out.size)⟩
  | false =>
    go_enter Tryd.func7, Tryd.ntmps7
    go_wp2_with (first
      | (go_at_call 30; refine H.out.mono ?_; rintro e w2 ⟨rfl, hb2⟩)
      | go_in)
    go_ret
    exact ⟨rfl, B1.out.trans (hb2.mono B1.out.size)⟩

def sameS (A B : List Nd) : Bool := treeS nameS typeS A && treeS nameS typeS B && sameL A B

set_option maxRecDepth 100000 in
set_option maxHeartbeats 1000000 in
theorem same_any (w : World) (p : Option Addr) (n cap : Nat) (p' : Option Addr) (n' cap' : Nat) (A B : List Nd) (ha : Reads w p n A) (hb : Reads w p' n' B) (hk : KwAt w) :
    Calls Tryd.prog 9 #[.agg #[.slice p n cap], .agg #[.slice p' n' cap']] w fun e w' => e = .returned (.bool (sameS A B)) ∧ Below w.heap.size w w' := by
  obtain ⟨w1, hw1⟩ : ∃ w1, (w.alloc (.cells #[.slice p n cap] 24)).alloc (.cells #[.slice p' n' cap'] 24) = w1 := ⟨_, rfl⟩
  have B1 : Hid (Below w.heap.size w w1) := by rw [← hw1]; exact ((Below.refl _ w).alloc (Nat.le_refl _) _).alloc (by simp) _
  have c1 : w1.cell? ⟨w.heap.size, 0, none⟩ = some (.slice p n cap) := by rw [← hw1]; exact cell_old _ (cell_new _ _ _ _ _ rfl)
  have c2 : w1.cell? ⟨w.heap.size + 1, 0, none⟩ = some (.slice p' n' cap') := by rw [← hw1]; have := cell_new (w.alloc (.cells #[.slice p n cap] 24)) #[.slice p' n' cap'] 24 0 _ rfl; rwa [World.size_alloc] at this
  have z1 : w.heap.size + 1 < w1.heap.size := by rw [← hw1]; simp
  have RA : Hid (Reads w1 p n A) := ha.next B1.out
  have RB : Hid (Reads w1 p' n' B) := hb.next B1.out
  have K1 : Hid (KwAt w1) := hk.next B1.out
  have HI : Hid (∀ (q : Option Addr) (m c : Nat) (w' : World), Below w1.heap.size w1 w' → (∃ L, Reads w1 q m L) → Calls Tryd.prog 30 #[.slice q m c] w' fun e w'' => (∃ b, e = .returned (.bool b) ∧ Hid (∀ L, Reads w1 q m L → b = treeS nameS typeS L)) ∧ Below w'.heap.size w' w'') := fun q m c w' hb' ⟨L, hL⟩ =>
    (isTree_rel w' q m c ⟨L, hL.next hb'⟩ (K1.out.next hb')).mono fun e w'' h => ⟨h.1.imp fun b hb => ⟨hb.1, fun L hL => hb.2.out L (hL.next hb')⟩, h.2⟩
  have HE : Hid (∀ w' : World, Below w1.heap.size w1 w' → Calls Tryd.prog 31 #[.slice p n cap, .slice p' n' cap', .func (.func 32) #[] #[]] w' fun e w'' => e = .returned (.bool (sameL A B)) ∧ Below w'.heap.size w' w'') := fun w' hb' => by
    obtain ⟨f1, rfl, r1⟩ := RA.out.next hb'
    obtain ⟨f2, rfl, r2⟩ := RB.out.next hb'
    exact equal_any w' p p' cap cap' A B f1.len r1 r2
  obtain ⟨r, hr⟩ : ∃ r, sameS A B = r := ⟨_, rfl⟩
  have HR : Hid ((treeS nameS typeS A && treeS nameS typeS B && sameL A B) = r) := hr
  rw [hr]
  clear hr ha hb hk
  generalize sameL A B = sl at *
  have z0 : w.heap.size < w1.heap.size := by omega
  go_enter Tryd.func9, Tryd.ntmps9
  go_upto_region 1 with fail
  clear hw1
  have hcur : Below w1.heap.size w1 w1 := Below.refl _ _
  go_wp2_with (first
    | (go_at_call 31; refine (HE.out _ hcur).mono ?_; rintro e w4 ⟨rfl, hb4⟩; replace hcur := hcur.trans (hb4.mono hcur.size))
    | (go_at_call 30; refine (HI.out _ _ _ _ hcur (by first | exact ⟨A, RA.out⟩ | exact ⟨B, RB.out⟩)).mono ?_; rintro e w2 ⟨⟨b1, rfl, hb1⟩, hb2⟩; replace hcur := hcur.trans (hb2.mono hcur.size); have e1 := (hcur.cell (p := ⟨w.heap.size, 0, none⟩) z0).trans c1; have e2 := (hcur.cell (p := ⟨w.heap.size + 1, 0, none⟩) z1).trans c2)
    | go_in)
  all_goals
    have q1 := (by assumption : Hid (∀ L, Reads w1 p n L → _ = treeS nameS typeS L)).out A RA.out
    rw [← HR.out, ← q1]
  · have q2 := (by assumption : Hid (∀ L, Reads w1 p' n' L → _ = treeS nameS typeS L)).out B RB.out
    rw [← q2]
    go_ret
    refine ⟨?_, B1.out.trans (hcur.mono (by omega))⟩
    simp [*]
  · have q2 := (by assumption : Hid (∀ L, Reads w1 p' n' L → _ = treeS nameS typeS L)).out B RB.out
    rw [← q2]
    go_ret
    refine ⟨?_, B1.out.trans (hcur.mono (by omega))⟩
    simp [*]
  · go_ret
    refine ⟨?_, B1.out.trans (hcur.mono (by omega))⟩
    simp [*]

end Go.Proofs.YtekgnogjfggnmaaDoor
