import Derived.Deep.RegionHeld3
import Derived.Test.YtahdkffijlfmnaaGreatDoorF19
import Derived.Test.YtahdkffijlfmnaaGreatDoorF33
namespace Go.Proofs.YtahdkffijlfmnaaGreatDoor
open Go.RowKit
open Hp (V vc vcs bkL)
theorem Hp.Ans.keep {w w' : World} {b : Nat} {Ls : List (List V)} {v : Value} {vs : List Value} (h : Hp.Ans w b Ls v vs) (k1 : ∀ g, v.ownBlock = some g → w'.heap[g]? = w.heap[g]?) (k2 : ∀ g, bkL vs g → w'.heap[g]? = w.heap[g]?) : Hp.Ans w' b Ls v vs where
  len := h.len
  out := own_same h.out k1
  own k hk := by
    obtain ⟨q, h1, h2⟩ := h.own k hk
    exact ⟨q, h1, own_same h2 fun g hg => k2 g ⟨k, _, h1, hg⟩⟩
  sep := h.sep
/-- The lists of an answer, and between which numbers their blocks lie. -/
structure An2 (w : World) (S : Ms) (ga hi : Nat) (vs : List Value) : Prop where
  a : Hp.Ans w ga (Hp.lsA S.hp) (.slice (some ⟨ga, 0, none⟩) (S.hp.length + 1) (S.hp.length + 1)) vs
  r : ∀ g, bkL vs g → ga ≤ g ∧ g < hi
theorem An2.next {w w' : World} {S : Ms} {ga hi : Nat} {vs : List Value} (h : An2 w S ga hi vs) (k : Below w.heap.size w w') : An2 w' S ga hi vs := ⟨h.a.next k, h.r⟩
theorem An2.of {w : World} {S : Ms} {ga : Nat} (h : AnsS w ga S) : ∃ vs, An2 w S ga w.heap.size vs := by
  obtain ⟨vs, h⟩ := h
  exact ⟨vs, h, fun g hg => (h.blk hg).1⟩
/-- Behind the four answers. -/
structure FrQ (W w : World) (g : Nat) (K : Cg) (S : Ms) (U : Nat → Prop) (a b o t z1 z2 z3 z4 : Nat) (va vb vo vt : List Value) (Br Bs Bt Bo : Nat) : Prop where
  m : Mz w U g K S
  u : ∀ x, U x → W.heap.size < x ∧ x < a
  ra : An2 w S a z1 va
  rb : An2 w S b z2 vb
  rt : An2 w S t z3 vt
  ro : An2 w S o z4 vo
  l1 : z1 ≤ b
  l2 : z2 ≤ t
  l3 : z3 ≤ o
  ab : a ≤ b
  bt : b ≤ t
  tz : t ≤ o
  bl : Below W.heap.size W w
  wa : W.heap.size ≤ a
  g8 : 8 ≤ W.heap.size
  fr : Full w Br 46 (rcs S a)
  fs : Full w Bs 46 (rcs S b)
  ft : Full w Bt 46 (rcs S t)
  fo : Full w Bo 46 (rcs S o)
theorem FrQ.next {W w w' : World} {g : Nat} {K : Cg} {S : Ms} {U : Nat → Prop} {a b o t z1 z2 z3 z4 : Nat} {va vb vo vt : List Value} {Br Bs Bt Bo : Nat} (h : FrQ W w g K S U a b o t z1 z2 z3 z4 va vb vo vt Br Bs Bt Bo) (k : Below w.heap.size w w') : FrQ W w' g K S U a b o t z1 z2 z3 z4 va vb vo vt Br Bs Bt Bo :=
  ⟨h.m.next k, h.u, h.ra.next k, h.rb.next k, h.rt.next k, h.ro.next k, h.l1, h.l2, h.l3, h.ab, h.bt, h.tz, below2 h.bl k, h.wa, h.g8, h.fr.next k, h.fs.next k, h.ft.next k, h.fo.next k⟩
/-- Behind 'apart'. -/
structure FrZ (W w : World) (g : Nat) (K : Cg) (S : Ms) (U : Nat → Prop) (a b t : Nat) (va vb : List Value) (Br Bs Bt : Nat) : Prop where
  m : Mz w U g K S
  rt : AnsS w t S
  oa : w.ownsRow a 64 1 (.slice (some ⟨a, 0, none⟩) (S.hp.length + 1) (S.hp.length + 1)) (S.hp.length + 1) va
  ob : w.ownsRow b 64 1 (.slice (some ⟨b, 0, none⟩) (S.hp.length + 1) (S.hp.length + 1)) (S.hp.length + 1) vb
  la : va.length = S.hp.length + 1
  lb : vb.length = S.hp.length + 1
  bl : Below W.heap.size W w
  fr : Full w Br 46 (rcs S a)
  fs : Full w Bs 46 (rcs S b)
  ft : Full w Bt 46 (rcs S t)
theorem FrZ.next {W w w' : World} {g : Nat} {K : Cg} {S : Ms} {U : Nat → Prop} {a b t : Nat} {va vb : List Value} {Br Bs Bt : Nat} (h : FrZ W w g K S U a b t va vb Br Bs Bt) (k : Below w.heap.size w w') : FrZ W w' g K S U a b t va vb Br Bs Bt :=
  ⟨h.m.next k, h.rt.next k, own_next h.oa k, own_next h.ob k, h.la, h.lb, below2 h.bl k, h.fr.next k, h.fs.next k, h.ft.next k⟩
theorem FrQ.apart {W w w' : World} {g : Nat} {K : Cg} {S : Ms} {U : Nat → Prop} {a b o t z1 z2 z3 z4 : Nat} {va vb vo vt : List Value} {Br Bs Bt Bo : Nat} (h : FrQ W w g K S U a b o t z1 z2 z3 z4 va vb vo vt Br Bs Bt Bo) (k : Kp (bkL (va ++ vb ++ vo)) w w') : FrZ W w' g K S U a b t va vb Br Bs Bt := by
  have cs : ∀ x, bkL (va ++ vb ++ vo) x → (a ≤ x ∧ x < z1) ∨ (b ≤ x ∧ x < z2) ∨ (o ≤ x ∧ x < z4) := fun x hx => by
    rcases Hp.bkL_app hx with q | q
    · rcases Hp.bkL_app q with q | q
      · exact .inl (h.ra.r x q)
      · exact .inr (.inl (h.rb.r x q))
    · exact .inr (.inr (h.ro.r x q))
  have l1 := h.l1
  have l2 := h.l2
  have l3 := h.l3
  have ab := h.ab
  have bt := h.bt
  have tz := h.tz
  have wa := h.wa
  have g8 := h.g8
  have lo : ∀ x, bkL (va ++ vb ++ vo) x → a ≤ x := fun x hx => by have := cs x hx; omega
  have vt' : ∀ x, bkL (va ++ vb ++ vo) x → ∃ n, Blk w x 52 n := fun x hx => by
    rcases Hp.bkL_app hx with q | q
    · rcases Hp.bkL_app q with q | q
      · exact (h.ra.a.blk q).2
      · exact (h.rb.a.blk q).2
    · exact (h.ro.a.blk q).2
  have row : ∀ {x n}, Blk w x 64 n → ¬ bkL (va ++ vb ++ vo) x := fun {x n} hb hx => by
    obtain ⟨m, hm⟩ := vt' x hx
    exact hb.ne hm (by decide) rfl
  have ful : ∀ {x : Nat} {l : List Value}, Full w x 46 l → Full w' x 46 l := fun {x l} hf => full_kept hf k fun q => by
    obtain ⟨m, cur, hc, -⟩ := vt' x q
    unfold Full at hf
    rw [hf] at hc
    injection hc with hc
    injection hc with _ hc
    exact absurd hc (by decide)
  have oa := h.ra.a.out
  have ob := h.rb.a.out
  have ot := h.rt.a.out
  have la := h.ra.a.len
  have lb := h.rb.a.len
  rw [Hp.lsA_len] at oa ob la lb
  refine ⟨h.m.kept k fun x hx => ⟨fun q => ?_, ?_⟩, ⟨vt, h.rt.a.keep (fun x hx => k.block x (ot.lt x hx).2 (row (own_blk ot x hx))) fun x hx => k.block x (h.rt.a.blk hx).1.2 fun q => ?_⟩, own_same oa fun x hx => k.block x (oa.lt x hx).2 (row (own_blk oa x hx)), own_same ob fun x hx => k.block x (ob.lt x hx).2 (row (own_blk ob x hx)), la, lb, h.bl.trans (k.below (fun x hx => by have := lo x hx; omega) h.bl.size), ful h.fr, ful h.fs, ful h.ft⟩
  · have := (h.u x q).2
    have := lo x hx
    omega
  · have := lo x hx
    omega
  · have := h.rt.r x hx
    have := cs x q
    omega
/-- The row of all lists. -/
theorem FrQ.rows {W w : World} {g : Nat} {K : Cg} {S : Ms} {U : Nat → Prop} {a b o t z1 z2 z3 z4 : Nat} {va vb vo vt : List Value} {Br Bs Bt Bo : Nat} (h : FrQ W w g K S U a b o t z1 z2 z3 z4 va vb vo vt Br Bs Bt Bo) {b0 O c : Nat} (hb : a ≤ b0) (ho : w.ownsRow b0 64 1 (.slice (some ⟨O, 0, none⟩) (S.hp.length + 1 + (S.hp.length + 1) + (S.hp.length + 1)) c) (S.hp.length + 1 + (S.hp.length + 1) + (S.hp.length + 1)) (va ++ vb ++ vo)) :
    Hp.Ans w a (Hp.lsA S.hp ++ Hp.lsA S.hp ++ Hp.lsA S.hp) (.slice (some ⟨O, 0, none⟩) (S.hp.length + 1 + (S.hp.length + 1) + (S.hp.length + 1)) c) (va ++ vb ++ vo) := by
  have l1 := h.l1
  have l2 := h.l2
  have l3 := h.l3
  have ab := h.ab
  have bt := h.bt
  have tz := h.tz
  have e : (Hp.lsA S.hp ++ Hp.lsA S.hp ++ Hp.lsA S.hp).length = S.hp.length + 1 + (S.hp.length + 1) + (S.hp.length + 1) := by simp only [List.length_append, Hp.lsA_len]
  refine ((h.ra.a.par.join (h.rb.a.down ab).par fun x q1 q2 => ?_).join (h.ro.a.down (by omega)).par fun x q1 q2 => ?_).ans (by rw [e]; exact own_down ho hb)
  · have := h.ra.r x q1
    have := h.rb.r x q2
    omega
  · have := h.ro.r x q2
    rcases Hp.bkL_app q1 with q | q
    · have := h.ra.r x q
      omega
    · have := h.rb.r x q
      omega
theorem FrQ.apart_any {W w : World} {g : Nat} {K : Cg} {S : Ms} {U : Nat → Prop} {a b o t z1 z2 z3 z4 : Nat} {va vb vo vt : List Value} {Br Bs Bt Bo : Nat} (h : FrQ W w g K S U a b o t z1 z2 z3 z4 va vb vo vt Br Bs Bt Bo) {b0 O c : Nat} (hb : a ≤ b0) (ho : w.ownsRow b0 64 1 (.slice (some ⟨O, 0, none⟩) (S.hp.length + 1 + (S.hp.length + 1) + (S.hp.length + 1)) c) (S.hp.length + 1 + (S.hp.length + 1) + (S.hp.length + 1)) (va ++ vb ++ vo)) :
    Calls Tryz.prog 19 #[.slice (some ⟨O, 0, none⟩) (S.hp.length + 1 + (S.hp.length + 1) + (S.hp.length + 1)) c] w fun e w' => e = .returned (.bool true) ∧ Hid (FrZ W w' g K S U a b t va vb Br Bs Bt ∧ Kp (bkL (va ++ vb ++ vo)) w w' ∧ ∀ x, bkL (va ++ vb ++ vo) x → ∃ n, Blk w x 52 n) := by
  have hR := FrQ.rows h hb ho
  have hu : Hp.usedS S.hp ≤ 100000 := by
    have := h.m.kok
    have := this.1.lim
    omega
  have e : (Hp.lsA S.hp ++ Hp.lsA S.hp ++ Hp.lsA S.hp).length = S.hp.length + 1 + (S.hp.length + 1) + (S.hp.length + 1) := by simp only [List.length_append, Hp.lsA_len]
  have h1 := lsA_le hu
  have h2 := lsA_el hu
  rw [Hp.lsA_len] at h1
  have haw := (h.ra.a.out.lt a rfl).2
  have q := Hp.apart_any w O c a (Hp.lsA S.hp ++ Hp.lsA S.hp ++ Hp.lsA S.hp) (va ++ vb ++ vo) (by rw [e]; exact hR) (by rw [e]; omega) (fun l hl => by
    rcases List.mem_append.1 hl with r | r
    · rcases List.mem_append.1 r with r | r
      · exact h2 l r
      · exact h2 l r
    · exact h2 l r) (Nat.le_of_lt haw)
  rw [e] at q
  exact q.mono fun z w' r => ⟨r.1, h.apart r.2, r.2, fun x hx => (hR.blk hx).2⟩
/-- A list of answers, one behind the other. -/
structure FrL (W w : World) (g : Nat) (K : Cg) (S : Ms) (gc gd lo : Nat) (L : List (Nat × Nat × Nat × List Value)) : Prop where
  m : ∃ U, Mz w U g K S ∧ ∀ x, U x → W.heap.size < x ∧ x < lo
  c : ∃ K' U, Mz w U gc K' S
  d : ∃ K' U, Mz w U gd K' S
  bl : Below W.heap.size W w
  wl : W.heap.size ≤ lo
  g8 : 8 ≤ W.heap.size
  an : ∀ x ∈ L, An2 w S x.1 x.2.1 x.2.2.2 ∧ Full w x.2.2.1 46 (rcs S x.1) ∧ lo ≤ x.1 ∧ x.1 ≤ x.2.1 ∧ x.2.1 ≤ w.heap.size
  sp : L.Pairwise fun x y => x.2.1 ≤ y.1
  lt : lo ≤ w.heap.size
theorem FrL.next {W w w' : World} {g : Nat} {K : Cg} {S : Ms} {gc gd lo : Nat} {L : List (Nat × Nat × Nat × List Value)} (h : FrL W w g K S gc gd lo L) (k : Below w.heap.size w w') : FrL W w' g K S gc gd lo L := by
  obtain ⟨⟨U, m1, m2⟩, ⟨Kc, Uc, hc⟩, ⟨Kd, Ud, hd⟩, b, c, d, e, f, i⟩ := h
  exact ⟨⟨U, m1.next k, m2⟩, ⟨Kc, Uc, hc.next k⟩, ⟨Kd, Ud, hd.next k⟩, below2 b k, c, d, fun x hx => ⟨(e x hx).1.next k, (e x hx).2.1.next k, (e x hx).2.2.1, (e x hx).2.2.2.1, Nat.le_trans (e x hx).2.2.2.2 k.size⟩, f, Nat.le_trans i k.size⟩
theorem FrL.put {W w w1 : World} {g : Nat} {K : Cg} {S : Ms} {gc gd lo : Nat} {L : List (Nat × Nat × Nat × List Value)} (h : FrL W w g K S gc gd lo L) (ha : AnsS w1 (w.heap.size + 1) S) (k : Below w.heap.size w w1) :
    ∃ vs, FrL W (w1.alloc (.cells #[.int .i64 S.ph, .int .i64 S.tr, .string ⟨S.out.toArray⟩, .int .i64 (S.rd : Int), .int .i64 S.steps, .slice none 0 0, .slice (some ⟨w.heap.size + 1, 0, none⟩) (S.hp.length + 1) (S.hp.length + 1)] 46)) g K S gc gd lo (L ++ [(w.heap.size + 1, w1.heap.size, w1.heap.size, vs)]) := by
  obtain ⟨vs, hv⟩ := An2.of ha
  have nb : Below w1.heap.size w1 (w1.alloc (.cells #[.int .i64 S.ph, .int .i64 S.tr, .string ⟨S.out.toArray⟩, .int .i64 (S.rd : Int), .int .i64 S.steps, .slice none 0 0, .slice (some ⟨w.heap.size + 1, 0, none⟩) (S.hp.length + 1) (S.hp.length + 1)] 46)) := (Below.refl _ w1).alloc (Nat.le_refl _) _
  have hz : w.heap.size + 1 < w1.heap.size := (hv.a.out.lt (w.heap.size + 1) rfl).2
  have h2 := (h.next k).next nb
  refine ⟨vs, h2.m, h2.c, h2.d, h2.bl, h2.wl, h2.g8, fun x hx => ?_, ?_, h2.lt⟩
  · rcases List.mem_append.1 hx with q | q
    · exact h2.an x q
    · rw [List.mem_singleton.1 q]
      have := h.lt
      exact ⟨hv.next nb, Full.new w1 _ _, by show lo ≤ w.heap.size + 1; omega, by show w.heap.size + 1 ≤ w1.heap.size; omega, nb.size⟩
  · rw [List.pairwise_append]
    refine ⟨h.sp, List.pairwise_singleton _ _, fun x hx y hy => ?_⟩
    rw [List.mem_singleton.1 hy]
    have := (h.an x hx).2.2.2.2
    show x.2.1 ≤ w.heap.size + 1
    omega
theorem FrL.res {W w : World} {g p : Nat} {K : Cg} {S : Ms} {gc gd lo : Nat} {L : List (Nat × Nat × Nat × List Value)} (h : FrL W w g K S gc gd lo L) (hp : ∃ K' U, Mz w U p K' S) :
    Calls Tryz.prog 9 #[.pointer (some ⟨p, 0, none⟩)] w fun e w' => ∃ a, e = .returned (.agg #[.int .i64 S.ph, .int .i64 S.tr, .string ⟨S.out.toArray⟩, .int .i64 (S.rd : Int), .int .i64 S.steps, .slice none 0 0, .slice (some ⟨a, 0, none⟩) (S.hp.length + 1) (S.hp.length + 1)]) ∧ Hid (∃ vs, FrL W (w'.alloc (.cells #[.int .i64 S.ph, .int .i64 S.tr, .string ⟨S.out.toArray⟩, .int .i64 (S.rd : Int), .int .i64 S.steps, .slice none 0 0, .slice (some ⟨a, 0, none⟩) (S.hp.length + 1) (S.hp.length + 1)] 46)) g K S gc gd lo (L ++ [(a, w'.heap.size, w'.heap.size, vs)])) := by
  obtain ⟨K', U, hp⟩ := hp
  exact hp.result.mono fun e w' q => ⟨w.heap.size + 1, q.1, h.put q.2.1.out q.2.2⟩
theorem FrL.resM {W w : World} {g : Nat} {K : Cg} {S : Ms} {gc gd lo : Nat} {L : List (Nat × Nat × Nat × List Value)} (h : FrL W w g K S gc gd lo L) : ∃ K' U, Mz w U g K' S := by
  obtain ⟨U, q, -⟩ := h.m
  exact ⟨K, U, q⟩
/-- Four of them. -/
theorem FrL.four {W w : World} {g : Nat} {K : Cg} {S : Ms} {gc gd lo a z1 Br b z2 Bs t z3 Bt o z4 Bo : Nat} {va vb vt vo : List Value} (h : FrL W w g K S gc gd lo [(a, z1, Br, va), (b, z2, Bs, vb), (t, z3, Bt, vt), (o, z4, Bo, vo)]) : ∃ U, FrQ W w g K S U a b o t z1 z2 z3 z4 va vb vo vt Br Bs Bt Bo := by
  obtain ⟨U, m1, m2⟩ := h.m
  have h1 := h.an (a, z1, Br, va) (by simp)
  have h2 := h.an (b, z2, Bs, vb) (by simp)
  have h3 := h.an (t, z3, Bt, vt) (by simp)
  have h4 := h.an (o, z4, Bo, vo) (by simp)
  have sp := h.sp
  simp only [List.pairwise_cons, List.mem_cons, List.not_mem_nil, or_false, forall_eq_or_imp, forall_eq] at sp
  obtain ⟨⟨s1, -⟩, ⟨s2, -⟩, s3, -⟩ := sp
  simp only at h1 h2 h3 h4
  have wl := h.wl
  exact ⟨U, m1, fun x hx => ⟨(m2 x hx).1, by have := (m2 x hx).2; omega⟩, h1.1, h2.1, h3.1, h4.1, s1, s2, s3, by omega, by omega, by omega, h.bl, by omega, h.g8, h1.2.1, h2.2.1, h3.2.1, h4.2.1⟩
/-- The three appends. -/
theorem FrQ.app3 {W w : World} {g : Nat} {K : Cg} {S : Ms} {U : Nat → Prop} {a b o t z1 z2 z3 z4 : Nat} {va vb vo vt : List Value} {Br Bs Bt Bo : Nat} (h : FrQ W w g K S U a b o t z1 z2 z3 z4 va vb vo vt Br Bs Bt Bo) :
    ∃ v1 W1, (Builtin.append_ #[44, 44] 44 #[.slice none 0 0, .slice (some ⟨a, 0, none⟩) (S.hp.length + 1) (S.hp.length + 1)]).run Tryz.prog w = .ok v1 W1 ∧ Hid (FrQ W W1 g K S U a b o t z1 z2 z3 z4 va vb vo vt Br Bs Bt Bo) ∧
    ∃ v2 W2, (Builtin.append_ #[44, 44] 44 #[v1, .slice (some ⟨b, 0, none⟩) (S.hp.length + 1) (S.hp.length + 1)]).run Tryz.prog W1 = .ok v2 W2 ∧ Hid (FrQ W W2 g K S U a b o t z1 z2 z3 z4 va vb vo vt Br Bs Bt Bo) ∧
    ∃ O c W3, (Builtin.append_ #[44, 44] 44 #[v2, .slice (some ⟨o, 0, none⟩) (S.hp.length + 1) (S.hp.length + 1)]).run Tryz.prog W2 = .ok (.slice (some ⟨O, 0, none⟩) (S.hp.length + 1 + (S.hp.length + 1) + (S.hp.length + 1)) c) W3 ∧ Hid (FrQ W W3 g K S U a b o t z1 z2 z3 z4 va vb vo vt Br Bs Bt Bo ∧ a ≤ w.heap.size ∧ W3.ownsRow w.heap.size 64 1 (.slice (some ⟨O, 0, none⟩) (S.hp.length + 1 + (S.hp.length + 1) + (S.hp.length + 1)) c) (S.hp.length + 1 + (S.hp.length + 1) + (S.hp.length + 1)) (va ++ vb ++ vo)) := by
  have hu : Hp.usedS S.hp ≤ 100000 := by
    have := h.m.kok
    have := this.1.lim
    omega
  have hl := lsA_le hu
  rw [Hp.lsA_len] at hl
  have oa := h.ra.a.out
  rw [Hp.lsA_len] at oa
  have haw := (oa.lt a rfl).2
  obtain ⟨v1, W1, r1, o1, d1⟩ := Hp.app_row w w.heap.size (.slice none 0 0) 0 [] (World.ownsRow_nil _ _ _ _) a a (S.hp.length + 1) (S.hp.length + 1) va oa h.ra.a.slices (by omega) (Nat.le_refl _)
  have h1 := h.next d1
  have ob := h1.rb.a.out
  rw [Hp.lsA_len] at ob
  obtain ⟨v2, W2, r2, o2, d2⟩ := Hp.app_row W1 w.heap.size v1 _ _ o1 b b (S.hp.length + 1) (S.hp.length + 1) vb ob h1.rb.a.slices (by omega) d1.size
  have d12 := d1.trans d2
  have h2 := h.next d12
  have oo := h2.ro.a.out
  rw [Hp.lsA_len] at oo
  obtain ⟨v3, W3, r3, o3, d3⟩ := Hp.app_row W2 w.heap.size v2 _ _ o2 o o (S.hp.length + 1) (S.hp.length + 1) vo oo h2.ro.a.slices (by omega) d12.size
  have h3 := h.next (d12.trans d3)
  rw [List.nil_append, Nat.zero_add] at o3
  obtain ⟨q, c, rfl, -, hp⟩ := own_slice o3
  obtain ⟨O, rfl, -⟩ := hp (by omega)
  exact ⟨v1, W1, r1, h1, v2, W2, r2, h2, O, c, W3, r3, h3, Nat.le_of_lt haw, o3⟩
end Go.Proofs.YtahdkffijlfmnaaGreatDoor

namespace Go.Proofs.YtahdkffijlfmnaaGreatDoor
open Go.RowKit
open Hp (V vc vcs)
theorem fldO (a b : Value) : ∀ w : World, (Instr.field 42 (.agg #[a, b]) 0).run Tryz.prog w = .ok a w := fun w => by
  simp [go_sem, Instr.field]
  rfl
theorem on_new {W w1 X : World} {g : Nat} {K : Cg} {S : Ms} {xs : List Value} (hm : Mz w1 (fun b => X.heap.size ≤ b) g K S) (hX : X.heap.size = W.heap.size + 1) (fX : Full X W.heap.size 33 xs) (bX : Below W.heap.size W X) (b1 : Below X.heap.size X w1) (g8 : 8 ≤ W.heap.size) : On1 W w1 g K S xs :=
  ⟨⟨_, hm, fun x hx => by omega⟩, fX.next b1, below2 bX b1, g8⟩
set_option maxRecDepth 100000 in
set_option maxHeartbeats 4000000 in
theorem vmRuns_any {W : World} {iq eq tq nq : Option Addr} {ia ea ta na : Nat} {Es : List Em} {c : Cd} {inp : List Int} (hS : SetR W iq eq tq nq ia ea ta na Es c inp) (dp l fi th : Int) (hG : Glo W) :
    Calls Tryz.prog 4 #[.agg #[.slice iq c.ins.length ia, .slice eq c.ens.length ea, .slice tq c.txs.length ta, .int .i64 c.main, .slice nq inp.length na, .int .i64 dp, .int .i64 l, .int .i64 fi, .int .i64 th]] W fun z w' => z = .returned (.bool true) ∧ Below W.heap.size W w' := by
  have HGL : Hid (Glo W) := hG
  obtain ⟨bX, hXs, fX⟩ := @runX W iq eq tq nq c.ins.length ia c.ens.length ea c.txs.length ta inp.length na c.main dp l fi th _ rfl
  by_cases he : newE c inp.length dp l = 0
  case neg =>
    have he' : (newE c inp.length dp l != 0) = true := by simpa using he
    have dN := setNew_no hS hG bX dp l he
    have HBX : Hid _ := bX
    clear hS hG bX fX hXs
    go_enter Tryz.func4, Tryz.ntmps4
    go_wp2_with (first
      | (go_at_call 7; refine dN.mono ?_; rintro z1 w1 ⟨rfl, hb1⟩; have HB1 : Hid (Below W.heap.size W w1) := below2 HBX.out hb1; clear hb1)
      | (go_at_call 8; refine (least_any (HGL.out.next HB1.out)).mono ?_; rintro z2 w2 ⟨rfl, hb2⟩; have HB2 : Hid (Below W.heap.size W w2) := below2 HB1.out hb2; clear hb2)
      | fail)
    go_ret
    exact ⟨rfl, HB2.out⟩
  obtain ⟨-, dN⟩ := setNew hS hG bX dp l he
  obtain ⟨k1, hk1, hk15⟩ := fewK fi
  obtain ⟨k2, hk2, hk25⟩ := fewK th
  have dF1 : ∀ w, Calls Tryz.prog 11 #[.int .i64 fi] w fun z w' => z = .returned (.int .i64 (k1 : Int)) ∧ Below w.heap.size w w' := fun w => by rw [← hk1]; exact few_any fi w
  have dF2 : ∀ w, Calls Tryz.prog 11 #[.int .i64 th] w fun z w' => z = .returned (.int .i64 (k2 : Int)) ∧ Below w.heap.size w w' := fun w => by rw [← hk2]; exact few_any th w
  have HON : Hid (∀ w1 g K S, Mz w1 (fun b => (W.alloc (.cells #[.slice iq c.ins.length ia, .slice eq c.ens.length ea, .slice tq c.txs.length ta, .int .i64 c.main, .slice nq inp.length na, .int .i64 dp, .int .i64 l, .int .i64 fi, .int .i64 th] 33)).heap.size ≤ b) g K S → Below (W.alloc (.cells #[.slice iq c.ins.length ia, .slice eq c.ens.length ea, .slice tq c.txs.length ta, .int .i64 c.main, .slice nq inp.length na, .int .i64 dp, .int .i64 l, .int .i64 fi, .int .i64 th] 33)).heap.size (W.alloc (.cells #[.slice iq c.ins.length ia, .slice eq c.ens.length ea, .slice tq c.txs.length ta, .int .i64 c.main, .slice nq inp.length na, .int .i64 dp, .int .i64 l, .int .i64 fi, .int .i64 th] 33)) w1 → On1 W w1 g K S [.slice iq c.ins.length ia, .slice eq c.ens.length ea, .slice tq c.txs.length ta, .int .i64 c.main, .slice nq inp.length na, .int .i64 dp, .int .i64 l, .int .i64 fi, .int .i64 th]) := fun w1 g K S hm hb => on_new hm hXs fX bX hb (by have := hG.tabs.size; omega)
  clear hS hG bX fX hXs hk1 hk2
  go_enter Tryz.func4, Tryz.ntmps4
  go_wp2_with (first
    | (go_at_call 7; refine dN.mono ?_; rintro z1 w1 ⟨g, rfl, H1⟩; obtain ⟨K, hM1, -, -, -, -, hb1⟩ := H1.out; have HO1 : Hid (On1 W w1 g K (msN (enAt c.ens c.main.toNat) c.main) [.slice iq c.ins.length ia, .slice eq c.ens.length ea, .slice tq c.txs.length ta, .int .i64 c.main, .slice nq inp.length na, .int .i64 dp, .int .i64 l, .int .i64 fi, .int .i64 th]) := HON.out _ _ _ _ hM1 hb1; obtain ⟨x7, -⟩ := HO1.out.x.cell 7 _ rfl; clear H1 hM1 hb1 HON)
    | (go_at_call 11; refine (dF1 _).mono ?_; rintro z2 w2 ⟨rfl, hb2⟩; have HO2 : Hid (On1 W w2 g K (msN (enAt c.ens c.main.toNat) c.main) [.slice iq c.ins.length ia, .slice eq c.ens.length ea, .slice tq c.txs.length ta, .int .i64 c.main, .slice nq inp.length na, .int .i64 dp, .int .i64 l, .int .i64 fi, .int .i64 th]) := HO1.out.next hb2; clear hb2 HO1 dF1)
    | (go_at_call 15; refine (On1.run HO2.out k1 (by omega) (by show 0 + 4200 * k1 ≤ 900000000; omega)).mono ?_; rintro z3 w3 ⟨rfl, HO3⟩; obtain ⟨U3, hU3, -⟩ := HO3.out.m; obtain ⟨U2, hU2, -⟩ := HO2.out.m; have HOT : Hid ((mrunS K k1 (msN (enAt c.ens c.main.toNat) c.main)).1.out.length ≤ 0 + 4200 * k1 ∧ KOk K) := ⟨run_out hU2.kok.1 k1 hU2.kok.2.1 hU2.kok.2.2.1, hU2.kok.1⟩; have HS3 : Hid (StOk K (mrunS K k1 (msN (enAt c.ens c.main.toNat) c.main)).1 ∧ Hp.usedS (mrunS K k1 (msN (enAt c.ens c.main.toNat) c.main)).1.hp ≤ K.lim) := ⟨hU3.kok.2.1, hU3.kok.2.2.1⟩; clear hU2 hU3 HO2 U2 U3; generalize mrunS K k1 (msN (enAt c.ens c.main.toNat) c.main) = R1 at HO3 HOT HS3 ⊢; obtain ⟨S1, Y1, o1⟩ := R1)
    | (go_at_call 16; refine (On1.clone HO3.out (by have := HOT.out.1; omega)).mono ?_; rintro z4 w4 ⟨rfl, H4⟩; obtain ⟨K', A4, B4, hT4, hx4⟩ := H4.out; have HT4 : Hid _ := hT4; have HX4 : Hid _ := hx4; obtain ⟨x8, -⟩ := hx4.cell 8 _ rfl; clear hT4 hx4 H4)
    | (go_at_call 11; refine (dF2 _).mono ?_; rintro z5 w5 ⟨rfl, hb5⟩; have HT5 : Hid _ := HT4.out.next hb5; clear hb5 HT4 HX4 dF2)
    | (go_at_call 15; (refine (Tw2.run HT5.out k2 (by omega) (by have := HOT.out.1; show S1.out.length + 4200 * k2 ≤ 900000000; have h9 : S1.out.length ≤ 0 + 4200 * k1 := this; omega)).mono ?_; rintro z6 w6 ⟨rfl, H6⟩; unfold ydV yl))
    | fail)
  obtain ⟨⟨A6, hT6⟩, -⟩ := H6.out
  have hR0 := RuI.start hT6 (by have h9 : S1.out.length ≤ 0 + 4200 * k1 := HOT.out.1; omega)
  have HR0 : Hid _ := hR0
  generalize w3.heap.size = gb at HR0 hR0 ⊢
  generalize hBy : w6.heap.size = By at HR0 hR0 ⊢
  have HKK : Hid (KOk K) := HOT.out.2
  clear hR0 hT6 H6 HT5 x7 x8 HO3 HS3 HOT
  go_loopw [10, 11] (fun vy vi wr => ∃ (i : Nat) (Sb : Ms) (yes : Bool) (z : Yd) (B' : Nat → Prop), i ≤ k2 ∧ vy = .bool yes ∧ vi = .int .i64 (i : Int) ∧ Hid (RuI W wr g gb K K' k2 S1 i Sb yes z By (By + 1) A6 B')) (fun _ vi _ => k2 - (intOf vi).toNat)
  case atStart => exact ⟨0, S1, false, yd0, _, Nat.zero_le _, rfl, rfl, HR0⟩
  case round =>
    clear HR0
    obtain ⟨i, Sb, yes, z, B', hi, rfl, rfl, hI⟩ := hrel
    have i0 : (0 : Int) ≤ (i : Int) := Int.natCast_nonneg _
    by_cases hlt : i < k2
    case neg =>
      obtain rfl : i = k2 := by omega
      have hd := RuR.done hI.out.r (.inl (Nat.le_refl _))
      have HT : Hid _ := hI.out.t
      have hy := hI.out.fy
      have hz := hI.out.fz
      have hoo : Sb.out.length ≤ 100000000 := by have := hI.out.o; omega
      rw [hd] at hy HT ⊢
      obtain ⟨zh, zb, zk, zn, zs⟩ := z
      obtain ⟨y0, -⟩ := hy.cell 0 _ rfl
      obtain ⟨y1, -⟩ := hy.cell 1 _ rfl
      obtain ⟨y2, -⟩ := hy.cell 2 _ rfl
      obtain ⟨y3, -⟩ := hy.cell 3 _ rfl
      obtain ⟨y4, -⟩ := hy.cell 4 _ rfl
      obtain ⟨v0, -⟩ := hz.cell 0 _ rfl
      obtain ⟨v1, -⟩ := hz.cell 1 _ rfl
      obtain ⟨v2, -⟩ := hz.cell 2 _ rfl
      obtain ⟨v3, -⟩ := hz.cell 3 _ rfl
      obtain ⟨v4, -⟩ := hz.cell 4 _ rfl
      clear hy hz hd hI
      have HTS : Hid _ := HT.out
      clear HT
      go_wp2_with (first
        | (go_at_call 17; refine (Mz.save HTS.out.a hoo).mono ?_; rintro e9 w9 ⟨rfl, hb9⟩; have HT9 : Hid _ := HTS.out.next hb9; clear hb9 HTS)
        | (go_at_call 17; refine (Mz.save HT9.out.b hoo).mono ?_; rintro e10 w10 ⟨rfl, hb10⟩; have HT10 : Hid _ := HT9.out.next hb10; clear hb10 HT9)
        | (go_at_call 18; refine (Mz.steps HT10.out.a).mono ?_; rintro e11 w11 ⟨rfl, hb11⟩; have HT11 : Hid _ := HT10.out.next hb11; clear hb11 HT10)
        | (go_at_call 18; refine (Mz.steps HT11.out.b).mono ?_; rintro e12 w12 ⟨rfl, hb12⟩; have HT12 : Hid _ := HT11.out.next hb12; clear hb12 HT11)
        | (go_at_call 8; refine (least_any (Mz.kok HT12.out.a).2.2.2).mono ?_; rintro e13 w13 ⟨rfl, hb13⟩; have HB13 : Hid (Below W.heap.size W w13) := below2 HT12.out.bl hb13; clear hb13)
        | fail)
      go_ret
      exact ⟨rfl, HB13.out⟩
    have i1 : (i : Int) < (k2 : Int) := Int.ofNat_lt.2 hlt
    cases yes with
    | true =>
      have hd := RuR.done hI.out.r (.inr (.inl rfl))
      have HT : Hid _ := hI.out.t
      have hy := hI.out.fy
      have hz := hI.out.fz
      have hoo : Sb.out.length ≤ 100000000 := by have := hI.out.o; omega
      rw [hd] at hy HT ⊢
      obtain ⟨zh, zb, zk, zn, zs⟩ := z
      obtain ⟨y0, -⟩ := hy.cell 0 _ rfl
      obtain ⟨y1, -⟩ := hy.cell 1 _ rfl
      obtain ⟨y2, -⟩ := hy.cell 2 _ rfl
      obtain ⟨y3, -⟩ := hy.cell 3 _ rfl
      obtain ⟨y4, -⟩ := hy.cell 4 _ rfl
      obtain ⟨v0, -⟩ := hz.cell 0 _ rfl
      obtain ⟨v1, -⟩ := hz.cell 1 _ rfl
      obtain ⟨v2, -⟩ := hz.cell 2 _ rfl
      obtain ⟨v3, -⟩ := hz.cell 3 _ rfl
      obtain ⟨v4, -⟩ := hz.cell 4 _ rfl
      clear hy hz hd hI
      have HTS : Hid _ := HT.out
      clear HT
      go_wp2_with (first
        | (go_at_call 17; refine (Mz.save HTS.out.a hoo).mono ?_; rintro e9 w9 ⟨rfl, hb9⟩; have HT9 : Hid _ := HTS.out.next hb9; clear hb9 HTS)
        | (go_at_call 17; refine (Mz.save HT9.out.b hoo).mono ?_; rintro e10 w10 ⟨rfl, hb10⟩; have HT10 : Hid _ := HT9.out.next hb10; clear hb10 HT9)
        | (go_at_call 18; refine (Mz.steps HT10.out.a).mono ?_; rintro e11 w11 ⟨rfl, hb11⟩; have HT11 : Hid _ := HT10.out.next hb11; clear hb11 HT10)
        | (go_at_call 18; refine (Mz.steps HT11.out.b).mono ?_; rintro e12 w12 ⟨rfl, hb12⟩; have HT12 : Hid _ := HT11.out.next hb12; clear hb12 HT11)
        | (go_at_call 8; refine (least_any (Mz.kok HT12.out.a).2.2.2).mono ?_; rintro e13 w13 ⟨rfl, hb13⟩; have HB13 : Hid (Below W.heap.size W w13) := below2 HT12.out.bl hb13; clear hb13)
        | fail)
      go_ret
      exact ⟨rfl, HB13.out⟩
    | false =>
      have dR := Mz.result hI.out.t.b
      unfold runV at dR
      have q1 := fldR (.int .i64 Sb.ph) (.int .i64 Sb.tr) (.string ⟨Sb.out.toArray⟩) (.int .i64 (Sb.rd : Int)) (.int .i64 Sb.steps) (.slice none 0 0) (.slice (some ⟨wr.heap.size + 1, 0, none⟩) (Sb.hp.length + 1) (Sb.hp.length + 1))
      have q2 := fldO (.int .i64 Sb.ph) (.int .i64 Sb.tr)
      by_cases hp : Sb.ph = 0
      case neg =>
        have hp' : (Sb.ph == 0) = false := by simpa using hp
        have hd := RuR.done hI.out.r (.inr (.inr hp))
        have HT : Hid _ := hI.out.t
        have hy := hI.out.fy
        have hz := hI.out.fz
        have hoo : Sb.out.length ≤ 100000000 := by have := hI.out.o; omega
        rw [hd] at hy HT ⊢
        obtain ⟨zh, zb, zk, zn, zs⟩ := z
        obtain ⟨y0, -⟩ := hy.cell 0 _ rfl
        obtain ⟨y1, -⟩ := hy.cell 1 _ rfl
        obtain ⟨y2, -⟩ := hy.cell 2 _ rfl
        obtain ⟨y3, -⟩ := hy.cell 3 _ rfl
        obtain ⟨y4, -⟩ := hy.cell 4 _ rfl
        obtain ⟨v0, -⟩ := hz.cell 0 _ rfl
        obtain ⟨v1, -⟩ := hz.cell 1 _ rfl
        obtain ⟨v2, -⟩ := hz.cell 2 _ rfl
        obtain ⟨v3, -⟩ := hz.cell 3 _ rfl
        obtain ⟨v4, -⟩ := hz.cell 4 _ rfl
        clear hy hz hd hI
        go_wp2_with (first
          | (go_at_call 9; refine dR.mono ?_; rintro e8 w8 ⟨rfl, -, hb8⟩; have HTS : Hid _ := HT.out.next hb8; have kk := fun {p : Addr} {u : Value} (q : wr.cell? p = some u) => (hb8.cell (p := p) (block_lt_of_cell q)).trans q; replace y0 := kk y0; replace y1 := kk y1; replace y2 := kk y2; replace y3 := kk y3; replace y4 := kk y4; replace v0 := kk v0; replace v1 := kk v1; replace v2 := kk v2; replace v3 := kk v3; replace v4 := kk v4; clear kk hb8 HT dR)
          | (go_at_call 17; refine (Mz.save HTS.out.a hoo).mono ?_; rintro e9 w9 ⟨rfl, hb9⟩; have HT9 : Hid _ := HTS.out.next hb9; clear hb9 HTS)
          | (go_at_call 17; refine (Mz.save HT9.out.b hoo).mono ?_; rintro e10 w10 ⟨rfl, hb10⟩; have HT10 : Hid _ := HT9.out.next hb10; clear hb10 HT9)
          | (go_at_call 18; refine (Mz.steps HT10.out.a).mono ?_; rintro e11 w11 ⟨rfl, hb11⟩; have HT11 : Hid _ := HT10.out.next hb11; clear hb11 HT10)
          | (go_at_call 18; refine (Mz.steps HT11.out.b).mono ?_; rintro e12 w12 ⟨rfl, hb12⟩; have HT12 : Hid _ := HT11.out.next hb12; clear hb12 HT11)
          | (go_at_call 8; refine (least_any (Mz.kok HT12.out.a).2.2.2).mono ?_; rintro e13 w13 ⟨rfl, hb13⟩; have HB13 : Hid (Below W.heap.size W w13) := below2 HT12.out.bl hb13; clear hb13)
          | fail)
        go_ret
        exact ⟨rfl, HB13.out⟩
      have hp' : (Sb.ph == 0) = true := by simpa using hp
      have HP : Hid (Sb.ph = 0) := hp
      clear hp
      go_wp2_with (first
        | (go_at_call 9; refine dR.mono ?_; rintro e8 w8 ⟨rfl, -, hb8⟩; have HI8 : Hid _ := hI.out.next hb8; clear hb8 dR)
        | (go_at_call 12; refine (RuI.step HI8.out HP.out hlt hk25).mono ?_; rintro e9 w9 ⟨rfl, H9⟩; obtain ⟨hz9, B9, hR9⟩ := H9.out; unfold ydV yl; have HR9 : Hid _ := hR9; obtain ⟨c0, g0⟩ := hz9.cell 0 _ rfl; obtain ⟨c1, g1⟩ := hz9.cell 1 _ rfl; obtain ⟨c2, g2⟩ := hz9.cell 2 _ rfl; obtain ⟨c3, g3⟩ := hz9.cell 3 _ rfl; obtain ⟨c4, g4⟩ := hz9.cell 4 _ rfl; clear hz9 hR9 H9)
        | fail)
      refine ⟨⟨i + 1, (mstepS K Sb).1, (mstepS K Sb).2.2, (mstepS K Sb).2.1, B9, hlt, rfl, by push_cast; rfl, HR9.out⟩, ?_⟩
      show k2 - ((i : Int) + 1).toNat < k2 - ((i : Int)).toNat
      omega
end Go.Proofs.YtahdkffijlfmnaaGreatDoor

namespace Go.Proofs.YtahdkffijlfmnaaGreatDoor
open Go.RowKit
open Hp (V vc vcs bkL)
theorem On1.step {W wr : World} {g : Nat} {K : Cg} {S : Ms} {xs : List Value} (h : On1 W wr g K S xs) (ho : S.out.length ≤ 900000000) :
    Calls Tryz.prog 12 #[.pointer (some ⟨g, 0, none⟩)] wr fun z w' => z = .returned (.tuple #[ydV (mstepS K S).2.1, .bool (mstepS K S).2.2]) ∧ Hid (On1 W w' g K (mstepS K S).1 xs ∧ (mstepS K S).1.out.length ≤ S.out.length + 4200) := by
  obtain ⟨U, h1, h2⟩ := h.m
  have hx := full_lt h.x
  refine (h1.step ho).mono fun z w' q => ⟨q.1, ⟨⟨_, q.2.out.1, fun x hx2 => ?_⟩, full_kept h.x q.2.out.2 fun e => Nat.lt_irrefl _ (h2 _ e), h.bl.trans (q.2.out.2.below (fun x hx => Nat.le_of_lt (h2 x hx)) h.bl.size), h.g8⟩, h1.out⟩
  rcases hx2 with r | r
  · exact h2 x r
  · omega
theorem On1.save {W wr : World} {g : Nat} {K : Cg} {S : Ms} {xs : List Value} (h : On1 W wr g K S xs) (ho : S.out.length ≤ 100000000) :
    Calls Tryz.prog 17 #[.pointer (some ⟨g, 0, none⟩)] wr fun z w' => z = .returned (.string ⟨(svB S).toArray⟩) ∧ Hid (On1 W w' g K S xs) := by
  obtain ⟨U, h1, h2⟩ := id h.m
  exact (h1.save ho).mono fun z w' q => ⟨q.1, h.next q.2⟩
theorem On1.clone1 {W wr : World} {g : Nat} {K : Cg} {S : Ms} {xs : List Value} (h : On1 W wr g K S xs) (ho : S.out.length ≤ 900000000) :
    Calls Tryz.prog 16 #[.pointer (some ⟨g, 0, none⟩)] wr fun z w' => ∃ gc, z = .returned (.pointer (some ⟨gc, 0, none⟩)) ∧ Hid (On1 W w' g K S xs ∧ ∃ K' U, Mz w' U gc K' S) := by
  obtain ⟨U, h1, h2⟩ := id h.m
  exact (h1.clone ho).mono fun z w' q => ⟨_, q.1, h.next q.2.out.2, by obtain ⟨⟨K', hc, -⟩, -⟩ := q.2.out; exact ⟨K', _, hc⟩⟩
theorem On1.clone2 {W wr : World} {g gc : Nat} {K : Cg} {S : Ms} {xs : List Value} (h : On1 W wr g K S xs) (hc : ∃ K' U, Mz wr U gc K' S) (ho : S.out.length ≤ 900000000) :
    Calls Tryz.prog 16 #[.pointer (some ⟨g, 0, none⟩)] wr fun z w' => ∃ gd lo, z = .returned (.pointer (some ⟨gd, 0, none⟩)) ∧ Hid (FrL W w' g K S gc gd lo []) := by
  obtain ⟨U, h1, h2⟩ := id h.m
  obtain ⟨Kc, Uc, hc⟩ := hc
  refine (h1.clone ho).mono fun z w' q => ⟨_, w'.heap.size, q.1, ?_⟩
  obtain ⟨⟨K', hd, -⟩, hb⟩ := q.2.out
  exact ⟨⟨_, (h1.next hb).lt, fun x hx => ⟨h2 x hx.1, hx.2⟩⟩, ⟨Kc, Uc, hc.next hb⟩, ⟨K', _, hd⟩, below2 h.bl hb, (below2 h.bl hb).size, h.g8, fun x hx => (by cases hx), List.Pairwise.nil, Nat.le_refl _⟩
theorem rcs7 {w : World} {B a : Nat} {S : Ms} (h : Full w B 46 (rcs S a)) : w.cell? ⟨B, 0, none⟩ = some (.int .i64 S.ph) ∧ w.cell? ⟨B, 1, none⟩ = some (.int .i64 S.tr) ∧ w.cell? ⟨B, 2, none⟩ = some (.string ⟨S.out.toArray⟩) ∧ w.cell? ⟨B, 3, none⟩ = some (.int .i64 (S.rd : Int)) ∧ w.cell? ⟨B, 4, none⟩ = some (.int .i64 S.steps) ∧ w.cell? ⟨B, 5, none⟩ = some (.slice none 0 0) ∧ w.cell? ⟨B, 6, none⟩ = some (.slice (some ⟨a, 0, none⟩) (S.hp.length + 1) (S.hp.length + 1)) :=
  ⟨(h.cell 0 _ rfl).1, (h.cell 1 _ rfl).1, (h.cell 2 _ rfl).1, (h.cell 3 _ rfl).1, (h.cell 4 _ rfl).1, (h.cell 5 _ rfl).1, (h.cell 6 _ rfl).1⟩
theorem Mz.u5 {w : World} {U : Nat → Prop} {g : Nat} {K : Cg} {S : Ms} (h : Mz w U g K S) : Hp.usedS S.hp ≤ 100000 := by
  have := h.kok
  have := this.1.lim
  omega
theorem FrZ.res {W w : World} {g : Nat} {K : Cg} {S : Ms} {U : Nat → Prop} {a b t : Nat} {va vb : List Value} {Br Bs Bt : Nat} (h : FrZ W w g K S U a b t va vb Br Bs Bt) :
    Calls Tryz.prog 9 #[.pointer (some ⟨g, 0, none⟩)] w fun e w' => ∃ x, e = .returned (.agg #[.int .i64 S.ph, .int .i64 S.tr, .string ⟨S.out.toArray⟩, .int .i64 (S.rd : Int), .int .i64 S.steps, .slice none 0 0, .slice (some ⟨x, 0, none⟩) (S.hp.length + 1) (S.hp.length + 1)]) ∧ Hid (AnsS w' x S ∧ FrZ W w' g K S U a b t va vb Br Bs Bt ∧ Below w.heap.size w w') :=
  h.m.result.mono fun _ _ q => ⟨w.heap.size + 1, q.1, q.2.1.out, h.next q.2.2, q.2.2⟩
set_option maxRecDepth 100000 in
set_option maxHeartbeats 8000000 in
theorem vmFresh_any {W : World} {iq eq tq nq : Option Addr} {ia ea ta na : Nat} {Es : List Em} {c : Cd} {inp : List Int} (hS : SetR W iq eq tq nq ia ea ta na Es c inp) (dp l fi th : Int) (hG : Glo W) :
    Calls Tryz.prog 5 #[.agg #[.slice iq c.ins.length ia, .slice eq c.ens.length ea, .slice tq c.txs.length ta, .int .i64 c.main, .slice nq inp.length na, .int .i64 dp, .int .i64 l, .int .i64 fi, .int .i64 th]] W fun z w' => z = .returned (.bool true) ∧ Below W.heap.size W w' := by
  have HGL : Hid (Glo W) := hG
  obtain ⟨bX, hXs, fX⟩ := @runX W iq eq tq nq c.ins.length ia c.ens.length ea c.txs.length ta inp.length na c.main dp l fi th _ rfl
  by_cases he : newE c inp.length dp l = 0
  case neg =>
    have he' : (newE c inp.length dp l != 0) = true := by simpa using he
    have dN := setNew_no hS hG bX dp l he
    have HBX : Hid _ := bX
    clear hS hG bX fX hXs
    go_enter Tryz.func5, Tryz.ntmps5
    go_wp2_with (first
      | (go_at_call 7; refine dN.mono ?_; rintro z1 w1 ⟨rfl, hb1⟩; have HB1 : Hid (Below W.heap.size W w1) := below2 HBX.out hb1; clear hb1)
      | (go_at_call 8; refine (least_any (HGL.out.next HB1.out)).mono ?_; rintro z2 w2 ⟨rfl, hb2⟩; have HB2 : Hid (Below W.heap.size W w2) := below2 HB1.out hb2; clear hb2)
      | fail)
    go_ret
    exact ⟨rfl, HB2.out⟩
  obtain ⟨-, dN⟩ := setNew hS hG bX dp l he
  obtain ⟨k1, hk1, hk15⟩ := fewK fi
  have dF1 : ∀ w, Calls Tryz.prog 11 #[.int .i64 fi] w fun z w' => z = .returned (.int .i64 (k1 : Int)) ∧ Below w.heap.size w w' := fun w => by rw [← hk1]; exact few_any fi w
  obtain ⟨xs, hxs⟩ : ∃ xs : List Value, xs = [.slice iq c.ins.length ia, .slice eq c.ens.length ea, .slice tq c.txs.length ta, .int .i64 c.main, .slice nq inp.length na, .int .i64 dp, .int .i64 l, .int .i64 fi, .int .i64 th] := ⟨_, rfl⟩
  have HON : Hid (∀ w1 g K S, Mz w1 (fun b => (W.alloc (.cells #[.slice iq c.ins.length ia, .slice eq c.ens.length ea, .slice tq c.txs.length ta, .int .i64 c.main, .slice nq inp.length na, .int .i64 dp, .int .i64 l, .int .i64 fi, .int .i64 th] 33)).heap.size ≤ b) g K S → Below (W.alloc (.cells #[.slice iq c.ins.length ia, .slice eq c.ens.length ea, .slice tq c.txs.length ta, .int .i64 c.main, .slice nq inp.length na, .int .i64 dp, .int .i64 l, .int .i64 fi, .int .i64 th] 33)).heap.size (W.alloc (.cells #[.slice iq c.ins.length ia, .slice eq c.ens.length ea, .slice tq c.txs.length ta, .int .i64 c.main, .slice nq inp.length na, .int .i64 dp, .int .i64 l, .int .i64 fi, .int .i64 th] 33)) w1 → On1 W w1 g K S xs) := fun w1 g K S hm hb => by
    rw [hxs]
    exact on_new hm hXs fX bX hb (by have := hG.tabs.size; omega)
  clear hS hG bX fX hXs hk1
  have HXS : Hid (xs[7]? = some (.int .i64 fi)) := by show xs[7]? = _; rw [hxs]; rfl
  clear hxs
  go_enter Tryz.func5, Tryz.ntmps5
  go_wp2_with (first
    | (go_at_call 7; refine dN.mono ?_; rintro z1 w1 ⟨g, rfl, H1⟩; obtain ⟨K, hM1, -, -, -, -, hb1⟩ := H1.out; have HO1 : Hid (On1 W w1 g K (msN (enAt c.ens c.main.toNat) c.main) xs) := HON.out _ _ _ _ hM1 hb1; clear H1 hM1 hb1 HON)
    | fail)
  have HI0 : Hid (∃ S : Ms, On1 W w1 g K S xs ∧ S.out.length ≤ 4200 * 0) := ⟨_, HO1.out, Nat.le_refl _⟩
  clear HO1 dN he
  go_loopw [5] (fun vi wr => ∃ n : Nat, n ≤ k1 ∧ vi = .int .i64 (n : Int) ∧ Hid (∃ S : Ms, On1 W wr g K S xs ∧ S.out.length ≤ 4200 * n)) (fun vi _ => k1 - (intOf vi).toNat)
  case atStart => exact ⟨0, Nat.zero_le _, rfl, HI0⟩
  case round =>
    clear HI0
    obtain ⟨n, hn, rfl, hI⟩ := hrel
    obtain ⟨S, hO, ho⟩ := hI.out
    have HO : Hid (On1 W wr g K S xs) := hO
    have HOL : Hid (S.out.length ≤ 4200 * n) := ho
    obtain ⟨x7, -⟩ := hO.x.cell 7 _ HXS.out
    have n0 : (0 : Int) ≤ (n : Int) := Int.natCast_nonneg _
    clear hI hO ho
    by_cases hlt : n < k1
    · have n1 : (n : Int) < (k1 : Int) := Int.ofNat_lt.2 hlt
      go_wp2_with (first
        | (go_at_call 11; refine (dF1 _).mono ?_; rintro z2 w2 ⟨rfl, hb2⟩; have HO2 : Hid (On1 W w2 g K S xs) := HO.out.next hb2; clear hb2 HO)
        | (go_at_call 12; refine (On1.step HO2.out (by have := HOL.out; omega)).mono ?_; rintro z3 w3 ⟨rfl, H3⟩; have HN : Hid (∃ S : Ms, On1 W w3 g K S xs ∧ S.out.length ≤ 4200 * (n + 1)) := ⟨_, H3.out.1, by have := H3.out.2; have := HOL.out; omega⟩; clear H3 HO2)
        | fail)
      exact ⟨⟨n + 1, hlt, by push_cast; rfl, HN⟩, by show k1 - ((n : Int) + 1).toNat < k1 - (n : Int).toNat; omega⟩
    obtain rfl : n = k1 := by omega
    have n1 : ¬ ((n : Int) < (n : Int)) := by omega
    obtain ⟨T, hT⟩ : ∃ T, (⟨(svB S).toArray⟩ : ByteArray) = T := ⟨_, rfl⟩
    have HTT : Hid ((⟨(svB S).toArray⟩ : ByteArray) = T) := hT
    have HSV : Hid (∀ {w : World} {U : Nat → Prop} {p : Nat} {K' : Cg}, Mz w U p K' S → Calls Tryz.prog 17 #[.pointer (some ⟨p, 0, none⟩)] w fun z w' => z = .returned (.string T) ∧ Below w.heap.size w w') := fun {w U p K'} h => by
      have q := h.save (show S.out.length ≤ 100000000 by have := HOL.out; omega)
      rw [HTT.out] at q
      exact q
    clear hT HTT
    go_wp2_with (first
      | (go_at_call 11; refine (dF1 _).mono ?_; rintro z2 w2 ⟨rfl, hb2⟩; have HO2 : Hid (On1 W w2 g K S xs) := HO.out.next hb2; clear hb2 HO)
      | (go_at_call 17; obtain ⟨U2, hU2, -⟩ := HO2.out.m; refine (HSV.out hU2).mono ?_; rintro z3 w3 ⟨rfl, hb3⟩; have HO3 : Hid (On1 W w3 g K S xs) := HO2.out.next hb3; clear hb3 HO2 hU2 U2)
      | (go_at_call 16; refine (On1.clone1 HO3.out (by have := HOL.out; omega)).mono ?_; rintro z4 w4 ⟨gc, rfl, H4⟩; clear HO3)
      | (go_at_call 16; refine (On1.clone2 H4.out.1 H4.out.2 (by have := HOL.out; omega)).mono ?_; rintro z5 w5 ⟨gd, lo, rfl, H5⟩; clear H4)
      | (go_at_call 9; refine (FrL.res H5.out (FrL.resM H5.out)).mono ?_; rintro z6 w6 ⟨a, rfl, H6⟩; clear H5; obtain ⟨va, h6⟩ := H6.out; have HL6 : Hid _ := h6; clear h6 H6)
      | (go_at_call 9; refine (FrL.res HL6.out (FrL.resM HL6.out)).mono ?_; rintro z7 w7 ⟨b, rfl, H7⟩; clear HL6; obtain ⟨vb, h7⟩ := H7.out; have HL7 : Hid _ := h7; clear h7 H7)
      | (go_at_call 9; refine (FrL.res HL7.out (FrL.c HL7.out)).mono ?_; rintro z8 w8 ⟨t, rfl, H8⟩; clear HL7; obtain ⟨vt, h8⟩ := H8.out; have HL8 : Hid _ := h8; clear h8 H8)
      | (go_at_call 9; refine (FrL.res HL8.out (FrL.d HL8.out)).mono ?_; rintro z9 w9 ⟨o, rfl, H9⟩; clear HL8; obtain ⟨vo, h9⟩ := H9.out; obtain ⟨U, h10⟩ := FrL.four h9; have HQ9 : Hid _ := h10; obtain ⟨a0, a1, a2, a3, a4, a5, a6⟩ := rcs7 h10.fr; obtain ⟨t0, t1, t2, t3, t4, t5, t6⟩ := rcs7 h10.ft; clear h9 H9 h10)
      | (go_at_call 13; refine (sameRun_S ⟨_, HQ9.out.ra.a⟩ ⟨_, HQ9.out.rt.a⟩ HQ9.out.m.u5).mono ?_; rintro z10 w10 ⟨rfl, hb10⟩; have HQ10 : Hid _ := HQ9.out.next hb10; clear HQ9 hb10 a0 a1 a2 a3 a4 a5 a6 t0 t1 t2 t3 t4 t5 t6; obtain ⟨a0, a1, a2, a3, a4, a5, a6⟩ := rcs7 HQ10.out.fs; obtain ⟨t0, t1, t2, t3, t4, t5, t6⟩ := rcs7 HQ10.out.ft)
      | (go_at_call 13; refine (sameRun_S ⟨_, HQ10.out.rb.a⟩ ⟨_, HQ10.out.rt.a⟩ HQ10.out.m.u5).mono ?_; rintro z11 w11 ⟨rfl, hb11⟩; have HQ11 : Hid _ := HQ10.out.next hb11; clear HQ10 hb11 a0 a1 a2 a3 a4 a5 a6 t0 t1 t2 t3 t4 t5 t6; obtain ⟨a0, a1, a2, a3, a4, a5, a6⟩ := rcs7 HQ11.out.fo; obtain ⟨t0, t1, t2, t3, t4, t5, t6⟩ := rcs7 HQ11.out.ft)
      | (go_at_call 13; refine (sameRun_S ⟨_, HQ11.out.ro.a⟩ ⟨_, HQ11.out.rt.a⟩ HQ11.out.m.u5).mono ?_; rintro z12 w12 ⟨rfl, hb12⟩; have HQ12 : Hid _ := HQ11.out.next hb12; clear HQ11 hb12 a0 a1 a2 a3 a4 a5 a6 t0 t1 t2 t3 t4 t5 t6; obtain ⟨v1, W1, r1, HW1, v2, W2, r2, HW2, O, c3, W3, r3, HW3⟩ := FrQ.app3 HQ12.out; obtain ⟨-, -, -, -, -, -, a6⟩ := rcs7 HQ12.out.fr; obtain ⟨-, -, -, -, -, -, b6⟩ := rcs7 HW1.out.fs; obtain ⟨-, -, -, -, -, -, o6⟩ := rcs7 HW2.out.fo)
      | (at_builtin; refine wpList_apr rfl _ _ 44 rfl r1 ?_; clear r1)
      | (at_builtin; refine wpList_apr rfl _ _ 44 rfl r2 ?_; clear r2)
      | (at_builtin; refine wpList_apr rfl _ _ 44 rfl r3 ?_; clear r3)
      | (go_at_call 19; refine (FrQ.apart_any HW3.out.1 HW3.out.2.1 HW3.out.2.2).mono ?_; rintro z13 w13 ⟨rfl, H13⟩; have HZ : Hid _ := H13.out.1; obtain ⟨-, -, -, -, -, -, p6⟩ := rcs7 HZ.out.fr; obtain ⟨-, -, -, -, -, -, s6⟩ := rcs7 HZ.out.fs; clear H13 HW3)
      | fail)
    have hNl : S.hp.length + 1 ≤ 200000 := by
      have := lsA_le HZ.out.m.u5
      rw [Hp.lsA_len] at this
      omega
    have haz : a ≤ w13.heap.size := Nat.le_of_lt (HZ.out.oa.lt a rfl).2
    have hbz : b ≤ w13.heap.size := Nat.le_of_lt (HZ.out.ob.lt b rfl).2
    have HLN : Hid (va.length = S.hp.length + 1 ∧ vb.length = S.hp.length + 1) := ⟨HZ.out.la, HZ.out.lb⟩
    have HAR : Hid (∀ W', Below w13.heap.size w13 W' → W'.ownsRow a 64 1 (.slice (some ⟨a, 0, none⟩) (S.hp.length + 1) (S.hp.length + 1)) (S.hp.length + 1) va ∧ W'.ownsRow b 64 1 (.slice (some ⟨b, 0, none⟩) (S.hp.length + 1) (S.hp.length + 1)) (S.hp.length + 1) vb) := fun W' hW => ⟨(HZ.out.next hW).oa, (HZ.out.next hW).ob⟩
    have HP6 : Hid (∀ W', Below w13.heap.size w13 W' → W'.cell? ⟨w6.heap.size, 6, none⟩ = some (.slice (some ⟨a, 0, none⟩) (S.hp.length + 1) (S.hp.length + 1)) ∧ W'.cell? ⟨w7.heap.size, 6, none⟩ = some (.slice (some ⟨b, 0, none⟩) (S.hp.length + 1) (S.hp.length + 1))) := fun W' hW => by
      obtain ⟨-, -, -, -, -, -, p6⟩ := rcs7 (HZ.out.next hW).fr
      obtain ⟨-, -, -, -, -, -, s6⟩ := rcs7 (HZ.out.next hW).fs
      exact ⟨p6, s6⟩
    clear p6 s6 a6 b6 o6 x7 dF1 HXS HW1 HW2 HQ12
    obtain ⟨N, hN⟩ : ∃ N, S.hp.length + 1 = N := ⟨_, rfl⟩
    rw [hN] at hNl HLN HAR HP6 ⊢
    clear hN
    go_loopw [14, 15, 16] (fun v12 v13 v14 wr => ∃ i : Nat, i ≤ 70 ∧ v14 = .int .i64 (i : Int) ∧ Hid (Hp.Cd w13.heap.size wr N (.slice (some ⟨a, 0, none⟩) N N) va 6 i v12 ∧ Hp.Cd w13.heap.size wr N (.slice (some ⟨b, 0, none⟩) N N) vb 7 i v13 ∧ (0 < i → ∀ g, v12.ownBlock = some g → v13.ownBlock ≠ some g)) ∧ Hid (Below w13.heap.size w13 wr)) (fun _ _ v _ => 70 - (intOf v).toNat)
    case atStart => exact ⟨0, by omega, rfl, ⟨.inl ⟨rfl, rfl⟩, .inl ⟨rfl, rfl⟩, fun h => by omega⟩, Below.refl _ _⟩
    case round =>
      obtain ⟨i, hi, rfl, hC, hB⟩ := hrel
      by_cases h70 : i < 70
      · have h70' : (i : Int) < 70 := by omega
        have hzB := hB.out.size
        obtain ⟨vc', wC, rC, vd', wD, rD, hN2, hBD⟩ := Hp.cd_round hC.out.1 hC.out.2.1 hC.out.2.2 (fun W hW => (HAR.out W (hB.out.trans hW)).1) (fun W hW => (HAR.out W (hB.out.trans hW)).2) haz hbz hzB hNl hi
        have HN2 : Hid _ := hN2
        have HBD : Hid (Below w13.heap.size w13 wD) := hB.out.trans hBD
        clear hC hN2 hBD hB
        go_wp2_with (first
          | (at_builtin; refine wpList_apr rfl _ _ 44 rfl rC ?_; clear rC)
          | (at_builtin; refine wpList_apr rfl _ _ 44 rfl rD ?_; clear rD)
          | go_in)
        exact ⟨⟨i + 1, by omega, by go_num, HN2, HBD⟩, by simp [intOf]; omega⟩
      obtain rfl : i = 70 := by omega
      have HC : Hid (∀ k, k < 70 → (∃ g c gx, u14 = .slice (some ⟨g, 0, none⟩) (N + 70) c ∧ wr.cell? ⟨g, N + k, none⟩ = some (.slice (some ⟨gx, 0, none⟩) 1 1) ∧ wr.cell? ⟨gx, 0, none⟩ = some (.int .i64 6)) ∧ ∃ g c gx, u15 = .slice (some ⟨g, 0, none⟩) (N + 70) c ∧ wr.cell? ⟨g, N + k, none⟩ = some (.slice (some ⟨gx, 0, none⟩) 1 1) ∧ wr.cell? ⟨gx, 0, none⟩ = some (.int .i64 7)) := fun k hk => ⟨hC.out.1.get HLN.out.1 k hk, hC.out.2.1.get HLN.out.2 k hk⟩
      obtain ⟨⟨gc', cc, -, rfl, -⟩, gd', cd, -, rfl, -⟩ := HC.out 0 (by omega)
      have HZ20 : Hid (FrZ W wr g K S U a b t va vb w6.heap.size w7.heap.size w8.heap.size) := HZ.out.next hB.out
      obtain ⟨p6, s6⟩ := HP6.out wr hB.out
      clear hC hB HAR HLN HP6 HZ
      go_wp2_with fail
      generalize wr = w20 at *
      go_loopw [17] (fun v wr => ∃ k : Nat, k ≤ 70 ∧ v = .int .i64 (k : Int) ∧ wr = w20) (fun v _ => 70 - (intOf v).toNat)
      case atStart => exact ⟨0, by omega, rfl, rfl⟩
      case round =>
        obtain ⟨k, hk, rfl, rfl⟩ := hrel
        by_cases hk70 : k < 70
        · have hk70' : (k : Int) < 70 := by omega
          obtain ⟨⟨g1, c1, x1, e1, m1, m2⟩, g2, c2, x2, e2, m3, m4⟩ := HC.out k hk70
          cases e1
          cases e2
          have iw : IntKind.i64.wrap ((N : Int) + (k : Int)) = (N : Int) + (k : Int) := by rw [IntKind.wrap_i64]; omega
          have j0 : (0 : Int) ≤ (N : Int) + (k : Int) := by omega
          have j1 : (N : Int) + (k : Int) < ((N + 70 : Nat) : Int) := by omega
          have j1' : (N : Int) + (k : Int) < (N : Int) + 70 := by omega
          have j2 : ((N : Int) + (k : Int)).toNat = N + k := by omega
          go_wp2
          exact ⟨⟨k + 1, by omega, by go_num, by first | rfl | trivial⟩, by simp [intOf]; omega⟩
        obtain rfl : k = 70 := by omega
        clear p6 s6 HC
        have HS : Hid (∀ w', Below wr.heap.size wr w' → w'.cell? ⟨w8.heap.size, 0, none⟩ = some (.int .i64 S.ph) ∧ w'.cell? ⟨w8.heap.size, 1, none⟩ = some (.int .i64 S.tr) ∧ w'.cell? ⟨w8.heap.size, 2, none⟩ = some (.string ⟨S.out.toArray⟩) ∧ w'.cell? ⟨w8.heap.size, 3, none⟩ = some (.int .i64 (S.rd : Int)) ∧ w'.cell? ⟨w8.heap.size, 4, none⟩ = some (.int .i64 S.steps) ∧ w'.cell? ⟨w8.heap.size, 5, none⟩ = some (.slice none 0 0) ∧ w'.cell? ⟨w8.heap.size, 6, none⟩ = some (.slice (some ⟨t, 0, none⟩) (S.hp.length + 1) (S.hp.length + 1)) ∧ Below wr.heap.size wr w') := fun w' hb => by
          obtain ⟨t0, t1, t2, t3, t4, t5, t6⟩ := rcs7 (HZ20.out.next hb).ft
          exact ⟨t0, t1, t2, t3, t4, t5, t6, hb⟩
        have hbD : Below wr.heap.size wr wr.drew := (Below.refl _ wr).drew
        have HZD : Hid (FrZ W wr.drew g K S U a b t va vb w6.heap.size w7.heap.size w8.heap.size) := HZ20.out.next hbD
        have dS := HSV.out HZD.out.m
        clear HZ20
        go_wp2_with fail
        go_region_held3 (fun w' => w'.cell? ⟨w8.heap.size, 0, none⟩ = some (.int .i64 S.ph) ∧ w'.cell? ⟨w8.heap.size, 1, none⟩ = some (.int .i64 S.tr) ∧ w'.cell? ⟨w8.heap.size, 2, none⟩ = some (.string ⟨S.out.toArray⟩) ∧ w'.cell? ⟨w8.heap.size, 3, none⟩ = some (.int .i64 (S.rd : Int)) ∧ w'.cell? ⟨w8.heap.size, 4, none⟩ = some (.int .i64 S.steps) ∧ w'.cell? ⟨w8.heap.size, 5, none⟩ = some (.slice none 0 0) ∧ w'.cell? ⟨w8.heap.size, 6, none⟩ = some (.slice (some ⟨t, 0, none⟩) (S.hp.length + 1) (S.hp.length + 1)) ∧ Below wr.heap.size wr w') (exact HS.out _ (by with_reducible assumption))
          (first
          | (go_at_call 17; (with_reducible refine dS.mono ?_); rintro z21 w21 ⟨rfl, hb21⟩; have HZ21 : Hid (FrZ W w21 g K S U a b t va vb w6.heap.size w7.heap.size w8.heap.size) := HZD.out.next hb21; have dR := FrZ.res HZ21.out; have hB21 : Below wr.heap.size wr w21 := below2 hbD hb21; clear hb21 dS)
          | (go_at_call 9; (with_reducible refine dR.mono ?_); rintro z22 w22 ⟨x22, rfl, H22⟩; have HZ22 : Hid (FrZ W w22 g K S U a b t va vb w6.heap.size w7.heap.size w8.heap.size) := H22.out.2.1; have HA22 : Hid (AnsS w22 x22 S) := H22.out.1; have dM := sameRun_S HA22.out HZ22.out.rt HZ22.out.m.u5; have hB22 : Below wr.heap.size wr w22 := below2 hB21 H22.out.2.2; clear H22)
          | (go_at_call 13; (with_reducible refine dM.mono ?_); rintro z23 w23 ⟨rfl, hb23⟩; have HZ23 : Hid (FrZ W w23 g K S U a b t va vb w6.heap.size w7.heap.size w8.heap.size) := HZ22.out.next hb23; have dL := least_any (Mz.kok HZ23.out.m).2.2.2; have hB23 : Below wr.heap.size wr w23 := below2 hB22 hb23; clear hb23)
          | (go_at_call 8; (with_reducible refine dL.mono ?_); rintro z24 w24 ⟨rfl, hb24⟩; have HB24 : Hid (Below W.heap.size W w24) := below2 HZ23.out.bl hb24; have hB24 : Below wr.heap.size wr w24 := below2 hB23 hb24; clear hb24)
          | fail)
        go_wp2
        go_ret
        exact ⟨rfl, HB24.out⟩
end Go.Proofs.YtahdkffijlfmnaaGreatDoor
