import Derived.Sort.OwnSortedInts
import Derived.Test.YtlocaalipjjnpaaDoorM25
import Derived.Test.YtlocaalipjjnpaaDoorM14
import Derived.Test.YtlocaalipjjnpaaDoorM15
import Derived.Test.YtlocaalipjjnpaaDoorM22
namespace Go.Proofs.YtlocaalipjjnpaaDoor
open Go.RowKit Go.Sort

theorem nI_app (a b : List Nat) : nI (a ++ b) = nI a ++ nI b := List.map_append

/-- What lies there is appended to a list of its own. -/
theorem run_src (w : World) (base : Nat) (v vs : Value) (l D : List Nat) (ho : w.ownsRow base 3 1 v l.length (iv (nI l))) (hs : Src w vs D) (hb : base ≤ w.heap.size) (hlen : l.length + D.length ≤ 1353245080300) :
    ∃ v' w', (Builtin.append_ #[25, 25] 25 #[v, vs]).run Tryd.prog w = .ok v' w' ∧ w'.ownsRow base 3 1 v' (l ++ D).length (iv (nI (l ++ D))) ∧ Below base w w' ∧ (v = .slice none 0 0 → D = [] → v' = .slice none 0 0) := by
  rcases hs with ⟨rfl, rfl⟩ | ⟨a, c, rfl, ha, hc⟩
  · refine ⟨v, w, ?_, by rw [List.append_nil]; exact ho, Below.refl _ _, fun e _ => e⟩
    rcases ho.2 with ⟨rfl, hn⟩ | ⟨g, cap, cur, rfl, hb', hg, hnc, hcm, hcs, htake⟩
    · simp [Builtin.append_, go_sem]
    · simp [Builtin.append_, go_sem, hnc]
  · obtain ⟨i0, hi, hz0, hz1, hz2⟩ := info_parts info3
    obtain ⟨v', w2, hrun, h2, h3, h4⟩ := run_append_own (P := Tryd.prog) w base 25 25 3 i0 _ 1 8 Tryd.underlying25 hi hz0 hz1 hz2 rfl (by decide) v l.length (iv (nI l)) ho a D.length c (iv (nI D)) (by rw [iv_len, nI_len, Nat.mul_one])
      hc (by intro u hu; unfold iv at hu; obtain ⟨x, _, rfl⟩ := List.mem_map.1 hu; rfl) (by unfold maxLen; omega) (by omega) (by omega)
    refine ⟨v', w2, hrun, ?_, (Below.refl _ w).grown h3 (by omega) (own_ge ho), fun e1 e2 => h4.2 ⟨e1, by rw [e2]; rfl⟩⟩
    rw [nI_app, iv_app, List.length_append]
    exact h2

/-- A list of its own is sorted. -/
theorem sort_own (w : World) (base : Nat) (v : Value) (l m : List Nat) (ho : w.ownsRow base 3 1 v l.length (iv (nI l))) (hb : base ≤ w.heap.size) (hlen : l.length < 4611686018427387904) (hp : l.Perm m) (hm : m.Pairwise (· < ·)) :
    Calls Tryd.prog 33 #[v] w fun e w' => e = .returned (.tuple #[]) ∧ Hid (w'.ownsRow base 3 1 v m.length (iv (nI m))) ∧ Below base w w' := by
  have hl := hp.length_eq
  rcases ho.2 with ⟨rfl, hn⟩ | ⟨g, cap, cur, rfl, hb', hg, hnc, hcm, hcs, htake⟩
  · refine (Tryd.slices_Sort_int_none none 0 w).mono ?_
    rintro e w' ⟨rfl, rfl⟩
    have : l = [] := List.length_eq_zero_iff.1 hn
    subst this
    have : m = [] := List.length_eq_zero_iff.1 hl.symm
    subst this
    exact ⟨rfl, ho, Below.refl _ _⟩
  · have hH : Holds (Value.int .i64) w g 0 (nI l).toArray := holds_of_blockI hg (by rw [nI_len]; rw [Nat.mul_one] at htake; exact htake)
    have hgl : g < w.heap.size := (Array.getElem?_eq_some_iff.1 hg).1
    have := Tryd.slices_Sort_int g 0 cap (nI l) w hH hgl (by rw [nI_len]; exact hlen)
    rw [nI_len] at this
    refine this.mono ?_
    rintro e w' ⟨rfl, n, os, rfl⟩
    rw [sort_eq hp hm]
    refine ⟨rfl, ?_, ?_⟩
    · have := ownsRow_sortedI (w := w) (base := base) (n := n) (os := os) (ss := nI l) (ts := nI m) (by rw [nI_len, nI_len, hl]) hb' hg (by rw [nI_len]; exact hnc) hcm hcs
      rw [nI_len, hl] at this
      rw [hl]
      exact this
    · exact (Below.refl _ w).grown (grownBy_sortedI _) (by omega) (fun k e => by cases e; exact hb')

/-- What Dead answers. -/
def deadS (L : List Nd) : List Nat := if progS nameS typeS L = true then outD L (tbl L L.length) else []

theorem all_mono {L : List Nd} {T : WT} (m : Nat) : ∀ d, (allD L T m).length ≤ (allD L T (m + d)).length
  | 0 => Nat.le_refl _
  | d + 1 => by
    have := all_mono (L := L) (T := T) m d
    show _ ≤ (allD L T (m + d) ++ blkD L T (m + d)).length
    rw [List.length_append]
    omega
theorem all_len {L : List Nd} {T : WT} (hT : Tr L) (hh : ∀ k, k < L.length → (nd L k).kind = 16 → (T k).2 = true) (m : Nat) (hm : m ≤ L.length) : (allD L T m).length ≤ L.length := by
  have h1 := all_mono (L := L) (T := T) m (L.length - m)
  rw [show m + (L.length - m) = L.length by omega, (out_perm hT hh).length_eq] at h1
  have h2 : (outD L T).length ≤ (List.range L.length).length := List.length_filter_le _ _
  rw [List.length_range] at h2
  omega

theorem wpList_run25 {w w' : World} {ops : Array Oper} {rest : List Oper} {o : Oper} {a : Act} {Q : Exit → Act → World → Prop} (hgd : o.guard = none) (s x : Operand)
    (ho : o.op = .call { callee := .builtin .append, args := #[s, x], argTypes := #[25, 25] }) (v u v' : Value) (hs : a.eval s = v) (hx : a.eval x = u) (ht : o.type = 25) (hr : (Builtin.append_ #[25, 25] 25 #[v, u]).run Tryd.prog w = .ok v' w')
    (h : wpList Tryd.prog ops Q rest (a.put o.dst v') w') : wpList Tryd.prog ops Q (o :: rest) a w := by
  refine wpList_plain hgd fun K hK => ?_
  unfold Oper.wp execOp
  simp only [ho, resolve, invoke, builtin, Sem.run_bind, Sem.run_pure, Result.andThen_ok, List.map_toArray, List.map_cons, List.map_nil, hs, hx, ht, hr]
  exact hK _ _ h
theorem own_base {w : World} {b c : Nat} {e : TypeId} {size : Nat} {v : Value} {n : Nat} {xs : List Value} (h : w.ownsRow b e size v n xs) (hc : c ≤ b) : w.ownsRow c e size v n xs := by
  refine ⟨h.1, ?_⟩
  rcases h.2 with h | ⟨g, cap, cur, h1, h2, h3⟩
  · exact .inl h
  · exact .inr ⟨g, cap, cur, h1, Nat.le_trans hc h2, h3⟩

set_option maxRecDepth 100000 in
set_option maxHeartbeats 3000000 in
theorem dead_any (w : World) (p : Option Addr) (n cap : Nat) (L : List Nd) (h : Reads w p n L) (hk : KwAt w) :
    Calls Tryd.prog 18 #[.agg #[.slice p n cap]] w fun e w' => (∃ v, e = .returned v ∧ Hid (w'.ownsRow w.heap.size 3 1 v (deadS L).length (iv (nI (deadS L))) ∧ ((deadS L).length = 0 → v = .slice none 0 0))) ∧ Below w.heap.size w w' := by
  obtain ⟨w1, hw1, z1, B1, c0⟩ : ∃ w1, w.alloc (.cells #[.slice p n cap] 24) = w1 ∧ w1.heap.size = w.heap.size + 1 ∧ Below w.heap.size w w1 ∧ w1.cell? ⟨w.heap.size, 0, none⟩ = some (.slice p n cap) :=
    ⟨_, rfl, by simp, (Below.refl _ w).alloc (Nat.le_refl _) _, cell_new _ _ _ _ _ rfl⟩
  have HP := isProgram_any w1 p n cap L (h.next B1) (hk.next B1)
  have BB : Hid (Below w.heap.size w w1) := B1
  have zz : w.heap.size < w1.heap.size := by omega
  unfold deadS
  cases hp : progS nameS typeS L with
  | false =>
    rw [hp] at HP
    rw [if_neg (by decide)]
    clear h hk B1
    go_enter Tryd.func18, Tryd.ntmps18
    go_wp2_with fail
    refine HP.mono ?_
    rintro e w2 ⟨rfl, hb2⟩
    have c2 := (hb2.cell (p := ⟨w.heap.size, 0, none⟩) zz).trans c0
    have B2 := BB.out.trans (hb2.mono BB.out.size)
    go_wp2
    go_ret
    exact ⟨⟨_, rfl, World.ownsRow_nil _ _ _ _, fun _ => rfl⟩, B2⟩
  | true =>
  rw [hp] at HP
  rw [if_pos rfl]
  have hse : treeS nameS typeS L = true := by unfold progS at hp; simp only [Bool.and_eq_true] at hp; exact hp.1
  have htr : Tr L := tr_of (nm := nameS) (ty := typeS) hse
  have hwy : Wy L := wy_of (nm := nameS) (ty := typeS) hse
  have hpos := htr.pos
  obtain ⟨hf, rfl, hr⟩ := h
  obtain ⟨g, o, rfl, hl⟩ := hr (fun e => by rw [e] at hpos; simp at hpos)
  have HL : Hid (Lay w g o L) := hl
  have hlen := hf.len
  have HWy : Hid (Wy L) := hwy
  have HTr : Hid (Tr L) := htr
  clear hr hl hk B1 hse htr hp
  have HP' : Hid (Calls Tryd.prog 21 #[.agg #[.slice (some ⟨g, o, none⟩) L.length cap]] w1 fun e w' => e = .returned (.bool true) ∧ Below w1.heap.size w1 w') := HP
  have HL1 : Hid (Lay w1 g o L) := HL.out.next BB.out
  have HN : Hid (∀ w', Below w1.heap.size w1 w' → Calls Tryd.prog 22 #[.slice (some ⟨g, o, none⟩) L.length cap] w' fun e w'' => (∃ gr ge, e = .returned (.agg #[.slice (some ⟨g, o, none⟩) L.length cap, .slice (some ⟨gr, 0, none⟩) L.length L.length, .slice (some ⟨ge, 0, none⟩) L.length L.length]) ∧ Hid (Tb w'' gr ge L.length (tbl L L.length))) ∧ Below w'.heap.size w' w'') := fun w' hb => newWays_any w' g o cap L hlen HWy.out (HL1.out.next hb)
  clear HP hwy
  go_enter Tryd.func18, Tryd.ntmps18
  go_wp2_with (first
    | (go_at_call 21; refine HP'.out.mono ?_; rintro e w2 ⟨rfl, hb2⟩; have d0 := (hb2.cell (p := ⟨w.heap.size, 0, none⟩) zz).trans c0)
    | (go_at_call 22; refine (HN.out w2 hb2).mono ?_; rintro e w3 ⟨⟨gr, ge, rfl, ht⟩, hb3⟩; have hb23 := hb2.trans (hb3.mono hb2.size); obtain ⟨w4, hw4⟩ : ∃ w4, w3.alloc (.cells #[.slice (some ⟨g, o, none⟩) L.length cap, .slice (some ⟨gr, 0, none⟩) L.length L.length, .slice (some ⟨ge, 0, none⟩) L.length L.length] 51) = w4 := ⟨_, rfl⟩; have b4 : Below w3.heap.size w3 w4 := (by rw [← hw4]; exact (Below.refl _ w3).alloc (Nat.le_refl _) _); have b14 := hb23.trans (b4.mono hb23.size); have d1 := (b14.cell (p := ⟨w.heap.size, 0, none⟩) zz).trans c0)
    | go_in)
  have HL4 : Hid (Lay w4 g o L) := HL1.out.next b14
  have HT4 : Hid (Tb w4 gr ge L.length (tbl L L.length)) := ht.out.next b4
  have f0 : w4.cell? ⟨w3.heap.size, 0, none⟩ = some (.slice (some ⟨g, o, none⟩) L.length cap) := by rw [← hw4]; exact cell_new _ _ _ _ _ rfl
  have f1 : w4.cell? ⟨w3.heap.size, 1, none⟩ = some (.slice (some ⟨gr, 0, none⟩) L.length L.length) := by rw [← hw4]; exact cell_new _ _ _ _ _ rfl
  have f2 : w4.cell? ⟨w3.heap.size, 2, none⟩ = some (.slice (some ⟨ge, 0, none⟩) L.length L.length) := by rw [← hw4]; exact cell_new _ _ _ _ _ rfl
  have zp : w3.heap.size < w4.heap.size := by rw [← hw4]; simp
  have FF : Hid (∀ Wx, Below w4.heap.size w4 Wx → Wx.cell? ⟨w3.heap.size, 0, none⟩ = some (.slice (some ⟨g, o, none⟩) L.length cap) ∧ Wx.cell? ⟨w3.heap.size, 1, none⟩ = some (.slice (some ⟨gr, 0, none⟩) L.length L.length) ∧ Wx.cell? ⟨w3.heap.size, 2, none⟩ = some (.slice (some ⟨ge, 0, none⟩) L.length L.length)) := fun Wx hx => ⟨(hx.cell (p := ⟨w3.heap.size, 0, none⟩) zp).trans f0, (hx.cell (p := ⟨w3.heap.size, 1, none⟩) zp).trans f1, (hx.cell (p := ⟨w3.heap.size, 2, none⟩) zp).trans f2⟩
  have B4 : Hid (Below w.heap.size w w4) := BB.out.trans (b14.mono BB.out.size)
  have HK : Hid (∀ k, k < L.length → (nd L k).kind = 16 → (tbl L L.length k).2 = true) := fun k hk h16 => tbl_hook h16 hk _ (Nat.le_refl _) (by omega)
  have hw4s : w.heap.size ≤ w4.heap.size := B4.out.size
  clear b14 b4 hw4 d1 ht HN HP' HL1 c0 hw1 d0 hb2 hb3 hb23 BB zz z1 f0 f1 f2 HL hf hpos
  generalize w3.heap.size = p5 at *
  go_loopw [4, 16] (fun v4 v16 wr => ∃ k : Nat, v16 = .int .i64 (k : Int) ∧ k ≤ L.length ∧ Hid (wr.ownsRow w4.heap.size 3 1 v4 (allD L (tbl L L.length) k).length (iv (nI (allD L (tbl L L.length) k)))) ∧ Hid (allD L (tbl L L.length) k = [] → v4 = .slice none 0 0) ∧ Hid (Below w4.heap.size w4 wr)) (fun _ v _ => L.length - (intOf v).toNat)
  case atStart => exact ⟨0, rfl, by omega, World.ownsRow_nil _ _ _ _, fun _ => rfl, Below.refl _ _⟩
  case round =>
    obtain ⟨k, rfl, hkL, hO, hE, hB⟩ := hrel
    by_cases hlt : k < L.length
    · have j0 : (0 : Int) ≤ (k : Int) := by omega
      have j1 : (k : Int) < (L.length : Int) := by omega
      have i4 : IntKind.i64.wrap ((k : Int) + 1) = (k : Int) + 1 := by rw [IntKind.wrap_i64]; omega
      have cs := (HL4.out.next hB.out).c k hlt
      have hbl : allD L (tbl L L.length) (k + 1) = allD L (tbl L L.length) k ++ blkD L (tbl L L.length) k := rfl
      obtain ⟨y, hy⟩ : ∃ y, nd L k = y := ⟨_, rfl⟩
      unfold blkD at hbl
      rw [hy] at cs hbl
      have HBL : Hid (allD L (tbl L L.length) (k + 1) = allD L (tbl L L.length) k ++ if y.kind = 4 then cutD (tbl L L.length) (stmS L (k + 1) (endOf L k)) else []) := hbl
      have HD : Hid (∀ w', Below w4.heap.size w4 w' → Calls Tryd.prog 32 #[.agg #[.slice (some ⟨g, o, none⟩) L.length cap, .slice (some ⟨gr, 0, none⟩) L.length L.length, .slice (some ⟨ge, 0, none⟩) L.length L.length], .int .i64 (k : Int)] w' fun e w'' => (∃ v, e = .returned v ∧ Hid (Src w'' v (cutD (tbl L L.length) (stmS L (k + 1) (endOf L k))))) ∧ Below w'.heap.size w' w'') := fun w' hb' =>
        deadIn_any w' g o cap L gr ge k (tbl L L.length) hlen hlt HWy.out (HL4.out.next hb') (HT4.out.next hb') _ rfl (fun x hx => by
          have he := (end_int (HWy.out.good k hlt))
          have := (stm_ch (fun z hz => (HTr.out.good z (by omega)).1) _ _ _ hx).2.1
          omega)
      clear hbl hy
      obtain ⟨q0, q1, q2, q3, q4, q5, q6, q7, q8⟩ := y
      have e0 : wr.cell? ⟨g, o + k * 9, none⟩ = some (.int .i64 q0) := cs 0 _ rfl
      have e1 : wr.cell? ⟨g, o + k * 9 + 1, none⟩ = some (.int .i64 q1) := cs 1 _ rfl
      have e2 : wr.cell? ⟨g, o + k * 9 + 2, none⟩ = some (.string q2) := cs 2 _ rfl
      have e3 : wr.cell? ⟨g, o + k * 9 + 3, none⟩ = some (.string q3) := cs 3 _ rfl
      have e4 : wr.cell? ⟨g, o + k * 9 + 4, none⟩ = some (.string q4) := cs 4 _ rfl
      have e5 : wr.cell? ⟨g, o + k * 9 + 5, none⟩ = some (.int .i64 q5) := cs 5 _ rfl
      have e6 : wr.cell? ⟨g, o + k * 9 + 6, none⟩ = some (.int .i64 q6) := cs 6 _ rfl
      have e7 : wr.cell? ⟨g, o + k * 9 + 7, none⟩ = some (.string q7) := cs 7 _ rfl
      have e8 : wr.cell? ⟨g, o + k * 9 + 8, none⟩ = some (.int .i64 q8) := cs 8 _ rfl
      obtain ⟨wa, hwa⟩ : ∃ wa, wr.alloc (.cells #[.int .i64 q0, .int .i64 q1, .string q2, .string q3, .string q4, .int .i64 q5, .int .i64 q6, .string q7, .int .i64 q8] 39) = wa := ⟨_, rfl⟩
      have ba : Below wr.heap.size wr wa := by rw [← hwa]; exact (Below.refl _ wr).alloc (Nat.le_refl _) _
      have hBa : Below w4.heap.size w4 wa := hB.out.trans (ba.mono hB.out.size)
      have x0 : wa.cell? ⟨wr.heap.size, 0, none⟩ = some (.int .i64 q0) := by rw [← hwa]; exact cell_new _ _ _ _ _ rfl
      have HOa : Hid (wa.ownsRow w4.heap.size 3 1 u4 (allD L (tbl L L.length) k).length (iv (nI (allD L (tbl L L.length) k)))) := own_stays hO.out ba
      have HBA : Hid (Below w4.heap.size w4 wa) := hBa
      obtain ⟨a0, a1, a2⟩ := FF.out wa hBa
      clear cs hBa ba hO hB
      by_cases k4 : q0 = 4
      · subst k4
        rw [if_pos rfl] at HBL
        go_wp2_with (first
          | (go_at_call 32; refine (HD.out wa HBA.out).mono ?_; rintro e wc ⟨⟨vs, rfl, hvs⟩, hac⟩; obtain ⟨vn, wn, hrun, hon, hbn, hzn⟩ := run_src wc w4.heap.size u4 vs _ _ (own_stays HOa.out hac) hvs.out (Nat.le_trans HBA.out.size hac.size) (by rw [← List.length_append, ← HBL.out]; exact Nat.le_trans (all_len HTr.out HK.out (k + 1) hlt) hlen))
          | (at_builtin; refine wpList_run25 rfl _ _ rfl u4 vs vn rfl rfl rfl hrun ?_)
          | go_in)
        exact ⟨⟨k + 1, by simp, by omega, by rw [HBL.out]; exact hon, (fun e => by rw [HBL.out] at e; obtain ⟨e1, e2⟩ := List.append_eq_nil_iff.1 e; exact hzn (hE.out e1) e2), (HBA.out.trans (hac.mono HBA.out.size)).trans hbn⟩, by simp [intOf]; omega⟩
      · rw [if_neg (by exact k4), List.append_nil] at HBL
        go_wp2
        exact ⟨⟨k + 1, by simp, by omega, by rw [HBL.out]; exact HOa, by rw [HBL.out]; exact hE, HBA⟩, by simp [intOf]; omega⟩
    · obtain rfl : k = L.length := by omega
      have hji : ¬ ((L.length : Int) < (L.length : Int)) := by omega
      have HS := sort_own wr w4.heap.size u4 _ _ hO.out hB.out.size (by have := all_len HTr.out HK.out L.length (Nat.le_refl _); omega) (out_perm HTr.out HK.out) (out_inc L _)
      clear hO
      go_wp2_with (first
        | (go_at_call 33; refine HS.mono ?_; rintro e wz ⟨rfl, hoz, hbz⟩)
        | go_in)
      go_ret
      exact ⟨⟨u4, rfl, own_base hoz.out hw4s, fun e => hE.out (List.length_eq_zero_iff.1 ((out_perm HTr.out HK.out).length_eq.trans e))⟩, (B4.out.trans (hB.out.mono hw4s)).trans (hbz.mono hw4s)⟩
end Go.Proofs.YtlocaalipjjnpaaDoor

namespace Go.Proofs.YtlocaalipjjnpaaDoor
open Go.RowKit

theorem ovr_next {L : List Nd} {T : WT} {E k : Nat} {o : Bool} {D X : Nat → Bool} (h : ∃ f, E - k ≤ f ∧ ovr L T E f k o D = X) (hk : k < E) (hs : k < endOf L k) :
    ∃ f, E - endOf L k ≤ f ∧ ovr L T E f (endOf L k) (o || !(T k).2) (upd D k (o && !decide ((nd L k).kind = 16))) = X := by
  obtain ⟨f, h1, h2⟩ := h
  cases f with
  | zero => omega
  | succ f =>
    refine ⟨f, by omega, ?_⟩
    rw [← h2]
    show _ = (if E ≤ k then D else _)
    rw [if_neg (by omega)]
    rfl
theorem ovr_end {L : List Nd} {T : WT} {E : Nat} {o : Bool} {D X : Nat → Bool} (h : ∃ f, E - E ≤ f ∧ ovr L T E f E o D = X) : D = X := by
  obtain ⟨f, h1, h2⟩ := h
  cases f with
  | zero => exact h2
  | succ f =>
    rw [← h2]
    show _ = (if E ≤ E then D else _)
    rw [if_pos (Nat.le_refl _)]

/-- What the reference's loop keeps: the tree, the ways, its marks. -/
structure MW (N g o cap gd gw : Nat) (L : List Nd) (T : WT) (D : Nat → Bool) (W : World) : Prop where
  tc : W.cell? ⟨N, 0, none⟩ = some (.slice (some ⟨g, o, none⟩) L.length cap)
  lay : Lay W g o L
  tw : Tw W gw L.length T
  dl : gd < W.heap.size
  d : ∀ i, i < L.length → W.cell? ⟨gd, i, none⟩ = some (.bool (D i))
  fz : ∀ i, i < L.length → W.frozen? ⟨gd, i, none⟩ = false
theorem MW.step {N g o cap gd gw : Nat} {L : List Nd} {T : WT} {D : Nat → Bool} {W : World} (h : MW N g o cap gd gw L T D W) (h1 : N < gd) (h2 : g < gd) (h3 : gw < gd) (k : Nat) (hk : k < L.length) (b : Bool) : MW N g o cap gd gw L T (upd D k b) (W.setCell ⟨gd, k, none⟩ (.bool b)) := by
  have hne : ∀ {b c : Nat} {i j : Nat}, b ≠ c → (⟨b, i, none⟩ : Addr) ≠ ⟨c, j, none⟩ := fun hbc e => hbc (by cases e; rfl)
  have hno : ∀ {b i j : Nat}, i ≠ j → (⟨b, i, none⟩ : Addr) ≠ ⟨b, j, none⟩ := fun hij e => hij (by cases e; rfl)
  refine ⟨set_at _ h.tc (hne (by omega)), ⟨by rw [size_set]; exact h.lay.lt, fun i hi j v hv => set_at _ (h.lay.c i hi j v hv) (hne (by omega))⟩, ⟨by rw [size_set]; exact h.tw.l, fun i hi => set_at _ (h.tw.r i hi) (hne (by omega)), fun i hi => set_at _ (h.tw.e i hi) (hne (by omega))⟩, by rw [size_set]; exact h.dl, fun i hi => ?_, fun i hi => by rw [World.frozen?_setCell]; exact h.fz i hi⟩
  unfold upd
  by_cases e : i = k
  · subst e
    rw [if_pos rfl]
    exact set_same (h.d i hi) _
  · rw [if_neg e]
    exact set_at _ (h.d i hi) (hno e)

/-- The dead ones below k. -/
def outP (D : Nat → Bool) (k : Nat) : List Nat := (List.range k).filter fun x => D x
theorem outP_next (D : Nat → Bool) (k : Nat) : outP D (k + 1) = if D k = true then outP D k ++ [k] else outP D k := by
  unfold outP
  rw [List.range_succ, List.filter_append]
  by_cases h : D k = true
  · rw [if_pos h]; simp [h]
  · rw [if_neg h]; simp [h]
theorem outP_len (D : Nat → Bool) (k : Nat) : (outP D k).length ≤ k := by
  have : (outP D k).length ≤ (List.range k).length := List.length_filter_le _ _
  rwa [List.length_range] at this

set_option maxRecDepth 100000 in
set_option maxHeartbeats 8000000 in
theorem rdead_any (w : World) (p : Option Addr) (n cap : Nat) (L : List Nd) (h : Reads w p n L) (hk : RKw w) (hrg : Rng L) :
    Calls Tryd.prog 17 #[.agg #[.slice p n cap]] w fun e w' => (∃ v, e = .returned v ∧ Hid (w'.ownsRow w.heap.size 3 1 v (deadS L).length (iv (nI (deadS L))))) ∧ Below w.heap.size w w' := by
  obtain ⟨w1, hw1, z1, B1, c0⟩ : ∃ w1, w.alloc (.cells #[.slice p n cap] 24) = w1 ∧ w1.heap.size = w.heap.size + 1 ∧ Below w.heap.size w w1 ∧ w1.cell? ⟨w.heap.size, 0, none⟩ = some (.slice p n cap) :=
    ⟨_, rfl, by simp, (Below.refl _ w).alloc (Nat.le_refl _) _, cell_new _ _ _ _ _ rfl⟩
  have HP := rprogram_any w1 p n cap L (h.next B1) (hk.next B1) hrg
  have BB : Hid (Below w.heap.size w w1) := B1
  have zz : w.heap.size < w1.heap.size := by omega
  unfold deadS
  cases hp : progS nameS typeS L with
  | false =>
    rw [hp] at HP
    rw [if_neg (by decide)]
    clear h hk B1 hrg
    go_enter Tryd.func17, Tryd.ntmps17
    go_wp2_with fail
    refine HP.mono ?_
    rintro e w2 ⟨rfl, hb2⟩
    have c2 := (hb2.cell (p := ⟨w.heap.size, 0, none⟩) zz).trans c0
    have B2 := BB.out.trans (hb2.mono BB.out.size)
    go_wp2
    go_ret
    exact ⟨⟨_, rfl, World.ownsRow_nil _ _ _ _⟩, B2⟩
  | true =>
  rw [hp] at HP
  rw [if_pos rfl]
  have hse : treeS nameS typeS L = true := by unfold progS at hp; simp only [Bool.and_eq_true] at hp; exact hp.1
  have htr : Tr L := tr_of (nm := nameS) (ty := typeS) hse
  have hwy : Wy L := wy_of (nm := nameS) (ty := typeS) hse
  have hpos := htr.pos
  obtain ⟨hf, rfl, hr⟩ := h
  obtain ⟨g, o, rfl, hl⟩ := hr (fun e => by rw [e] at hpos; simp at hpos)
  have HL : Hid (Lay w g o L) := hl
  have hlen := hf.len
  have HWy : Hid (Wy L) := hwy
  clear hr hl hk B1 hse htr hp hrg
  obtain ⟨Z, hZ, hmk⟩ := run_make4 L.length hlen
  have HZ : Hid (Z.toList = List.replicate L.length (.bool false)) := hZ
  have hg0 : g < w.heap.size := HL.out.lt
  have HP' : Hid (Calls Tryd.prog 29 #[.agg #[.slice (some ⟨g, o, none⟩) L.length cap]] w1 fun e w' => e = .returned (.bool true) ∧ Below w1.heap.size w1 w') := HP
  have HL1 : Hid (Lay w1 g o L) := HL.out.next BB.out
  have HN : Hid (∀ w', Below w1.heap.size w1 w' → Calls Tryd.prog 30 #[.agg #[.slice (some ⟨g, o, none⟩) L.length cap]] w' fun e w'' => (∃ gw, e = .returned (.slice (some ⟨gw, 0, none⟩) L.length L.length) ∧ Hid (Tw w'' gw L.length (tbl L L.length))) ∧ Below w'.heap.size w' w'') := fun w' hb => rways_any w' g o cap L hlen HWy.out (HL1.out.next hb)
  clear HP hwy hZ
  go_enter Tryd.func17, Tryd.ntmps17
  go_wp2_with (first
    | (go_at_call 29; refine HP'.out.mono ?_; rintro e w2 ⟨rfl, hb2⟩; have d0 := (hb2.cell (p := ⟨w.heap.size, 0, none⟩) zz).trans c0)
    | (go_at_call 30; refine (HN.out w2 hb2).mono ?_; rintro e w3 ⟨⟨gw, rfl, ht⟩, hb3⟩; have hb23 := hb2.trans (hb3.mono hb2.size); obtain ⟨w4, hw4⟩ : ∃ w4, w3.alloc (.cells Z 4) = w4 := ⟨_, rfl⟩; have b4 : Below w3.heap.size w3 w4 := (by rw [← hw4]; exact (Below.refl _ w3).alloc (Nat.le_refl _) _); have d3 := (hb23.cell (p := ⟨w.heap.size, 0, none⟩) zz).trans c0; have b14 := hb23.trans (b4.mono hb23.size); have d1 := (b14.cell (p := ⟨w.heap.size, 0, none⟩) zz).trans c0)
    | go_in)
  have hh : w4.heap[w3.heap.size]? = some (.cells Z 4) := by rw [← hw4, hgAlloc, if_pos rfl]
  have hZi : ∀ i, i < L.length → Z[i]? = some (.bool false) := fun i hi => by rw [← Array.getElem?_toList, HZ.out, List.getElem?_replicate, if_pos hi]
  have s13 := hb23.size
  have hgw : gw < w3.heap.size := ht.out.l
  have HM0 : Hid (MW w.heap.size g o cap w3.heap.size gw L (tbl L L.length) (refD L (tbl L L.length) 0) w4) := ⟨d1, HL1.out.next b14, ht.out.next b4, (Array.getElem?_eq_some_iff.1 hh).1, fun i hi => (cell_block hh (hZi i hi)).1, fun i hi => (cell_block hh (hZi i hi)).2⟩
  have B4 : Hid (Below w.heap.size w w4) := BB.out.trans (b14.mono BB.out.size)
  have lN : w.heap.size < w3.heap.size := by omega
  have lG : g < w3.heap.size := by omega
  clear b14 b4 hw4 d1 d3 ht HN HP' HL1 c0 hw1 d0 hb2 hb3 hb23 BB zz z1 HL hf hh hZi HZ hmk hpos s13
  generalize w3.heap.size = gd at *
  generalize hTT : tbl L L.length = T at *
  go_loopw [6] (fun v wr => ∃ m : Nat, v = .int .i64 (m : Int) ∧ m ≤ L.length ∧ Hid (MW w.heap.size g o cap gd gw L T (refD L T m) wr) ∧ Hid (Below gd w4 wr)) (fun v _ => L.length - (intOf v).toNat)
  case atStart => exact ⟨0, rfl, by omega, HM0, Below.refl _ _⟩
  case round =>
    obtain ⟨m, rfl, hm, hmw, hB⟩ := hrel
    clear HM0
    have t0 := hmw.out.tc
    by_cases hlt : m < L.length
    · have j0 : (0 : Int) ≤ (m : Int) := by omega
      have j1 : (m : Int) < (L.length : Int) := by omega
      have i4 : IntKind.i64.wrap ((m : Int) + 1) = (m : Int) + 1 := by rw [IntKind.wrap_i64]; omega
      have k0 := hmw.out.lay.kind hlt
      have HR : Hid (refD L T (m + 1) = if (nd L m).kind = 4 then ovr L T (endOf L m) (endOf L m - (m + 1)) (m + 1) false (refD L T m) else refD L T m) := rfl
      by_cases k4 : (nd L m).kind = 4
      · rw [if_pos k4] at HR
        rw [k4] at k0
        obtain ⟨he, he1, he2⟩ := end_int (HWy.out.good m hlt)
        have hsz : (nd L m).size = (endOf L m : Int) - m := by show sz L m = _; omega
        have HX : Hid (∀ k, m < k → k < endOf L m → endOf L k ≤ endOf L m ∧ k < endOf L k ∧ (nd L k).size = (endOf L k : Int) - k) := fun k h1 h2 => by
          obtain ⟨a, b, _⟩ := end_int (HWy.out.good k (by omega))
          exact ⟨HWy.out.nest m k hlt h1 h2, b, by show sz L k = _; omega⟩
        have HS0 : Hid (∀ Wx, Lay Wx g o L → Wx.cell? ⟨g, o + m * 9 + 8, none⟩ = some (.int .i64 ((endOf L m : Int) - m))) := fun Wx hx => by rw [← hsz]; exact hx.size hlt
        have s0 := HS0.out _ hmw.out.lay
        have HR0 : Hid (∃ f, endOf L m - (m + 1) ≤ f ∧ ovr L T (endOf L m) f (m + 1) false (refD L T m) = refD L T (m + 1)) := ⟨_, Nat.le_refl _, HR.out.symm⟩
        clear hsz he HR k4
        generalize endOf L m = E at *
        have i7 : IntKind.i64.wrap ((m : Int) + ((E : Int) - m)) = (E : Int) := by rw [IntKind.wrap_i64]; omega
        obtain ⟨X, hX⟩ : ∃ X, refD L T (m + 1) = X := ⟨_, rfl⟩
        have HXX : Hid (refD L T (m + 1) = X) := hX
        rw [hX] at HR0
        clear hX
        go_wp2_with fail
        go_loopw [7, 8] (fun v7 v8 wr => ∃ (k : Nat) (oo : Bool) (D : Nat → Bool), v7 = .bool oo ∧ v8 = .int .i64 (k : Int) ∧ m < k ∧ k ≤ E ∧ Hid (∃ f, E - k ≤ f ∧ ovr L T E f k oo D = X) ∧ Hid (MW w.heap.size g o cap gd gw L T D wr) ∧ Hid (Below gd w4 wr)) (fun _ v _ => E - (intOf v).toNat)
        case atStart => exact ⟨m + 1, false, _, rfl, by first | rfl | simp, by omega, by omega, HR0, hmw, hB⟩
        case round =>
          obtain ⟨k, oo, D, rfl, rfl, hmk', hkE, hov, hmk, hBk⟩ := hrel
          clear HR0
          have t1 := hmk.out.tc
          have s1 := HS0.out _ hmk.out.lay
          by_cases hke : k < E
          · have hke' : (k : Int) < (E : Int) := by omega
            have n0 : (0 : Int) ≤ (k : Int) := by omega
            have n1 : (k : Int) < (L.length : Int) := by omega
            have hkl : k < L.length := by omega
            obtain ⟨f1, f2, f3⟩ := HX.out k hmk' hke
            have q0 := hmk.out.lay.kind hkl
            have q8 := hmk.out.d k hkl
            have q9 := hmk.out.fz k hkl
            have i5 : IntKind.i64.wrap ((k : Int) + ((endOf L k : Int) - k)) = (endOf L k : Int) := by rw [IntKind.wrap_i64]; omega
            have hnx := ovr_next hov.out hke f2
            have HST : Hid (∀ b : Bool, MW w.heap.size g o cap gd gw L T (upd D k b) (wr.setCell ⟨gd, k, none⟩ (.bool b)) ∧ Below gd w4 (wr.setCell ⟨gd, k, none⟩ (.bool b))) := fun b => ⟨hmk.out.step lN lG hgw k hkl b, hBk.out.setCell (p := ⟨gd, k, none⟩) (Nat.le_refl _) _⟩
            have HF3 : Hid ((nd L k).size = (endOf L k : Int) - k) := f3
            clear f3 hov
            cases oo with
            | true =>
              by_cases h16 : (nd L k).kind = 16
              · rw [decide_eq_true h16] at hnx
                rw [h16] at q0
                obtain ⟨mw1, bl1⟩ := HST.out false
                obtain ⟨W1, hW1⟩ : ∃ W1, wr.setCell ⟨gd, k, none⟩ (.bool false) = W1 := ⟨_, rfl⟩
                rw [hW1] at mw1 bl1
                have t2 := mw1.tc
                have y2 := mw1.tw.e k hkl
                have m8 := mw1.lay.size hkl
                rw [HF3.out] at m8
                have HM1 : Hid (MW w.heap.size g o cap gd gw L T (upd D k false) W1) := mw1
                have HB1 : Hid (Below gd w4 W1) := bl1
                clear mw1 bl1 h16
                cases tk : (T k).2 with
                | true =>
                  rw [tk] at y2 hnx
                  have HNX : Hid (∃ f, E - endOf L k ≤ f ∧ ovr L T E f (endOf L k) true (upd D k false) = X) := hnx
                  clear hnx HF3
                  generalize endOf L k = F at *
                  go_wp2
                  exact ⟨⟨F, true, _, rfl, by first | rfl | (congr 1; omega), by omega, f1, HNX, HM1, HB1⟩, by simp [intOf]; omega⟩
                | false =>
                  rw [tk] at y2 hnx
                  have HNX : Hid (∃ f, E - endOf L k ≤ f ∧ ovr L T E f (endOf L k) true (upd D k false) = X) := hnx
                  clear hnx HF3
                  generalize endOf L k = F at *
                  go_wp2
                  exact ⟨⟨F, true, _, rfl, by first | rfl | (congr 1; omega), by omega, f1, HNX, HM1, HB1⟩, by simp [intOf]; omega⟩
              · rw [decide_eq_false h16] at hnx
                have h16' : ((nd L k).kind != 16) = true := by simpa using h16
                obtain ⟨mw1, bl1⟩ := HST.out true
                obtain ⟨W1, hW1⟩ : ∃ W1, wr.setCell ⟨gd, k, none⟩ (.bool true) = W1 := ⟨_, rfl⟩
                rw [hW1] at mw1 bl1
                have t2 := mw1.tc
                have y2 := mw1.tw.e k hkl
                have m8 := mw1.lay.size hkl
                rw [HF3.out] at m8
                have HM1 : Hid (MW w.heap.size g o cap gd gw L T (upd D k true) W1) := mw1
                have HB1 : Hid (Below gd w4 W1) := bl1
                clear mw1 bl1 h16
                cases tk : (T k).2 with
                | true =>
                  rw [tk] at y2 hnx
                  have HNX : Hid (∃ f, E - endOf L k ≤ f ∧ ovr L T E f (endOf L k) true (upd D k true) = X) := hnx
                  clear hnx HF3
                  generalize endOf L k = F at *
                  generalize (nd L k).kind = q at *
                  go_wp2
                  exact ⟨⟨F, true, _, rfl, by first | rfl | (congr 1; omega), by omega, f1, HNX, HM1, HB1⟩, by simp [intOf]; omega⟩
                | false =>
                  rw [tk] at y2 hnx
                  have HNX : Hid (∃ f, E - endOf L k ≤ f ∧ ovr L T E f (endOf L k) true (upd D k true) = X) := hnx
                  clear hnx HF3
                  generalize endOf L k = F at *
                  generalize (nd L k).kind = q at *
                  go_wp2
                  exact ⟨⟨F, true, _, rfl, by first | rfl | (congr 1; omega), by omega, f1, HNX, HM1, HB1⟩, by simp [intOf]; omega⟩
            | false =>
              by_cases h16 : (nd L k).kind = 16
              · rw [decide_eq_true h16] at hnx
                rw [h16] at q0
                obtain ⟨mw1, bl1⟩ := HST.out false
                obtain ⟨W1, hW1⟩ : ∃ W1, wr.setCell ⟨gd, k, none⟩ (.bool false) = W1 := ⟨_, rfl⟩
                rw [hW1] at mw1 bl1
                have t2 := mw1.tc
                have y2 := mw1.tw.e k hkl
                have m8 := mw1.lay.size hkl
                rw [HF3.out] at m8
                have HM1 : Hid (MW w.heap.size g o cap gd gw L T (upd D k false) W1) := mw1
                have HB1 : Hid (Below gd w4 W1) := bl1
                clear mw1 bl1 h16
                cases tk : (T k).2 with
                | true =>
                  rw [tk] at y2 hnx
                  have HNX : Hid (∃ f, E - endOf L k ≤ f ∧ ovr L T E f (endOf L k) false (upd D k false) = X) := hnx
                  clear hnx HF3
                  generalize endOf L k = F at *
                  go_wp2
                  exact ⟨⟨F, false, _, rfl, by first | rfl | (congr 1; omega), by omega, f1, HNX, HM1, HB1⟩, by simp [intOf]; omega⟩
                | false =>
                  rw [tk] at y2 hnx
                  have HNX : Hid (∃ f, E - endOf L k ≤ f ∧ ovr L T E f (endOf L k) true (upd D k false) = X) := hnx
                  clear hnx HF3
                  generalize endOf L k = F at *
                  go_wp2
                  exact ⟨⟨F, true, _, rfl, by first | rfl | (congr 1; omega), by omega, f1, HNX, HM1, HB1⟩, by simp [intOf]; omega⟩
              · rw [decide_eq_false h16] at hnx
                have h16' : ((nd L k).kind != 16) = true := by simpa using h16
                obtain ⟨mw1, bl1⟩ := HST.out false
                obtain ⟨W1, hW1⟩ : ∃ W1, wr.setCell ⟨gd, k, none⟩ (.bool false) = W1 := ⟨_, rfl⟩
                rw [hW1] at mw1 bl1
                have t2 := mw1.tc
                have y2 := mw1.tw.e k hkl
                have m8 := mw1.lay.size hkl
                rw [HF3.out] at m8
                have HM1 : Hid (MW w.heap.size g o cap gd gw L T (upd D k false) W1) := mw1
                have HB1 : Hid (Below gd w4 W1) := bl1
                clear mw1 bl1 h16
                cases tk : (T k).2 with
                | true =>
                  rw [tk] at y2 hnx
                  have HNX : Hid (∃ f, E - endOf L k ≤ f ∧ ovr L T E f (endOf L k) false (upd D k false) = X) := hnx
                  clear hnx HF3
                  generalize endOf L k = F at *
                  generalize (nd L k).kind = q at *
                  go_wp2
                  exact ⟨⟨F, false, _, rfl, by first | rfl | (congr 1; omega), by omega, f1, HNX, HM1, HB1⟩, by simp [intOf]; omega⟩
                | false =>
                  rw [tk] at y2 hnx
                  have HNX : Hid (∃ f, E - endOf L k ≤ f ∧ ovr L T E f (endOf L k) true (upd D k false) = X) := hnx
                  clear hnx HF3
                  generalize endOf L k = F at *
                  generalize (nd L k).kind = q at *
                  go_wp2
                  exact ⟨⟨F, true, _, rfl, by first | rfl | (congr 1; omega), by omega, f1, HNX, HM1, HB1⟩, by simp [intOf]; omega⟩
          · obtain rfl : k = E := by omega
            have hnn : ¬ ((k : Int) < (k : Int)) := by omega
            have hDX := ovr_end hov.out
            have HM1 : Hid (MW w.heap.size g o cap gd gw L T (refD L T (m + 1)) wr) := by show MW _ _ _ _ _ _ _ _ _ _; rw [HXX.out, ← hDX]; exact hmk.out
            clear hov hDX hmk
            go_wp2
            exact ⟨⟨m + 1, by first | rfl | simp, by omega, HM1, hBk⟩, by simp [intOf]; omega⟩
      · rw [if_neg k4] at HR
        have k4' : ((nd L m).kind == 4) = false := by simpa using k4
        have HM1 : Hid (MW w.heap.size g o cap gd gw L T (refD L T (m + 1)) wr) := by show MW _ _ _ _ _ _ _ _ _ _; rw [HR.out]; exact hmw.out
        clear HR
        generalize (nd L m).kind = q at *
        go_wp2
        exact ⟨⟨m + 1, by first | rfl | simp, by omega, HM1, hB⟩, by simp [intOf]; omega⟩
    · obtain rfl : m = L.length := by omega
      have hnn : ¬ ((L.length : Int) < (L.length : Int)) := by omega
      have HEND : Hid (outP (refD L T L.length) L.length = outD L T) := rfl
      have HMW : Hid (MW w.heap.size g o cap gd gw L T (refD L T L.length) wr) := hmw
      obtain ⟨wY, hwY⟩ : ∃ wY, wr = wY := ⟨_, rfl⟩
      rw [hwY] at hmw hB HMW t0 ⊢
      have sY := hB.out.size
      have s4 := B4.out.size
      have lY : gd < wY.heap.size := hmw.out.dl
      clear hwY hmw
      generalize refD L T L.length = D at *
      go_wp2_with fail
      go_loopw [9, 10] (fun v9 v10 wr => ∃ k : Nat, v10 = .int .i64 (k : Int) ∧ k ≤ L.length ∧ Hid (wr.ownsRow wY.heap.size 3 1 v9 (outP D k).length (iv (nI (outP D k)))) ∧ Hid (Below wY.heap.size wY wr)) (fun _ v _ => L.length - (intOf v).toNat)
      case atStart => exact ⟨0, rfl, by omega, World.ownsRow_nil _ _ _ _, Below.refl _ _⟩
      case round =>
        obtain ⟨k, rfl, hk, hO, hBk⟩ := hrel
        by_cases hkl : k < L.length
        · have hke' : (k : Int) < (L.length : Int) := by omega
          have n0 : (0 : Int) ≤ (k : Int) := by omega
          have i5 : IntKind.i64.wrap ((k : Int) + 1) = (k : Int) + 1 := by rw [IntKind.wrap_i64]; omega
          have q0 : wr.cell? ⟨gd, k, none⟩ = some (.bool (D k)) := (hBk.out.cell (p := ⟨gd, k, none⟩) lY).trans (HMW.out.d k hkl)
          have HNX : Hid (outP D (k + 1) = if D k = true then outP D k ++ [k] else outP D k) := outP_next D k
          have hpl := outP_len D k
          cases hD : D k with
          | true =>
            rw [hD] at q0
            rw [hD, if_pos rfl] at HNX
            obtain ⟨wb, hwb⟩ : ∃ wb, wr.alloc (.cells #[.int .i64 (k : Int)] 3) = wb := ⟨_, rfl⟩
            have bb : Below wr.heap.size wr wb := by rw [← hwb]; exact (Below.refl _ wr).alloc (Nat.le_refl _) _
            have hsr : Src wb (.slice (some ⟨wr.heap.size, 0, none⟩) 1 1) [k] := .inr ⟨_, _, rfl, by rw [← hwb]; simp, fun j x hx => by
              cases j with
              | zero => simp only [iv, nI, List.map_cons, List.map_nil, List.getElem?_cons_zero, Option.some.injEq] at hx; rw [← hx, ← hwb]; exact cell_new _ _ _ _ _ rfl
              | succ j => simp [iv, nI] at hx⟩
            obtain ⟨vn, wn, hrun, hon, hbn, -⟩ := run_src wb wY.heap.size u9 _ (outP D k) [k] (own_stays hO.out bb) hsr (Nat.le_trans hBk.out.size bb.size) (by simp only [List.length_cons, List.length_nil]; omega)
            have HON : Hid (wn.ownsRow wY.heap.size 3 1 vn (outP D (k + 1)).length (iv (nI (outP D (k + 1))))) := by show World.ownsRow _ _ _ _ _ _ _; rw [HNX.out]; exact hon
            have HBN : Hid (Below wY.heap.size wY wn) := (hBk.out.trans (bb.mono hBk.out.size)).trans hbn
            clear hsr hon hbn bb hO hBk
            go_wp2_with (first
              | (at_builtin; refine wpList_run25 rfl _ _ rfl u9 _ vn rfl rfl rfl hrun ?_)
              | go_in)
            exact ⟨⟨k + 1, by simp, by omega, HON, HBN⟩, by simp [intOf]; omega⟩
          | false =>
            rw [hD] at q0
            rw [hD, if_neg (by decide)] at HNX
            go_wp2
            exact ⟨⟨k + 1, by simp, by omega, by rw [HNX.out]; exact hO, hBk⟩, by simp [intOf]; omega⟩
        · obtain rfl : k = L.length := by omega
          have hn2 : ¬ ((L.length : Int) < (L.length : Int)) := by omega
          rw [HEND.out] at hO
          go_wp2
          go_ret
          exact ⟨⟨_, rfl, own_base hO.out (by omega)⟩, (B4.out.trans (hB.out.mono (by omega))).trans (hBk.out.mono (by omega))⟩
end Go.Proofs.YtlocaalipjjnpaaDoor
