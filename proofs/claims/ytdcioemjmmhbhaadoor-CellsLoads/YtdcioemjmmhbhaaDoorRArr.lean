import Derived.Test.YtdcioemjmmhbhaaDoorRPut
import Derived.Test.YtdcioemjmmhbhaaDoorArrs
namespace Go.Proofs.YtdcioemjmmhbhaaDoor
open Go.RowKit

/-- Lists of their own, with whatever room. -/
def LOwn (w : World) (b : Nat) (Ls : List (List V)) (vs : List Value) : Prop := vs.length = Ls.length ∧ ∀ k (hk : k < Ls.length), ∃ q c, vs[k]? = some (.slice q Ls[k].length c) ∧ w.ownsRow b 37 3 (.slice q Ls[k].length c) Ls[k].length (vcs Ls[k])
theorem LOwn.next {w w' : World} {b : Nat} {Ls : List (List V)} {vs : List Value} (h : LOwn w b Ls vs) (k : Below w.heap.size w w') : LOwn w' b Ls vs := ⟨h.1, fun i hi => by obtain ⟨q, c, h1, h2⟩ := h.2 i hi; exact ⟨q, c, h1, own_next h2 k⟩⟩
theorem LOwn.push {w w' : World} {b : Nat} {Ls : List (List V)} {vs : List Value} {v : Value} {n : Nat} (h : LOwn w b Ls vs) (q : Option Addr) (c : Nat) (l : List V) (hl : w.ownsRow b 37 3 (.slice q l.length c) l.length (vcs l)) (ho : w.ownsRow b 59 1 v n vs) (hg : w.grownBy w' v.ownBlock) : LOwn w' b (Ls ++ [l]) (vs ++ [.slice q l.length c]) := by
  have hkeep : ∀ {x : Value} {n : Nat} {xs : List Value}, w.ownsRow b 37 3 x n xs → w'.ownsRow b 37 3 x n xs := fun {x n xs} hx => own_same hx fun g hg' => hg.block g (hx.lt g hg').2 (fun e => own_ne ho (own_blk hx g hg') (by decide) e.symm)
  refine ⟨by simp [h.1], fun k hk => ?_⟩
  by_cases hk' : k < Ls.length
  · obtain ⟨p, c', h1, h2⟩ := h.2 k hk'
    rw [List.getElem_append_left hk']
    exact ⟨p, c', by rw [List.getElem?_append_left (by rw [h.1]; exact hk')]; exact h1, hkeep h2⟩
  · have : k = Ls.length := by rw [List.length_append] at hk; simp at hk; omega
    subst this
    rw [List.getElem_append_right (Nat.le_refl _)]
    simp only [Nat.sub_self, List.getElem_cons_zero]
    exact ⟨q, c, by rw [List.getElem?_append_right (by rw [h.1]; exact Nat.le_refl _), h.1]; simp, hkeep hl⟩
theorem LOwn.lists {w : World} {b b' g c : Nat} {Ls : List (List V)} {vs : List Value} (h : LOwn w b Ls vs) (ho : w.ownsRow b' 59 1 (.slice (some ⟨g, 0, none⟩) Ls.length c) Ls.length vs) : ListsAt w g Ls := fun n hn => by
  obtain ⟨q, c', h1, h2⟩ := h.2 n hn
  refine ⟨q, c', (ho.cellAt (g := g) n (by omega)).trans h1, fun h0 => ?_⟩
  obtain ⟨q', cap, e, _, hr⟩ := own_slice h2
  cases e
  exact hr h0

set_option maxRecDepth 100000 in
set_option maxHeartbeats 4000000 in
theorem rarrays_at {w : World} {p lim : Nat} {Md : List Mr} {Ps : List Dn} {mv pv : Value} {F : Nat → Prop} {A : Hp} (h : RHeap w p lim Md Ps mv pv F) (hr : RelA Md Ps A) (hPl : Ps.length ≤ 4611686018427387904) :
    Calls Tryd.prog 26 #[.pointer (some ⟨p, 0, none⟩)] w fun e w' => ∃ g c, e = .returned (.slice (some ⟨g, 0, none⟩) (A.length + 1) c) ∧ Hid (ListsAt w' g (lsA A)) ∧ Below w.heap.size w w' := by
  have hlen := h.len
  have HH : Hid (∀ W, Below w.heap.size w W → RHeap W p lim Md Ps mv pv F) := fun W hW => h.next hW
  obtain ⟨mq, mcp, rfl, -⟩ := h.mdAt
  have hb1 : Below w.heap.size w (w.alloc (.cells #[.slice none 0 0] 59)) := (Below.refl _ w).alloc (Nat.le_refl _) _
  have HI0 : Hid (∃ vs, (w.alloc (.cells #[.slice none 0 0] 59)).ownsRow w.heap.size 59 1 (.slice (some ⟨w.heap.size, 0, none⟩) 1 1) 1 vs ∧ LOwn (w.alloc (.cells #[.slice none 0 0] 59)) w.heap.size ((lsA A).take 1) vs) := by
    refine ⟨[.slice none 0 0], ⟨rfl, .inr ⟨w.heap.size, 1, _, rfl, Nat.le_refl _, World.alloc_heap_new w _, Nat.le_refl _, by decide, rfl, rfl⟩⟩, rfl, fun k hk => ?_⟩
    have : k = 0 := by simp [lsA] at hk; omega
    subst this
    exact ⟨none, 0, rfl, World.ownsRow_nil _ _ _ _⟩
  clear h
  go_enter Tryd.func26, Tryd.ntmps26
  go_wp2_with fail
  generalize w.alloc (.cells #[.slice none 0 0] 59) = w1 at hb1 HI0 ⊢
  go_loopw [3, 4] (fun v3 v4 wr => ∃ i : Nat, i ≤ A.length ∧ v4 = .int .i64 ((i : Int) + 1) ∧ Hid (∃ vs, wr.ownsRow w.heap.size 59 1 v3 (i + 1) vs ∧ LOwn wr w.heap.size ((lsA A).take (i + 1)) vs) ∧ Hid (Below w.heap.size w wr)) (fun _ v _ => A.length + 1 - (intOf v).toNat)
  case atStart => exact ⟨0, Nat.zero_le _, rfl, HI0, hb1⟩
  case round =>
    obtain ⟨i, hi, rfl, hI, hB⟩ := hrel
    clear HI0 hb1
    have hc1 := (HH.out wr hB.out).c1
    have hAM := hr.len
    by_cases hlt : i < A.length
    case neg =>
      obtain rfl : i = A.length := by omega
      have hji : ¬ ((A.length : Int) + 1 ≤ (Md.length : Int)) := by omega
      obtain ⟨vs, ho, hL⟩ := hI.out
      rw [List.take_of_length_le (by rw [lsA_len]; exact Nat.le_refl _)] at hL
      obtain ⟨q3, c3, rfl, -, hp⟩ := own_slice ho
      obtain ⟨g3, rfl, -⟩ := hp (by omega)
      rw [← lsA_len] at ho
      have HL : Hid (ListsAt wr g3 (lsA A)) := hL.lists ho
      clear hI ho hL hp
      go_wp2
      go_ret
      exact ⟨g3, ⟨c3, rfl⟩, HL, hB.out⟩
    have hiM : i < Md.length := by omega
    have hi1 : (i : Int) + 1 ≤ (Md.length : Int) := by omega
    have hat := hr.at' i A[i] Md[i] (List.getElem?_eq_getElem hlt) (List.getElem?_eq_getElem hiM)
    have hmN := hlen.2 _ (List.getElem_mem hiM)
    have htk : (lsA A).take (i + 1 + 1) = (lsA A).take (i + 1) ++ [A[i].2] := by
      rw [List.take_succ_eq_append_getElem (by rw [lsA_len]; omega)]
      simp [lsA]
    have HME : Hid (Md[i]? = some Md[i]) := List.getElem?_eq_getElem hiM
    have HMD : Hid (∀ W, Below w.heap.size w W → ∃ g, mq = some ⟨g, 0, none⟩ ∧ W.cell? ⟨g, i * 2, none⟩ = some (.int .i64 Md[i].1) ∧ W.cell? ⟨g, i * 2 + 1, none⟩ = some (.int .i64 (Md[i].2 : Int))) := fun W hW => by
      obtain ⟨q, c, e, hm⟩ := (HH.out W hW).mdAt
      cases e
      exact hm i hiM
    generalize A[i] = a at hat htk
    generalize Md[i] = m at hat HME hmN HMD
    obtain ⟨-, ha2, hael⟩ := hat
    obtain ⟨mg, rfl, m0, m1⟩ := HMD.out wr hB.out
    rw [ha2] at hmN
    have i0 : (0 : Int) ≤ (i : Int) := by omega
    have i1 : (i : Int) < (Md.length : Int) := by omega
    have i2 : IntKind.i64.wrap ((i : Int) + 1 - 1) = (i : Int) := by rw [IntKind.wrap_i64]; omega
    have i2' : IntKind.i64.wrap (i : Int) = (i : Int) := by rw [IntKind.wrap_i64]; omega
    have HEL : Hid (∀ j (hj : j < a.2.length) W, Below w.heap.size w W → Calls Tryd.prog 49 #[.pointer (some ⟨p, 0, none⟩), .int .i64 ((i : Int) + 1), .int .i64 (j : Int)] W fun e w' => e = .returned (.agg #[.int .i64 a.2[j].1, .int .i64 a.2[j].2.1, .string a.2[j].2.2]) ∧ Below W.heap.size W w') := fun j hj W hW => by
      have := relem_any (HH.out W hW) i j m HME.out hPl
      rw [← hael j hj] at this
      exact this
    clear hael m0 m1
    obtain ⟨wc, hwc⟩ : ∃ wc, wc = wr := ⟨_, rfl⟩
    go_wp2_with fail
    generalize wr = wx at *
    subst hwc
    clear hc1
    go_loopw [5, 6] (fun v5 v6 wr => ∃ j : Nat, j ≤ a.2.length ∧ v6 = .int .i64 (j : Int) ∧ Hid (wr.ownsRow wc.heap.size 37 3 v5 j (vcs (a.2.take j))) ∧ Hid (Below wc.heap.size wc wr)) (fun _ v _ => a.2.length - (intOf v).toNat)
    case atStart => exact ⟨0, Nat.zero_le _, rfl, World.ownsRow_nil _ _ _ _, Below.refl _ _⟩
    case round =>
      obtain ⟨j, hj, rfl, hO, hB2⟩ := hrel
      have hBW := below2 hB.out hB2.out
      have hc1 := (HH.out wr hBW).c1
      obtain ⟨g', e', -, m1⟩ := HMD.out wr hBW
      cases e'
      rw [ha2] at m1
      by_cases hjl : j < a.2.length
      · have hj1 : (j : Int) < (a.2.length : Int) := by omega
        have hE := HEL.out j hjl wr hBW
        have hsz := hB2.out.size
        have htk2 : a.2.take (j + 1) = a.2.take j ++ [a.2[j]] := List.take_succ_eq_append_getElem hjl
        generalize a.2[j] = y at hE htk2
        obtain ⟨yk, yn, ys⟩ := y
        simp only at hE
        have HAP : Hid (∀ wS, Below wr.heap.size wr wS → ∃ v' w', (Builtin.append_ #[59, 59] 59 #[u5, .slice (some ⟨wS.heap.size, 0, none⟩) 1 1]).run Tryd.prog (wS.alloc (.cells #[.int .i64 yk, .int .i64 yn, .string ys] 37)) = .ok v' w' ∧ Hid (w'.ownsRow wc.heap.size 37 3 v' (j + 1) (vcs (a.2.take (j + 1)))) ∧ Hid (Below wc.heap.size wc w')) := fun wS hbS => by
          have nb : Below wS.heap.size wS (wS.alloc (.cells #[.int .i64 yk, .int .i64 yn, .string ys] 37)) := (Below.refl _ wS).alloc (Nat.le_refl _) _
          have hbA := below2 hbS nb
          have hbC := below2 hB2.out hbA
          obtain ⟨v', w', e1, e2, e3⟩ := app_any (P := Tryd.prog) 59 59 (.agg #[.int .i64 0, .int .i64 0, .string e0]) 32 Tryd.underlying59 info37 rfl (by decide) (by decide) u5 j (vcs (a.2.take j)) (own_next hO.out hbA) wS.heap.size (vc (yk, yn, ys)) rfl (vc_one _) (fun k u hk => by
            have e := World.alloc_heap_new wS (.cells #[.int .i64 yk, .int .i64 yn, .string ys] 37)
            rw [Nat.zero_add]
            simp only [World.cell?, e]
            simpa [vc] using hk) (by omega) hbC.size
          rw [show vcs (a.2.take j) ++ vc (yk, yn, ys) = vcs (a.2.take (j + 1)) by rw [htk2, vcs_app]; simp [vcs]] at e2
          exact ⟨v', w', e1, e2, hbC.grown e3 hbC.size (fun k hk => (hO.out.lt k hk).1)⟩
        clear hO htk2 hB2
        go_wp2_with (first
          | (go_at_call 49; refine hE.mono ?_; rintro e wS ⟨rfl, hbS⟩; obtain ⟨v', w', hrun, how', hbw'⟩ := HAP.out wS hbS; clear HAP)
          | (at_builtin; refine wpList_apr rfl (.tmp 30) (.tmp 35) 59 rfl hrun ?_)
          | go_in)
        exact ⟨⟨j + 1, by omega, by go_num, how', hbw'⟩, by simp [intOf]; omega⟩
      · obtain rfl : j = a.2.length := by omega
        have hjn : ¬ ((a.2.length : Int) < (a.2.length : Int)) := by omega
        rw [List.take_length] at hO
        obtain ⟨q5, c5, rfl, -, -⟩ := own_slice hO.out
        obtain ⟨vs, ho, hL⟩ := hI.out
        have HAP : Hid (∃ v' w', (Builtin.append_ #[32, 32] 32 #[u3, .slice (some ⟨wr.heap.size, 0, none⟩) 1 1]).run Tryd.prog (wr.alloc (.cells #[.slice q5 a.2.length c5] 59)) = .ok v' w' ∧ Hid (∃ vs, w'.ownsRow w.heap.size 59 1 v' (i + 1 + 1) vs ∧ LOwn w' w.heap.size ((lsA A).take (i + 1 + 1)) vs) ∧ Hid (Below w.heap.size w w')) := by
          have nb : Below wr.heap.size wr (wr.alloc (.cells #[.slice q5 a.2.length c5] 59)) := (Below.refl _ wr).alloc (Nat.le_refl _) _
          have hbA := below2 hB2.out nb
          have hbC := below2 hB.out hbA
          have ho' := own_next ho hbA
          obtain ⟨v', w', e1, e2, e3⟩ := app_any (P := Tryd.prog) 32 32 (.slice none 0 0) 24 Tryd.underlying32 info59 rfl (by decide) (by decide) u3 (i + 1) vs ho' wr.heap.size [.slice q5 a.2.length c5] rfl (one_slice _ _ _) (fun k u hk => by
            have e := World.alloc_heap_new wr (.cells #[.slice q5 a.2.length c5] 59)
            rw [Nat.zero_add]
            simp only [World.cell?, e]
            simpa using hk) (by omega) hbC.size
          refine ⟨v', w', e1, ⟨_, e2, ?_⟩, hbC.grown e3 hbC.size (fun k hk => (ho'.lt k hk).1)⟩
          rw [htk]
          exact (hL.next hbA).push q5 c5 a.2 (own_down (own_next hO.out nb) hB.out.size) ho' e3
        obtain ⟨v', w', hrun, e2, e3⟩ := HAP.out
        clear HAP ho hL hO hI
        go_wp2_with (at_builtin; refine wpList_apr rfl (.tmp 37) (.tmp 39) 32 rfl hrun ?_)
        exact ⟨⟨i + 1, by omega, by first | go_num | (push_cast; rfl), e2, e3⟩, by simp [intOf]; omega⟩

theorem rarrays_any {w : World} {p lim N : Nat} {A : Hp} {F : Nat → Prop} (h : RefOf w p lim A N F) (hNb : N ≤ 2000000000000) :
    Calls Tryd.prog 26 #[.pointer (some ⟨p, 0, none⟩)] w fun e w' => ∃ g c, e = .returned (.slice (some ⟨g, 0, none⟩) (A.length + 1) c) ∧ Hid (ListsAt w' g (lsA A)) ∧ Below w.heap.size w w' := by
  obtain ⟨Md, Ps, mv, pv, h1, h2, h3⟩ := h
  exact rarrays_at h1 h2 (by omega)
end Go.Proofs.YtdcioemjmmhbhaaDoor
