import Derived.Test.YtdcioemjmmhbhaaDoorRPut
import Derived.Test.YtdcioemjmmhbhaaDoorTake
namespace Go.Proofs.YtdcioemjmmhbhaaDoor
open Go.RowKit

theorem rnew_heap (w : World) (l : Nat) (hl : l ≤ 100000) : RHeap (w.alloc (.cells #[.int .i64 (l : Int), .slice none 0 0, .slice none 0 0] 68)) w.heap.size l [] [] (.slice none 0 0) (.slice none 0 0) (fun b => b = w.heap.size) := by
  have hn := World.alloc_heap_new w (.cells #[.int .i64 (l : Int), .slice none 0 0, .slice none 0 0] 68)
  exact {
    blk := ⟨_, hn, by simp⟩
    c0 := by unfold World.cell?; rw [hn]; rfl
    c1 := by unfold World.cell?; rw [hn]; rfl
    c2 := by unfold World.cell?; rw [hn]; rfl
    md := World.ownsRow_nil _ _ _ _
    ps := World.ownsRow_nil _ _ _ _
    fp := rfl
    fm := fun g hg => by cases hg
    fs := fun g hg => by cases hg
    flt := fun g hg => by subst hg; simp
    top := hl
    le := Nat.zero_le _
    ok := fun m hm => by cases hm }
theorem rel_nil : RelA [] [] [] := ⟨rfl, fun k a m h => by simp at h, fun d hd => by cases hd⟩

set_option maxHeartbeats 1000000 in
set_option maxRecDepth 100000 in
theorem rnew_any (n : Int) (w : World) : Calls Tryd.prog 43 #[.int .i64 n] w fun e w' => e = .returned (.pointer (some ⟨w.heap.size, 0, none⟩)) ∧ Hid (RefOf w' w.heap.size (limS n) [] 0 (fun b => b = w.heap.size)) ∧ Below w.heap.size w w' := by
  have key : ∀ l : Nat, l ≤ 100000 → RefOf (w.alloc (.cells #[.int .i64 (l : Int), .slice none 0 0, .slice none 0 0] 68)) w.heap.size l [] 0 (fun b => b = w.heap.size) := fun l hl => ⟨[], [], _, _, rnew_heap w l hl, rel_nil, Nat.le_refl _⟩
  have B0 : ∀ o : Obj, Below w.heap.size w (w.alloc o) := fun o => (Below.refl _ w).alloc (Nat.le_refl _) _
  by_cases h0 : n < 0
  · have e : limS n = 0 := by unfold limS; rw [if_pos h0]
    rw [e]
    have K := key 0 (by omega)
    clear e
    go_enter Tryd.func43, Tryd.ntmps43
    go_wp2
    go_ret
    exact ⟨rfl, K, B0 _⟩
  · by_cases h1 : 100000 < n
    · have e : limS n = 100000 := by unfold limS; rw [if_neg h0, if_pos h1]
      rw [e]
      have K := key 100000 (by omega)
      clear e
      go_enter Tryd.func43, Tryd.ntmps43
      go_wp2
      go_ret
      exact ⟨rfl, K, B0 _⟩
    · have e : limS n = n.toNat := by unfold limS; rw [if_neg h0, if_neg h1]
      rw [e]
      obtain ⟨m, rfl⟩ : ∃ m : Nat, n = (m : Int) := ⟨n.toNat, by omega⟩
      rw [Int.toNat_natCast]
      have K := key m (by omega)
      clear e
      go_enter Tryd.func43, Tryd.ntmps43
      go_wp2
      go_ret
      exact ⟨rfl, K, B0 _⟩

set_option maxRecDepth 100000 in
set_option maxHeartbeats 4000000 in
theorem rclone_at {w : World} {p lim N : Nat} {Md : List Mr} {Ps : List Dn} {mv pv : Value} {F : Nat → Prop} {A : Hp} (h : RHeap w p lim Md Ps mv pv F) (hr : RelA Md Ps A) (hN : Ps.length ≤ N) (hNb : N ≤ 2000000000000) :
    Calls Tryd.prog 28 #[.pointer (some ⟨p, 0, none⟩)] w fun e w' => e = .returned (.pointer (some ⟨w.heap.size, 0, none⟩)) ∧ Hid (∃ F', RefOf w' w.heap.size lim A N F' ∧ (∀ b, F' b → w.heap.size ≤ b) ∧ Below w.heap.size w w') := by
  have hlen := h.len
  have hlim := h.top
  have hle := h.le
  have hok := h.ok
  have HH : Hid (∀ W, Below w.heap.size w W → RHeap W p lim Md Ps mv pv F) := fun W hW => h.next hW
  obtain ⟨mq, mcp, rfl, -⟩ := h.mdAt
  obtain ⟨pq, pcp, rfl, -⟩ := h.psAt
  have c0 := h.c0
  have HP0 : ∀ {x : Nat}, p ≠ w.heap.size + x := fun {x} => by have := h.blk.lt; omega
  have B1 : Below w.heap.size w (w.alloc (.cells #[.int .i64 (lim : Int), .slice none 0 0, .slice none 0 0] 68)) := (Below.refl _ w).alloc (Nat.le_refl _) _
  have HI0 : Hid (∃ mv' F', RHeap (w.alloc (.cells #[.int .i64 (lim : Int), .slice none 0 0, .slice none 0 0] 68)) w.heap.size lim (Md.take 0) [] mv' (.slice none 0 0) F' ∧ (∀ b, F' b → w.heap.size ≤ b) ∧ Below w.heap.size w (w.alloc (.cells #[.int .i64 (lim : Int), .slice none 0 0, .slice none 0 0] 68))) := ⟨_, _, rnew_heap w lim hlim, fun b hb => by omega, B1⟩
  clear h
  go_enter Tryd.func28, Tryd.ntmps28
  go_wp2_with fail
  generalize w.alloc (.cells #[.int .i64 (lim : Int), .slice none 0 0, .slice none 0 0] 68) = w1 at B1 HI0 ⊢
  clear c0
  go_loopw [4] (fun v wr => ∃ k : Nat, k ≤ Md.length ∧ v = .int .i64 (k : Int) ∧ Hid (∃ mv' F', RHeap wr w.heap.size lim (Md.take k) [] mv' (.slice none 0 0) F' ∧ (∀ b, F' b → w.heap.size ≤ b) ∧ Below w.heap.size w wr)) (fun v _ => Md.length - (intOf v).toNat)
  case atStart => exact ⟨0, Nat.zero_le _, rfl, HI0⟩
  case round =>
    obtain ⟨k, hk, rfl, hI⟩ := hrel
    clear HI0 B1
    obtain ⟨mv', F', h', hF', hB⟩ := hI.out
    have hc1 := (HH.out wr hB).c1
    by_cases hlt : k < Md.length
    · obtain ⟨g, e, m0, m1⟩ : ∃ g, mq = some ⟨g, 0, none⟩ ∧ wr.cell? ⟨g, k * 2, none⟩ = some (.int .i64 Md[k].1) ∧ wr.cell? ⟨g, k * 2 + 1, none⟩ = some (.int .i64 (Md[k].2 : Int)) := by
        obtain ⟨q, c, e, hm⟩ := (HH.out wr hB).mdAt
        cases e
        exact hm k hlt
      subst e
      have hd1 := h'.c1
      obtain ⟨oq, ocp, rfl, -⟩ := h'.mdAt
      have htl : (Md.take k).length = k := by rw [List.length_take]; omega
      rw [htl] at hd1
      have htk : Md.take (k + 1) = Md.take k ++ [Md[k]] := List.take_succ_eq_append_getElem hlt
      have hul := usedM_le Md (k + 1)
      rw [usedM_take Md k hlt] at hul
      have hokk := hok Md[k] (List.getElem_mem hlt)
      generalize Md[k] = m at m0 m1 htk hul hokk
      obtain ⟨m1', m2'⟩ := m
      simp only at m0 m1 hul hokk
      have k0 : (0 : Int) ≤ (k : Int) := by omega
      have k1 : (k : Int) < (Md.length : Int) := by omega
      have HZD : Below wr.heap.size wr wr.drew := (Below.refl _ _).drew
      have hD := h'.next HZD
      have nbA : Below wr.heap.size wr (wr.alloc (.cells #[.int .i64 m1', .int .i64 (m2' : Int)] 108)) := (Below.refl _ wr).alloc (Nat.le_refl _) _
      have hc1a := (HH.out _ (below2 hB nbA)).c1
      have hd1a := (h'.next nbA).c1
      rw [htl] at hd1a
      have HOW : Hid ((wr.drew.alloc (.cells #[.int .i64 m1', .int .i64 (m2' : Int)] 108)).ownsRow 0 108 2 (.slice oq k ocp) k ((Md.take k).flatMap mc) ∧ (wr.drew.alloc (.cells #[.int .i64 m1', .int .i64 (m2' : Int)] 108)).rangeAt wr.heap.size 0 [.int .i64 m1', .int .i64 (m2' : Int)]) := by
        refine ⟨?_, fun j' u hu => ?_⟩
        · have := hD.md.alloc (.cells #[.int .i64 m1', .int .i64 (m2' : Int)] 108)
          rw [htl] at this
          exact this
        · rw [Nat.zero_add]
          have e := World.alloc_heap_new wr.drew (.cells #[.int .i64 m1', .int .i64 (m2' : Int)] 108)
          have e2 : (wr.drew.alloc (.cells #[.int .i64 m1', .int .i64 (m2' : Int)] 108)).heap[wr.heap.size]? = some (.cells #[.int .i64 m1', .int .i64 (m2' : Int)] 108) := e
          simp only [World.cell?, e2]
          simpa using hu
      have HO2 : Hid (∀ u ∈ ([.int .i64 m1', .int .i64 (m2' : Int)] : List Value), u.oneCell' = true) := fun u hu => by
        simp only [List.mem_cons, List.not_mem_nil, or_false] at hu
        rcases hu with rfl | rfl <;> rfl
      have HFIN : Hid (∀ v5 w5, Hid (w5.ownsRow 0 108 2 v5 (k + 1) ((Md.take k).flatMap mc ++ [.int .i64 m1', .int .i64 (m2' : Int)])) → Hid ((wr.drew.alloc (.cells #[.int .i64 m1', .int .i64 (m2' : Int)] 108)).grownBy w5 (Value.slice oq k ocp).ownBlock ∧ (v5.ownBlock = (Value.slice oq k ocp).ownBlock ∨ v5.ownBlock = some (wr.drew.alloc (.cells #[.int .i64 m1', .int .i64 (m2' : Int)] 108)).heap.size)) →
          (w5.cell? ⟨w.heap.size, 1, none⟩ = some (.slice oq k ocp) ∧ w5.frozen? ⟨w.heap.size, 1, none⟩ = false) ∧ Hid (∃ mv' F', RHeap (w5.setCell ⟨w.heap.size, 1, none⟩ v5) w.heap.size lim (Md.take (k + 1)) [] mv' (.slice none 0 0) F' ∧ (∀ b, F' b → w.heap.size ≤ b) ∧ Below w.heap.size w (w5.setCell ⟨w.heap.size, 1, none⟩ v5))) := fun v5 w5 ho5 hg5 => by
        rw [htl] at hD
        obtain ⟨q1, q2, q3⟩ := hD.growM (m1', m2') (by rw [htl]; exact ho5.out) hg5.out.1 (by show usedM (Md.take k) + m2' + 1 ≤ lim; omega) hokk
        refine ⟨q1, v5, _, by rw [htk]; exact q2, fun b hb => ?_, (below2 hB HZD).trans (q3.below hF' (Nat.le_trans hB.size HZD.size))⟩
        rcases hb with q | q
        · exact hF' b q
        · rcases hg5.out.2 with r | r
          · exact hF' b (hD.fm b (r ▸ q))
          · rw [r] at q
            cases q
            have := hB.size
            simp
            omega
      rw [htl] at *
      clear h' hD hI htk hul hokk
      go_wp2_with fail
      go_region_law (first
        | (refine step_appD 65 108 _ 2 16 Tryd.underlying65 info108 (by rfl) (by decide) (by rfl) _ _ (by rfl) 0 _ k ((Md.take k).flatMap mc) (by rfl) HOW.out.1 wr.heap.size [.int .i64 m1', .int .i64 (m2' : Int)] (by rfl) HO2.out (by rfl) HOW.out.2 (by unfold maxLen; omega) (by omega) (Nat.zero_le _) ?_; intro v5 w5 ho5 hg5; obtain ⟨q5, c5, rfl, -, -⟩ := own_slice ho5.out; obtain ⟨⟨d3, e3⟩, HTW⟩ := HFIN.out _ w5 ho5 hg5))
      all_goals
        clear HFIN HOW ho5 hg5 m0 m1 hc1 hd1 hc1a hd1a d3 e3
        generalize w5.setCell ⟨w.heap.size, 1, none⟩ (.slice q5 (k + 1) c5) = Z at HTW ⊢
        go_wp2
        exact ⟨⟨k + 1, by omega, by go_num, HTW⟩, by simp [intOf]; omega⟩
    obtain rfl : k = Md.length := by omega
    rw [List.take_length] at h'
    have HI2 : Hid (∃ pv' F', RHeap wr w.heap.size lim Md (Ps.take 0) mv' pv' F' ∧ (∀ b, F' b → w.heap.size ≤ b) ∧ Below w.heap.size w wr) := ⟨_, _, h', hF', hB⟩
    clear hI h' hF'
    have hc2 := (HH.out wr hB).c2
    have hPl : Ps.length ≤ 2000000000000 := by omega
    clear hB
    go_wp2_with fail
    clear hc1 hc2
    go_loopw [5] (fun v wr => ∃ k : Nat, k ≤ Ps.length ∧ v = .int .i64 (k : Int) ∧ Hid (∃ pv' F', RHeap wr w.heap.size lim Md (Ps.take k) mv' pv' F' ∧ (∀ b, F' b → w.heap.size ≤ b) ∧ Below w.heap.size w wr)) (fun v _ => Ps.length - (intOf v).toNat)
    case atStart => exact ⟨0, Nat.zero_le _, rfl, HI2⟩
    case round =>
      obtain ⟨k, hk, rfl, hI⟩ := hrel
      clear HI2
      obtain ⟨pv', F', h', hF', hB⟩ := hI.out
      have hc2 := (HH.out wr hB).c2
      by_cases hlt2 : k < Ps.length
      · obtain ⟨g, e, p0, p1, p2, p3, p4⟩ : ∃ g, pq = some ⟨g, 0, none⟩ ∧ wr.cell? ⟨g, k * 5, none⟩ = some (.int .i64 (Ps[k].1 : Int)) ∧ wr.cell? ⟨g, k * 5 + 1, none⟩ = some (.int .i64 (Ps[k].2.1 : Int)) ∧ wr.cell? ⟨g, k * 5 + 2, none⟩ = some (.int .i64 Ps[k].2.2.1) ∧ wr.cell? ⟨g, k * 5 + 3, none⟩ = some (.int .i64 Ps[k].2.2.2.1) ∧ wr.cell? ⟨g, k * 5 + 4, none⟩ = some (.string Ps[k].2.2.2.2) := by
          obtain ⟨q, c, e, hm⟩ := (HH.out wr hB).psAt
          cases e
          exact hm k hlt2
        subst e
        have hd2 := h'.c2
        obtain ⟨oq, ocp, rfl, -⟩ := h'.psAt
        have htl : (Ps.take k).length = k := by rw [List.length_take]; omega
        rw [htl] at hd2
        have htk : Ps.take (k + 1) = Ps.take k ++ [Ps[k]] := List.take_succ_eq_append_getElem hlt2
        generalize Ps[k] = d at p0 p1 p2 p3 p4 htk
        obtain ⟨d1, d2, d3, d4, d5⟩ := d
        simp only at p0 p1 p2 p3 p4
        have k0 : (0 : Int) ≤ (k : Int) := by omega
        have k1 : (k : Int) < (Ps.length : Int) := by omega
        have HZD : Below wr.heap.size wr wr.drew := (Below.refl _ _).drew
        have hD := h'.next HZD
        have nbA : Below wr.heap.size wr (wr.alloc (.cells #[.int .i64 (d1 : Int), .int .i64 (d2 : Int), .int .i64 d3, .int .i64 d4, .string d5] 106)) := (Below.refl _ wr).alloc (Nat.le_refl _) _
        have hc2a := (HH.out _ (below2 hB nbA)).c2
        have hd2a := (h'.next nbA).c2
        rw [htl] at hd2a
        have HOW : Hid ((wr.drew.alloc (.cells #[.int .i64 (d1 : Int), .int .i64 (d2 : Int), .int .i64 d3, .int .i64 d4, .string d5] 106)).ownsRow 0 106 5 (.slice oq k ocp) k ((Ps.take k).flatMap dc) ∧ (wr.drew.alloc (.cells #[.int .i64 (d1 : Int), .int .i64 (d2 : Int), .int .i64 d3, .int .i64 d4, .string d5] 106)).rangeAt wr.heap.size 0 [.int .i64 (d1 : Int), .int .i64 (d2 : Int), .int .i64 d3, .int .i64 d4, .string d5]) := by
          refine ⟨?_, fun j' u hu => ?_⟩
          · have := hD.ps.alloc (.cells #[.int .i64 (d1 : Int), .int .i64 (d2 : Int), .int .i64 d3, .int .i64 d4, .string d5] 106)
            rw [htl] at this
            exact this
          · rw [Nat.zero_add]
            have e := World.alloc_heap_new wr.drew (.cells #[.int .i64 (d1 : Int), .int .i64 (d2 : Int), .int .i64 d3, .int .i64 d4, .string d5] 106)
            have e2 : (wr.drew.alloc (.cells #[.int .i64 (d1 : Int), .int .i64 (d2 : Int), .int .i64 d3, .int .i64 d4, .string d5] 106)).heap[wr.heap.size]? = some (.cells #[.int .i64 (d1 : Int), .int .i64 (d2 : Int), .int .i64 d3, .int .i64 d4, .string d5] 106) := e
            simp only [World.cell?, e2]
            simpa using hu
        have HO2 : Hid (∀ u ∈ ([.int .i64 (d1 : Int), .int .i64 (d2 : Int), .int .i64 d3, .int .i64 d4, .string d5] : List Value), u.oneCell' = true) := fun u hu => by
          simp only [List.mem_cons, List.not_mem_nil, or_false] at hu
          rcases hu with rfl | rfl | rfl | rfl | rfl <;> rfl
        have HFIN : Hid (∀ v5 w5, Hid (w5.ownsRow 0 106 5 v5 (k + 1) ((Ps.take k).flatMap dc ++ [.int .i64 (d1 : Int), .int .i64 (d2 : Int), .int .i64 d3, .int .i64 d4, .string d5])) → Hid ((wr.drew.alloc (.cells #[.int .i64 (d1 : Int), .int .i64 (d2 : Int), .int .i64 d3, .int .i64 d4, .string d5] 106)).grownBy w5 (Value.slice oq k ocp).ownBlock ∧ (v5.ownBlock = (Value.slice oq k ocp).ownBlock ∨ v5.ownBlock = some (wr.drew.alloc (.cells #[.int .i64 (d1 : Int), .int .i64 (d2 : Int), .int .i64 d3, .int .i64 d4, .string d5] 106)).heap.size)) →
            (w5.cell? ⟨w.heap.size, 2, none⟩ = some (.slice oq k ocp) ∧ w5.frozen? ⟨w.heap.size, 2, none⟩ = false) ∧ Hid (∃ pv' F', RHeap (w5.setCell ⟨w.heap.size, 2, none⟩ v5) w.heap.size lim Md (Ps.take (k + 1)) mv' pv' F' ∧ (∀ b, F' b → w.heap.size ≤ b) ∧ Below w.heap.size w (w5.setCell ⟨w.heap.size, 2, none⟩ v5))) := fun v5 w5 ho5 hg5 => by
          rw [htl] at hD
          obtain ⟨q1, q2, q3⟩ := hD.growP (d1, d2, (d3, d4, d5)) (by rw [htl]; exact ho5.out) hg5.out.1
          refine ⟨q1, v5, _, by rw [htk]; exact q2, fun b hb => ?_, (below2 hB HZD).trans (q3.below hF' (Nat.le_trans hB.size HZD.size))⟩
          rcases hb with q | q
          · exact hF' b q
          · rcases hg5.out.2 with r | r
            · exact hF' b (hD.fs b (r ▸ q))
            · rw [r] at q
              cases q
              have := hB.size
              simp
              omega
        rw [htl] at *
        clear h' hD hI htk
        go_wp2_with fail
        go_region_law (first
          | (refine step_appD 66 106 _ 5 48 Tryd.underlying66 info106 (by rfl) (by decide) (by rfl) _ _ (by rfl) 0 _ k ((Ps.take k).flatMap dc) (by rfl) HOW.out.1 wr.heap.size [.int .i64 (d1 : Int), .int .i64 (d2 : Int), .int .i64 d3, .int .i64 d4, .string d5] (by rfl) HO2.out (by rfl) HOW.out.2 (by unfold maxLen; omega) (by omega) (Nat.zero_le _) ?_; intro v5 w5 ho5 hg5; obtain ⟨q5, c5, rfl, -, -⟩ := own_slice ho5.out; obtain ⟨⟨d3, e3⟩, HTW⟩ := HFIN.out _ w5 ho5 hg5))
        all_goals
          clear HFIN HOW ho5 hg5 p0 p1 p2 p3 p4 hc2 hd2 hc2a hd2a
          generalize w5.setCell ⟨w.heap.size, 2, none⟩ (.slice q5 (k + 1) c5) = Z at HTW ⊢
          go_wp2
          exact ⟨⟨k + 1, by omega, by go_num, HTW⟩, by simp [intOf]; omega⟩
      obtain rfl : k = Ps.length := by omega
      rw [List.take_length] at h'
      have HEND : Hid (∃ F', RefOf wr w.heap.size lim A N F' ∧ (∀ b, F' b → w.heap.size ≤ b) ∧ Below w.heap.size w wr) := ⟨F', ⟨Md, Ps, _, _, h', hr, hN⟩, hF', hB⟩
      clear h' hI hB
      go_wp2
      first | (change bodyPost Tryd.prog Tryd.f28 _ Exit.ret _ _) | (simp only [Exit.noGoto])
      go_ret
      exact ⟨rfl, HEND⟩
theorem rclone_any {w : World} {p lim N : Nat} {A : Hp} {F : Nat → Prop} (h : RefOf w p lim A N F) (hNb : N ≤ 2000000000000) :
    Calls Tryd.prog 28 #[.pointer (some ⟨p, 0, none⟩)] w fun e w' => e = .returned (.pointer (some ⟨w.heap.size, 0, none⟩)) ∧ Hid (∃ F', RefOf w' w.heap.size lim A N F' ∧ (∀ b, F' b → w.heap.size ≤ b) ∧ Below w.heap.size w w') := by
  obtain ⟨Md, Ps, mv, pv, h1, h2, h3⟩ := h
  exact rclone_at h1 h2 h3 hNb
end Go.Proofs.YtdcioemjmmhbhaaDoor
