import Derived.Test.YtlocaalipjjnpaaDoorN11
import Derived.Test.YtlocaalipjjnpaaDoorN07
namespace Go.Proofs.YtlocaalipjjnpaaDoor
open Go.RowKit

theorem last_at {l : List Int} (h : l ≠ []) : ∃ q x, l = q ++ [x] := ⟨l.dropLast, l.getLast h, (List.dropLast_concat_getLast h).symm⟩

def lenOf : Value → Nat
  | .slice _ n _ => n
  | _ => 0

/-- Some answer. -/
def AnyB (e : Ending) : Prop := ∃ b : Bool, e = .returned (.bool b)
theorem anyB (b : Bool) : AnyB (.returned (.bool b)) := ⟨b, rfl⟩

set_option maxRecDepth 100000 in
set_option maxHeartbeats 1000000 in
/-- Up to that many nodes no list is too deep. -/
theorem deep_small (w : World) (p : Option Addr) (n cap : Nat) (hn : n ≤ 65536) :
    Calls Tryd.prog 9 #[.agg #[.slice p n cap]] w fun e w' => AnyB e ∧ Below w.heap.size w w' := by
  have h0 : ¬ (65536 : Int) < (n : Int) := by omega
  go_enter Tryd.func9, Tryd.ntmps9
  go_wp2
  go_loop [4] (fun v => v = .int .i64 0) (fun _ => 0)
  case atStart => rfl
  case round =>
    subst hrel
    by_cases hp : (0 : Int) < (n : Int)
    · go_wp2
      go_ret
      exact ⟨anyB _, (Below.refl _ _).alloc (Nat.le_refl _) _⟩
    · go_wp2
      go_ret
      exact ⟨anyB _, (Below.refl _ _).alloc (Nat.le_refl _) _⟩

set_option maxRecDepth 100000 in
set_option maxHeartbeats 2000000 in
theorem deep_big (w : World) (g o cap : Nat) (L : List Nd) (hL : L.length ≤ 1353245080300) (hn : 65536 < L.length) (h : Hid (Lay w g o L)) :
    Calls Tryd.prog 9 #[.agg #[.slice (some ⟨g, o, none⟩) L.length cap]] w fun e w' => AnyB e ∧ Below w.heap.size w w' := by
  have h0 : (65536 : Int) < (L.length : Int) := by omega
  obtain ⟨w1, hw1⟩ : ∃ w1, w.alloc (.cells #[.slice (some ⟨g, o, none⟩) L.length cap] 24) = w1 := ⟨_, rfl⟩
  have B1 : Hid (Below w.heap.size w w1) := by rw [← hw1]; exact (Below.refl _ w).alloc (Nat.le_refl _) _
  have c1 : w1.cell? ⟨w.heap.size, 0, none⟩ = some (.slice (some ⟨g, o, none⟩) L.length cap) := by rw [← hw1]; exact cell_new _ _ _ _ _ rfl
  have z1 : w.heap.size < w1.heap.size := by rw [← hw1]; simp
  have L1 : Hid (Lay w1 g o L) := h.out.next B1.out
  go_enter Tryd.func9, Tryd.ntmps9
  go_wp2
  clear hw1 h
  have C1 : Hid (w1.cell? ⟨w.heap.size, 0, none⟩ = some (.slice (some ⟨g, o, none⟩) L.length cap)) := c1
  clear c1
  go_loopw [3, 4] (fun v u wr => ∃ (k : Nat) (l : List Int), k ≤ L.length ∧ u = .int .i64 (k : Int) ∧ l.length ≤ k ∧ l.length ≤ 65536 ∧ Hid (∀ x ∈ l, 0 ≤ x ∧ x ≤ (L.length : Int)) ∧ Hid (wr.ownsRow w1.heap.size 3 1 v l.length (iv l)) ∧ Hid (Below w1.heap.size w1 wr)) (fun _ u _ => L.length - (intOf u).toNat)
  case atStart => exact ⟨0, [], by omega, rfl, by simp, by simp, fun x hx => by simp at hx, World.ownsRow_nil _ _ _ _, Below.refl _ _⟩
  case round =>
    obtain ⟨k, l, hk, rfl, hlk, hl65, hl, ho, hB⟩ := hrel
    have c1 := (hB.out.cell (p := ⟨w.heap.size, 0, none⟩) z1).trans C1.out
    by_cases hlt : k < L.length
    · have j0 : (0 : Int) ≤ (k : Int) := by omega
      have j1 : (k : Int) < (L.length : Int) := by omega
      have d8 := (L1.out.next hB.out).size hlt
      obtain ⟨zz, hzz⟩ : ∃ zz, (nd L k).size = zz := ⟨_, rfl⟩
      rw [hzz] at d8
      clear hzz
      go_upto_region 5 with fail
      go_loop [3] (fun v' => ∃ l' : List Int, l'.length ≤ l.length ∧ Hid (∀ x ∈ l', 0 ≤ x ∧ x ≤ (L.length : Int)) ∧ Hid (wr.ownsRow w1.heap.size 3 1 v' l'.length (iv l'))) (fun v' => lenOf v')
      case atStart => exact ⟨l, Nat.le_refl _, hl, ho⟩
      case round =>
        obtain ⟨l', hll, hl', ho'⟩ := hrel
        clear ho hl
        rcases own_form ho'.out with ⟨rfl, rfl⟩ | ⟨g', cap', rfl, hcl, hcell⟩
        · go_upto_region 7 with fail
          have hcap : 1 ≤ 1073741824 := by omega
          have he0 : (0 : Int) ≤ (L.length : Int) := by omega
          have he1 : (L.length : Int) ≤ (L.length : Int) := by omega
          by_cases hs : zz < (L.length : Int) - (k : Int)
          · by_cases hz1 : zz < 1
            · have hz2 : max zz 1 = 1 := by omega
              go_wp2_with (first
                | (at_builtin; refine wpList_appJ (w0 := w1) (by rfl) _ _ (by rfl) _ ([] : List Int) 1 rfl (by rfl) ho' hB _ _ rfl (by rfl) hcap ?_; intro g2 cap2 w2 ho2 hb2)
                | go_in)
              all_goals first
                | (go_ret; exact ⟨anyB _, B1.out.trans (hb2.out.mono (by omega))⟩)
                | (refine ⟨⟨k + 1, ([] : List Int) ++ [_], by omega, by go_num, by simp only [List.length_append, List.length_cons, List.length_nil]; omega, by simp only [List.length_append, List.length_cons, List.length_nil]; (first | omega | (have := HMM.out; omega)), fun y hy => ?_, ho2, hb2⟩, by simp [intOf]; omega⟩
                   rcases List.mem_append.1 hy with hy | hy
                   · exact hl'.out y hy
                   · rw [List.mem_singleton.1 hy]; omega)
            · have hz2 : max zz 1 = zz := by omega
              go_wp2_with (first
                | (at_builtin; refine wpList_appJ (w0 := w1) (by rfl) _ _ (by rfl) _ ([] : List Int) 1 rfl (by rfl) ho' hB _ _ rfl (by rfl) hcap ?_; intro g2 cap2 w2 ho2 hb2)
                | go_in)
              all_goals first
                | (go_ret; exact ⟨anyB _, B1.out.trans (hb2.out.mono (by omega))⟩)
                | (refine ⟨⟨k + 1, ([] : List Int) ++ [_], by omega, by go_num, by simp only [List.length_append, List.length_cons, List.length_nil]; omega, by simp only [List.length_append, List.length_cons, List.length_nil]; (first | omega | (have := HMM.out; omega)), fun y hy => ?_, ho2, hb2⟩, by simp [intOf]; omega⟩
                   rcases List.mem_append.1 hy with hy | hy
                   · exact hl'.out y hy
                   · rw [List.mem_singleton.1 hy]; omega)
          · go_wp2_with (first
              | (at_builtin; refine wpList_appJ (w0 := w1) (by rfl) _ _ (by rfl) _ ([] : List Int) 1 rfl (by rfl) ho' hB _ _ rfl (by rfl) hcap ?_; intro g2 cap2 w2 ho2 hb2)
              | go_in)
            all_goals first
              | (go_ret; exact ⟨anyB _, B1.out.trans (hb2.out.mono (by omega))⟩)
              | (refine ⟨⟨k + 1, ([] : List Int) ++ [_], by omega, by go_num, by simp only [List.length_append, List.length_cons, List.length_nil]; omega, by simp only [List.length_append, List.length_cons, List.length_nil]; (first | omega | (have := HMM.out; omega)), fun y hy => ?_, ho2, hb2⟩, by simp [intOf]; omega⟩
                 rcases List.mem_append.1 hy with hy | hy
                 · exact hl'.out y hy
                 · rw [List.mem_singleton.1 hy]; omega)

        · by_cases hne : l' = []
          · subst hne
            have HO : Hid (wr.ownsRow w1.heap.size 3 1 (.slice (some ⟨g', 0, none⟩) 0 cap') 0 (iv [])) := ho'
            clear ho' hcell
            go_upto_region 7 with fail
            have hcap : 1 ≤ 1073741824 := by omega
            have he0 : (0 : Int) ≤ (L.length : Int) := by omega
            have he1 : (L.length : Int) ≤ (L.length : Int) := by omega
            by_cases hs : zz < (L.length : Int) - (k : Int)
            · by_cases hz1 : zz < 1
              · have hz2 : max zz 1 = 1 := by omega
                go_wp2_with (first
                  | (at_builtin; refine wpList_appJ (w0 := w1) (by rfl) _ _ (by rfl) _ ([] : List Int) 1 rfl (by rfl) HO hB _ _ rfl (by rfl) hcap ?_; intro g2 cap2 w2 ho2 hb2)
                  | go_in)
                all_goals first
                  | (go_ret; exact ⟨anyB _, B1.out.trans (hb2.out.mono (by omega))⟩)
                  | (refine ⟨⟨k + 1, ([] : List Int) ++ [_], by omega, by go_num, by simp only [List.length_append, List.length_cons, List.length_nil]; omega, by simp only [List.length_append, List.length_cons, List.length_nil]; (first | omega | (have := HMM.out; omega)), fun y hy => ?_, ho2, hb2⟩, by simp [intOf]; omega⟩
                     rcases List.mem_append.1 hy with hy | hy
                     · exact hl'.out y hy
                     · rw [List.mem_singleton.1 hy]; omega)
              · have hz2 : max zz 1 = zz := by omega
                go_wp2_with (first
                  | (at_builtin; refine wpList_appJ (w0 := w1) (by rfl) _ _ (by rfl) _ ([] : List Int) 1 rfl (by rfl) HO hB _ _ rfl (by rfl) hcap ?_; intro g2 cap2 w2 ho2 hb2)
                  | go_in)
                all_goals first
                  | (go_ret; exact ⟨anyB _, B1.out.trans (hb2.out.mono (by omega))⟩)
                  | (refine ⟨⟨k + 1, ([] : List Int) ++ [_], by omega, by go_num, by simp only [List.length_append, List.length_cons, List.length_nil]; omega, by simp only [List.length_append, List.length_cons, List.length_nil]; (first | omega | (have := HMM.out; omega)), fun y hy => ?_, ho2, hb2⟩, by simp [intOf]; omega⟩
                     rcases List.mem_append.1 hy with hy | hy
                     · exact hl'.out y hy
                     · rw [List.mem_singleton.1 hy]; omega)
            · go_wp2_with (first
                | (at_builtin; refine wpList_appJ (w0 := w1) (by rfl) _ _ (by rfl) _ ([] : List Int) 1 rfl (by rfl) HO hB _ _ rfl (by rfl) hcap ?_; intro g2 cap2 w2 ho2 hb2)
                | go_in)
              all_goals first
                | (go_ret; exact ⟨anyB _, B1.out.trans (hb2.out.mono (by omega))⟩)
                | (refine ⟨⟨k + 1, ([] : List Int) ++ [_], by omega, by go_num, by simp only [List.length_append, List.length_cons, List.length_nil]; omega, by simp only [List.length_append, List.length_cons, List.length_nil]; (first | omega | (have := HMM.out; omega)), fun y hy => ?_, ho2, hb2⟩, by simp [intOf]; omega⟩
                   rcases List.mem_append.1 hy with hy | hy
                   · exact hl'.out y hy
                   · rw [List.mem_singleton.1 hy]; omega)

          · obtain ⟨q, x, rfl⟩ := last_at hne
            have hx : wr.cell? ⟨g', q.length, none⟩ = some (.int .i64 x) := hcell q.length x (by simp)
            obtain ⟨x0, x1⟩ := hl'.out x (by simp)
            have hq1 : (q ++ [x]).length = q.length + 1 := by simp
            have HP : Hid (wr.ownsRow w1.heap.size 3 1 (.slice (some ⟨g', 0, none⟩) q.length cap') q.length (iv q)) := by
              have := ho'.out
              rw [iv_app, hq1] at this
              exact ownsRow_pop (by rw [iv_len]; omega) this
            have HLQ : Hid (∀ y ∈ q, 0 ≤ y ∧ y ≤ (L.length : Int)) := fun y hy => hl'.out y (by simp [hy])
            obtain ⟨ql, hql⟩ : ∃ ql, q ++ [x] = ql := ⟨_, rfl⟩
            rw [hql] at ho' hll hcl hl' hq1
            have HO : Hid (wr.ownsRow w1.heap.size 3 1 (.slice (some ⟨g', 0, none⟩) (q.length + 1) cap') ql.length (iv ql)) := by rw [hq1] at ho' ⊢; exact ho'
            have HQL : Hid (ql.length = q.length + 1) := hq1
            rw [hq1] at hll hcl
            rw [hql, hq1]
            clear hcell ho' hne hq1 hql
            obtain ⟨m, hm⟩ : ∃ m, q.length = m := ⟨_, rfl⟩
            rw [hm] at hx HP HO HQL hll hcl ⊢
            have HM : Hid (q.length = m) := hm
            clear hm
            have m0 : (0 : Int) < ((m + 1 : Nat) : Int) := by omega
            by_cases hxk : x ≤ (k : Int)
            · go_wp2
              exact ⟨⟨q, by rw [HM.out]; omega, HLQ, by rw [HM.out]; exact HP⟩, by simp [lenOf]⟩
            · go_upto_region 7 with fail
              clear HP HLQ
              have hql : ql.length ≤ k := by rw [HQL.out]; omega
              obtain ⟨M, hM⟩ : ∃ M, ql.length + 1 = M := ⟨_, rfl⟩
              have HMM : Hid (ql.length + 1 = M) := hM
              have hMk : M ≤ k + 1 := by omega
              have hM65 : M ≤ 65537 := by have := HQL.out; omega
              clear hM
              have hcap : M ≤ 1073741824 := by omega
              have he0 : (0 : Int) ≤ x := by omega
              have he1 : x ≤ (L.length : Int) := by omega
              by_cases hs : zz < x - (k : Int)
              · by_cases hz1 : zz < 1
                · have hz2 : max zz 1 = 1 := by omega
                  go_wp2_with (first
                    | (at_builtin; refine wpList_appJ (w0 := w1) (by rfl) _ _ (by rfl) _ ql M HMM (by rfl) HO hB _ _ rfl (by rfl) hcap ?_; intro g2 cap2 w2 ho2 hb2)
                    | go_in)
                  all_goals first
                    | (go_ret; exact ⟨anyB _, B1.out.trans (hb2.out.mono (by omega))⟩)
                    | (refine ⟨⟨k + 1, ql ++ [_], by omega, by go_num, by simp only [List.length_append, List.length_cons, List.length_nil]; omega, by simp only [List.length_append, List.length_cons, List.length_nil]; (first | omega | (have := HMM.out; omega)), fun y hy => ?_, ho2, hb2⟩, by simp [intOf]; omega⟩
                       rcases List.mem_append.1 hy with hy | hy
                       · exact hl'.out y hy
                       · rw [List.mem_singleton.1 hy]; omega)
                · have hz2 : max zz 1 = zz := by omega
                  go_wp2_with (first
                    | (at_builtin; refine wpList_appJ (w0 := w1) (by rfl) _ _ (by rfl) _ ql M HMM (by rfl) HO hB _ _ rfl (by rfl) hcap ?_; intro g2 cap2 w2 ho2 hb2)
                    | go_in)
                  all_goals first
                    | (go_ret; exact ⟨anyB _, B1.out.trans (hb2.out.mono (by omega))⟩)
                    | (refine ⟨⟨k + 1, ql ++ [_], by omega, by go_num, by simp only [List.length_append, List.length_cons, List.length_nil]; omega, by simp only [List.length_append, List.length_cons, List.length_nil]; (first | omega | (have := HMM.out; omega)), fun y hy => ?_, ho2, hb2⟩, by simp [intOf]; omega⟩
                       rcases List.mem_append.1 hy with hy | hy
                       · exact hl'.out y hy
                       · rw [List.mem_singleton.1 hy]; omega)
              · go_wp2_with (first
                  | (at_builtin; refine wpList_appJ (w0 := w1) (by rfl) _ _ (by rfl) _ ql M HMM (by rfl) HO hB _ _ rfl (by rfl) hcap ?_; intro g2 cap2 w2 ho2 hb2)
                  | go_in)
                all_goals first
                  | (go_ret; exact ⟨anyB _, B1.out.trans (hb2.out.mono (by omega))⟩)
                  | (refine ⟨⟨k + 1, ql ++ [_], by omega, by go_num, by simp only [List.length_append, List.length_cons, List.length_nil]; omega, by simp only [List.length_append, List.length_cons, List.length_nil]; (first | omega | (have := HMM.out; omega)), fun y hy => ?_, ho2, hb2⟩, by simp [intOf]; omega⟩
                     rcases List.mem_append.1 hy with hy | hy
                     · exact hl'.out y hy
                     · rw [List.mem_singleton.1 hy]; omega)

    · obtain rfl : k = L.length := by omega
      go_wp2
      go_ret
      exact ⟨anyB _, B1.out.trans (hB.out.mono (by omega))⟩

end Go.Proofs.YtlocaalipjjnpaaDoor
