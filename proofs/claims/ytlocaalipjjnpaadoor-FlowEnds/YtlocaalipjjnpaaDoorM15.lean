import Derived.RangeFuncBox
import Derived.OwnWalkIn
import Derived.Maps.AppendAt
import Derived.WalkMore
import Derived.Test.YtlocaalipjjnpaaDoorM11
import Derived.Test.YtlocaalipjjnpaaDoorM07
import Derived.Test.YtlocaalipjjnpaaDoorM00
import Derived.Test.YtlocaalipjjnpaaDoorM14
namespace Go.Proofs.YtlocaalipjjnpaaDoor
open Go.RowKit

theorem last_at {l : List Int} (h : l ≠ []) : ∃ q x, l = q ++ [x] := ⟨l.dropLast, l.getLast h, (List.dropLast_concat_getLast h).symm⟩

def lenOf : Value → Nat
  | .slice _ n _ => n
  | _ => 0

/-- Some answer. -/
def AnyB (e : Ending) : Prop := ∃ b : Bool, e = .returned (.bool b)
theorem anyB (b : Bool) : AnyB (.returned (.bool b)) := ⟨b, rfl⟩

set_option maxRecDepth 100000 in
set_option maxHeartbeats 1000000 in
/-- Up to that many nodes no list is too deep. -/
theorem deep_small (w : World) (p : Option Addr) (n cap : Nat) (hn : n ≤ 65536) :
    Calls Tryd.prog 9 #[.agg #[.slice p n cap]] w fun e w' => AnyB e ∧ Below w.heap.size w w' := by
  have h0 : ¬ (65536 : Int) < (n : Int) := by omega
  go_enter Tryd.func9, Tryd.ntmps9
  go_wp2
  go_loop [4] (fun v => v = .int .i64 0) (fun _ => 0)
  case atStart => rfl
  case round =>
    subst hrel
    by_cases hp : (0 : Int) < (n : Int)
    · go_wp2
      go_ret
      exact ⟨anyB _, (Below.refl _ _).alloc (Nat.le_refl _) _⟩
    · go_wp2
      go_ret
      exact ⟨anyB _, (Below.refl _ _).alloc (Nat.le_refl _) _⟩

set_option maxRecDepth 100000 in
set_option maxHeartbeats 2000000 in
theorem deep_big (w : World) (g o cap : Nat) (L : List Nd) (hL : L.length ≤ 1353245080300) (hn : 65536 < L.length) (h : Hid (Lay w g o L)) :
    Calls Tryd.prog 9 #[.agg #[.slice (some ⟨g, o, none⟩) L.length cap]] w fun e w' => AnyB e ∧ Below w.heap.size w w' := by
  have h0 : (65536 : Int) < (L.length : Int) := by omega
  obtain ⟨w1, hw1⟩ : ∃ w1, w.alloc (.cells #[.slice (some ⟨g, o, none⟩) L.length cap] 24) = w1 := ⟨_, rfl⟩
  have B1 : Hid (Below w.heap.size w w1) := by rw [← hw1]; exact (Below.refl _ w).alloc (Nat.le_refl _) _
  have c1 : w1.cell? ⟨w.heap.size, 0, none⟩ = some (.slice (some ⟨g, o, none⟩) L.length cap) := by rw [← hw1]; exact cell_new _ _ _ _ _ rfl
  have z1 : w.heap.size < w1.heap.size := by rw [← hw1]; simp
  have L1 : Hid (Lay w1 g o L) := h.out.next B1.out
  go_enter Tryd.func9, Tryd.ntmps9
  go_wp2
  clear hw1 h
  have C1 : Hid (w1.cell? ⟨w.heap.size, 0, none⟩ = some (.slice (some ⟨g, o, none⟩) L.length cap)) := c1
  clear c1
  go_loopw [3, 4] (fun v u wr => ∃ (k : Nat) (l : List Int), k ≤ L.length ∧ u = .int .i64 (k : Int) ∧ l.length ≤ k ∧ l.length ≤ 65536 ∧ Hid (∀ x ∈ l, 0 ≤ x ∧ x ≤ (L.length : Int)) ∧ Hid (wr.ownsRow w1.heap.size 3 1 v l.length (iv l)) ∧ Hid (Below w1.heap.size w1 wr)) (fun _ u _ => L.length - (intOf u).toNat)
  case atStart => exact ⟨0, [], by omega, rfl, by simp, by simp, fun x hx => by simp at hx, World.ownsRow_nil _ _ _ _, Below.refl _ _⟩
  case round =>
    obtain ⟨k, l, hk, rfl, hlk, hl65, hl, ho, hB⟩ := hrel
    have c1 := (hB.out.cell (p := ⟨w.heap.size, 0, none⟩) z1).trans C1.out
    by_cases hlt : k < L.length
    · have j0 : (0 : Int) ≤ (k : Int) := by omega
      have j1 : (k : Int) < (L.length : Int) := by omega
      have d8 := (L1.out.next hB.out).size hlt
      obtain ⟨zz, hzz⟩ : ∃ zz, (nd L k).size = zz := ⟨_, rfl⟩
      rw [hzz] at d8
      clear hzz
      go_upto_region 5 with fail
      go_loop [3] (fun v' => ∃ l' : List Int, l'.length ≤ l.length ∧ Hid (∀ x ∈ l', 0 ≤ x ∧ x ≤ (L.length : Int)) ∧ Hid (wr.ownsRow w1.heap.size 3 1 v' l'.length (iv l'))) (fun v' => lenOf v')
      case atStart => exact ⟨l, Nat.le_refl _, hl, ho⟩
      case round =>
        obtain ⟨l', hll, hl', ho'⟩ := hrel
        clear ho hl
        rcases own_form ho'.out with ⟨rfl, rfl⟩ | ⟨g', cap', rfl, hcl, hcell⟩
        · go_upto_region 7 with fail
          have hcap : 1 ≤ 1073741824 := by omega
          have he0 : (0 : Int) ≤ (L.length : Int) := by omega
          have he1 : (L.length : Int) ≤ (L.length : Int) := by omega
          by_cases hs : zz < (L.length : Int) - (k : Int)
          · by_cases hz1 : zz < 1
            · have hz2 : max zz 1 = 1 := by omega
              go_wp2_with (first
                | (at_builtin; refine wpList_appJ (w0 := w1) (by rfl) _ _ (by rfl) _ ([] : List Int) 1 rfl (by rfl) ho' hB _ _ rfl (by rfl) hcap ?_; intro g2 cap2 w2 ho2 hb2)
                | go_in)
              all_goals first
                | (go_ret; exact ⟨anyB _, B1.out.trans (hb2.out.mono (by omega))⟩)
                | (refine ⟨⟨k + 1, ([] : List Int) ++ [_], by omega, by go_num, by simp only [List.length_append, List.length_cons, List.length_nil]; omega, by simp only [List.length_append, List.length_cons, List.length_nil]; (first | omega | (have := HMM.out; omega)), fun y hy => ?_, ho2, hb2⟩, by simp [intOf]; omega⟩
                   rcases List.mem_append.1 hy with hy | hy
                   · exact hl'.out y hy
                   · rw [List.mem_singleton.1 hy]; omega)
            · have hz2 : max zz 1 = zz := by omega
              go_wp2_with (first
                | (at_builtin; refine wpList_appJ (w0 := w1) (by rfl) _ _ (by rfl) _ ([] : List Int) 1 rfl (by rfl) ho' hB _ _ rfl (by rfl) hcap ?_; intro g2 cap2 w2 ho2 hb2)
                | go_in)
              all_goals first
                | (go_ret; exact ⟨anyB _, B1.out.trans (hb2.out.mono (by omega))⟩)
                | (refine ⟨⟨k + 1, ([] : List Int) ++ [_], by omega, by go_num, by simp only [List.length_append, List.length_cons, List.length_nil]; omega, by simp only [List.length_append, List.length_cons, List.length_nil]; (first | omega | (have := HMM.out; omega)), fun y hy => ?_, ho2, hb2⟩, by simp [intOf]; omega⟩
                   rcases List.mem_append.1 hy with hy | hy
                   · exact hl'.out y hy
                   · rw [List.mem_singleton.1 hy]; omega)
          · go_wp2_with (first
              | (at_builtin; refine wpList_appJ (w0 := w1) (by rfl) _ _ (by rfl) _ ([] : List Int) 1 rfl (by rfl) ho' hB _ _ rfl (by rfl) hcap ?_; intro g2 cap2 w2 ho2 hb2)
              | go_in)
            all_goals first
              | (go_ret; exact ⟨anyB _, B1.out.trans (hb2.out.mono (by omega))⟩)
              | (refine ⟨⟨k + 1, ([] : List Int) ++ [_], by omega, by go_num, by simp only [List.length_append, List.length_cons, List.length_nil]; omega, by simp only [List.length_append, List.length_cons, List.length_nil]; (first | omega | (have := HMM.out; omega)), fun y hy => ?_, ho2, hb2⟩, by simp [intOf]; omega⟩
                 rcases List.mem_append.1 hy with hy | hy
                 · exact hl'.out y hy
                 · rw [List.mem_singleton.1 hy]; omega)

        · by_cases hne : l' = []
          · subst hne
            have HO : Hid (wr.ownsRow w1.heap.size 3 1 (.slice (some ⟨g', 0, none⟩) 0 cap') 0 (iv [])) := ho'
            clear ho' hcell
            go_upto_region 7 with fail
            have hcap : 1 ≤ 1073741824 := by omega
            have he0 : (0 : Int) ≤ (L.length : Int) := by omega
            have he1 : (L.length : Int) ≤ (L.length : Int) := by omega
            by_cases hs : zz < (L.length : Int) - (k : Int)
            · by_cases hz1 : zz < 1
              · have hz2 : max zz 1 = 1 := by omega
                go_wp2_with (first
                  | (at_builtin; refine wpList_appJ (w0 := w1) (by rfl) _ _ (by rfl) _ ([] : List Int) 1 rfl (by rfl) HO hB _ _ rfl (by rfl) hcap ?_; intro g2 cap2 w2 ho2 hb2)
                  | go_in)
                all_goals first
                  | (go_ret; exact ⟨anyB _, B1.out.trans (hb2.out.mono (by omega))⟩)
                  | (refine ⟨⟨k + 1, ([] : List Int) ++ [_], by omega, by go_num, by simp only [List.length_append, List.length_cons, List.length_nil]; omega, by simp only [List.length_append, List.length_cons, List.length_nil]; (first | omega | (have := HMM.out; omega)), fun y hy => ?_, ho2, hb2⟩, by simp [intOf]; omega⟩
                     rcases List.mem_append.1 hy with hy | hy
                     · exact hl'.out y hy
                     · rw [List.mem_singleton.1 hy]; omega)
              · have hz2 : max zz 1 = zz := by omega
                go_wp2_with (first
                  | (at_builtin; refine wpList_appJ (w0 := w1) (by rfl) _ _ (by rfl) _ ([] : List Int) 1 rfl (by rfl) HO hB _ _ rfl (by rfl) hcap ?_; intro g2 cap2 w2 ho2 hb2)
                  | go_in)
                all_goals first
                  | (go_ret; exact ⟨anyB _, B1.out.trans (hb2.out.mono (by omega))⟩)
                  | (refine ⟨⟨k + 1, ([] : List Int) ++ [_], by omega, by go_num, by simp only [List.length_append, List.length_cons, List.length_nil]; omega, by simp only [List.length_append, List.length_cons, List.length_nil]; (first | omega | (have := HMM.out; omega)), fun y hy => ?_, ho2, hb2⟩, by simp [intOf]; omega⟩
                     rcases List.mem_append.1 hy with hy | hy
                     · exact hl'.out y hy
                     · rw [List.mem_singleton.1 hy]; omega)
            · go_wp2_with (first
                | (at_builtin; refine wpList_appJ (w0 := w1) (by rfl) _ _ (by rfl) _ ([] : List Int) 1 rfl (by rfl) HO hB _ _ rfl (by rfl) hcap ?_; intro g2 cap2 w2 ho2 hb2)
                | go_in)
              all_goals first
                | (go_ret; exact ⟨anyB _, B1.out.trans (hb2.out.mono (by omega))⟩)
                | (refine ⟨⟨k + 1, ([] : List Int) ++ [_], by omega, by go_num, by simp only [List.length_append, List.length_cons, List.length_nil]; omega, by simp only [List.length_append, List.length_cons, List.length_nil]; (first | omega | (have := HMM.out; omega)), fun y hy => ?_, ho2, hb2⟩, by simp [intOf]; omega⟩
                   rcases List.mem_append.1 hy with hy | hy
                   · exact hl'.out y hy
                   · rw [List.mem_singleton.1 hy]; omega)

          · obtain ⟨q, x, rfl⟩ := last_at hne
            have hx : wr.cell? ⟨g', q.length, none⟩ = some (.int .i64 x) := hcell q.length x (by simp)
            obtain ⟨x0, x1⟩ := hl'.out x (by simp)
            have hq1 : (q ++ [x]).length = q.length + 1 := by simp
            have HP : Hid (wr.ownsRow w1.heap.size 3 1 (.slice (some ⟨g', 0, none⟩) q.length cap') q.length (iv q)) := by
              have := ho'.out
              rw [iv_app, hq1] at this
              exact ownsRow_pop (by rw [iv_len]; omega) this
            have HLQ : Hid (∀ y ∈ q, 0 ≤ y ∧ y ≤ (L.length : Int)) := fun y hy => hl'.out y (by simp [hy])
            obtain ⟨ql, hql⟩ : ∃ ql, q ++ [x] = ql := ⟨_, rfl⟩
            rw [hql] at ho' hll hcl hl' hq1
            have HO : Hid (wr.ownsRow w1.heap.size 3 1 (.slice (some ⟨g', 0, none⟩) (q.length + 1) cap') ql.length (iv ql)) := by rw [hq1] at ho' ⊢; exact ho'
            have HQL : Hid (ql.length = q.length + 1) := hq1
            rw [hq1] at hll hcl
            rw [hql, hq1]
            clear hcell ho' hne hq1 hql
            obtain ⟨m, hm⟩ : ∃ m, q.length = m := ⟨_, rfl⟩
            rw [hm] at hx HP HO HQL hll hcl ⊢
            have HM : Hid (q.length = m) := hm
            clear hm
            have m0 : (0 : Int) < ((m + 1 : Nat) : Int) := by omega
            by_cases hxk : x ≤ (k : Int)
            · go_wp2
              exact ⟨⟨q, by rw [HM.out]; omega, HLQ, by rw [HM.out]; exact HP⟩, by simp [lenOf]⟩
            · go_upto_region 7 with fail
              clear HP HLQ
              have hql : ql.length ≤ k := by rw [HQL.out]; omega
              obtain ⟨M, hM⟩ : ∃ M, ql.length + 1 = M := ⟨_, rfl⟩
              have HMM : Hid (ql.length + 1 = M) := hM
              have hMk : M ≤ k + 1 := by omega
              have hM65 : M ≤ 65537 := by have := HQL.out; omega
              clear hM
              have hcap : M ≤ 1073741824 := by omega
              have he0 : (0 : Int) ≤ x := by omega
              have he1 : x ≤ (L.length : Int) := by omega
              by_cases hs : zz < x - (k : Int)
              · by_cases hz1 : zz < 1
                · have hz2 : max zz 1 = 1 := by omega
                  go_wp2_with (first
                    | (at_builtin; refine wpList_appJ (w0 := w1) (by rfl) _ _ (by rfl) _ ql M HMM (by rfl) HO hB _ _ rfl (by rfl) hcap ?_; intro g2 cap2 w2 ho2 hb2)
                    | go_in)
                  all_goals first
                    | (go_ret; exact ⟨anyB _, B1.out.trans (hb2.out.mono (by omega))⟩)
                    | (refine ⟨⟨k + 1, ql ++ [_], by omega, by go_num, by simp only [List.length_append, List.length_cons, List.length_nil]; omega, by simp only [List.length_append, List.length_cons, List.length_nil]; (first | omega | (have := HMM.out; omega)), fun y hy => ?_, ho2, hb2⟩, by simp [intOf]; omega⟩
                       rcases List.mem_append.1 hy with hy | hy
                       · exact hl'.out y hy
                       · rw [List.mem_singleton.1 hy]; omega)
                · have hz2 : max zz 1 = zz := by omega
                  go_wp2_with (first
                    | (at_builtin; refine wpList_appJ (w0 := w1) (by rfl) _ _ (by rfl) _ ql M HMM (by rfl) HO hB _ _ rfl (by rfl) hcap ?_; intro g2 cap2 w2 ho2 hb2)
                    | go_in)
                  all_goals first
                    | (go_ret; exact ⟨anyB _, B1.out.trans (hb2.out.mono (by omega))⟩)
                    | (refine ⟨⟨k + 1, ql ++ [_], by omega, by go_num, by simp only [List.length_append, List.length_cons, List.length_nil]; omega, by simp only [List.length_append, List.length_cons, List.length_nil]; (first | omega | (have := HMM.out; omega)), fun y hy => ?_, ho2, hb2⟩, by simp [intOf]; omega⟩
                       rcases List.mem_append.1 hy with hy | hy
                       · exact hl'.out y hy
                       · rw [List.mem_singleton.1 hy]; omega)
              · go_wp2_with (first
                  | (at_builtin; refine wpList_appJ (w0 := w1) (by rfl) _ _ (by rfl) _ ql M HMM (by rfl) HO hB _ _ rfl (by rfl) hcap ?_; intro g2 cap2 w2 ho2 hb2)
                  | go_in)
                all_goals first
                  | (go_ret; exact ⟨anyB _, B1.out.trans (hb2.out.mono (by omega))⟩)
                  | (refine ⟨⟨k + 1, ql ++ [_], by omega, by go_num, by simp only [List.length_append, List.length_cons, List.length_nil]; omega, by simp only [List.length_append, List.length_cons, List.length_nil]; (first | omega | (have := HMM.out; omega)), fun y hy => ?_, ho2, hb2⟩, by simp [intOf]; omega⟩
                     rcases List.mem_append.1 hy with hy | hy
                     · exact hl'.out y hy
                     · rw [List.mem_singleton.1 hy]; omega)

    · obtain rfl : k = L.length := by omega
      go_wp2
      go_ret
      exact ⟨anyB _, B1.out.trans (hB.out.mono (by omega))⟩

end Go.Proofs.YtlocaalipjjnpaaDoor

namespace Go.Proofs.YtlocaalipjjnpaaDoor
open Go.RowKit Go.Shelf
attribute [local go_sem] Oper.semAt_some

theorem stm_len (L : List Nd) (e : Nat) : ∀ (f k : Nat), (stm L e f k).length ≤ f
  | 0, _ => Nat.le_refl _
  | f + 1, k => by
    unfold stm
    split
    · simp
    · split
      · have := stm_len L e f (k + (sz L k).toNat); omega
      · have := stm_len L e f (k + (sz L k).toNat); simp only [List.length_cons]; omega

set_option maxRecDepth 100000 in
set_option maxHeartbeats 1000000 in
theorem appendSeq_any (w : World) (B g o cap n : Nat) (L : List Nd) (p1 p2 : Option Addr) (n1 c1 n2 c2 : Nat) (hL : L.length ≤ 1353245080300) (hn : n < L.length) (hw : Wy L) (h : SKeep B g o cap n L p1 n1 c1 p2 n2 c2 w) (hB : B + 1 < w.heap.size) (S : List Nat) (hS0 : Hid (stmS L (n + 1) (endOf L n) = S)) :
    Calls Tryd.prog 60 #[.slice none 0 0, .func (.func 61) #[] #[.pointer (some ⟨B + 1, 0, none⟩), .pointer (some ⟨B, 0, none⟩)]] w fun e W' => (∃ v, e = .returned v ∧ Hid (W'.ownsRow w.heap.size 3 1 v S.length (iv (nI S)))) ∧ Below w.heap.size w W' := by
  obtain ⟨i0, hi, hz0, hz1, hz2⟩ := info_parts info3
  have hSl : S.length ≤ L.length := by
    obtain ⟨_, _, e2⟩ := end_int (hw.good n hn)
    have := stm_len L (endOf L n) (endOf L n - (n + 1)) (n + 1)
    rw [← hS0.out]
    unfold stmS
    omega
  have HW : Hid (Wy L) := hw
  clear hw
  refine (callsIn_wide (n := 6)).1 ?_
  refine callsIn_of_wp_marks Tryd.func60 rfl trivial ?_ rfl
  simp only [Tryd.ntmps60, List.size_toArray, List.length_cons, List.length_nil, Nat.reduceAdd, Nat.reduceSub, Array.replicate_succ, Array.replicate_zero, List.push_toArray, List.append_toArray, List.nil_append, List.cons_append]
  gi_wp2
  have bO := Boxed.new w 25 (.slice none 0 0)
  have hB0 : Below w.heap.size w (w.alloc (.cells #[.slice none 0 0] 25)) := (Below.refl _ w).alloc (Nat.le_refl _) _
  have kc : SKeep B g o cap n L p1 n1 c1 p2 n2 c2 (w.alloc (.cells #[.slice none 0 0] 25)) := h.below hB0 hB h.lay.lt
  refine wpIn_range_guard rfl (by omega) (gf := 61) (lb := #[.pointer (some ⟨B + 1, 0, none⟩), .pointer (some ⟨B, 0, none⟩)]) rfl trivial (enters_of Tryd.func61 (by kernel_rfl) rfl)
    (stm_seq 5 (by omega) B g o cap n L _ _ _ _ _ _ _ hL hn HW.out kc (by simp; omega)) (Below.refl _ _) (fun _ => rfl)
    (fun pre W => ((∃ v, Boxed W w.heap.size 25 v ∧ W.ownsRow w.heap.size 3 1 v pre.length (iv (nI pre)) ∧ True) ∧ True) ∧ Below w.heap.size w W)
    (fun _ _ _ => False)
    (OwnFrom.and (Own.from (fun s A B' row hs hg hr => ⟨holdsRow_own w.heap.size w.heap.size 25 3 1 (fun pre : List Nat => pre.length) (fun pre => iv (nI pre)) (fun _ _ => True) s A B' row hs.1 hg hr, hs.2⟩) _) (ownFrom_below (Nat.le_refl _) (by simp)))
    (fun _ _ _ _ _ hs _ _ => hs)
    ⟨⟨⟨_, bO, World.ownsRow_nil _ _ _ _, trivial⟩, trivial⟩, hB0⟩ (fun pre W hI => h.below hI.2 hB h.lay.lt) (fun pre x W hI => trivial)
    (fun x => { tmps := #[.slice none 0 0, .func (.func 61) #[] #[.pointer (some ⟨B + 1, 0, none⟩), .pointer (some ⟨B, 0, none⟩)], .pointer (some ⟨w.heap.size, 0, none⟩), undef, .slice none 0 0, .int .i64 (x : Int), .func (.func 61) #[] #[.pointer (some ⟨B + 1, 0, none⟩), .pointer (some ⟨B, 0, none⟩)], .int .i64 (x : Int), undef, undef, undef, undef, undef], defers := [] }) ?assign ?body ?done ?stop
  case assign =>
    intro l x W K hK
    gi_wp2
    simpa [encK] using hK
  case body =>
    rintro l pre x W ⟨⟨⟨v, hv, hrow, _⟩, -⟩, hB'⟩ hx
    have hc := hv.cell
    have hpl : pre.length + 1 ≤ S.length := by
      rw [hS0.out] at hx
      have := hx.length_le
      simpa using this
    have hsz := hB'.size
    clear hx
    gi_wp2_with (gi_at_builtin; refine wpListIn_append_own _ rfl _ _ 25 rfl w.heap.size 3 i0 (.int .i64 0) 1 8 Tryd.underlying25 hi hz0 hz1 hz2 rfl (by decide) _ _ _ rfl (hrow.alloc _) ⟨W.heap.size, 0, none⟩ 1 1 [.int .i64 (x : Int)] rfl rfl (cell_one_new _ _ _) (by simp [Value.oneCell']) (by unfold maxLen; omega) (by omega) (by simp; omega) ?_; intro v' w1 hown' hgrow _; obtain ⟨g', cap', rfl⟩ := ownsRow_succ hown'; obtain ⟨hv1, hv2, hr2, hk2, hb2⟩ := hv.appended (by decide) hrow hB'.size (Nat.le_refl _) hown' hgrow; have hc1 := hv1.cell; have hf1 := hv1.frozen)
    exact ⟨hk2, ⟨⟨_, hv2, by rw [nI_snoc, List.length_append]; exact hr2, trivial⟩, trivial⟩, hB'.trans hb2⟩
  case done =>
    rintro D ys W hD hS ⟨⟨⟨v, hv, hrow, _⟩, -⟩, hB'⟩ hK
    have hc := hv.cell
    have HE : Hid (S = ys) := by show _ = _; rw [hS, hS0.out]
    clear hS
    gi_wp2
    refine ⟨by simp, .inl ⟨_, _, rfl, run_takeDeferred hK, ?_⟩⟩
    exact ⟨_, results_tmp rfl _ _ _, ⟨v, rfl, by rw [HE.out]; exact ownsRow_putObj hrow _ hK rfl⟩, hB'.trans (belowK_b (w := w) (Nat.le_refl _) W D _ _ (by simp at hD; omega) hK rfl rfl)⟩
  case stop =>
    rintro D c pre W _ hF _
    exact hF.elim

set_option maxHeartbeats 400000 in
theorem collect_any (w : World) (B g o cap n : Nat) (L : List Nd) (p1 p2 : Option Addr) (n1 c1 n2 c2 : Nat) (hL : L.length ≤ 1353245080300) (hn : n < L.length) (hw : Wy L) (h : SKeep B g o cap n L p1 n1 c1 p2 n2 c2 w) (hB : B + 1 < w.heap.size) (S : List Nat) (hS0 : Hid (stmS L (n + 1) (endOf L n) = S)) :
    Calls Tryd.prog 51 #[.func (.func 61) #[] #[.pointer (some ⟨B + 1, 0, none⟩), .pointer (some ⟨B, 0, none⟩)]] w fun e W' => (∃ v, e = .returned v ∧ Hid (W'.ownsRow w.heap.size 3 1 v S.length (iv (nI S)))) ∧ Below w.heap.size w W' := by
  have H : Hid (Calls Tryd.prog 60 #[.slice none 0 0, .func (.func 61) #[] #[.pointer (some ⟨B + 1, 0, none⟩), .pointer (some ⟨B, 0, none⟩)]] w fun e W' => (∃ v, e = .returned v ∧ Hid (W'.ownsRow w.heap.size 3 1 v S.length (iv (nI S)))) ∧ Below w.heap.size w W') := appendSeq_any w B g o cap n L p1 p2 n1 c1 n2 c2 hL hn hw h hB S hS0
  clear h hw
  go_enter Tryd.func51, Tryd.ntmps51
  go_wp2_with (first
    | (go_at_call 60; refine H.out.mono ?_; rintro e w2 ⟨⟨v, rfl, hv⟩, hb2⟩)
    | go_in)
  go_ret
  exact ⟨⟨v, rfl, hv⟩, hb2⟩
end Go.Proofs.YtlocaalipjjnpaaDoor

namespace Go.Proofs.YtlocaalipjjnpaaDoor
open Go.RowKit

theorem cutD_at {T : WT} : ∀ {p : List Nat} {k : Nat} {r : List Nat}, (∀ x ∈ p, (T x).2 = true) → (T k).2 = false → cutD T (p ++ k :: r) = r
  | [], k, r, _, hk => by show (if (T k).2 = true then _ else _) = _; rw [hk]; rfl
  | a :: p, k, r, hp, hk => by
    show (if (T a).2 = true then _ else _) = _
    rw [if_pos (hp a (by simp))]
    exact cutD_at (fun x hx => hp x (by simp [hx])) hk
theorem cutD_none {T : WT} : ∀ {p : List Nat}, (∀ x ∈ p, (T x).2 = true) → cutD T p = []
  | [], _ => rfl
  | a :: p, hp => by
    show (if (T a).2 = true then _ else _) = _
    rw [if_pos (hp a (by simp))]
    exact cutD_none (fun x hx => hp x (by simp [hx]))

/-- A slice of numbers that lies there. -/
def Src (w : World) (v : Value) (D : List Nat) : Prop := (v = .slice none 0 0 ∧ D = []) ∨ ∃ a c, v = .slice (some a) D.length c ∧ a.block < w.heap.size ∧ ∀ j x, (iv (nI D))[j]? = some x → w.cell? (a.add j) = some x

set_option maxRecDepth 100000 in
set_option maxHeartbeats 1000000 in
theorem deadIn_any (w : World) (g o cap : Nat) (L : List Nd) (gr ge n : Nat) (T : WT) (hL : L.length ≤ 1353245080300) (hn : n < L.length) (hw : Wy L) (h : Hid (Lay w g o L)) (ht : Hid (Tb w gr ge L.length T)) (S : List Nat) (hS0 : Hid (stmS L (n + 1) (endOf L n) = S)) (hSL : Hid (∀ x ∈ S, x < L.length)) :
    Calls Tryd.prog 32 #[.agg #[.slice (some ⟨g, o, none⟩) L.length cap, .slice (some ⟨gr, 0, none⟩) L.length L.length, .slice (some ⟨ge, 0, none⟩) L.length L.length], .int .i64 (n : Int)] w fun e w' => (∃ v, e = .returned v ∧ Hid (Src w' v (cutD T S))) ∧ Below w.heap.size w w' := by
  obtain ⟨w1, hw1, z1, B1, c0, c1, c2⟩ : ∃ w1, w.alloc (.cells #[.slice (some ⟨g, o, none⟩) L.length cap, .slice (some ⟨gr, 0, none⟩) L.length L.length, .slice (some ⟨ge, 0, none⟩) L.length L.length] 51) = w1 ∧ w1.heap.size = w.heap.size + 1 ∧ Below w.heap.size w w1 ∧ w1.cell? ⟨w.heap.size, 0, none⟩ = some (.slice (some ⟨g, o, none⟩) L.length cap) ∧ w1.cell? ⟨w.heap.size, 1, none⟩ = some (.slice (some ⟨gr, 0, none⟩) L.length L.length) ∧ w1.cell? ⟨w.heap.size, 2, none⟩ = some (.slice (some ⟨ge, 0, none⟩) L.length L.length) :=
    ⟨_, rfl, by simp, (Below.refl _ w).alloc (Nat.le_refl _) _, cell_new _ _ _ _ _ rfl, cell_new _ _ _ _ _ rfl, cell_new _ _ _ _ _ rfl⟩
  have HW : Hid (Wy L) := hw
  have BB : Hid (Below w.heap.size w w1) := B1
  have hSl : S.length ≤ 1353245080300 := by
    obtain ⟨_, _, e2⟩ := end_int (hw.good n hn)
    have := stm_len L (endOf L n) (endOf L n - (n + 1)) (n + 1)
    rw [← hS0.out]
    unfold stmS
    omega
  clear hw B1
  go_enter Tryd.func32, Tryd.ntmps32
  go_wp2_with fail
  go_step3
  go_wp2_with fail
  refine (statements_any _ _ _ _ _ _ _ _ _ _ _).mono ?_
  rintro e w2 ⟨rfl, hw2⟩
  have b2 : Below w1.heap.size w1 w2 := by rw [hw2]; exact ((Below.refl _ w1).alloc (Nat.le_refl _) _).alloc (by simp) _
  have B2 : Below w.heap.size w w2 := BB.out.trans (b2.mono BB.out.size)
  have kc : SKeep w1.heap.size g o cap n L (some ⟨gr, 0, none⟩) L.length L.length (some ⟨ge, 0, none⟩) L.length L.length w2 := by
    have hl := h.out.next B2
    rw [hw2] at hl ⊢
    exact ⟨hl, cell_old _ (cell_new _ _ _ _ _ rfl), cell_old _ (cell_new _ _ _ _ _ rfl), cell_old _ (cell_new _ _ _ _ _ rfl), new_cells _ _ _ _ _ _ (by simp) rfl⟩
  have z2 : w1.heap.size + 1 < w2.heap.size := by rw [hw2]; simp
  clear hw2
  rw [z1] at kc z2
  go_wp2_with fail
  refine (collect_any w2 (w.heap.size + 1) g o cap n L _ _ _ _ _ _ hL hn HW.out kc z2 S hS0).mono ?_
  rintro e w3 ⟨⟨v, rfl, hv⟩, hb3⟩
  have B3 : Below w.heap.size w w3 := B2.trans (hb3.mono B2.size)
  have d2 := ((b2.trans (hb3.mono b2.size)).cell (p := ⟨w.heap.size, 2, none⟩) (by show w.heap.size < _; omega)).trans c2
  have HT : Hid (Tb w3 gr ge L.length T) := ht.out.below B3 ht.out.lr ht.out.le
  have HB3 : Hid (Below w.heap.size w w3) := B3
  clear B3 B2 b2 kc c0 c1 c2 hb3 h ht hS0
  have hform := own_form (by have := hv.out; rw [← nI_len] at this; exact this)
  rcases hform with ⟨rfl, hnil⟩ | ⟨gS, cS, rfl, hcap, hcells⟩
  · have hS : S = [] := List.map_eq_nil_iff.1 hnil
    subst hS
    go_wp2_with fail
    go_step3
    go_wp2_with fail
    go_loopw [5, 15] (fun d i wr => d = .slice none 0 0 ∧ i = .int .i64 0 ∧ wr = w3) (fun _ _ _ => 0)
    case atStart => exact ⟨rfl, rfl, rfl⟩
    case round =>
      obtain ⟨rfl, rfl, rfl⟩ := hrel
      go_wp2
      first | (change bodyPost Tryd.prog Tryd.f32 _ Exit.ret _ _) | (simp only [Exit.noGoto])
      go_ret
      exact ⟨⟨_, rfl, .inl ⟨rfl, rfl⟩⟩, HB3.out⟩
  · rw [nI_len] at hcap
    rw [nI_len]
    have HC : Hid (∀ j x, (nI S)[j]? = some x → w3.cell? ⟨gS, j, none⟩ = some (.int .i64 x)) := hcells
    have hgS : gS < w3.heap.size ∨ S = [] := by
      cases hS : S with
      | nil => exact .inr rfl
      | cons a r =>
        left
        have := hcells 0 a (by rw [hS]; rfl)
        exact World.block_lt_of_cell? w3 _ this
    clear hcells hv
    go_wp2_with fail
    go_step3
    go_wp2_with fail
    go_loopw [5, 15] (fun d i wr => ∃ j : Nat, d = .slice none 0 0 ∧ j ≤ S.length ∧ i = .int .i64 (j : Int) ∧ Hid (∀ x ∈ S.take j, (T x).2 = true) ∧ wr = w3) (fun _ i _ => S.length - (intOf i).toNat)
    case atStart => exact ⟨0, rfl, Nat.zero_le _, rfl, (fun x hx => by simp at hx), rfl⟩
    case round =>
      obtain ⟨j, rfl, hj, rfl, hpre, rfl⟩ := hrel
      by_cases hlt : j < S.length
      · obtain ⟨k, hk⟩ : ∃ k, S[j]? = some k := ⟨_, List.getElem?_eq_getElem hlt⟩
        have hkS : k ∈ S := List.mem_of_getElem? hk
        have hkl := hSL.out k hkS
        have e1 : wr.cell? ⟨gS, j, none⟩ = some (.int .i64 (k : Int)) := HC.out j k (by unfold nI; rw [List.getElem?_map, hk]; rfl)
        have e2 := HT.out.e k hkl
        have htk : S.take (j + 1) = S.take j ++ [k] := by rw [List.take_add_one, hk]; rfl
        have hsp : S = S.take j ++ k :: S.drop (j + 1) := by
          conv => lhs; rw [← List.take_append_drop (j + 1) S, htk]
          simp
        have hji : (j : Int) < (S.length : Int) := by omega
        have hn1 : ((j : Int) + 1).toNat = j + 1 := by omega
        have hki : (k : Int) < (L.length : Int) := by omega
        have hk0 : (0 : Int) ≤ (k : Int) := by omega
        cases hT : (T k).2 with
        | true =>
          rw [hT] at e2
          have HN : Hid (∀ x ∈ S.take (j + 1), (T x).2 = true) := fun x hx => by
            rw [htk] at hx
            rcases List.mem_append.1 hx with hx | hx
            · exact hpre.out x hx
            · rw [List.mem_singleton.1 hx]; exact hT
          clear hpre htk hsp hT hkS hk
          go_wp2
          exact ⟨⟨j + 1, rfl, by omega, by go_num, HN, by first | rfl | trivial⟩, by simp [intOf]; omega⟩
        | false =>
          rw [hT] at e2
          have HD : Hid (cutD T S = S.drop (j + 1)) := by
            show _ = _
            conv => lhs; rw [hsp]
            exact cutD_at hpre.out hT
          clear hpre htk hsp hT hkS hk
          have hblk : gS < wr.heap.size := hgS.resolve_right (fun e => by rw [e] at hlt; simp at hlt)
          have HX : Hid (∀ (i : Nat) (x : Value), (iv (nI (S.drop (j + 1))))[i]? = some x → wr.cell? ((⟨gS, j + 1, none⟩ : Addr).add i) = some x) := fun i x hx => by
            rw [show (⟨gS, j + 1, none⟩ : Addr).add i = ⟨gS, j + 1 + i, none⟩ by by_cases hi : i = 0 <;> simp [Addr.add, hi]]
            unfold iv nI at hx
            rw [List.getElem?_map, List.getElem?_map, List.getElem?_drop] at hx
            cases hq : S[j + 1 + i]? with
            | none => rw [hq] at hx; cases hx
            | some y =>
              rw [hq] at hx
              simp only [Option.map_some, Option.some.injEq] at hx
              rw [← hx]
              exact HC.out (j + 1 + i) y (by unfold nI; rw [List.getElem?_map, hq]; rfl)
          by_cases hcS : cS = j + 1
          · have hdr : S.drop (j + 1) = [] := List.drop_eq_nil_iff.2 (by omega)
            have hlj : S.length = j + 1 := by omega
            go_wp2
            first | (change bodyPost Tryd.prog Tryd.f32 _ Exit.ret _ _) | (simp only [Exit.noGoto])
            go_ret
            refine ⟨⟨_, rfl, ?_⟩, HB3.out⟩
            show Src _ _ _
            rw [HD.out, hdr]
            exact .inr ⟨_, _, by first | rfl | (simp; done) | (simp [hlj]; done), hblk, fun i x hx => by simp [iv, nI] at hx⟩
          · go_wp2
            first | (change bodyPost Tryd.prog Tryd.f32 _ Exit.ret _ _) | (simp only [Exit.noGoto])
            go_ret
            refine ⟨⟨_, rfl, ?_⟩, HB3.out⟩
            show Src _ _ _
            rw [HD.out]
            exact .inr ⟨⟨gS, j + 1, none⟩, cS - (j + 1), by rw [List.length_drop]; rfl, hblk, HX.out⟩
      · obtain rfl : j = S.length := by omega
        have HD : Hid (cutD T S = []) := cutD_none (by have := hpre.out; rwa [List.take_length] at this)
        have hji : ¬ ((S.length : Int) < (S.length : Int)) := by omega
        clear hpre
        go_wp2
        first | (change bodyPost Tryd.prog Tryd.f32 _ Exit.ret _ _) | (simp only [Exit.noGoto])
        go_ret
        exact ⟨⟨_, rfl, by show Src _ _ _; rw [HD.out]; exact .inl ⟨rfl, rfl⟩⟩, HB3.out⟩
end Go.Proofs.YtlocaalipjjnpaaDoor
