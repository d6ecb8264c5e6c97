import Derived.RangeFuncBox
import Derived.OwnWalkIn
import Derived.Maps.AppendAt
import Derived.Test.YtekgnogjfggnmaaDoorKidsFit
import Derived.Test.YtekgnogjfggnmaaDoorInts
import Derived.Test.YtekgnogjfggnmaaDoorHas
namespace Go.Proofs.YtekgnogjfggnmaaDoor
open Go.RowKit Go.Shelf
attribute [local go_sem] Oper.semAt_some

/-- The kids of a node. -/
def kidsN (L : List Nd) (n : Nat) : List Nat := kidL L (endOf L n) (L.length + 1) (n + 1)

/-- What has come so far is the kids' beginning. -/
structure KCh (L : List Nd) (n : Nat) (pre : List Nat) : Prop where
  len : pre.length + n + 1 ≤ posK L n pre
  le : posK L n pre ≤ endOf L n
  ch : Ch L (n + 1) (posK L n pre)
  eq : kidsN L n = pre ++ kidL L (endOf L n) (L.length + 1 - pre.length) (posK L n pre)
  last : ∀ q x, pre = q ++ [x] → 1 ≤ sz L x ∧ (x : Int) + sz L x ≤ (endOf L n : Int)
theorem KCh.nil {L : List Nd} (hT : Tr L) {n : Nat} (hn : n < L.length) : KCh L n [] := by
  obtain ⟨g1, g2⟩ := hT.good n hn
  exact ⟨by simp [posK], by simp [posK, endOf]; omega, by simp only [posK, List.foldl_nil]; exact .here _, by simp [kidsN, posK], fun q x e => by simp at e⟩
theorem KCh.snoc {L : List Nd} (hT : Tr L) {n : Nat} (hn : n < L.length) {pre : List Nat} (h : KCh L n pre) (hlt : posK L n pre < endOf L n) : KCh L n (pre ++ [posK L n pre]) := by
  obtain ⟨g1, g2⟩ := hT.good n hn
  have he : (endOf L n : Int) = n + sz L n := by unfold endOf; omega
  have hg := hT.kid_good hn ⟨h.ch, by omega⟩
  have := h.len
  refine ⟨by rw [posK_snoc]; simp; omega, by rw [posK_snoc]; omega, by rw [posK_snoc]; exact h.ch.snoc hg.1, ?_, fun q x e => ?_⟩
  · rw [h.eq, show L.length + 1 - pre.length = (L.length - pre.length) + 1 by omega]
    show pre ++ (if endOf L n ≤ posK L n pre then _ else _) = _
    rw [if_neg (by omega), posK_snoc]
    simp only [List.append_assoc, List.cons_append, List.nil_append, List.length_append, List.length_cons, List.length_nil]
    congr 3
    omega
  · obtain ⟨rfl, rfl⟩ : pre = q ∧ posK L n pre = x := by
      have := List.append_inj' e rfl
      exact ⟨this.1, by simpa using this.2⟩
    exact ⟨hg.1, by omega⟩
theorem KCh.done {L : List Nd} (hT : Tr L) {n : Nat} (hn : n < L.length) {pre : List Nat} (h : KCh L n pre) (hd : endOf L n ≤ posK L n pre) : kidsN L n = pre := by
  obtain ⟨g1, g2⟩ := hT.good n hn
  have he : (endOf L n : Int) = n + sz L n := by unfold endOf; omega
  have := h.len
  have := h.le
  rw [h.eq, show L.length + 1 - pre.length = (L.length - pre.length) + 1 by omega]
  show pre ++ (if endOf L n ≤ posK L n pre then _ else _) = _
  rw [if_pos hd, List.append_nil]

def nI (l : List Nat) : List Int := l.map fun (x : Nat) => (x : Int)
theorem nI_snoc (l : List Nat) (x : Nat) : iv (nI (l ++ [x])) = iv (nI l) ++ [.int .i64 (x : Int)] := by simp [iv, nI]
theorem nI_len (l : List Nat) : (nI l).length = l.length := List.length_map ..

set_option maxRecDepth 100000 in
set_option maxHeartbeats 2000000 in
theorem appendSeq_any (w : World) (B g o cap n : Nat) (L : List Nd) (hL : L.length ≤ 1353245080300) (hn : n < L.length) (hT : Tr L) (h : KKeep B g o cap n L w) (hB : B + 1 < w.heap.size) :
    Calls Tryd.prog 52 #[.slice none 0 0, .func (.func 53) #[] #[.pointer (some ⟨B + 1, 0, none⟩), .pointer (some ⟨B, 0, none⟩)]] w fun e W' => (∃ v, e = .returned v ∧ Hid (W'.ownsRow w.heap.size 3 1 v (kidsN L n).length (iv (nI (kidsN L n))))) ∧ Below w.heap.size w W' := by
  obtain ⟨i0, hi, hz0, hz1, hz2⟩ := info_parts info3
  have HT : Hid (Tr L) := hT
  obtain ⟨g1, g2⟩ := hT.good n hn
  have hE : endOf L n ≤ L.length := by unfold endOf; omega
  have HG : Hid (Good L n) := ⟨g1, g2⟩
  clear hT g1 g2
  refine (callsIn_wide (n := 6)).1 ?_
  refine callsIn_of_wp_marks Tryd.func52 rfl trivial ?_ rfl
  simp only [Tryd.ntmps52, List.size_toArray, List.length_cons, List.length_nil, Nat.reduceAdd, Nat.reduceSub, Array.replicate_succ, Array.replicate_zero, List.push_toArray, List.append_toArray, List.nil_append, List.cons_append]
  gi_wp2
  have bO := Boxed.new w 41 (.slice none 0 0)
  have hB0 : Below w.heap.size w (w.alloc (.cells #[.slice none 0 0] 41)) := (Below.refl _ w).alloc (Nat.le_refl _) _
  have kc : KKeep B g o cap n L (w.alloc (.cells #[.slice none 0 0] 41)) := h.below hB0 hB h.lay.lt (by simp)
  refine wpIn_range_guard rfl (by omega) (gf := 53) (lb := #[.pointer (some ⟨B + 1, 0, none⟩), .pointer (some ⟨B, 0, none⟩)]) rfl trivial (enters_of Tryd.func53 (by kernel_rfl) rfl)
    (kids_seq 5 (by omega) B g o cap n L _ hL hn HG.out kc (by simp; omega)) (Below.refl _ _) (fun _ => rfl)
    (fun pre W => ((∃ v, Boxed W w.heap.size 41 v ∧ W.ownsRow w.heap.size 3 1 v pre.length (iv (nI pre)) ∧ True) ∧ KCh L n pre) ∧ Below w.heap.size w W)
    (fun _ _ _ => False)
    (OwnFrom.and (Own.from (fun s A B' row hs hg hr => ⟨holdsRow_own w.heap.size w.heap.size 41 3 1 (fun pre : List Nat => pre.length) (fun pre => iv (nI pre)) (fun _ _ => True) s A B' row hs.1 hg hr, hs.2⟩) _) (ownFrom_below (Nat.le_refl _) (by simp)))
    (fun _ _ _ _ _ hs _ _ => hs)
    ⟨⟨⟨_, bO, World.ownsRow_nil _ _ _ _, trivial⟩, KCh.nil HT.out hn⟩, hB0⟩ (fun pre W hI => h.below hI.2 hB h.lay.lt hI.2.size) (fun pre x W hI => hI.1.2.last pre x rfl)
    (fun x => { tmps := #[.slice none 0 0, .func (.func 53) #[] #[.pointer (some ⟨B + 1, 0, none⟩), .pointer (some ⟨B, 0, none⟩)], .pointer (some ⟨w.heap.size, 0, none⟩), undef, .slice none 0 0, .int .i64 (x : Int), .func (.func 53) #[] #[.pointer (some ⟨B + 1, 0, none⟩), .pointer (some ⟨B, 0, none⟩)], .int .i64 (x : Int), undef, undef, undef, undef, undef], defers := [] }) ?assign ?body ?done ?stop
  case assign =>
    intro l x W K hK
    gi_wp2
    simpa [encK] using hK
  case body =>
    rintro l pre x W ⟨⟨⟨v, hv, hrow, _⟩, hch⟩, hB'⟩ ⟨hx, hxE⟩
    have hc := hv.cell
    have hpl := hch.len
    have hple := hch.le
    have HCH : Hid (KCh L n pre) := hch
    have hsz := hB'.size
    have HX : Hid (x = posK L n pre) := hx
    have hpx : pre.length + n + 1 ≤ x := by omega
    have hxl : x ≤ L.length := by omega
    have HXE : Hid (posK L n pre < endOf L n) := by show _ < _; omega
    clear hch hx hpl hple hxE
    gi_wp2_with (gi_at_builtin; refine wpListIn_append_own _ rfl _ _ 41 rfl w.heap.size 3 i0 (.int .i64 0) 1 8 Tryd.underlying41 hi hz0 hz1 hz2 rfl (by decide) _ _ _ rfl (hrow.alloc _) ⟨W.heap.size, 0, none⟩ 1 1 [.int .i64 (x : Int)] rfl rfl (cell_one_new _ _ _) (by simp [Value.oneCell']) (by unfold maxLen; omega) (by omega) (by simp; omega) ?_; intro v' w1 hown' hgrow _; obtain ⟨g', cap', rfl⟩ := ownsRow_succ hown'; obtain ⟨hv1, hv2, hr2, hk2, hb2⟩ := hv.appended (by decide) hrow hB'.size (Nat.le_refl _) hown' hgrow; have hc1 := hv1.cell; have hf1 := hv1.frozen)
    refine ⟨hk2, ⟨⟨_, hv2, by rw [nI_snoc, List.length_append]; exact hr2, trivial⟩, ?_⟩, hB'.trans hb2⟩
    rw [HX.out]
    exact HCH.out.snoc HT.out hn HXE.out
  case done =>
    rintro D ys W hD hS ⟨⟨⟨v, hv, hrow, _⟩, hch⟩, hB'⟩ hK
    have hc := hv.cell
    have HE : Hid (kidsN L n = ys) := hch.done HT.out hn hS
    clear hch hS
    gi_wp2
    refine ⟨by simp, .inl ⟨_, _, rfl, run_takeDeferred hK, ?_⟩⟩
    exact ⟨_, results_tmp rfl _ _ _, ⟨v, rfl, by rw [HE.out]; exact ownsRow_putObj hrow _ hK rfl⟩, hB'.trans (belowK_b (w := w) (Nat.le_refl _) W D _ _ (by simp at hD; omega) hK rfl rfl)⟩
  case stop =>
    rintro D c pre W _ hF _
    exact hF.elim

end Go.Proofs.YtekgnogjfggnmaaDoor
