import Derived.RangeFuncBox
import Derived.OwnWalkIn
import Derived.Maps.AppendAt
import Derived.Test.YtlocaalipjjnpaaDoorN11
import Derived.Test.YtlocaalipjjnpaaDoorN07
import Derived.Test.YtlocaalipjjnpaaDoorN05
namespace Go.Proofs.YtlocaalipjjnpaaDoor
open Go.RowKit Go.Shelf
attribute [local go_sem] Oper.semAt_some

/-- The kids of a node. -/
def kidsN (L : List Nd) (n : Nat) : List Nat := kidL L (endOf L n) (L.length + 1) (n + 1)

/-- What has come so far is the kids' beginning. -/
structure KCh (L : List Nd) (n : Nat) (pre : List Nat) : Prop where
  len : pre.length + n + 1 ≤ posK L n pre
  le : posK L n pre ≤ endOf L n
  ch : Ch L (n + 1) (posK L n pre)
  eq : kidsN L n = pre ++ kidL L (endOf L n) (L.length + 1 - pre.length) (posK L n pre)
  last : ∀ q x, pre = q ++ [x] → 1 ≤ sz L x ∧ (x : Int) + sz L x ≤ (endOf L n : Int)
theorem KCh.nil {L : List Nd} (hT : Tr L) {n : Nat} (hn : n < L.length) : KCh L n [] := by
  obtain ⟨g1, g2⟩ := hT.good n hn
  exact ⟨by simp [posK], by simp [posK, endOf]; omega, by simp only [posK, List.foldl_nil]; exact .here _, by simp [kidsN, posK], fun q x e => by simp at e⟩
theorem KCh.snoc {L : List Nd} (hT : Tr L) {n : Nat} (hn : n < L.length) {pre : List Nat} (h : KCh L n pre) (hlt : posK L n pre < endOf L n) : KCh L n (pre ++ [posK L n pre]) := by
  obtain ⟨g1, g2⟩ := hT.good n hn
  have he : (endOf L n : Int) = n + sz L n := by unfold endOf; omega
  have hg := hT.kid_good hn ⟨h.ch, by omega⟩
  have := h.len
  refine ⟨by rw [posK_snoc]; simp; omega, by rw [posK_snoc]; omega, by rw [posK_snoc]; exact h.ch.snoc hg.1, ?_, fun q x e => ?_⟩
  · rw [h.eq, show L.length + 1 - pre.length = (L.length - pre.length) + 1 by omega]
    show pre ++ (if endOf L n ≤ posK L n pre then _ else _) = _
    rw [if_neg (by omega), posK_snoc]
    simp only [List.append_assoc, List.cons_append, List.nil_append, List.length_append, List.length_cons, List.length_nil]
    congr 3
    omega
  · obtain ⟨rfl, rfl⟩ : pre = q ∧ posK L n pre = x := by
      have := List.append_inj' e rfl
      exact ⟨this.1, by simpa using this.2⟩
    exact ⟨hg.1, by omega⟩
theorem KCh.done {L : List Nd} (hT : Tr L) {n : Nat} (hn : n < L.length) {pre : List Nat} (h : KCh L n pre) (hd : endOf L n ≤ posK L n pre) : kidsN L n = pre := by
  obtain ⟨g1, g2⟩ := hT.good n hn
  have he : (endOf L n : Int) = n + sz L n := by unfold endOf; omega
  have := h.len
  have := h.le
  rw [h.eq, show L.length + 1 - pre.length = (L.length - pre.length) + 1 by omega]
  show pre ++ (if endOf L n ≤ posK L n pre then _ else _) = _
  rw [if_pos hd, List.append_nil]

def nI (l : List Nat) : List Int := l.map fun (x : Nat) => (x : Int)
theorem nI_snoc (l : List Nat) (x : Nat) : iv (nI (l ++ [x])) = iv (nI l) ++ [.int .i64 (x : Int)] := by simp [iv, nI]
theorem nI_len (l : List Nat) : (nI l).length = l.length := List.length_map ..

end Go.Proofs.YtlocaalipjjnpaaDoor

namespace Go.Proofs.YtlocaalipjjnpaaDoor
open Go.RowKit

/-- A number is appended to a long row. -/
theorem wpList_appK {w0 w : World} {ops : Array Oper} {rest : List Oper} {o : Oper} {a : Act} {Q : Exit → Act → World → Prop} (hgd : o.guard = none) (s x : Operand)
    (ho : o.op = .call { callee := .builtin .append, args := #[s, x], argTypes := #[25, 25] })
    (v : Value) (l : List Int) (hs : a.eval s = v) (hown : Hid (w.ownsRow w0.heap.size 3 1 v l.length (iv l))) (hB : Hid (Below w0.heap.size w0 w)) (k : Int) (H : Nat) (hH : w.heap.size = H) (hx : a.eval x = .slice (some ⟨H, 0, none⟩) 1 1)
    (h40 : l.length + 1 ≤ 1353245080301)
    (h : ∀ v' w', Hid (w'.ownsRow w0.heap.size 3 1 v' (l ++ [k]).length (iv (l ++ [k]))) → Hid (Below w0.heap.size w0 w') → wpList Tryd.prog ops Q rest (a.put o.dst v') w') : wpList Tryd.prog ops Q (o :: rest) a (w.alloc (.cells #[.int .i64 k] 3)) := by
  subst hH
  obtain ⟨i0, hi, hz0, hz1, hz2⟩ := info_parts info3
  have hsz := hB.out.size
  obtain ⟨v', w', hr, h2, h3, _⟩ := run_append_own (P := Tryd.prog) (w.alloc (.cells #[.int .i64 k] 3)) w0.heap.size 25 o.type 3 i0 _ 1 8 Tryd.underlying25 hi hz0 hz1 hz2 rfl (by decide) v l.length (iv l) (hown.out.alloc _) ⟨w.heap.size, 0, none⟩ 1 1 [.int .i64 k] rfl
    (World.news_of_block (heap_alloc_new w _)) (by intro u hu; rw [List.mem_singleton.1 hu]; rfl) (by unfold maxLen; omega) (by omega) (by simp; omega)
  refine wpList_plain hgd fun K hK => ?_
  unfold Oper.wp execOp
  simp only [ho, resolve, invoke, builtin, Sem.run_bind, Sem.run_pure, Result.andThen_ok, List.map_toArray, List.map_cons, List.map_nil, hs, hx, hr]
  refine hK _ _ (h v' w' ?_ ?_)
  · show w'.ownsRow w0.heap.size 3 1 v' (l ++ [k]).length (iv (l ++ [k]))
    rw [iv_app, List.length_append]
    exact h2
  · exact (hB.out.alloc hsz _).grown h3 (by simp; omega) (own_ge hown.out)

/-- The kids between k and e. -/
def between (L : List Nd) (k e : Nat) : List Nat := kidL L e (e - k) k
theorem kidL_fuel (L : List Nd) (e : Nat) : ∀ (f f' k : Nat), sizesS L k e = true → e - k ≤ f → e - k ≤ f' → kidL L e f k = kidL L e f' k
  | 0, 0, _, _, _, _ => rfl
  | 0, f' + 1, k, _, h, _ => by
    show [] = if e ≤ k then [] else _
    rw [if_pos (by omega)]
  | f + 1, 0, k, _, _, h => by
    show (if e ≤ k then [] else _) = []
    rw [if_pos (by omega)]
  | f + 1, f' + 1, k, hs, h, h' => by
    show (if e ≤ k then [] else _) = (if e ≤ k then [] else _)
    by_cases h1 : e ≤ k
    · rw [if_pos h1, if_pos h1]
    · rw [if_neg h1, if_neg h1]
      have hb : ¬ (sz L k < 1 ∨ (e : Int) - k < sz L k) := fun hb => by rw [sizesS_bad L k e (by omega) hb] at hs; cases hs
      rw [sizesS_go L k e (by omega) hb] at hs
      rw [kidL_fuel L e f f' (k + (sz L k).toNat) (by simpa using (Bool.and_eq_true _ _ ▸ hs : _ ∧ _).2) (by omega) (by omega)]
theorem between_end (L : List Nd) (k e : Nat) (h : e ≤ k) : between L k e = [] := by
  unfold between
  rw [show e - k = 0 by omega]
  rfl
theorem between_go (L : List Nd) (k e : Nat) (h : k < e) (hs : sizesS L k e = true) : (1 ≤ sz L k ∧ (k : Int) + sz L k ≤ e ∧ sizesS L (k + (sz L k).toNat) e = true) ∧ between L k e = k :: between L (k + (sz L k).toNat) e := by
  have hb : ¬ (sz L k < 1 ∨ (e : Int) - k < sz L k) := fun hb => by rw [sizesS_bad L k e h hb] at hs; cases hs
  have hg := sizesS_go L k e h hb
  rw [hs] at hg
  have h2 : sizesS L (k + (sz L k).toNat) e = true := by
    cases h3 : sizesS L (k + (sz L k).toNat) e with
    | true => rfl
    | false => rw [h3] at hg; simp at hg
  refine ⟨⟨by omega, by omega, h2⟩, ?_⟩
  unfold between
  obtain ⟨f, hf⟩ : ∃ f, e - k = f + 1 := ⟨e - k - 1, by omega⟩
  rw [hf]
  show (if e ≤ k then [] else _) = _
  rw [if_neg (by omega), kidL_fuel L e f (e - (k + (sz L k).toNat)) _ h2 (by omega) (by omega)]

set_option maxRecDepth 100000 in
set_option maxHeartbeats 1000000 in
theorem rkids_any (g o cap : Nat) (L : List Nd) (n : Nat) (hL : L.length ≤ 1353245080300) (w : World) (hl : Hid (Lay w g o L)) (hn : n < L.length) (h1 : 1 ≤ sz L n) (h2 : (n : Int) + sz L n ≤ L.length) (hs : sizesS L (n + 1) (endOf L n) = true) :
    Calls Tryd.prog 42 #[.slice (some ⟨g, o, none⟩) L.length cap, .int .i64 (n : Int)] w fun e w' => (∃ v, e = .returned v ∧ Hid (w'.ownsRow w.heap.size 3 1 v (between L (n + 1) (endOf L n)).length (iv (nI (between L (n + 1) (endOf L n)))))) ∧ Below w.heap.size w w' := by
  obtain ⟨K, hK⟩ : ∃ K, between L (n + 1) (endOf L n) = K := ⟨_, rfl⟩
  have HK : Hid (between L (n + 1) (endOf L n) = K) := hK
  rw [hK]
  obtain ⟨e, he⟩ : ∃ e, endOf L n = e := ⟨_, rfl⟩
  have he' : (n : Int) + sz L n = (e : Int) := by rw [← he]; unfold endOf; omega
  rw [he] at HK hs
  have hcs : Hid (∀ w', Below w.heap.size w w' → w'.cell? ⟨g, o + n * 9 + 8, none⟩ = some (.int .i64 ((e : Int) - n))) := fun w' hb => by
    have := (hl.out.next hb).size hn
    rwa [show (nd L n).size = (e : Int) - n by show sz L n = _; omega] at this
  have hne : n < e := by omega
  have hel : e ≤ L.length := by omega
  have HS : Hid (sizesS L (n + 1) e = true) := hs
  clear hs hK he he' h1 h2
  have i0 : (0 : Int) ≤ (n : Int) := by omega
  have i1 : (n : Int) < (L.length : Int) := by omega
  have i2 : IntKind.i64.wrap ((n : Int) + ((e : Int) - n)) = (e : Int) := by rw [IntKind.wrap_i64]; omega
  have i3 : IntKind.i64.wrap ((n : Int) + 1) = (n : Int) + 1 := by rw [IntKind.wrap_i64]; omega
  go_enter Tryd.func42, Tryd.ntmps42
  go_wp2
  go_loopw [5, 6] (fun u v wr => ∃ (pre : List Nat) (k : Nat), pre.length + n < k ∧ k ≤ e ∧ v = .int .i64 (k : Int) ∧ Hid (wr.ownsRow w.heap.size 3 1 u (nI pre).length (iv (nI pre))) ∧ Hid (sizesS L k e = true) ∧ Hid (K = pre ++ between L k e) ∧ Hid (Below w.heap.size w wr)) (fun _ v _ => e - (intOf v).toNat)
  case atStart => exact ⟨[], n + 1, by simp, by omega, by go_num, World.ownsRow_nil _ _ _ _, HS, HK.out.symm, Below.refl _ _⟩
  case round =>
    obtain ⟨pre, k, hpk, hke, rfl, hO, hS, hKp, hB⟩ := hrel
    clear HS HK
    have d0 := hcs.out wr hB.out
    by_cases hlt : k < e
    · obtain ⟨⟨s1, s2, s3⟩, hbt⟩ := between_go L k e hlt hS.out
      obtain ⟨m, hm⟩ : ∃ m : Nat, sz L k = (m : Int) := ⟨(sz L k).toNat, by omega⟩
      rw [hm, Int.toNat_natCast] at s3 hbt
      rw [hm] at s1 s2
      have HS3 : Hid (sizesS L (k + m) e = true) := s3
      have HKP : Hid (K = (pre ++ [k]) ++ between L (k + m) e) := by
        show K = _
        rw [hKp.out, hbt]
        simp
      have HCK : Hid (∀ w', Below w.heap.size w w' → w'.cell? ⟨g, o + k * 9 + 8, none⟩ = some (.int .i64 (m : Int))) := fun w' hb => by
        have := (hl.out.next hb).size (i := k) (by omega)
        rwa [show (nd L k).size = (m : Int) from hm] at this
      have j0 : (0 : Int) ≤ (k : Int) := by omega
      have j1 : (k : Int) < (L.length : Int) := by omega
      have j2 : (k : Int) < (e : Int) := by omega
      have j3 : IntKind.i64.wrap ((k : Int) + (m : Int)) = (k : Int) + (m : Int) := by rw [IntKind.wrap_i64]; omega
      have hpl : (nI pre).length + 1 ≤ 1353245080301 := by rw [nI_len]; omega
      clear s3 hbt hm hS hKp
      go_upto_region 4 with (first
        | (at_builtin; refine wpList_appK (w0 := w) (by rfl) _ _ (by rfl) u5 (nI pre) (by rfl) hO hB (k : Int) _ (by rfl) (by rfl) hpl ?_; intro v' w' ho' hb')
        | go_in)
      have d1 := HCK.out w' hb'.out
      go_wp2
      refine ⟨⟨pre ++ [k], k + m, by simp; omega, by omega, by go_num, ?_, HS3, HKP, hb'⟩, by simp [intOf]; omega⟩
      have e1 : nI (pre ++ [k]) = nI pre ++ [(k : Int)] := by simp [nI]
      rw [e1]
      exact ho'
    · obtain rfl : k = e := by omega
      have hKe : K = pre := by rw [hKp.out, between_end L k k (Nat.le_refl _), List.append_nil]
      have HKE : Hid (K = pre) := hKe
      clear hKe hKp hS
      go_wp2
      go_ret
      exact ⟨⟨u5, rfl, by rw [HKE.out]; have := hO.out; rwa [nI_len] at this⟩, hB.out⟩
end Go.Proofs.YtlocaalipjjnpaaDoor

namespace Go.Proofs.YtlocaalipjjnpaaDoor
open Go.RowKit

/-- A slice of numbers, as it reads. -/
def IRow (w : World) (p : Option Addr) (cap : Nat) (K : List Nat) : Prop := K.length ≤ cap ∧ ∀ (j x : Nat), K[j]? = some x → ∃ G a, p = some ⟨G, a, none⟩ ∧ w.cell? ⟨G, a + j, none⟩ = some (.int .i64 (x : Int))
theorem IRow.next {w w' : World} {p : Option Addr} {cap : Nat} {K : List Nat} (h : IRow w p cap K) (hb : Below w.heap.size w w') : IRow w' p cap K := ⟨h.1, fun j x hx => by
  obtain ⟨G, a, e, hc⟩ := h.2 j x hx
  exact ⟨G, a, e, (hb.cell (p := ⟨G, a + j, none⟩) (World.block_lt_of_cell? w _ hc)).trans hc⟩⟩
theorem IRow.of_own {w : World} {base : Nat} {v : Value} {K : List Nat} (h : w.ownsRow base 3 1 v K.length (iv (nI K))) : ∃ p cap, v = .slice p K.length cap ∧ IRow w p cap K := by
  rcases h.2 with ⟨h0, h1⟩ | ⟨g, cap, cur, rfl, hb, hg, hnc, hcm, hcs, htake⟩
  · refine ⟨none, 0, by rw [h0, h1], by omega, fun j x hx => ?_⟩
    have := (List.getElem?_eq_some_iff.1 hx).1
    omega
  · refine ⟨_, _, rfl, hnc, fun j x hx => ⟨g, 0, rfl, ?_⟩⟩
    have hv : (iv (nI K))[j]? = some (.int .i64 (x : Int)) := by simp [iv, nI, hx]
    have := h.cells (g := g) rfl j _ hv
    rwa [show (⟨g, 0, none⟩ : Addr).add j = ⟨g, 0 + j, none⟩ by by_cases hj : j = 0 <;> simp [Addr.add, hj]] at this
theorem IRow.take {w : World} {p : Option Addr} {cap : Nat} {K : List Nat} (h : IRow w p cap K) (m : Nat) : IRow w p cap (K.take m) := ⟨by have := h.1; simp; omega, fun j x hx => h.2 j x (by
  rw [List.getElem?_take] at hx
  split at hx
  · exact hx
  · cases hx)⟩

theorem rExpr_any (k : Int) (w : World) : Calls Tryd.prog 26 #[.int .i64 k] w fun e w' => e = .returned (.bool (isExpr k)) ∧ w = w' := by
  unfold isExpr
  go_enter Tryd.func26, Tryd.ntmps26
  go_wp2
  all_goals go_ret
  all_goals (refine ⟨?_, rfl⟩; simp_all; try omega)

theorem rStmt_any (k : Int) (w : World) : Calls Tryd.prog 44 #[.int .i64 k] w fun e w' => e = .returned (.bool (isStmt k)) ∧ w = w' := by
  unfold isStmt
  go_enter Tryd.func44, Tryd.ntmps44
  go_wp2
  all_goals go_ret
  all_goals (refine ⟨?_, rfl⟩; simp_all; try omega)

theorem all_upto {f : Nat → Bool} {K : List Nat} {k x : Nat} (hx : K[k]? = some x) (h : f x = false) : K.all f = false := by
  rw [List.all_eq_false]
  exact ⟨x, List.mem_of_getElem? hx, by simp [h]⟩
theorem all_done {f : Nat → Bool} {K : List Nat} (h : ∀ j x : Nat, j < K.length → K[j]? = some x → f x = true) : K.all f = true := by
  rw [List.all_eq_true]
  intro x hx
  obtain ⟨j, hj, rfl⟩ := List.getElem_of_mem hx
  exact h j _ hj (List.getElem?_eq_getElem hj)

set_option maxRecDepth 100000 in
set_option maxHeartbeats 1000000 in
theorem exprs_any (w : World) (g o cap : Nat) (L : List Nd) (p : Option Addr) (cp : Nat) (K : List Nat) (hl : Hid (Lay w g o L)) (hKl : K.length ≤ 1353245080300) (hR : Hid (IRow w p cp K)) (hK : Hid (∀ j x : Nat, K[j]? = some x → x < L.length)) :
    Calls Tryd.prog 46 #[.slice (some ⟨g, o, none⟩) L.length cap, .slice p K.length cp] w fun e w' => e = .returned (.bool (K.all fun x => isExpr (nd L x).kind)) ∧ w = w' := by
  obtain ⟨b, hb⟩ : ∃ b, (K.all fun x => isExpr (nd L x).kind) = b := ⟨_, rfl⟩
  have HB : Hid ((K.all fun x => isExpr (nd L x).kind) = b) := hb
  rw [hb]
  clear hb
  go_enter Tryd.func46, Tryd.ntmps46
  go_wp2
  go_loopw [5] (fun v wr => ∃ k : Nat, k ≤ K.length ∧ v = .int .i64 (k : Int) ∧ Hid (∀ j x : Nat, j < k → K[j]? = some x → isExpr (nd L x).kind = true) ∧ w = wr) (fun v _ => K.length - (intOf v).toNat)
  case atStart => exact ⟨0, by omega, rfl, fun j x hj => by omega, rfl⟩
  case round =>
    obtain ⟨k, hk, rfl, hn, hw⟩ := hrel
    subst hw
    by_cases hlt : k < K.length
    · obtain ⟨x, hx⟩ : ∃ x, K[k]? = some x := ⟨_, List.getElem?_eq_getElem hlt⟩
      have HX : Hid (K[k]? = some x) := hx
      obtain ⟨G, a, rfl, hc⟩ := hR.out.2 k x hx
      have hxl := hK.out k x hx
      have dk := hl.out.kind hxl
      have j0 : (0 : Int) ≤ (k : Int) := by omega
      have j1 : (k : Int) < (K.length : Int) := by omega
      have j2 : (0 : Int) ≤ (x : Int) := by omega
      have j3 : (x : Int) < (L.length : Int) := by omega
      have j4 : IntKind.i64.wrap ((k : Int) + 1) = (k : Int) + 1 := by rw [IntKind.wrap_i64]; omega
      obtain ⟨q, hq⟩ : ∃ q, (nd L x).kind = q := ⟨_, rfl⟩
      have HQ : Hid ((nd L x).kind = q) := hq
      rw [hq] at dk
      clear hq hx
      cases hE : isExpr q with
      | false =>
        have HC : Hid (Calls Tryd.prog 26 #[.int .i64 q] w fun e w' => e = .returned (.bool false) ∧ w = w') := by have := rExpr_any q w; rwa [hE] at this
        have HF : b = false := by rw [← HB.out]; exact all_upto HX.out (by rw [HQ.out]; exact hE)
        subst HF
        clear hE HB
        go_wp2_with (first
          | (go_at_call 26; refine HC.out.mono ?_; rintro e w1 ⟨rfl, hw1⟩; subst hw1)
          | go_in)
        go_ret
        exact ⟨rfl, rfl⟩
      | true =>
        have HC : Hid (Calls Tryd.prog 26 #[.int .i64 q] w fun e w' => e = .returned (.bool true) ∧ w = w') := by have := rExpr_any q w; rwa [hE] at this
        have HE : Hid (isExpr q = true) := hE
        clear hE
        go_wp2_with (first
          | (go_at_call 26; refine HC.out.mono ?_; rintro e w1 ⟨rfl, hw1⟩; subst hw1)
          | go_in)
        refine ⟨⟨k + 1, by omega, by go_num, fun j y hj hy => ?_, by first | rfl | trivial⟩, by simp [intOf]; omega⟩
        by_cases hjk : j < k
        · exact hn.out j y hjk hy
        · obtain rfl : j = k := by omega
          rw [HX.out] at hy
          cases hy
          rw [HQ.out]
          exact HE.out
    · obtain rfl : k = K.length := by omega
      have HF : b = true := by rw [← HB.out]; exact all_done hn.out
      subst HF
      clear HB
      go_wp2
      go_ret
      exact ⟨rfl, rfl⟩
end Go.Proofs.YtlocaalipjjnpaaDoor

namespace Go.Proofs.YtlocaalipjjnpaaDoor
open Go.RowKit

abbrev kd (L : List Nd) (x : Nat) : Int := (nd L x).kind
def loopS (L : List Nd) (K : List Nat) (n : Nat) : Bool := decide (K.length = n + 1) && ((K.take n).all fun x => isExpr (nd L x).kind) && (kd L (K.getD n 0) == 4)
def choiceS (L : List Nd) (K : List Nat) : Bool := if K.length = 3 then (kd L (K.getD 2 0) == 4 || kd L (K.getD 2 0) == 7) && loopS L (K.take 2) 1 else loopS L K 1


set_option maxRecDepth 100000 in
set_option maxHeartbeats 1000000 in
theorem loop_any (w : World) (g o cap : Nat) (L : List Nd) (p : Option Addr) (cp : Nat) (K : List Nat) (n : Nat) (hn : n ≤ 2) (hl : Hid (Lay w g o L)) (hR : Hid (IRow w p cp K)) (hK : Hid (∀ j x : Nat, K[j]? = some x → x < L.length)) :
    Calls Tryd.prog 48 #[.slice (some ⟨g, o, none⟩) L.length cap, .slice p K.length cp, .int .i64 (n : Int)] w fun e w' => e = .returned (.bool (loopS L K n)) ∧ w = w' := by
  by_cases hlen : K.length = n + 1
  · obtain ⟨x, hx⟩ : ∃ x, K[n]? = some x := ⟨_, List.getElem?_eq_getElem (by omega)⟩
    obtain ⟨G, a, rfl, hc⟩ := hR.out.2 n x hx
    have hxl := hK.out n x hx
    have dk := hl.out.kind hxl
    have hcap := hR.out.1
    have htk : (K.take n).length = n := by simp; omega
    obtain ⟨r, hr⟩ : ∃ r, ((K.take n).all fun x => isExpr (nd L x).kind) = r := ⟨_, rfl⟩
    have HE : Hid (Calls Tryd.prog 46 #[.slice (some ⟨g, o, none⟩) L.length cap, .slice (some ⟨G, a, none⟩) n cp] w fun e w' => e = .returned (.bool r) ∧ w = w') := by
      have := exprs_any w g o cap L (some ⟨G, a, none⟩) cp (K.take n) hl (by omega) (hR.out.take n) (fun j x hx => hK.out j x (by
        rw [List.getElem?_take] at hx
        split at hx
        · exact hx
        · cases hx))
      rwa [htk, hr] at this
    have hS : loopS L K n = (r && (kd L x == 4)) := by
      unfold loopS
      rw [hr, List.getD_eq_getElem?_getD, hx]
      simp [hlen]
    rw [hS, hlen]
    obtain ⟨q, hq⟩ : ∃ q, (nd L x).kind = q := ⟨_, rfl⟩
    rw [hq] at dk
    rw [show kd L x = q from hq]
    have j0 : (0 : Int) ≤ (n : Int) := by omega
    have j1 : (n : Int) ≤ (cp : Int) := by omega
    have j2 : (n : Int) < (n : Int) + 1 := by omega
    have j3 : (0 : Int) ≤ (x : Int) := by omega
    have j4 : (x : Int) < (L.length : Int) := by omega
    have j5 : IntKind.i64.wrap ((n : Int) + 1) = (n : Int) + 1 := by rw [IntKind.wrap_i64]; omega
    clear hS hr hx hq hlen htk hxl hR hK
    go_enter Tryd.func48, Tryd.ntmps48
    cases r with
    | false =>
      go_wp2_with (first
        | (go_at_call 46; refine HE.out.mono ?_; rintro e w1 ⟨rfl, hw1⟩; subst hw1)
        | go_in)
      go_ret
      exact ⟨rfl, rfl⟩
    | true =>
      go_wp2_with (first
        | (go_at_call 46; refine HE.out.mono ?_; rintro e w1 ⟨rfl, hw1⟩; subst hw1)
        | go_in)
      go_ret
      exact ⟨by simp, rfl⟩
  · have hS : loopS L K n = false := by unfold loopS; simp [hlen]
    rw [hS]
    have hne : ((K.length : Int) == (n : Int) + 1) = false := by rw [beq_eq_false_iff_ne]; omega
    have j5 : IntKind.i64.wrap ((n : Int) + 1) = (n : Int) + 1 := by rw [IntKind.wrap_i64]; omega
    clear hS hlen hR hK
    go_enter Tryd.func48, Tryd.ntmps48
    go_wp2
    go_ret
    exact ⟨rfl, rfl⟩

set_option maxRecDepth 100000 in
set_option maxHeartbeats 1000000 in
theorem choice_any (w : World) (g o cap : Nat) (L : List Nd) (p : Option Addr) (cp : Nat) (K : List Nat) (hl : Hid (Lay w g o L)) (hR : Hid (IRow w p cp K)) (hK : Hid (∀ j x : Nat, K[j]? = some x → x < L.length)) :
    Calls Tryd.prog 47 #[.slice (some ⟨g, o, none⟩) L.length cap, .slice p K.length cp] w fun e w' => e = .returned (.bool (choiceS L K)) ∧ w = w' := by
  by_cases hlen : K.length = 3
  · obtain ⟨x, hx⟩ : ∃ x, K[2]? = some x := ⟨_, List.getElem?_eq_getElem (by omega)⟩
    obtain ⟨G, a, rfl, hc⟩ := hR.out.2 2 x hx
    have hxl := hK.out 2 x hx
    have dk := hl.out.kind hxl
    have hcap := hR.out.1
    have htk : (K.take 2).length = 2 := by simp; omega
    obtain ⟨r, hr⟩ : ∃ r, loopS L (K.take 2) 1 = r := ⟨_, rfl⟩
    have HE : Hid (Calls Tryd.prog 48 #[.slice (some ⟨g, o, none⟩) L.length cap, .slice (some ⟨G, a, none⟩) 2 cp, .int .i64 1] w fun e w' => e = .returned (.bool r) ∧ w = w') := by
      have := loop_any w g o cap L (some ⟨G, a, none⟩) cp (K.take 2) 1 (by omega) hl (hR.out.take 2) (fun j x hx => hK.out j x (by
        rw [List.getElem?_take] at hx
        split at hx
        · exact hx
        · cases hx))
      rwa [htk, hr] at this
    have hS : choiceS L K = ((kd L x == 4 || kd L x == 7) && r) := by
      unfold choiceS
      rw [if_pos hlen, hr, List.getD_eq_getElem?_getD, hx]
      rfl
    rw [hS, hlen]
    obtain ⟨q, hq⟩ : ∃ q, (nd L x).kind = q := ⟨_, rfl⟩
    rw [hq] at dk
    rw [show kd L x = q from hq]
    have j1 : (2 : Int) ≤ (cp : Int) := by omega
    have j3 : (0 : Int) ≤ (x : Int) := by omega
    have j4 : (x : Int) < (L.length : Int) := by omega
    clear hS hr hx hq hlen htk hxl hR hK
    go_enter Tryd.func47, Tryd.ntmps47
    go_wp2_with (first
      | (go_at_call 48; refine HE.out.mono ?_; rintro e w1 ⟨rfl, hw1⟩; subst hw1)
      | go_in)
    all_goals go_ret
    all_goals (refine ⟨?_, rfl⟩; simp_all)
  · have hS : choiceS L K = loopS L K 1 := by unfold choiceS; rw [if_neg hlen]
    rw [hS]
    have hne : ((K.length : Int) == 3) = false := by rw [beq_eq_false_iff_ne]; omega
    have HE : Hid (Calls Tryd.prog 48 #[.slice (some ⟨g, o, none⟩) L.length cap, .slice p K.length cp, .int .i64 1] w fun e w' => e = .returned (.bool (loopS L K 1)) ∧ w = w') := loop_any w g o cap L p cp K 1 (by omega) hl hR hK
    obtain ⟨r, hr⟩ : ∃ r, loopS L K 1 = r := ⟨_, rfl⟩
    rw [hr] at HE ⊢
    clear hS hlen hR hK hr
    go_enter Tryd.func47, Tryd.ntmps47
    go_wp2_with (first
      | (go_at_call 48; refine HE.out.mono ?_; rintro e w1 ⟨rfl, hw1⟩; subst hw1)
      | go_in)
    go_ret
    exact ⟨rfl, rfl⟩
end Go.Proofs.YtlocaalipjjnpaaDoor

namespace Go.Proofs.YtlocaalipjjnpaaDoor
open Go.RowKit

def funcS (L : List Nd) (K : List Nat) : Bool := decide (1 ≤ K.length) && decide (K.length ≤ 9) && (kd L (K.getD (K.length - 1) 0) == 4) && ((K.take (K.length - 1)).all fun x => kd L x == 3)

set_option maxRecDepth 100000 in
set_option maxHeartbeats 1000000 in
theorem function_any (w : World) (g o cap : Nat) (L : List Nd) (p : Option Addr) (cp : Nat) (K : List Nat) (hl : Hid (Lay w g o L)) (hKl : K.length ≤ 1353245080300) (hR : Hid (IRow w p cp K)) (hK : Hid (∀ j x : Nat, K[j]? = some x → x < L.length)) :
    Calls Tryd.prog 43 #[.slice (some ⟨g, o, none⟩) L.length cap, .slice p K.length cp] w fun e w' => e = .returned (.bool (funcS L K)) ∧ w = w' := by
  by_cases hbad : K.length < 1 ∨ (¬ K.length < 1 ∧ 9 < K.length)
  · have hS : funcS L K = false := by
      unfold funcS
      rcases hbad with h | ⟨_, h⟩
      · have : ¬ 1 ≤ K.length := by omega
        simp [this]
      · have : ¬ K.length ≤ 9 := by omega
        simp [this]
    rw [hS]
    go_enter Tryd.func43, Tryd.ntmps43
    rcases hbad with h | ⟨h, h'⟩
    · have h1 : (K.length : Int) < 1 := by omega
      go_wp2
      go_ret
      exact ⟨rfl, rfl⟩
    · have h1 : ¬ (K.length : Int) < 1 := by omega
      have h2 : (9 : Int) < (K.length : Int) := by omega
      go_wp2
      go_ret
      exact ⟨rfl, rfl⟩
  · obtain ⟨m, hm⟩ : ∃ m, K.length = m + 1 := ⟨K.length - 1, by omega⟩
    obtain ⟨x, hx⟩ : ∃ x, K[m]? = some x := ⟨_, List.getElem?_eq_getElem (by omega)⟩
    obtain ⟨G, a, rfl, hc⟩ := hR.out.2 m x hx
    have hxl := hK.out m x hx
    have dk := hl.out.kind hxl
    obtain ⟨q, hq⟩ : ∃ q, (nd L x).kind = q := ⟨_, rfl⟩
    rw [hq] at dk
    obtain ⟨b, hb⟩ : ∃ b, funcS L K = b := ⟨_, rfl⟩
    have hS : ((q == 4) && ((K.take m).all fun x => kd L x == 3)) = b := by
      rw [← hb]
      unfold funcS
      rw [hm, Nat.add_sub_cancel, List.getD_eq_getElem?_getD, hx]
      have h1 : m + 1 ≤ 9 := by omega
      simp [h1]
      rw [show kd L x = q from hq]
    have HS : Hid (((q == 4) && ((K.take m).all fun x => kd L x == 3)) = b) := hS
    rw [hb, hm]
    have HM : Hid (K.length = m + 1) := hm
    have i1 : ¬ (m : Int) + 1 < 1 := by omega
    have i2 : ¬ (9 : Int) < (m : Int) + 1 := by omega
    have i3 : IntKind.i64.wrap ((m : Int) + 1 - 1) = (m : Int) := by rw [IntKind.wrap_i64]; omega
    have i4 : (m : Int) < (m : Int) + 1 := by omega
    have i5 : (0 : Int) ≤ (m : Int) := by omega
    have i6 : (0 : Int) ≤ (x : Int) := by omega
    have i7 : (x : Int) < (L.length : Int) := by omega
    have hm9 : m ≤ 8 := by omega
    clear hb hS hm hbad hq hx hxl
    go_enter Tryd.func43, Tryd.ntmps43
    cases h4 : (q == 4) with
    | false =>
      have HF : b = false := by rw [← HS.out, h4]; rfl
      subst HF
      have h4' : (q != 4) = true := by simpa [bne] using h4
      clear HS h4
      go_wp2
      go_ret
      exact ⟨rfl, rfl⟩
    | true =>
      have HT : Hid (((K.take m).all fun x => kd L x == 3) = b) := by show _ = _; rw [← HS.out, h4]; rfl
      have hq4 : q = 4 := by simpa using h4
      subst hq4
      clear HS h4
      go_wp2
      go_loopw [5] (fun v wr => ∃ k : Nat, k ≤ m ∧ v = .int .i64 (k : Int) ∧ Hid (∀ j x : Nat, j < k → (K.take m)[j]? = some x → (kd L x == 3) = true) ∧ w = wr) (fun v _ => m - (intOf v).toNat)
      case atStart => exact ⟨0, by omega, rfl, fun j x hj => by omega, rfl⟩
      case round =>
        obtain ⟨k, hk, rfl, hn, hw⟩ := hrel
        subst hw
        by_cases hlt : k < m
        · obtain ⟨y, hy⟩ : ∃ y, K[k]? = some y := ⟨_, List.getElem?_eq_getElem (by rw [HM.out]; omega)⟩
          have HY : Hid ((K.take m)[k]? = some y) := by show _ = _; rw [List.getElem?_take, if_pos hlt]; exact hy
          obtain ⟨G', a', e', hc'⟩ := hR.out.2 k y hy
          cases e'
          have hyl := hK.out k y hy
          have dy := hl.out.kind hyl
          have j0 : (0 : Int) ≤ (k : Int) := by omega
          have j1 : (k : Int) < (m : Int) + 1 := by omega
          have j2 : (k : Int) < (m : Int) := by omega
          have j3 : (0 : Int) ≤ (y : Int) := by omega
          have j4 : (y : Int) < (L.length : Int) := by omega
          have j5 : IntKind.i64.wrap ((k : Int) + 1) = (k : Int) + 1 := by rw [IntKind.wrap_i64]; omega
          obtain ⟨r, hr⟩ : ∃ r, (nd L y).kind = r := ⟨_, rfl⟩
          have HRY : Hid (kd L y = r) := hr
          rw [hr] at dy
          clear hr hy hyl
          cases h3 : (r == 3) with
          | false =>
            have HF : b = false := by rw [← HT.out]; exact all_upto (f := fun x => kd L x == 3) HY.out (by show (kd L y == 3) = false; rw [HRY.out]; exact h3)
            subst HF
            have h3' : (r != 3) = true := by simpa [bne] using h3
            clear HT h3
            go_wp2
            go_ret
            exact ⟨rfl, rfl⟩
          | true =>
            have hr3 : r = 3 := by simpa using h3
            subst hr3
            clear h3
            go_wp2
            refine ⟨⟨k + 1, by omega, by go_num, fun j z hj hz => ?_, by first | rfl | trivial⟩, by simp [intOf]; omega⟩
            by_cases hjk : j < k
            · exact hn.out j z hjk hz
            · obtain rfl : j = k := by omega
              rw [HY.out] at hz
              cases hz
              rw [HRY.out]
              rfl
        · obtain rfl : k = m := by omega
          have HF : b = true := by
            rw [← HT.out]
            refine all_done (fun j x hj hx => hn.out j x ?_ hx)
            have := hj
            simp at this
            omega
          subst HF
          clear HT
          have j2 : ¬ (k : Int) < (k : Int) := by omega
          go_wp2
          go_ret
          exact ⟨rfl, rfl⟩

/-- A place, as the reference says: an index node must have kids. -/
def rplF (L : List Nd) : Nat → Nat → Bool
  | 0, _ => false
  | f + 1, n => if kd L n = 24 then decide (1 < sz L n) && rplF L f (n + 1) else kd L n == 23

set_option maxRecDepth 100000 in
set_option maxHeartbeats 1000000 in
theorem rplace_any (w : World) (g o cap : Nat) (L : List Nd) (hl : Hid (Lay w g o L)) (hL : L.length ≤ 1353245080300) (hg : Hid (∀ m, m < L.length → Good L m)) : ∀ (f n : Nat), L.length - n ≤ f → n < L.length →
    Calls Tryd.prog 45 #[.slice (some ⟨g, o, none⟩) L.length cap, .int .i64 (n : Int)] w fun e w' => e = .returned (.bool (rplF L f n)) ∧ w = w'
  | 0, n, h, hn => by omega
  | f + 1, n, h, hn => by
    have IH : Hid (∀ n, L.length - n ≤ f → n < L.length → Calls Tryd.prog 45 #[.slice (some ⟨g, o, none⟩) L.length cap, .int .i64 (n : Int)] w fun e w' => e = .returned (.bool (rplF L f n)) ∧ w = w') := fun n => rplace_any w g o cap L hl hL hg f n
    have dk := hl.out.kind hn
    have ds := hl.out.size hn
    obtain ⟨g1, g2⟩ := hg.out n hn
    obtain ⟨q, hq⟩ : ∃ q, (nd L n).kind = q := ⟨_, rfl⟩
    obtain ⟨s, hs⟩ : ∃ s, sz L n = s := ⟨_, rfl⟩
    rw [hq] at dk
    rw [show (nd L n).size = s from hs] at ds
    rw [hs] at g1 g2
    have j0 : (0 : Int) ≤ (n : Int) := by omega
    have j1 : (n : Int) < (L.length : Int) := by omega
    have j2 : IntKind.i64.wrap ((n : Int) + 1) = (n : Int) + 1 := by rw [IntKind.wrap_i64]; omega
    by_cases h24 : q = 24
    · subst h24
      by_cases h1 : 1 < s
      · obtain ⟨r, hr⟩ : ∃ r, rplF L f (n + 1) = r := ⟨_, rfl⟩
        have hS : rplF L (f + 1) n = r := by
          show (if kd L n = 24 then _ else _) = _
          rw [if_pos hq, hs, hr]
          simp [h1]
        rw [hS]
        have HE : Hid (Calls Tryd.prog 45 #[.slice (some ⟨g, o, none⟩) L.length cap, .int .i64 ((n : Int) + 1)] w fun e w' => e = .returned (.bool r) ∧ w = w') := by
          have := IH.out (n + 1) (by omega) (by omega)
          rw [hr] at this
          exact this
        clear hS hr hq hs IH hg
        go_enter Tryd.func45, Tryd.ntmps45
        go_wp2_with (first
          | (go_at_call 45; refine HE.out.mono ?_; rintro e w1 ⟨rfl, hw1⟩; subst hw1)
          | go_in)
        go_ret
        exact ⟨rfl, rfl⟩
      · have hS : rplF L (f + 1) n = false := by
          show (if kd L n = 24 then _ else _) = _
          rw [if_pos hq, hs]
          simp [h1]
        rw [hS]
        clear hS hq hs IH hg
        go_enter Tryd.func45, Tryd.ntmps45
        go_wp2
        go_ret
        exact ⟨rfl, rfl⟩
    · have hS : rplF L (f + 1) n = (q == 23) := by
        show (if kd L n = 24 then _ else _) = _
        rw [if_neg (by rw [show kd L n = q from hq]; exact h24), show kd L n = q from hq]
      rw [hS]
      have h24' : (q == 24) = false := by rw [beq_eq_false_iff_ne]; exact h24
      clear hS hq hs IH hg
      go_enter Tryd.func45, Tryd.ntmps45
      go_wp2
      go_ret
      exact ⟨rfl, rfl⟩
end Go.Proofs.YtlocaalipjjnpaaDoor

namespace Go.Proofs.YtlocaalipjjnpaaDoor
open Go.RowKit

def exprsS (L : List Nd) (K : List Nat) : Bool := K.all fun x => isExpr (nd L x).kind
/-- The kids of a node, its sizes being right. -/
abbrev kidsB (L : List Nd) (n : Nat) : List Nat := between L (n + 1) (endOf L n)
theorem kidL_in (L : List Nd) (e : Nat) : ∀ (f k : Nat), ∀ x ∈ kidL L e f k, x < e
  | 0, _, x, h => by simp [kidL] at h
  | f + 1, k, x, h => by
    unfold kidL at h
    split at h
    · simp at h
    · rcases List.mem_cons.1 h with rfl | h
      · omega
      · exact kidL_in L e f _ x h
theorem kidL_count (L : List Nd) (e : Nat) : ∀ (f k : Nat), (kidL L e f k).length ≤ f
  | 0, _ => by simp [kidL]
  | f + 1, k => by
    unfold kidL
    split
    · simp
    · have := kidL_count L e f (k + (sz L k).toNat)
      simp
      omega
theorem kidsB_lt (L : List Nd) (n : Nat) (hg : Good L n) : ∀ j x : Nat, (kidsB L n)[j]? = some x → x < L.length := fun j x hx => by
  have := kidL_in L (endOf L n) _ _ x (List.mem_of_getElem? hx)
  have h1 := hg.1
  have h2 := hg.2
  unfold endOf at this
  omega
theorem kidsB_len (L : List Nd) (n : Nat) (hg : Good L n) : (kidsB L n).length ≤ L.length := by
  have h1 := hg.1
  have h2 := hg.2
  have he : endOf L n ≤ L.length := by unfold endOf; omega
  exact Nat.le_trans (kidL_count L (endOf L n) (endOf L n - (n + 1)) (n + 1)) (by omega)
theorem rkids_row (g o cap : Nat) (L : List Nd) (n : Nat) (hL : L.length ≤ 1353245080300) (w : World) (hl : Hid (Lay w g o L)) (hn : n < L.length) (hg : Good L n) (hs : sizesS L (n + 1) (endOf L n) = true) :
    Calls Tryd.prog 42 #[.slice (some ⟨g, o, none⟩) L.length cap, .int .i64 (n : Int)] w fun e w' => (∃ p cp, e = .returned (.slice p (kidsB L n).length cp) ∧ Hid (IRow w' p cp (kidsB L n))) ∧ Below w.heap.size w w' :=
  (rkids_any g o cap L n hL w hl hn hg.1 hg.2 hs).mono fun e w' h => by
    obtain ⟨⟨v, rfl, h2⟩, hb⟩ := h
    obtain ⟨p, cp, rfl, hr⟩ := IRow.of_own h2.out
    exact ⟨⟨p, cp, rfl, hr⟩, hb⟩

set_option maxRecDepth 100000 in
set_option maxHeartbeats 1000000 in
theorem shape_2 (w : World) (g o cap : Nat) (L : List Nd) (n : Nat) (hL : L.length ≤ 1353245080300) (hl : Hid (Lay w g o L)) (hn : n < L.length) (hg : Hid (∀ m, m < L.length → Good L m)) (hs : sizesS L (n + 1) (endOf L n) = true) (hq : (nd L n).kind = 2) :
    Calls Tryd.prog 28 #[.slice (some ⟨g, o, none⟩) L.length cap, .int .i64 (n : Int)] w fun e w' => e = .returned (.bool (funcS L (kidsB L n))) ∧ Below w.heap.size w w' := by
  obtain ⟨K, hKd⟩ : ∃ K, kidsB L n = K := ⟨_, rfl⟩
  have H44 := rkids_row g o cap L n hL w hl hn (hg.out n hn) hs
  have HKL : Hid (∀ j x : Nat, K[j]? = some x → x < L.length) := by rw [← hKd]; exact kidsB_lt L n (hg.out n hn)
  have hKl : K.length ≤ 1353245080300 := by rw [← hKd]; exact Nat.le_trans (kidsB_len L n (hg.out n hn)) hL
  rw [hKd] at H44 ⊢
  have H44' : Hid (Calls Tryd.prog 42 #[.slice (some ⟨g, o, none⟩) L.length cap, .int .i64 (n : Int)] w fun e w' => (∃ p cp, e = .returned (.slice p K.length cp) ∧ Hid (IRow w' p cp K)) ∧ Below w.heap.size w w') := H44
  clear H44 hKd hs
  have j0 : (0 : Int) ≤ (n : Int) := by omega
  have j1 : (n : Int) < (L.length : Int) := by omega
  obtain ⟨r, hr⟩ : ∃ r, funcS L K = r := ⟨_, rfl⟩
  have HC : Hid (∀ (w1 : World) (p : Option Addr) (cp : Nat), Below w.heap.size w w1 → Hid (IRow w1 p cp K) → Calls Tryd.prog 43 #[.slice (some ⟨g, o, none⟩) L.length cap, .slice p K.length cp] w1 fun e w' => e = .returned (.bool r) ∧ w1 = w') := fun w1 p cp hb hR => by
    rw [← hr]
    exact function_any w1 g o cap L p cp K (hl.out.next hb) hKl hR HKL
  rw [hr]
  clear hr
  go_enter Tryd.func28, Tryd.ntmps28
  go_upto_region 3 with (first
    | (go_at_call 42; refine H44'.out.mono ?_; rintro e w1 ⟨⟨p, cp, rfl, hR⟩, hb1⟩; have d1 := (hl.out.next hb1).kind hn; rw [hq] at d1)
    | go_in)
  go_wp2_with (first
    | (go_at_call 43; refine (HC.out w1 p cp hb1 hR).mono ?_; rintro e w2 ⟨rfl, hw2⟩; subst hw2)
    | go_in)
  go_ret
  exact ⟨rfl, hb1⟩
set_option maxRecDepth 100000 in
set_option maxHeartbeats 1000000 in
theorem shape_7 (w : World) (g o cap : Nat) (L : List Nd) (n : Nat) (hL : L.length ≤ 1353245080300) (hl : Hid (Lay w g o L)) (hn : n < L.length) (hg : Hid (∀ m, m < L.length → Good L m)) (hs : sizesS L (n + 1) (endOf L n) = true) (hq : (nd L n).kind = 7) :
    Calls Tryd.prog 28 #[.slice (some ⟨g, o, none⟩) L.length cap, .int .i64 (n : Int)] w fun e w' => e = .returned (.bool (choiceS L (kidsB L n))) ∧ Below w.heap.size w w' := by
  obtain ⟨K, hKd⟩ : ∃ K, kidsB L n = K := ⟨_, rfl⟩
  have H44 := rkids_row g o cap L n hL w hl hn (hg.out n hn) hs
  have HKL : Hid (∀ j x : Nat, K[j]? = some x → x < L.length) := by rw [← hKd]; exact kidsB_lt L n (hg.out n hn)
  have hKl : K.length ≤ 1353245080300 := by rw [← hKd]; exact Nat.le_trans (kidsB_len L n (hg.out n hn)) hL
  rw [hKd] at H44 ⊢
  have H44' : Hid (Calls Tryd.prog 42 #[.slice (some ⟨g, o, none⟩) L.length cap, .int .i64 (n : Int)] w fun e w' => (∃ p cp, e = .returned (.slice p K.length cp) ∧ Hid (IRow w' p cp K)) ∧ Below w.heap.size w w') := H44
  clear H44 hKd hs
  have j0 : (0 : Int) ≤ (n : Int) := by omega
  have j1 : (n : Int) < (L.length : Int) := by omega
  obtain ⟨r, hr⟩ : ∃ r, choiceS L K = r := ⟨_, rfl⟩
  have HC : Hid (∀ (w1 : World) (p : Option Addr) (cp : Nat), Below w.heap.size w w1 → Hid (IRow w1 p cp K) → Calls Tryd.prog 47 #[.slice (some ⟨g, o, none⟩) L.length cap, .slice p K.length cp] w1 fun e w' => e = .returned (.bool r) ∧ w1 = w') := fun w1 p cp hb hR => by
    rw [← hr]
    exact choice_any w1 g o cap L p cp K (hl.out.next hb) hR HKL
  rw [hr]
  clear hr
  go_enter Tryd.func28, Tryd.ntmps28
  go_upto_region 3 with (first
    | (go_at_call 42; refine H44'.out.mono ?_; rintro e w1 ⟨⟨p, cp, rfl, hR⟩, hb1⟩; have d1 := (hl.out.next hb1).kind hn; rw [hq] at d1)
    | go_in)
  go_wp2_with (first
    | (go_at_call 47; refine (HC.out w1 p cp hb1 hR).mono ?_; rintro e w2 ⟨rfl, hw2⟩; subst hw2)
    | go_in)
  go_ret
  exact ⟨rfl, hb1⟩
set_option maxRecDepth 100000 in
set_option maxHeartbeats 1000000 in
theorem shape_8 (w : World) (g o cap : Nat) (L : List Nd) (n : Nat) (hL : L.length ≤ 1353245080300) (hl : Hid (Lay w g o L)) (hn : n < L.length) (hg : Hid (∀ m, m < L.length → Good L m)) (hs : sizesS L (n + 1) (endOf L n) = true) (hq : (nd L n).kind = 8) :
    Calls Tryd.prog 28 #[.slice (some ⟨g, o, none⟩) L.length cap, .int .i64 (n : Int)] w fun e w' => e = .returned (.bool (loopS L (kidsB L n) 1)) ∧ Below w.heap.size w w' := by
  obtain ⟨K, hKd⟩ : ∃ K, kidsB L n = K := ⟨_, rfl⟩
  have H44 := rkids_row g o cap L n hL w hl hn (hg.out n hn) hs
  have HKL : Hid (∀ j x : Nat, K[j]? = some x → x < L.length) := by rw [← hKd]; exact kidsB_lt L n (hg.out n hn)
  have hKl : K.length ≤ 1353245080300 := by rw [← hKd]; exact Nat.le_trans (kidsB_len L n (hg.out n hn)) hL
  rw [hKd] at H44 ⊢
  have H44' : Hid (Calls Tryd.prog 42 #[.slice (some ⟨g, o, none⟩) L.length cap, .int .i64 (n : Int)] w fun e w' => (∃ p cp, e = .returned (.slice p K.length cp) ∧ Hid (IRow w' p cp K)) ∧ Below w.heap.size w w') := H44
  clear H44 hKd hs
  have j0 : (0 : Int) ≤ (n : Int) := by omega
  have j1 : (n : Int) < (L.length : Int) := by omega
  obtain ⟨r, hr⟩ : ∃ r, loopS L K 1 = r := ⟨_, rfl⟩
  have HC : Hid (∀ (w1 : World) (p : Option Addr) (cp : Nat), Below w.heap.size w w1 → Hid (IRow w1 p cp K) → Calls Tryd.prog 48 #[.slice (some ⟨g, o, none⟩) L.length cap, .slice p K.length cp, .int .i64 1] w1 fun e w' => e = .returned (.bool r) ∧ w1 = w') := fun w1 p cp hb hR => by
    rw [← hr]
    exact loop_any w1 g o cap L p cp K 1 (by omega) (hl.out.next hb) hR HKL
  rw [hr]
  clear hr
  go_enter Tryd.func28, Tryd.ntmps28
  go_upto_region 3 with (first
    | (go_at_call 42; refine H44'.out.mono ?_; rintro e w1 ⟨⟨p, cp, rfl, hR⟩, hb1⟩; have d1 := (hl.out.next hb1).kind hn; rw [hq] at d1)
    | go_in)
  go_wp2_with (first
    | (go_at_call 48; refine (HC.out w1 p cp hb1 hR).mono ?_; rintro e w2 ⟨rfl, hw2⟩; subst hw2)
    | go_in)
  go_ret
  exact ⟨rfl, hb1⟩
set_option maxRecDepth 100000 in
set_option maxHeartbeats 1000000 in
theorem shape_9 (w : World) (g o cap : Nat) (L : List Nd) (n : Nat) (hL : L.length ≤ 1353245080300) (hl : Hid (Lay w g o L)) (hn : n < L.length) (hg : Hid (∀ m, m < L.length → Good L m)) (hs : sizesS L (n + 1) (endOf L n) = true) (hq : (nd L n).kind = 9) :
    Calls Tryd.prog 28 #[.slice (some ⟨g, o, none⟩) L.length cap, .int .i64 (n : Int)] w fun e w' => e = .returned (.bool (loopS L (kidsB L n) 2)) ∧ Below w.heap.size w w' := by
  obtain ⟨K, hKd⟩ : ∃ K, kidsB L n = K := ⟨_, rfl⟩
  have H44 := rkids_row g o cap L n hL w hl hn (hg.out n hn) hs
  have HKL : Hid (∀ j x : Nat, K[j]? = some x → x < L.length) := by rw [← hKd]; exact kidsB_lt L n (hg.out n hn)
  have hKl : K.length ≤ 1353245080300 := by rw [← hKd]; exact Nat.le_trans (kidsB_len L n (hg.out n hn)) hL
  rw [hKd] at H44 ⊢
  have H44' : Hid (Calls Tryd.prog 42 #[.slice (some ⟨g, o, none⟩) L.length cap, .int .i64 (n : Int)] w fun e w' => (∃ p cp, e = .returned (.slice p K.length cp) ∧ Hid (IRow w' p cp K)) ∧ Below w.heap.size w w') := H44
  clear H44 hKd hs
  have j0 : (0 : Int) ≤ (n : Int) := by omega
  have j1 : (n : Int) < (L.length : Int) := by omega
  obtain ⟨r, hr⟩ : ∃ r, loopS L K 2 = r := ⟨_, rfl⟩
  have HC : Hid (∀ (w1 : World) (p : Option Addr) (cp : Nat), Below w.heap.size w w1 → Hid (IRow w1 p cp K) → Calls Tryd.prog 48 #[.slice (some ⟨g, o, none⟩) L.length cap, .slice p K.length cp, .int .i64 2] w1 fun e w' => e = .returned (.bool r) ∧ w1 = w') := fun w1 p cp hb hR => by
    rw [← hr]
    exact loop_any w1 g o cap L p cp K 2 (by omega) (hl.out.next hb) hR HKL
  rw [hr]
  clear hr
  go_enter Tryd.func28, Tryd.ntmps28
  go_upto_region 3 with (first
    | (go_at_call 42; refine H44'.out.mono ?_; rintro e w1 ⟨⟨p, cp, rfl, hR⟩, hb1⟩; have d1 := (hl.out.next hb1).kind hn; rw [hq] at d1)
    | go_in)
  go_wp2_with (first
    | (go_at_call 48; refine (HC.out w1 p cp hb1 hR).mono ?_; rintro e w2 ⟨rfl, hw2⟩; subst hw2)
    | go_in)
  go_ret
  exact ⟨rfl, hb1⟩
set_option maxRecDepth 100000 in
set_option maxHeartbeats 1000000 in
theorem shape_25 (w : World) (g o cap : Nat) (L : List Nd) (n : Nat) (hL : L.length ≤ 1353245080300) (hl : Hid (Lay w g o L)) (hn : n < L.length) (hg : Hid (∀ m, m < L.length → Good L m)) (hs : sizesS L (n + 1) (endOf L n) = true) (hq : (nd L n).kind = 25) :
    Calls Tryd.prog 28 #[.slice (some ⟨g, o, none⟩) L.length cap, .int .i64 (n : Int)] w fun e w' => e = .returned (.bool (exprsS L (kidsB L n))) ∧ Below w.heap.size w w' := by
  obtain ⟨K, hKd⟩ : ∃ K, kidsB L n = K := ⟨_, rfl⟩
  have H44 := rkids_row g o cap L n hL w hl hn (hg.out n hn) hs
  have HKL : Hid (∀ j x : Nat, K[j]? = some x → x < L.length) := by rw [← hKd]; exact kidsB_lt L n (hg.out n hn)
  have hKl : K.length ≤ 1353245080300 := by rw [← hKd]; exact Nat.le_trans (kidsB_len L n (hg.out n hn)) hL
  rw [hKd] at H44 ⊢
  have H44' : Hid (Calls Tryd.prog 42 #[.slice (some ⟨g, o, none⟩) L.length cap, .int .i64 (n : Int)] w fun e w' => (∃ p cp, e = .returned (.slice p K.length cp) ∧ Hid (IRow w' p cp K)) ∧ Below w.heap.size w w') := H44
  clear H44 hKd hs
  have j0 : (0 : Int) ≤ (n : Int) := by omega
  have j1 : (n : Int) < (L.length : Int) := by omega
  obtain ⟨r, hr⟩ : ∃ r, exprsS L K = r := ⟨_, rfl⟩
  have HC : Hid (∀ (w1 : World) (p : Option Addr) (cp : Nat), Below w.heap.size w w1 → Hid (IRow w1 p cp K) → Calls Tryd.prog 46 #[.slice (some ⟨g, o, none⟩) L.length cap, .slice p K.length cp] w1 fun e w' => e = .returned (.bool r) ∧ w1 = w') := fun w1 p cp hb hR => by
    rw [← hr]
    exact exprs_any w1 g o cap L p cp K (hl.out.next hb) hKl hR HKL
  rw [hr]
  clear hr
  go_enter Tryd.func28, Tryd.ntmps28
  go_upto_region 3 with (first
    | (go_at_call 42; refine H44'.out.mono ?_; rintro e w1 ⟨⟨p, cp, rfl, hR⟩, hb1⟩; have d1 := (hl.out.next hb1).kind hn; rw [hq] at d1)
    | go_in)
  go_wp2_with (first
    | (go_at_call 46; refine (HC.out w1 p cp hb1 hR).mono ?_; rintro e w2 ⟨rfl, hw2⟩; subst hw2)
    | go_in)
  go_ret
  exact ⟨rfl, hb1⟩
set_option maxRecDepth 100000 in
set_option maxHeartbeats 1000000 in
theorem shape_12 (w : World) (g o cap : Nat) (L : List Nd) (n : Nat) (hL : L.length ≤ 1353245080300) (hl : Hid (Lay w g o L)) (hn : n < L.length) (hg : Hid (∀ m, m < L.length → Good L m)) (hs : sizesS L (n + 1) (endOf L n) = true) (hq : (nd L n).kind = 12) :
    Calls Tryd.prog 28 #[.slice (some ⟨g, o, none⟩) L.length cap, .int .i64 (n : Int)] w fun e w' => e = .returned (.bool (decide ((kidsB L n).length ≤ 1) && exprsS L (kidsB L n))) ∧ Below w.heap.size w w' := by
  obtain ⟨K, hKd⟩ : ∃ K, kidsB L n = K := ⟨_, rfl⟩
  have H44 := rkids_row g o cap L n hL w hl hn (hg.out n hn) hs
  have HKL : Hid (∀ j x : Nat, K[j]? = some x → x < L.length) := by rw [← hKd]; exact kidsB_lt L n (hg.out n hn)
  have hKl : K.length ≤ 1353245080300 := by rw [← hKd]; exact Nat.le_trans (kidsB_len L n (hg.out n hn)) hL
  rw [hKd] at H44 ⊢
  have H44' : Hid (Calls Tryd.prog 42 #[.slice (some ⟨g, o, none⟩) L.length cap, .int .i64 (n : Int)] w fun e w' => (∃ p cp, e = .returned (.slice p K.length cp) ∧ Hid (IRow w' p cp K)) ∧ Below w.heap.size w w') := H44
  clear H44 hKd hs
  have j0 : (0 : Int) ≤ (n : Int) := by omega
  have j1 : (n : Int) < (L.length : Int) := by omega
  obtain ⟨r, hr⟩ : ∃ r, exprsS L K = r := ⟨_, rfl⟩
  have HC : Hid (∀ (w1 : World) (p : Option Addr) (cp : Nat), Below w.heap.size w w1 → Hid (IRow w1 p cp K) → Calls Tryd.prog 46 #[.slice (some ⟨g, o, none⟩) L.length cap, .slice p K.length cp] w1 fun e w' => e = .returned (.bool r) ∧ w1 = w') := fun w1 p cp hb hR => by
    rw [← hr]
    exact exprs_any w1 g o cap L p cp K (hl.out.next hb) hKl hR HKL
  rw [hr]
  clear hr
  go_enter Tryd.func28, Tryd.ntmps28
  go_upto_region 3 with (first
    | (go_at_call 42; refine H44'.out.mono ?_; rintro e w1 ⟨⟨p, cp, rfl, hR⟩, hb1⟩; have d1 := (hl.out.next hb1).kind hn; rw [hq] at d1)
    | go_in)
  by_cases hlen : K.length ≤ 1
  · have c1 : (K.length : Int) ≤ 1 := by omega
    skip
    go_wp2_with (first
      | (go_at_call 46; refine (HC.out w1 p cp hb1 hR).mono ?_; rintro e w2 ⟨rfl, hw2⟩; subst hw2)
      | go_in)
    go_ret
    exact ⟨by simp [*], hb1⟩
  · have c1 : ¬ (K.length : Int) ≤ 1 := by omega
    go_wp2
    go_ret
    exact ⟨by simp [*], hb1⟩

end Go.Proofs.YtlocaalipjjnpaaDoor

namespace Go.Proofs.YtlocaalipjjnpaaDoor
open Go.RowKit

set_option maxRecDepth 100000 in
set_option maxHeartbeats 1000000 in
theorem shape_13 (w : World) (g o cap : Nat) (L : List Nd) (n : Nat) (hL : L.length ≤ 1353245080300) (hl : Hid (Lay w g o L)) (hn : n < L.length) (hg : Hid (∀ m, m < L.length → Good L m)) (hs : sizesS L (n + 1) (endOf L n) = true) (hq : (nd L n).kind = 13) :
    Calls Tryd.prog 28 #[.slice (some ⟨g, o, none⟩) L.length cap, .int .i64 (n : Int)] w fun e w' => e = .returned (.bool ((decide (1 ≤ (kidsB L n).length) && decide ((kidsB L n).length ≤ 16)) && exprsS L (kidsB L n))) ∧ Below w.heap.size w w' := by
  obtain ⟨K, hKd⟩ : ∃ K, kidsB L n = K := ⟨_, rfl⟩
  have H44 := rkids_row g o cap L n hL w hl hn (hg.out n hn) hs
  have HKL : Hid (∀ j x : Nat, K[j]? = some x → x < L.length) := by rw [← hKd]; exact kidsB_lt L n (hg.out n hn)
  have hKl : K.length ≤ 1353245080300 := by rw [← hKd]; exact Nat.le_trans (kidsB_len L n (hg.out n hn)) hL
  rw [hKd] at H44 ⊢
  have H44' : Hid (Calls Tryd.prog 42 #[.slice (some ⟨g, o, none⟩) L.length cap, .int .i64 (n : Int)] w fun e w' => (∃ p cp, e = .returned (.slice p K.length cp) ∧ Hid (IRow w' p cp K)) ∧ Below w.heap.size w w') := H44
  clear H44 hKd hs
  have j0 : (0 : Int) ≤ (n : Int) := by omega
  have j1 : (n : Int) < (L.length : Int) := by omega
  obtain ⟨r, hr⟩ : ∃ r, exprsS L K = r := ⟨_, rfl⟩
  have HC : Hid (∀ (w1 : World) (p : Option Addr) (cp : Nat), Below w.heap.size w w1 → Hid (IRow w1 p cp K) → Calls Tryd.prog 46 #[.slice (some ⟨g, o, none⟩) L.length cap, .slice p K.length cp] w1 fun e w' => e = .returned (.bool r) ∧ w1 = w') := fun w1 p cp hb hR => by
    rw [← hr]
    exact exprs_any w1 g o cap L p cp K (hl.out.next hb) hKl hR HKL
  rw [hr]
  clear hr
  by_cases h1 : 1 ≤ K.length
  · by_cases h2 : K.length ≤ 16
    · have hf : ((decide (1 ≤ K.length) && decide (K.length ≤ 16)) && r) = r := by simp [h1, h2]
      rw [hf]
      have c1 : (1 : Int) ≤ (K.length : Int) := by omega
      have c2 : (K.length : Int) ≤ 16 := by omega
      clear hf h1 h2
      go_enter Tryd.func28, Tryd.ntmps28
      go_upto_region 3 with (first
        | (go_at_call 42; refine H44'.out.mono ?_; rintro e w1 ⟨⟨p, cp, rfl, hR⟩, hb1⟩; have d1 := (hl.out.next hb1).kind hn; rw [hq] at d1)
        | go_in)
      go_wp2_with (first
        | (go_at_call 46; refine (HC.out w1 p cp hb1 hR).mono ?_; rintro e w2 ⟨rfl, hw2⟩; subst hw2)
        | go_in)
      go_ret
      exact ⟨rfl, hb1⟩
    · have hf : ((decide (1 ≤ K.length) && decide (K.length ≤ 16)) && r) = false := by simp [h2]
      rw [hf]
      have c1 : (1 : Int) ≤ (K.length : Int) := by omega
      have c2 : ¬ (K.length : Int) ≤ 16 := by omega
      clear hf h1 h2
      go_enter Tryd.func28, Tryd.ntmps28
      go_upto_region 3 with (first
        | (go_at_call 42; refine H44'.out.mono ?_; rintro e w1 ⟨⟨p, cp, rfl, hR⟩, hb1⟩; have d1 := (hl.out.next hb1).kind hn; rw [hq] at d1)
        | go_in)
      go_wp2
      go_ret
      exact ⟨rfl, hb1⟩
  · have hf : ((decide (1 ≤ K.length) && decide (K.length ≤ 16)) && r) = false := by simp [h1]
    rw [hf]
    have c1 : ¬ (1 : Int) ≤ (K.length : Int) := by omega
    clear hf h1
    go_enter Tryd.func28, Tryd.ntmps28
    go_upto_region 3 with (first
      | (go_at_call 42; refine H44'.out.mono ?_; rintro e w1 ⟨⟨p, cp, rfl, hR⟩, hb1⟩; have d1 := (hl.out.next hb1).kind hn; rw [hq] at d1)
      | go_in)
    go_wp2
    go_ret
    exact ⟨rfl, hb1⟩
set_option maxRecDepth 100000 in
set_option maxHeartbeats 1000000 in
theorem shape_24 (w : World) (g o cap : Nat) (L : List Nd) (n : Nat) (hL : L.length ≤ 1353245080300) (hl : Hid (Lay w g o L)) (hn : n < L.length) (hg : Hid (∀ m, m < L.length → Good L m)) (hs : sizesS L (n + 1) (endOf L n) = true) (hq : (nd L n).kind = 24) :
    Calls Tryd.prog 28 #[.slice (some ⟨g, o, none⟩) L.length cap, .int .i64 (n : Int)] w fun e w' => e = .returned (.bool (decide ((kidsB L n).length = 2) && exprsS L (kidsB L n))) ∧ Below w.heap.size w w' := by
  obtain ⟨K, hKd⟩ : ∃ K, kidsB L n = K := ⟨_, rfl⟩
  have H44 := rkids_row g o cap L n hL w hl hn (hg.out n hn) hs
  have HKL : Hid (∀ j x : Nat, K[j]? = some x → x < L.length) := by rw [← hKd]; exact kidsB_lt L n (hg.out n hn)
  have hKl : K.length ≤ 1353245080300 := by rw [← hKd]; exact Nat.le_trans (kidsB_len L n (hg.out n hn)) hL
  rw [hKd] at H44 ⊢
  have H44' : Hid (Calls Tryd.prog 42 #[.slice (some ⟨g, o, none⟩) L.length cap, .int .i64 (n : Int)] w fun e w' => (∃ p cp, e = .returned (.slice p K.length cp) ∧ Hid (IRow w' p cp K)) ∧ Below w.heap.size w w') := H44
  clear H44 hKd hs
  have j0 : (0 : Int) ≤ (n : Int) := by omega
  have j1 : (n : Int) < (L.length : Int) := by omega
  obtain ⟨r, hr⟩ : ∃ r, exprsS L K = r := ⟨_, rfl⟩
  have HC : Hid (∀ (w1 : World) (p : Option Addr) (cp : Nat), Below w.heap.size w w1 → Hid (IRow w1 p cp K) → Calls Tryd.prog 46 #[.slice (some ⟨g, o, none⟩) L.length cap, .slice p K.length cp] w1 fun e w' => e = .returned (.bool r) ∧ w1 = w') := fun w1 p cp hb hR => by
    rw [← hr]
    exact exprs_any w1 g o cap L p cp K (hl.out.next hb) hKl hR HKL
  rw [hr]
  clear hr
  by_cases h1 : K.length = 2
  · have hf : (decide (K.length = 2) && r) = r := by simp [h1]
    rw [hf]
    have c1 : ((K.length : Int) == 2) = true := by rw [beq_iff_eq]; omega
    clear hf h1
    go_enter Tryd.func28, Tryd.ntmps28
    go_upto_region 3 with (first
      | (go_at_call 42; refine H44'.out.mono ?_; rintro e w1 ⟨⟨p, cp, rfl, hR⟩, hb1⟩; have d1 := (hl.out.next hb1).kind hn; rw [hq] at d1)
      | go_in)
    go_wp2_with (first
      | (go_at_call 46; refine (HC.out w1 p cp hb1 hR).mono ?_; rintro e w2 ⟨rfl, hw2⟩; subst hw2)
      | go_in)
    go_ret
    exact ⟨rfl, hb1⟩
  · have hf : (decide (K.length = 2) && r) = false := by simp [h1]
    rw [hf]
    have c1 : ((K.length : Int) == 2) = false := by rw [beq_eq_false_iff_ne]; omega
    clear hf h1
    go_enter Tryd.func28, Tryd.ntmps28
    go_upto_region 3 with (first
      | (go_at_call 42; refine H44'.out.mono ?_; rintro e w1 ⟨⟨p, cp, rfl, hR⟩, hb1⟩; have d1 := (hl.out.next hb1).kind hn; rw [hq] at d1)
      | go_in)
    go_wp2
    go_ret
    exact ⟨rfl, hb1⟩
set_option maxRecDepth 100000 in
set_option maxHeartbeats 1000000 in
theorem shape_27 (w : World) (g o cap : Nat) (L : List Nd) (n : Nat) (hL : L.length ≤ 1353245080300) (hl : Hid (Lay w g o L)) (hn : n < L.length) (hg : Hid (∀ m, m < L.length → Good L m)) (hs : sizesS L (n + 1) (endOf L n) = true) (hq : (nd L n).kind = 27) :
    Calls Tryd.prog 28 #[.slice (some ⟨g, o, none⟩) L.length cap, .int .i64 (n : Int)] w fun e w' => e = .returned (.bool (decide ((kidsB L n).length = 2) && exprsS L (kidsB L n))) ∧ Below w.heap.size w w' := by
  obtain ⟨K, hKd⟩ : ∃ K, kidsB L n = K := ⟨_, rfl⟩
  have H44 := rkids_row g o cap L n hL w hl hn (hg.out n hn) hs
  have HKL : Hid (∀ j x : Nat, K[j]? = some x → x < L.length) := by rw [← hKd]; exact kidsB_lt L n (hg.out n hn)
  have hKl : K.length ≤ 1353245080300 := by rw [← hKd]; exact Nat.le_trans (kidsB_len L n (hg.out n hn)) hL
  rw [hKd] at H44 ⊢
  have H44' : Hid (Calls Tryd.prog 42 #[.slice (some ⟨g, o, none⟩) L.length cap, .int .i64 (n : Int)] w fun e w' => (∃ p cp, e = .returned (.slice p K.length cp) ∧ Hid (IRow w' p cp K)) ∧ Below w.heap.size w w') := H44
  clear H44 hKd hs
  have j0 : (0 : Int) ≤ (n : Int) := by omega
  have j1 : (n : Int) < (L.length : Int) := by omega
  obtain ⟨r, hr⟩ : ∃ r, exprsS L K = r := ⟨_, rfl⟩
  have HC : Hid (∀ (w1 : World) (p : Option Addr) (cp : Nat), Below w.heap.size w w1 → Hid (IRow w1 p cp K) → Calls Tryd.prog 46 #[.slice (some ⟨g, o, none⟩) L.length cap, .slice p K.length cp] w1 fun e w' => e = .returned (.bool r) ∧ w1 = w') := fun w1 p cp hb hR => by
    rw [← hr]
    exact exprs_any w1 g o cap L p cp K (hl.out.next hb) hKl hR HKL
  rw [hr]
  clear hr
  by_cases h1 : K.length = 2
  · have hf : (decide (K.length = 2) && r) = r := by simp [h1]
    rw [hf]
    have c1 : ((K.length : Int) == 2) = true := by rw [beq_iff_eq]; omega
    clear hf h1
    go_enter Tryd.func28, Tryd.ntmps28
    go_upto_region 3 with (first
      | (go_at_call 42; refine H44'.out.mono ?_; rintro e w1 ⟨⟨p, cp, rfl, hR⟩, hb1⟩; have d1 := (hl.out.next hb1).kind hn; rw [hq] at d1)
      | go_in)
    go_wp2_with (first
      | (go_at_call 46; refine (HC.out w1 p cp hb1 hR).mono ?_; rintro e w2 ⟨rfl, hw2⟩; subst hw2)
      | go_in)
    go_ret
    exact ⟨rfl, hb1⟩
  · have hf : (decide (K.length = 2) && r) = false := by simp [h1]
    rw [hf]
    have c1 : ((K.length : Int) == 2) = false := by rw [beq_eq_false_iff_ne]; omega
    clear hf h1
    go_enter Tryd.func28, Tryd.ntmps28
    go_upto_region 3 with (first
      | (go_at_call 42; refine H44'.out.mono ?_; rintro e w1 ⟨⟨p, cp, rfl, hR⟩, hb1⟩; have d1 := (hl.out.next hb1).kind hn; rw [hq] at d1)
      | go_in)
    go_wp2
    go_ret
    exact ⟨rfl, hb1⟩
set_option maxRecDepth 100000 in
set_option maxHeartbeats 1000000 in
theorem shape_5 (w : World) (g o cap : Nat) (L : List Nd) (n : Nat) (hL : L.length ≤ 1353245080300) (hl : Hid (Lay w g o L)) (hn : n < L.length) (hg : Hid (∀ m, m < L.length → Good L m)) (hs : sizesS L (n + 1) (endOf L n) = true) (hq : (nd L n).kind = 5) :
    Calls Tryd.prog 28 #[.slice (some ⟨g, o, none⟩) L.length cap, .int .i64 (n : Int)] w fun e w' => e = .returned (.bool (decide ((kidsB L n).length = 1) && exprsS L (kidsB L n))) ∧ Below w.heap.size w w' := by
  obtain ⟨K, hKd⟩ : ∃ K, kidsB L n = K := ⟨_, rfl⟩
  have H44 := rkids_row g o cap L n hL w hl hn (hg.out n hn) hs
  have HKL : Hid (∀ j x : Nat, K[j]? = some x → x < L.length) := by rw [← hKd]; exact kidsB_lt L n (hg.out n hn)
  have hKl : K.length ≤ 1353245080300 := by rw [← hKd]; exact Nat.le_trans (kidsB_len L n (hg.out n hn)) hL
  rw [hKd] at H44 ⊢
  have H44' : Hid (Calls Tryd.prog 42 #[.slice (some ⟨g, o, none⟩) L.length cap, .int .i64 (n : Int)] w fun e w' => (∃ p cp, e = .returned (.slice p K.length cp) ∧ Hid (IRow w' p cp K)) ∧ Below w.heap.size w w') := H44
  clear H44 hKd hs
  have j0 : (0 : Int) ≤ (n : Int) := by omega
  have j1 : (n : Int) < (L.length : Int) := by omega
  obtain ⟨r, hr⟩ : ∃ r, exprsS L K = r := ⟨_, rfl⟩
  have HC : Hid (∀ (w1 : World) (p : Option Addr) (cp : Nat), Below w.heap.size w w1 → Hid (IRow w1 p cp K) → Calls Tryd.prog 46 #[.slice (some ⟨g, o, none⟩) L.length cap, .slice p K.length cp] w1 fun e w' => e = .returned (.bool r) ∧ w1 = w') := fun w1 p cp hb hR => by
    rw [← hr]
    exact exprs_any w1 g o cap L p cp K (hl.out.next hb) hKl hR HKL
  rw [hr]
  clear hr
  by_cases h1 : K.length = 1
  · have hf : (decide (K.length = 1) && r) = r := by simp [h1]
    rw [hf]
    have c1 : ((K.length : Int) == 1) = true := by rw [beq_iff_eq]; omega
    clear hf h1
    go_enter Tryd.func28, Tryd.ntmps28
    go_upto_region 3 with (first
      | (go_at_call 42; refine H44'.out.mono ?_; rintro e w1 ⟨⟨p, cp, rfl, hR⟩, hb1⟩; have d1 := (hl.out.next hb1).kind hn; rw [hq] at d1)
      | go_in)
    go_wp2_with (first
      | (go_at_call 46; refine (HC.out w1 p cp hb1 hR).mono ?_; rintro e w2 ⟨rfl, hw2⟩; subst hw2)
      | go_in)
    go_ret
    exact ⟨rfl, hb1⟩
  · have hf : (decide (K.length = 1) && r) = false := by simp [h1]
    rw [hf]
    have c1 : ((K.length : Int) == 1) = false := by rw [beq_eq_false_iff_ne]; omega
    clear hf h1
    go_enter Tryd.func28, Tryd.ntmps28
    go_upto_region 3 with (first
      | (go_at_call 42; refine H44'.out.mono ?_; rintro e w1 ⟨⟨p, cp, rfl, hR⟩, hb1⟩; have d1 := (hl.out.next hb1).kind hn; rw [hq] at d1)
      | go_in)
    go_wp2
    go_ret
    exact ⟨rfl, hb1⟩
set_option maxRecDepth 100000 in
set_option maxHeartbeats 1000000 in
theorem shape_26 (w : World) (g o cap : Nat) (L : List Nd) (n : Nat) (hL : L.length ≤ 1353245080300) (hl : Hid (Lay w g o L)) (hn : n < L.length) (hg : Hid (∀ m, m < L.length → Good L m)) (hs : sizesS L (n + 1) (endOf L n) = true) (hq : (nd L n).kind = 26) :
    Calls Tryd.prog 28 #[.slice (some ⟨g, o, none⟩) L.length cap, .int .i64 (n : Int)] w fun e w' => e = .returned (.bool (decide ((kidsB L n).length = 1) && exprsS L (kidsB L n))) ∧ Below w.heap.size w w' := by
  obtain ⟨K, hKd⟩ : ∃ K, kidsB L n = K := ⟨_, rfl⟩
  have H44 := rkids_row g o cap L n hL w hl hn (hg.out n hn) hs
  have HKL : Hid (∀ j x : Nat, K[j]? = some x → x < L.length) := by rw [← hKd]; exact kidsB_lt L n (hg.out n hn)
  have hKl : K.length ≤ 1353245080300 := by rw [← hKd]; exact Nat.le_trans (kidsB_len L n (hg.out n hn)) hL
  rw [hKd] at H44 ⊢
  have H44' : Hid (Calls Tryd.prog 42 #[.slice (some ⟨g, o, none⟩) L.length cap, .int .i64 (n : Int)] w fun e w' => (∃ p cp, e = .returned (.slice p K.length cp) ∧ Hid (IRow w' p cp K)) ∧ Below w.heap.size w w') := H44
  clear H44 hKd hs
  have j0 : (0 : Int) ≤ (n : Int) := by omega
  have j1 : (n : Int) < (L.length : Int) := by omega
  obtain ⟨r, hr⟩ : ∃ r, exprsS L K = r := ⟨_, rfl⟩
  have HC : Hid (∀ (w1 : World) (p : Option Addr) (cp : Nat), Below w.heap.size w w1 → Hid (IRow w1 p cp K) → Calls Tryd.prog 46 #[.slice (some ⟨g, o, none⟩) L.length cap, .slice p K.length cp] w1 fun e w' => e = .returned (.bool r) ∧ w1 = w') := fun w1 p cp hb hR => by
    rw [← hr]
    exact exprs_any w1 g o cap L p cp K (hl.out.next hb) hKl hR HKL
  rw [hr]
  clear hr
  by_cases h1 : K.length = 1
  · have hf : (decide (K.length = 1) && r) = r := by simp [h1]
    rw [hf]
    have c1 : ((K.length : Int) == 1) = true := by rw [beq_iff_eq]; omega
    clear hf h1
    go_enter Tryd.func28, Tryd.ntmps28
    go_upto_region 3 with (first
      | (go_at_call 42; refine H44'.out.mono ?_; rintro e w1 ⟨⟨p, cp, rfl, hR⟩, hb1⟩; have d1 := (hl.out.next hb1).kind hn; rw [hq] at d1)
      | go_in)
    go_wp2_with (first
      | (go_at_call 46; refine (HC.out w1 p cp hb1 hR).mono ?_; rintro e w2 ⟨rfl, hw2⟩; subst hw2)
      | go_in)
    go_ret
    exact ⟨rfl, hb1⟩
  · have hf : (decide (K.length = 1) && r) = false := by simp [h1]
    rw [hf]
    have c1 : ((K.length : Int) == 1) = false := by rw [beq_eq_false_iff_ne]; omega
    clear hf h1
    go_enter Tryd.func28, Tryd.ntmps28
    go_upto_region 3 with (first
      | (go_at_call 42; refine H44'.out.mono ?_; rintro e w1 ⟨⟨p, cp, rfl, hR⟩, hb1⟩; have d1 := (hl.out.next hb1).kind hn; rw [hq] at d1)
      | go_in)
    go_wp2
    go_ret
    exact ⟨rfl, hb1⟩
set_option maxRecDepth 100000 in
set_option maxHeartbeats 1000000 in
theorem shape_28 (w : World) (g o cap : Nat) (L : List Nd) (n : Nat) (hL : L.length ≤ 1353245080300) (hl : Hid (Lay w g o L)) (hn : n < L.length) (hg : Hid (∀ m, m < L.length → Good L m)) (hs : sizesS L (n + 1) (endOf L n) = true) (hq : (nd L n).kind = 28) :
    Calls Tryd.prog 28 #[.slice (some ⟨g, o, none⟩) L.length cap, .int .i64 (n : Int)] w fun e w' => e = .returned (.bool (decide ((kidsB L n).length = 1) && exprsS L (kidsB L n))) ∧ Below w.heap.size w w' := by
  obtain ⟨K, hKd⟩ : ∃ K, kidsB L n = K := ⟨_, rfl⟩
  have H44 := rkids_row g o cap L n hL w hl hn (hg.out n hn) hs
  have HKL : Hid (∀ j x : Nat, K[j]? = some x → x < L.length) := by rw [← hKd]; exact kidsB_lt L n (hg.out n hn)
  have hKl : K.length ≤ 1353245080300 := by rw [← hKd]; exact Nat.le_trans (kidsB_len L n (hg.out n hn)) hL
  rw [hKd] at H44 ⊢
  have H44' : Hid (Calls Tryd.prog 42 #[.slice (some ⟨g, o, none⟩) L.length cap, .int .i64 (n : Int)] w fun e w' => (∃ p cp, e = .returned (.slice p K.length cp) ∧ Hid (IRow w' p cp K)) ∧ Below w.heap.size w w') := H44
  clear H44 hKd hs
  have j0 : (0 : Int) ≤ (n : Int) := by omega
  have j1 : (n : Int) < (L.length : Int) := by omega
  obtain ⟨r, hr⟩ : ∃ r, exprsS L K = r := ⟨_, rfl⟩
  have HC : Hid (∀ (w1 : World) (p : Option Addr) (cp : Nat), Below w.heap.size w w1 → Hid (IRow w1 p cp K) → Calls Tryd.prog 46 #[.slice (some ⟨g, o, none⟩) L.length cap, .slice p K.length cp] w1 fun e w' => e = .returned (.bool r) ∧ w1 = w') := fun w1 p cp hb hR => by
    rw [← hr]
    exact exprs_any w1 g o cap L p cp K (hl.out.next hb) hKl hR HKL
  rw [hr]
  clear hr
  by_cases h1 : K.length = 1
  · have hf : (decide (K.length = 1) && r) = r := by simp [h1]
    rw [hf]
    have c1 : ((K.length : Int) == 1) = true := by rw [beq_iff_eq]; omega
    clear hf h1
    go_enter Tryd.func28, Tryd.ntmps28
    go_upto_region 3 with (first
      | (go_at_call 42; refine H44'.out.mono ?_; rintro e w1 ⟨⟨p, cp, rfl, hR⟩, hb1⟩; have d1 := (hl.out.next hb1).kind hn; rw [hq] at d1)
      | go_in)
    go_wp2_with (first
      | (go_at_call 46; refine (HC.out w1 p cp hb1 hR).mono ?_; rintro e w2 ⟨rfl, hw2⟩; subst hw2)
      | go_in)
    go_ret
    exact ⟨rfl, hb1⟩
  · have hf : (decide (K.length = 1) && r) = false := by simp [h1]
    rw [hf]
    have c1 : ((K.length : Int) == 1) = false := by rw [beq_eq_false_iff_ne]; omega
    clear hf h1
    go_enter Tryd.func28, Tryd.ntmps28
    go_upto_region 3 with (first
      | (go_at_call 42; refine H44'.out.mono ?_; rintro e w1 ⟨⟨p, cp, rfl, hR⟩, hb1⟩; have d1 := (hl.out.next hb1).kind hn; rw [hq] at d1)
      | go_in)
    go_wp2
    go_ret
    exact ⟨rfl, hb1⟩
set_option maxRecDepth 100000 in
set_option maxHeartbeats 1000000 in
theorem shape_29 (w : World) (g o cap : Nat) (L : List Nd) (n : Nat) (hL : L.length ≤ 1353245080300) (hl : Hid (Lay w g o L)) (hn : n < L.length) (hg : Hid (∀ m, m < L.length → Good L m)) (hs : sizesS L (n + 1) (endOf L n) = true) (hq : (nd L n).kind = 29) :
    Calls Tryd.prog 28 #[.slice (some ⟨g, o, none⟩) L.length cap, .int .i64 (n : Int)] w fun e w' => e = .returned (.bool (decide ((kidsB L n).length = 1) && exprsS L (kidsB L n))) ∧ Below w.heap.size w w' := by
  obtain ⟨K, hKd⟩ : ∃ K, kidsB L n = K := ⟨_, rfl⟩
  have H44 := rkids_row g o cap L n hL w hl hn (hg.out n hn) hs
  have HKL : Hid (∀ j x : Nat, K[j]? = some x → x < L.length) := by rw [← hKd]; exact kidsB_lt L n (hg.out n hn)
  have hKl : K.length ≤ 1353245080300 := by rw [← hKd]; exact Nat.le_trans (kidsB_len L n (hg.out n hn)) hL
  rw [hKd] at H44 ⊢
  have H44' : Hid (Calls Tryd.prog 42 #[.slice (some ⟨g, o, none⟩) L.length cap, .int .i64 (n : Int)] w fun e w' => (∃ p cp, e = .returned (.slice p K.length cp) ∧ Hid (IRow w' p cp K)) ∧ Below w.heap.size w w') := H44
  clear H44 hKd hs
  have j0 : (0 : Int) ≤ (n : Int) := by omega
  have j1 : (n : Int) < (L.length : Int) := by omega
  obtain ⟨r, hr⟩ : ∃ r, exprsS L K = r := ⟨_, rfl⟩
  have HC : Hid (∀ (w1 : World) (p : Option Addr) (cp : Nat), Below w.heap.size w w1 → Hid (IRow w1 p cp K) → Calls Tryd.prog 46 #[.slice (some ⟨g, o, none⟩) L.length cap, .slice p K.length cp] w1 fun e w' => e = .returned (.bool r) ∧ w1 = w') := fun w1 p cp hb hR => by
    rw [← hr]
    exact exprs_any w1 g o cap L p cp K (hl.out.next hb) hKl hR HKL
  rw [hr]
  clear hr
  by_cases h1 : K.length = 1
  · have hf : (decide (K.length = 1) && r) = r := by simp [h1]
    rw [hf]
    have c1 : ((K.length : Int) == 1) = true := by rw [beq_iff_eq]; omega
    clear hf h1
    go_enter Tryd.func28, Tryd.ntmps28
    go_upto_region 3 with (first
      | (go_at_call 42; refine H44'.out.mono ?_; rintro e w1 ⟨⟨p, cp, rfl, hR⟩, hb1⟩; have d1 := (hl.out.next hb1).kind hn; rw [hq] at d1)
      | go_in)
    go_wp2_with (first
      | (go_at_call 46; refine (HC.out w1 p cp hb1 hR).mono ?_; rintro e w2 ⟨rfl, hw2⟩; subst hw2)
      | go_in)
    go_ret
    exact ⟨rfl, hb1⟩
  · have hf : (decide (K.length = 1) && r) = false := by simp [h1]
    rw [hf]
    have c1 : ((K.length : Int) == 1) = false := by rw [beq_eq_false_iff_ne]; omega
    clear hf h1
    go_enter Tryd.func28, Tryd.ntmps28
    go_upto_region 3 with (first
      | (go_at_call 42; refine H44'.out.mono ?_; rintro e w1 ⟨⟨p, cp, rfl, hR⟩, hb1⟩; have d1 := (hl.out.next hb1).kind hn; rw [hq] at d1)
      | go_in)
    go_wp2
    go_ret
    exact ⟨rfl, hb1⟩
set_option maxRecDepth 100000 in
set_option maxHeartbeats 1000000 in
theorem shape_30 (w : World) (g o cap : Nat) (L : List Nd) (n : Nat) (hL : L.length ≤ 1353245080300) (hl : Hid (Lay w g o L)) (hn : n < L.length) (hg : Hid (∀ m, m < L.length → Good L m)) (hs : sizesS L (n + 1) (endOf L n) = true) (hq : (nd L n).kind = 30) :
    Calls Tryd.prog 28 #[.slice (some ⟨g, o, none⟩) L.length cap, .int .i64 (n : Int)] w fun e w' => e = .returned (.bool (decide ((kidsB L n).length = 1) && exprsS L (kidsB L n))) ∧ Below w.heap.size w w' := by
  obtain ⟨K, hKd⟩ : ∃ K, kidsB L n = K := ⟨_, rfl⟩
  have H44 := rkids_row g o cap L n hL w hl hn (hg.out n hn) hs
  have HKL : Hid (∀ j x : Nat, K[j]? = some x → x < L.length) := by rw [← hKd]; exact kidsB_lt L n (hg.out n hn)
  have hKl : K.length ≤ 1353245080300 := by rw [← hKd]; exact Nat.le_trans (kidsB_len L n (hg.out n hn)) hL
  rw [hKd] at H44 ⊢
  have H44' : Hid (Calls Tryd.prog 42 #[.slice (some ⟨g, o, none⟩) L.length cap, .int .i64 (n : Int)] w fun e w' => (∃ p cp, e = .returned (.slice p K.length cp) ∧ Hid (IRow w' p cp K)) ∧ Below w.heap.size w w') := H44
  clear H44 hKd hs
  have j0 : (0 : Int) ≤ (n : Int) := by omega
  have j1 : (n : Int) < (L.length : Int) := by omega
  obtain ⟨r, hr⟩ : ∃ r, exprsS L K = r := ⟨_, rfl⟩
  have HC : Hid (∀ (w1 : World) (p : Option Addr) (cp : Nat), Below w.heap.size w w1 → Hid (IRow w1 p cp K) → Calls Tryd.prog 46 #[.slice (some ⟨g, o, none⟩) L.length cap, .slice p K.length cp] w1 fun e w' => e = .returned (.bool r) ∧ w1 = w') := fun w1 p cp hb hR => by
    rw [← hr]
    exact exprs_any w1 g o cap L p cp K (hl.out.next hb) hKl hR HKL
  rw [hr]
  clear hr
  by_cases h1 : K.length = 1
  · have hf : (decide (K.length = 1) && r) = r := by simp [h1]
    rw [hf]
    have c1 : ((K.length : Int) == 1) = true := by rw [beq_iff_eq]; omega
    clear hf h1
    go_enter Tryd.func28, Tryd.ntmps28
    go_upto_region 3 with (first
      | (go_at_call 42; refine H44'.out.mono ?_; rintro e w1 ⟨⟨p, cp, rfl, hR⟩, hb1⟩; have d1 := (hl.out.next hb1).kind hn; rw [hq] at d1)
      | go_in)
    go_wp2_with (first
      | (go_at_call 46; refine (HC.out w1 p cp hb1 hR).mono ?_; rintro e w2 ⟨rfl, hw2⟩; subst hw2)
      | go_in)
    go_ret
    exact ⟨rfl, hb1⟩
  · have hf : (decide (K.length = 1) && r) = false := by simp [h1]
    rw [hf]
    have c1 : ((K.length : Int) == 1) = false := by rw [beq_eq_false_iff_ne]; omega
    clear hf h1
    go_enter Tryd.func28, Tryd.ntmps28
    go_upto_region 3 with (first
      | (go_at_call 42; refine H44'.out.mono ?_; rintro e w1 ⟨⟨p, cp, rfl, hR⟩, hb1⟩; have d1 := (hl.out.next hb1).kind hn; rw [hq] at d1)
      | go_in)
    go_wp2
    go_ret
    exact ⟨rfl, hb1⟩
set_option maxRecDepth 100000 in
set_option maxHeartbeats 1000000 in
theorem shape_none (w : World) (g o cap : Nat) (L : List Nd) (n : Nat) (hL : L.length ≤ 1353245080300) (hl : Hid (Lay w g o L)) (hn : n < L.length) (hg : Hid (∀ m, m < L.length → Good L m)) (hs : sizesS L (n + 1) (endOf L n) = true) (q : Int) (hq : (nd L n).kind = q) (hno : ∀ k ∈ ([1, 2, 4, 5, 6, 7, 8, 9, 12, 13, 14, 15, 24, 25, 26, 27, 28, 29, 30] : List Int), q ≠ k) :
    Calls Tryd.prog 28 #[.slice (some ⟨g, o, none⟩) L.length cap, .int .i64 (n : Int)] w fun e w' => e = .returned (.bool (decide ((kidsB L n).length = 0))) ∧ Below w.heap.size w w' := by
  obtain ⟨K, hKd⟩ : ∃ K, kidsB L n = K := ⟨_, rfl⟩
  have H44 := rkids_row g o cap L n hL w hl hn (hg.out n hn) hs
  have HKL : Hid (∀ j x : Nat, K[j]? = some x → x < L.length) := by rw [← hKd]; exact kidsB_lt L n (hg.out n hn)
  have hKl : K.length ≤ 1353245080300 := by rw [← hKd]; exact Nat.le_trans (kidsB_len L n (hg.out n hn)) hL
  rw [hKd] at H44 ⊢
  have H44' : Hid (Calls Tryd.prog 42 #[.slice (some ⟨g, o, none⟩) L.length cap, .int .i64 (n : Int)] w fun e w' => (∃ p cp, e = .returned (.slice p K.length cp) ∧ Hid (IRow w' p cp K)) ∧ Below w.heap.size w w') := H44
  clear H44 hKd hs
  have j0 : (0 : Int) ≤ (n : Int) := by omega
  have j1 : (n : Int) < (L.length : Int) := by omega
  have e1 : (q == 1) = false := by rw [beq_eq_false_iff_ne]; exact hno 1 (by simp)
  have e2 : (q == 2) = false := by rw [beq_eq_false_iff_ne]; exact hno 2 (by simp)
  have e4 : (q == 4) = false := by rw [beq_eq_false_iff_ne]; exact hno 4 (by simp)
  have e5 : (q == 5) = false := by rw [beq_eq_false_iff_ne]; exact hno 5 (by simp)
  have e6 : (q == 6) = false := by rw [beq_eq_false_iff_ne]; exact hno 6 (by simp)
  have e7 : (q == 7) = false := by rw [beq_eq_false_iff_ne]; exact hno 7 (by simp)
  have e8 : (q == 8) = false := by rw [beq_eq_false_iff_ne]; exact hno 8 (by simp)
  have e9 : (q == 9) = false := by rw [beq_eq_false_iff_ne]; exact hno 9 (by simp)
  have e12 : (q == 12) = false := by rw [beq_eq_false_iff_ne]; exact hno 12 (by simp)
  have e13 : (q == 13) = false := by rw [beq_eq_false_iff_ne]; exact hno 13 (by simp)
  have e14 : (q == 14) = false := by rw [beq_eq_false_iff_ne]; exact hno 14 (by simp)
  have e15 : (q == 15) = false := by rw [beq_eq_false_iff_ne]; exact hno 15 (by simp)
  have e24 : (q == 24) = false := by rw [beq_eq_false_iff_ne]; exact hno 24 (by simp)
  have e25 : (q == 25) = false := by rw [beq_eq_false_iff_ne]; exact hno 25 (by simp)
  have e26 : (q == 26) = false := by rw [beq_eq_false_iff_ne]; exact hno 26 (by simp)
  have e27 : (q == 27) = false := by rw [beq_eq_false_iff_ne]; exact hno 27 (by simp)
  have e28 : (q == 28) = false := by rw [beq_eq_false_iff_ne]; exact hno 28 (by simp)
  have e29 : (q == 29) = false := by rw [beq_eq_false_iff_ne]; exact hno 29 (by simp)
  have e30 : (q == 30) = false := by rw [beq_eq_false_iff_ne]; exact hno 30 (by simp)
  clear hno
  by_cases h1 : K.length = 0
  · have hf : decide (K.length = 0) = true := by simp [h1]
    rw [hf]
    have c1 : ((K.length : Int) == 0) = true := by rw [beq_iff_eq]; omega
    clear hf h1
    go_enter Tryd.func28, Tryd.ntmps28
    go_upto_region 3 with (first
      | (go_at_call 42; refine H44'.out.mono ?_; rintro e w1 ⟨⟨p, cp, rfl, hR⟩, hb1⟩; have d1 := (hl.out.next hb1).kind hn; rw [hq] at d1)
      | go_in)
    go_wp2
    go_ret
    exact ⟨rfl, hb1⟩
  · have hf : decide (K.length = 0) = false := by simp [h1]
    rw [hf]
    have c1 : ((K.length : Int) == 0) = false := by rw [beq_eq_false_iff_ne]; omega
    clear hf h1
    go_enter Tryd.func28, Tryd.ntmps28
    go_upto_region 3 with (first
      | (go_at_call 42; refine H44'.out.mono ?_; rintro e w1 ⟨⟨p, cp, rfl, hR⟩, hb1⟩; have d1 := (hl.out.next hb1).kind hn; rw [hq] at d1)
      | go_in)
    go_wp2
    go_ret
    exact ⟨rfl, hb1⟩
end Go.Proofs.YtlocaalipjjnpaaDoor

namespace Go.Proofs.YtlocaalipjjnpaaDoor
open Go.RowKit

theorem len_one {K : List Nat} (h : K.length = 1) : ∃ x, K = [x] := by
  match K, h with
  | [x], _ => exact ⟨x, rfl⟩
theorem len_two {K : List Nat} (h : K.length = 2) : ∃ x y, K = [x, y] := by
  match K, h with
  | [x, y], _ => exact ⟨x, y, rfl⟩

set_option maxRecDepth 100000 in
set_option maxHeartbeats 1000000 in
theorem shape_15 (w : World) (g o cap : Nat) (L : List Nd) (n : Nat) (hL : L.length ≤ 1353245080300) (hl : Hid (Lay w g o L)) (hn : n < L.length) (hg : Hid (∀ m, m < L.length → Good L m)) (hs : sizesS L (n + 1) (endOf L n) = true) (hq : (nd L n).kind = 15) :
    Calls Tryd.prog 28 #[.slice (some ⟨g, o, none⟩) L.length cap, .int .i64 (n : Int)] w fun e w' => e = .returned (.bool (decide ((kidsB L n).length = 1) && (kd L ((kidsB L n).getD 0 0) == 25))) ∧ Below w.heap.size w w' := by
  obtain ⟨K, hKd⟩ : ∃ K, kidsB L n = K := ⟨_, rfl⟩
  have H44 := rkids_row g o cap L n hL w hl hn (hg.out n hn) hs
  have HKL : Hid (∀ j x : Nat, K[j]? = some x → x < L.length) := by rw [← hKd]; exact kidsB_lt L n (hg.out n hn)
  have hKl : K.length ≤ 1353245080300 := by rw [← hKd]; exact Nat.le_trans (kidsB_len L n (hg.out n hn)) hL
  rw [hKd] at H44 ⊢
  have H44' : Hid (Calls Tryd.prog 42 #[.slice (some ⟨g, o, none⟩) L.length cap, .int .i64 (n : Int)] w fun e w' => (∃ p cp, e = .returned (.slice p K.length cp) ∧ Hid (IRow w' p cp K)) ∧ Below w.heap.size w w') := H44
  clear H44 hKd hs
  have j0 : (0 : Int) ≤ (n : Int) := by omega
  have j1 : (n : Int) < (L.length : Int) := by omega
  by_cases h1 : K.length = 1
  · obtain ⟨x, rfl⟩ := len_one h1
    have hxl := HKL.out 0 x rfl
    have i2 : (0 : Int) ≤ (x : Int) := by omega
    have i3 : (x : Int) < (L.length : Int) := by omega
    obtain ⟨q, hqx⟩ : ∃ q, (nd L x).kind = q := ⟨_, rfl⟩
    have hf : (decide ([x].length = 1) && (kd L ([x].getD 0 0) == 25)) = (q == 25) := by
      show (true && (kd L x == 25)) = _
      rw [Bool.true_and, show kd L x = q from hqx]
    rw [hf]
    clear hf h1
    go_enter Tryd.func28, Tryd.ntmps28
    go_upto_region 3 with (first
      | (go_at_call 42; refine H44'.out.mono ?_; rintro e w1 ⟨⟨p, cp, rfl, hR⟩, hb1⟩; have d1 := (hl.out.next hb1).kind hn; rw [hq] at d1)
      | go_in)
    obtain ⟨G, a, rfl, hc⟩ := hR.out.2 0 x rfl
    rw [Nat.add_zero] at hc
    have dx := (hl.out.next hb1).kind hxl
    rw [hqx] at dx
    clear hqx
    go_wp2
    go_ret
    exact ⟨rfl, hb1⟩
  · have hf : (decide (K.length = 1) && (kd L (K.getD 0 0) == 25)) = false := by simp [h1]
    rw [hf]
    have c1 : ((K.length : Int) == 1) = false := by rw [beq_eq_false_iff_ne]; omega
    clear hf h1
    go_enter Tryd.func28, Tryd.ntmps28
    go_upto_region 3 with (first
      | (go_at_call 42; refine H44'.out.mono ?_; rintro e w1 ⟨⟨p, cp, rfl, hR⟩, hb1⟩; have d1 := (hl.out.next hb1).kind hn; rw [hq] at d1)
      | go_in)
    go_wp2
    go_ret
    exact ⟨rfl, hb1⟩
set_option maxRecDepth 100000 in
set_option maxHeartbeats 1000000 in
theorem shape_14 (w : World) (g o cap : Nat) (L : List Nd) (n : Nat) (hL : L.length ≤ 1353245080300) (hl : Hid (Lay w g o L)) (hn : n < L.length) (hg : Hid (∀ m, m < L.length → Good L m)) (hs : sizesS L (n + 1) (endOf L n) = true) (hq : (nd L n).kind = 14) :
    Calls Tryd.prog 28 #[.slice (some ⟨g, o, none⟩) L.length cap, .int .i64 (n : Int)] w fun e w' => e = .returned (.bool (decide ((kidsB L n).length = 1) && rplF L L.length ((kidsB L n).getD 0 0))) ∧ Below w.heap.size w w' := by
  obtain ⟨K, hKd⟩ : ∃ K, kidsB L n = K := ⟨_, rfl⟩
  have H44 := rkids_row g o cap L n hL w hl hn (hg.out n hn) hs
  have HKL : Hid (∀ j x : Nat, K[j]? = some x → x < L.length) := by rw [← hKd]; exact kidsB_lt L n (hg.out n hn)
  have hKl : K.length ≤ 1353245080300 := by rw [← hKd]; exact Nat.le_trans (kidsB_len L n (hg.out n hn)) hL
  rw [hKd] at H44 ⊢
  have H44' : Hid (Calls Tryd.prog 42 #[.slice (some ⟨g, o, none⟩) L.length cap, .int .i64 (n : Int)] w fun e w' => (∃ p cp, e = .returned (.slice p K.length cp) ∧ Hid (IRow w' p cp K)) ∧ Below w.heap.size w w') := H44
  clear H44 hKd hs
  have j0 : (0 : Int) ≤ (n : Int) := by omega
  have j1 : (n : Int) < (L.length : Int) := by omega
  by_cases h1 : K.length = 1
  · obtain ⟨x, rfl⟩ := len_one h1
    have hxl := HKL.out 0 x rfl
    obtain ⟨r, hr⟩ : ∃ r, rplF L L.length x = r := ⟨_, rfl⟩
    have HC : Hid (∀ w1 : World, Below w.heap.size w w1 → Calls Tryd.prog 45 #[.slice (some ⟨g, o, none⟩) L.length cap, .int .i64 (x : Int)] w1 fun e w' => e = .returned (.bool r) ∧ w1 = w') := fun w1 hb => by
      rw [← hr]
      exact rplace_any w1 g o cap L (hl.out.next hb) hL hg L.length x (by omega) hxl
    have hf : (decide ([x].length = 1) && rplF L L.length ([x].getD 0 0)) = r := by
      rw [← hr]
      simp
    rw [hf]
    clear hf h1 hr
    go_enter Tryd.func28, Tryd.ntmps28
    go_upto_region 3 with (first
      | (go_at_call 42; refine H44'.out.mono ?_; rintro e w1 ⟨⟨p, cp, rfl, hR⟩, hb1⟩; have d1 := (hl.out.next hb1).kind hn; rw [hq] at d1)
      | go_in)
    obtain ⟨G, a, rfl, hc⟩ := hR.out.2 0 x rfl
    rw [Nat.add_zero] at hc
    go_wp2_with (first
      | (go_at_call 45; refine (HC.out w1 hb1).mono ?_; rintro e w2 ⟨rfl, hw2⟩; subst hw2)
      | go_in)
    go_ret
    exact ⟨rfl, hb1⟩
  · have hf : (decide (K.length = 1) && rplF L L.length (K.getD 0 0)) = false := by simp [h1]
    rw [hf]
    have c1 : ((K.length : Int) == 1) = false := by rw [beq_eq_false_iff_ne]; omega
    clear hf h1
    go_enter Tryd.func28, Tryd.ntmps28
    go_upto_region 3 with (first
      | (go_at_call 42; refine H44'.out.mono ?_; rintro e w1 ⟨⟨p, cp, rfl, hR⟩, hb1⟩; have d1 := (hl.out.next hb1).kind hn; rw [hq] at d1)
      | go_in)
    go_wp2
    go_ret
    exact ⟨rfl, hb1⟩
set_option maxRecDepth 100000 in
set_option maxHeartbeats 1000000 in
theorem shape_6 (w : World) (g o cap : Nat) (L : List Nd) (n : Nat) (hL : L.length ≤ 1353245080300) (hl : Hid (Lay w g o L)) (hn : n < L.length) (hg : Hid (∀ m, m < L.length → Good L m)) (hs : sizesS L (n + 1) (endOf L n) = true) (hq : (nd L n).kind = 6) :
    Calls Tryd.prog 28 #[.slice (some ⟨g, o, none⟩) L.length cap, .int .i64 (n : Int)] w fun e w' => e = .returned (.bool ((decide ((kidsB L n).length = 2) && rplF L L.length ((kidsB L n).getD 0 0)) && exprsS L ((kidsB L n).drop 1))) ∧ Below w.heap.size w w' := by
  obtain ⟨K, hKd⟩ : ∃ K, kidsB L n = K := ⟨_, rfl⟩
  have H44 := rkids_row g o cap L n hL w hl hn (hg.out n hn) hs
  have HKL : Hid (∀ j x : Nat, K[j]? = some x → x < L.length) := by rw [← hKd]; exact kidsB_lt L n (hg.out n hn)
  have hKl : K.length ≤ 1353245080300 := by rw [← hKd]; exact Nat.le_trans (kidsB_len L n (hg.out n hn)) hL
  rw [hKd] at H44 ⊢
  have H44' : Hid (Calls Tryd.prog 42 #[.slice (some ⟨g, o, none⟩) L.length cap, .int .i64 (n : Int)] w fun e w' => (∃ p cp, e = .returned (.slice p K.length cp) ∧ Hid (IRow w' p cp K)) ∧ Below w.heap.size w w') := H44
  clear H44 hKd hs
  have j0 : (0 : Int) ≤ (n : Int) := by omega
  have j1 : (n : Int) < (L.length : Int) := by omega
  by_cases h1 : K.length = 2
  · obtain ⟨x, y, rfl⟩ := len_two h1
    have hxl := HKL.out 0 x rfl
    have hyl := HKL.out 1 y rfl
    obtain ⟨r, hr⟩ : ∃ r, rplF L L.length x = r := ⟨_, rfl⟩
    obtain ⟨r2, hr2⟩ : ∃ r2, exprsS L [y] = r2 := ⟨_, rfl⟩
    have HC : Hid (∀ w1 : World, Below w.heap.size w w1 → Calls Tryd.prog 45 #[.slice (some ⟨g, o, none⟩) L.length cap, .int .i64 (x : Int)] w1 fun e w' => e = .returned (.bool r) ∧ w1 = w') := fun w1 hb => by
      rw [← hr]
      exact rplace_any w1 g o cap L (hl.out.next hb) hL hg L.length x (by omega) hxl
    have HC2 : Hid (∀ (w1 : World) (G a cp : Nat), Below w.heap.size w w1 → Hid (IRow w1 (some ⟨G, a, none⟩) cp [y]) → Calls Tryd.prog 46 #[.slice (some ⟨g, o, none⟩) L.length cap, .slice (some ⟨G, a, none⟩) 1 cp] w1 fun e w' => e = .returned (.bool r2) ∧ w1 = w') := fun w1 G a cp hb hR => by
      rw [← hr2]
      exact exprs_any w1 g o cap L (some ⟨G, a, none⟩) cp [y] (hl.out.next hb) (by simp) hR (fun j z hz => by
        match j, hz with
        | 0, hz => cases hz; exact hyl)
    have hf : ((decide ([x, y].length = 2) && rplF L L.length ([x, y].getD 0 0)) && exprsS L ([x, y].drop 1)) = (r && r2) := by
      rw [← hr, ← hr2]
      simp
    rw [hf]
    clear hf h1 hr hr2
    go_enter Tryd.func28, Tryd.ntmps28
    go_upto_region 3 with (first
      | (go_at_call 42; refine H44'.out.mono ?_; rintro e w1 ⟨⟨p, cp, rfl, hR⟩, hb1⟩; have d1 := (hl.out.next hb1).kind hn; rw [hq] at d1)
      | go_in)
    obtain ⟨G, a, rfl, hc⟩ := hR.out.2 0 x rfl
    rw [Nat.add_zero] at hc
    have hcp := hR.out.1
    have hcp2 : ¬ cp = 1 := by simp at hcp; omega
    have hcp3 : (1 : Int) ≤ 2 := by omega
    have hcp4 : (2 : Int) ≤ (cp : Int) := by simp at hcp; omega
    have HR2 : Hid (IRow w1 (some ⟨G, a + 1, none⟩) (cp - 1) [y]) := ⟨by simp at hcp ⊢; omega, fun j z hz => by
      match j, hz with
      | 0, hz =>
        cases hz
        obtain ⟨G', a', e', hc'⟩ := hR.out.2 1 y rfl
        cases e'
        exact ⟨G, a + 1, rfl, hc'⟩⟩
    clear hcp
    cases r with
    | false =>
      go_wp2_with (first
        | (go_at_call 45; refine (HC.out w1 hb1).mono ?_; rintro e w2 ⟨rfl, hw2⟩; subst hw2)
        | go_in)
      go_ret
      exact ⟨rfl, hb1⟩
    | true =>
      go_wp2_with (first
        | (go_at_call 45; refine (HC.out w1 hb1).mono ?_; rintro e w2 ⟨rfl, hw2⟩; subst hw2)
        | (go_at_call 46; refine (HC2.out w1 G (a + 1) (cp - 1) hb1 HR2).mono ?_; rintro e w2 ⟨rfl, hw2⟩; subst hw2)
        | go_in)
      go_ret
      exact ⟨by simp, hb1⟩
  · have hf : ((decide (K.length = 2) && rplF L L.length (K.getD 0 0)) && exprsS L (K.drop 1)) = false := by simp [h1]
    rw [hf]
    have c1 : ((K.length : Int) == 2) = false := by rw [beq_eq_false_iff_ne]; omega
    clear hf h1
    go_enter Tryd.func28, Tryd.ntmps28
    go_upto_region 3 with (first
      | (go_at_call 42; refine H44'.out.mono ?_; rintro e w1 ⟨⟨p, cp, rfl, hR⟩, hb1⟩; have d1 := (hl.out.next hb1).kind hn; rw [hq] at d1)
      | go_in)
    go_wp2
    go_ret
    exact ⟨rfl, hb1⟩
set_option maxRecDepth 100000 in
set_option maxHeartbeats 1000000 in
theorem shape_1 (w : World) (g o cap : Nat) (L : List Nd) (n : Nat) (hL : L.length ≤ 1353245080300) (hl : Hid (Lay w g o L)) (hn : n < L.length) (hg : Hid (∀ m, m < L.length → Good L m)) (hs : sizesS L (n + 1) (endOf L n) = true) (hq : (nd L n).kind = 1) :
    Calls Tryd.prog 28 #[.slice (some ⟨g, o, none⟩) L.length cap, .int .i64 (n : Int)] w fun e w' => e = .returned (.bool ((kidsB L n).all fun x => (nd L x).kind == 2)) ∧ Below w.heap.size w w' := by
  obtain ⟨K, hKd⟩ : ∃ K, kidsB L n = K := ⟨_, rfl⟩
  have H44 := rkids_row g o cap L n hL w hl hn (hg.out n hn) hs
  have HKL : Hid (∀ j x : Nat, K[j]? = some x → x < L.length) := by rw [← hKd]; exact kidsB_lt L n (hg.out n hn)
  have hKl : K.length ≤ 1353245080300 := by rw [← hKd]; exact Nat.le_trans (kidsB_len L n (hg.out n hn)) hL
  rw [hKd] at H44 ⊢
  have H44' : Hid (Calls Tryd.prog 42 #[.slice (some ⟨g, o, none⟩) L.length cap, .int .i64 (n : Int)] w fun e w' => (∃ p cp, e = .returned (.slice p K.length cp) ∧ Hid (IRow w' p cp K)) ∧ Below w.heap.size w w') := H44
  clear H44 hKd hs
  have j0 : (0 : Int) ≤ (n : Int) := by omega
  have j1 : (n : Int) < (L.length : Int) := by omega
  obtain ⟨b, hb⟩ : ∃ b, (K.all fun x => (nd L x).kind == 2) = b := ⟨_, rfl⟩
  have HB : Hid ((K.all fun x => (nd L x).kind == 2) = b) := hb
  rw [hb]
  clear hb
  go_enter Tryd.func28, Tryd.ntmps28
  go_upto_region 3 with (first
    | (go_at_call 42; refine H44'.out.mono ?_; rintro e w1 ⟨⟨p, cp, rfl, hR⟩, hb1⟩; have d1 := (hl.out.next hb1).kind hn; rw [hq] at d1)
    | go_in)
  go_wp2
  go_loopw [6] (fun v wr => ∃ k : Nat, k ≤ K.length ∧ v = .int .i64 (k : Int) ∧ Hid (∀ j x : Nat, j < k → K[j]? = some x → ((nd L x).kind == 2) = true) ∧ w1 = wr) (fun v _ => K.length - (intOf v).toNat)
  case atStart => exact ⟨0, by omega, rfl, fun j x hj => by omega, rfl⟩
  case round =>
    obtain ⟨k, hk, rfl, hn', hw⟩ := hrel
    subst hw
    by_cases hlt : k < K.length
    · obtain ⟨x, hx⟩ : ∃ x, K[k]? = some x := ⟨_, List.getElem?_eq_getElem hlt⟩
      have HX : Hid (K[k]? = some x) := hx
      obtain ⟨G, a, rfl, hc⟩ := hR.out.2 k x hx
      have hxl := HKL.out k x hx
      have dx := (hl.out.next hb1).kind hxl
      have i0 : (0 : Int) ≤ (k : Int) := by omega
      have i1 : (k : Int) < (K.length : Int) := by omega
      have i2 : (0 : Int) ≤ (x : Int) := by omega
      have i3 : (x : Int) < (L.length : Int) := by omega
      have i4 : IntKind.i64.wrap ((k : Int) + 1) = (k : Int) + 1 := by rw [IntKind.wrap_i64]; omega
      obtain ⟨q, hqx⟩ : ∃ q, (nd L x).kind = q := ⟨_, rfl⟩
      have HQ : Hid ((nd L x).kind = q) := hqx
      rw [hqx] at dx
      clear hqx hx
      cases hE : (q == 2) with
      | false =>
        have hne : (q != 2) = true := by simpa [bne] using hE
        have HF : b = false := by rw [← HB.out]; exact all_upto (f := fun x => (nd L x).kind == 2) HX.out (by show ((nd L x).kind == 2) = false; rw [show (nd L x).kind = q from HQ.out]; exact hE)
        subst HF
        clear hE HB
        go_wp2
        go_ret
        exact ⟨rfl, hb1⟩
      | true =>
        have hne : (q != 2) = false := by simpa [bne] using hE
        have HE : Hid ((q == 2) = true) := hE
        clear hE
        go_wp2
        refine ⟨⟨k + 1, by omega, by go_num, fun j y hj hy => ?_, by first | rfl | trivial⟩, by simp [intOf]; omega⟩
        by_cases hjk : j < k
        · exact hn'.out j y hjk hy
        · obtain rfl : j = k := by omega
          rw [HX.out] at hy
          cases hy
          rw [show (nd L x).kind = q from HQ.out]
          exact HE.out
    · obtain rfl : k = K.length := by omega
      have HF : b = true := by rw [← HB.out]; exact all_done hn'.out
      subst HF
      clear HB
      go_wp2
      go_ret
      exact ⟨rfl, hb1⟩
set_option maxRecDepth 100000 in
set_option maxHeartbeats 1000000 in
theorem shape_4 (w : World) (g o cap : Nat) (L : List Nd) (n : Nat) (hL : L.length ≤ 1353245080300) (hl : Hid (Lay w g o L)) (hn : n < L.length) (hg : Hid (∀ m, m < L.length → Good L m)) (hs : sizesS L (n + 1) (endOf L n) = true) (hq : (nd L n).kind = 4) :
    Calls Tryd.prog 28 #[.slice (some ⟨g, o, none⟩) L.length cap, .int .i64 (n : Int)] w fun e w' => e = .returned (.bool ((kidsB L n).all fun x => isStmt (nd L x).kind)) ∧ Below w.heap.size w w' := by
  obtain ⟨K, hKd⟩ : ∃ K, kidsB L n = K := ⟨_, rfl⟩
  have H44 := rkids_row g o cap L n hL w hl hn (hg.out n hn) hs
  have HKL : Hid (∀ j x : Nat, K[j]? = some x → x < L.length) := by rw [← hKd]; exact kidsB_lt L n (hg.out n hn)
  have hKl : K.length ≤ 1353245080300 := by rw [← hKd]; exact Nat.le_trans (kidsB_len L n (hg.out n hn)) hL
  rw [hKd] at H44 ⊢
  have H44' : Hid (Calls Tryd.prog 42 #[.slice (some ⟨g, o, none⟩) L.length cap, .int .i64 (n : Int)] w fun e w' => (∃ p cp, e = .returned (.slice p K.length cp) ∧ Hid (IRow w' p cp K)) ∧ Below w.heap.size w w') := H44
  clear H44 hKd hs
  have j0 : (0 : Int) ≤ (n : Int) := by omega
  have j1 : (n : Int) < (L.length : Int) := by omega
  obtain ⟨b, hb⟩ : ∃ b, (K.all fun x => isStmt (nd L x).kind) = b := ⟨_, rfl⟩
  have HB : Hid ((K.all fun x => isStmt (nd L x).kind) = b) := hb
  rw [hb]
  clear hb
  go_enter Tryd.func28, Tryd.ntmps28
  go_upto_region 3 with (first
    | (go_at_call 42; refine H44'.out.mono ?_; rintro e w1 ⟨⟨p, cp, rfl, hR⟩, hb1⟩; have d1 := (hl.out.next hb1).kind hn; rw [hq] at d1)
    | go_in)
  go_wp2
  go_loopw [7] (fun v wr => ∃ k : Nat, k ≤ K.length ∧ v = .int .i64 (k : Int) ∧ Hid (∀ j x : Nat, j < k → K[j]? = some x → (isStmt (nd L x).kind) = true) ∧ w1 = wr) (fun v _ => K.length - (intOf v).toNat)
  case atStart => exact ⟨0, by omega, rfl, fun j x hj => by omega, rfl⟩
  case round =>
    obtain ⟨k, hk, rfl, hn', hw⟩ := hrel
    subst hw
    by_cases hlt : k < K.length
    · obtain ⟨x, hx⟩ : ∃ x, K[k]? = some x := ⟨_, List.getElem?_eq_getElem hlt⟩
      have HX : Hid (K[k]? = some x) := hx
      obtain ⟨G, a, rfl, hc⟩ := hR.out.2 k x hx
      have hxl := HKL.out k x hx
      have dx := (hl.out.next hb1).kind hxl
      have i0 : (0 : Int) ≤ (k : Int) := by omega
      have i1 : (k : Int) < (K.length : Int) := by omega
      have i2 : (0 : Int) ≤ (x : Int) := by omega
      have i3 : (x : Int) < (L.length : Int) := by omega
      have i4 : IntKind.i64.wrap ((k : Int) + 1) = (k : Int) + 1 := by rw [IntKind.wrap_i64]; omega
      obtain ⟨q, hqx⟩ : ∃ q, (nd L x).kind = q := ⟨_, rfl⟩
      have HQ : Hid ((nd L x).kind = q) := hqx
      rw [hqx] at dx
      clear hqx hx
      cases hE : (isStmt q) with
      | false =>
        have HC : Hid (Calls Tryd.prog 44 #[.int .i64 q] w1 fun e w' => e = .returned (.bool false) ∧ w1 = w') := by have := rStmt_any q w1; rwa [hE] at this
        have HF : b = false := by rw [← HB.out]; exact all_upto (f := fun x => isStmt (nd L x).kind) HX.out (by show (isStmt (nd L x).kind) = false; rw [show (nd L x).kind = q from HQ.out]; exact hE)
        subst HF
        clear hE HB
        go_wp2_with (first
          | (go_at_call 44; refine HC.out.mono ?_; rintro e w2 ⟨rfl, hw2⟩; subst hw2)
          | go_in)
        go_ret
        exact ⟨rfl, hb1⟩
      | true =>
        have HC : Hid (Calls Tryd.prog 44 #[.int .i64 q] w1 fun e w' => e = .returned (.bool true) ∧ w1 = w') := by have := rStmt_any q w1; rwa [hE] at this
        have HE : Hid ((isStmt q) = true) := hE
        clear hE
        go_wp2_with (first
          | (go_at_call 44; refine HC.out.mono ?_; rintro e w2 ⟨rfl, hw2⟩; subst hw2)
          | go_in)
        refine ⟨⟨k + 1, by omega, by go_num, fun j y hj hy => ?_, by first | rfl | trivial⟩, by simp [intOf]; omega⟩
        by_cases hjk : j < k
        · exact hn'.out j y hjk hy
        · obtain rfl : j = k := by omega
          rw [HX.out] at hy
          cases hy
          rw [show (nd L x).kind = q from HQ.out]
          exact HE.out
    · obtain rfl : k = K.length := by omega
      have HF : b = true := by rw [← HB.out]; exact all_done hn'.out
      subst HF
      clear HB
      go_wp2
      go_ret
      exact ⟨rfl, hb1⟩
end Go.Proofs.YtlocaalipjjnpaaDoor

namespace Go.Proofs.YtlocaalipjjnpaaDoor
open Go.RowKit

set_option maxRecDepth 100000 in
set_option maxHeartbeats 1000000 in
theorem bare_2 (ps : Int) (nm lb ty : ByteArray) (op it : Int) (tx : ByteArray) (zz : Int) (w : World) :
    Calls Tryd.prog 39 #[.agg #[.int .i64 2, .int .i64 ps, .string nm, .string lb, .string ty, .int .i64 op, .int .i64 it, .string tx, .int .i64 zz]] w fun e w' => e = .returned (.agg #[.int .i64 2, .int .i64 0, .string (⟨#[]⟩ : ByteArray), .string lb, .string (⟨#[]⟩ : ByteArray), .int .i64 op, .int .i64 it, .string tx, .int .i64 0]) ∧ Below w.heap.size w w' := by
  go_enter Tryd.func39, Tryd.ntmps39
  go_wp2
  exact bodyPost_ret (v := .agg #[.int .i64 2, .int .i64 0, .string (⟨#[]⟩ : ByteArray), .string lb, .string (⟨#[]⟩ : ByteArray), .int .i64 op, .int .i64 it, .string tx, .int .i64 0]) (by simp [results, Tryd.results39, go_sem]) rfl ⟨rfl, ((Below.refl _ w).alloc (Nat.le_refl _) _).alloc (by simp) _⟩

set_option maxRecDepth 100000 in
set_option maxHeartbeats 1000000 in
theorem bare_3 (ps : Int) (nm lb ty : ByteArray) (op it : Int) (tx : ByteArray) (zz : Int) (w : World) :
    Calls Tryd.prog 39 #[.agg #[.int .i64 3, .int .i64 ps, .string nm, .string lb, .string ty, .int .i64 op, .int .i64 it, .string tx, .int .i64 zz]] w fun e w' => e = .returned (.agg #[.int .i64 3, .int .i64 0, .string (⟨#[]⟩ : ByteArray), .string lb, .string (⟨#[]⟩ : ByteArray), .int .i64 op, .int .i64 it, .string tx, .int .i64 0]) ∧ Below w.heap.size w w' := by
  go_enter Tryd.func39, Tryd.ntmps39
  go_wp2
  exact bodyPost_ret (v := .agg #[.int .i64 3, .int .i64 0, .string (⟨#[]⟩ : ByteArray), .string lb, .string (⟨#[]⟩ : ByteArray), .int .i64 op, .int .i64 it, .string tx, .int .i64 0]) (by simp [results, Tryd.results39, go_sem]) rfl ⟨rfl, ((Below.refl _ w).alloc (Nat.le_refl _) _).alloc (by simp) _⟩

set_option maxRecDepth 100000 in
set_option maxHeartbeats 1000000 in
theorem bare_5 (ps : Int) (nm lb ty : ByteArray) (op it : Int) (tx : ByteArray) (zz : Int) (w : World) :
    Calls Tryd.prog 39 #[.agg #[.int .i64 5, .int .i64 ps, .string nm, .string lb, .string ty, .int .i64 op, .int .i64 it, .string tx, .int .i64 zz]] w fun e w' => e = .returned (.agg #[.int .i64 5, .int .i64 0, .string (⟨#[]⟩ : ByteArray), .string lb, .string (⟨#[]⟩ : ByteArray), .int .i64 op, .int .i64 it, .string tx, .int .i64 0]) ∧ Below w.heap.size w w' := by
  go_enter Tryd.func39, Tryd.ntmps39
  go_wp2
  exact bodyPost_ret (v := .agg #[.int .i64 5, .int .i64 0, .string (⟨#[]⟩ : ByteArray), .string lb, .string (⟨#[]⟩ : ByteArray), .int .i64 op, .int .i64 it, .string tx, .int .i64 0]) (by simp [results, Tryd.results39, go_sem]) rfl ⟨rfl, ((Below.refl _ w).alloc (Nat.le_refl _) _).alloc (by simp) _⟩

set_option maxRecDepth 100000 in
set_option maxHeartbeats 1000000 in
theorem bare_8 (ps : Int) (nm lb ty : ByteArray) (op it : Int) (tx : ByteArray) (zz : Int) (w : World) :
    Calls Tryd.prog 39 #[.agg #[.int .i64 8, .int .i64 ps, .string nm, .string lb, .string ty, .int .i64 op, .int .i64 it, .string tx, .int .i64 zz]] w fun e w' => e = .returned (.agg #[.int .i64 8, .int .i64 0, .string nm, .string (⟨#[]⟩ : ByteArray), .string ty, .int .i64 op, .int .i64 it, .string tx, .int .i64 0]) ∧ Below w.heap.size w w' := by
  go_enter Tryd.func39, Tryd.ntmps39
  go_wp2
  exact bodyPost_ret (v := .agg #[.int .i64 8, .int .i64 0, .string nm, .string (⟨#[]⟩ : ByteArray), .string ty, .int .i64 op, .int .i64 it, .string tx, .int .i64 0]) (by simp [results, Tryd.results39, go_sem]) rfl ⟨rfl, ((Below.refl _ w).alloc (Nat.le_refl _) _).alloc (by simp) _⟩

set_option maxRecDepth 100000 in
set_option maxHeartbeats 1000000 in
theorem bare_10 (ps : Int) (nm lb ty : ByteArray) (op it : Int) (tx : ByteArray) (zz : Int) (w : World) :
    Calls Tryd.prog 39 #[.agg #[.int .i64 10, .int .i64 ps, .string nm, .string lb, .string ty, .int .i64 op, .int .i64 it, .string tx, .int .i64 zz]] w fun e w' => e = .returned (.agg #[.int .i64 10, .int .i64 0, .string nm, .string (⟨#[]⟩ : ByteArray), .string ty, .int .i64 op, .int .i64 it, .string tx, .int .i64 0]) ∧ Below w.heap.size w w' := by
  go_enter Tryd.func39, Tryd.ntmps39
  go_wp2
  exact bodyPost_ret (v := .agg #[.int .i64 10, .int .i64 0, .string nm, .string (⟨#[]⟩ : ByteArray), .string ty, .int .i64 op, .int .i64 it, .string tx, .int .i64 0]) (by simp [results, Tryd.results39, go_sem]) rfl ⟨rfl, ((Below.refl _ w).alloc (Nat.le_refl _) _).alloc (by simp) _⟩

set_option maxRecDepth 100000 in
set_option maxHeartbeats 1000000 in
theorem bare_11 (ps : Int) (nm lb ty : ByteArray) (op it : Int) (tx : ByteArray) (zz : Int) (w : World) :
    Calls Tryd.prog 39 #[.agg #[.int .i64 11, .int .i64 ps, .string nm, .string lb, .string ty, .int .i64 op, .int .i64 it, .string tx, .int .i64 zz]] w fun e w' => e = .returned (.agg #[.int .i64 11, .int .i64 0, .string nm, .string (⟨#[]⟩ : ByteArray), .string ty, .int .i64 op, .int .i64 it, .string tx, .int .i64 0]) ∧ Below w.heap.size w w' := by
  go_enter Tryd.func39, Tryd.ntmps39
  go_wp2
  exact bodyPost_ret (v := .agg #[.int .i64 11, .int .i64 0, .string nm, .string (⟨#[]⟩ : ByteArray), .string ty, .int .i64 op, .int .i64 it, .string tx, .int .i64 0]) (by simp [results, Tryd.results39, go_sem]) rfl ⟨rfl, ((Below.refl _ w).alloc (Nat.le_refl _) _).alloc (by simp) _⟩

set_option maxRecDepth 100000 in
set_option maxHeartbeats 1000000 in
theorem bare_9 (ps : Int) (nm lb ty : ByteArray) (op it : Int) (tx : ByteArray) (zz : Int) (w : World) :
    Calls Tryd.prog 39 #[.agg #[.int .i64 9, .int .i64 ps, .string nm, .string lb, .string ty, .int .i64 op, .int .i64 it, .string tx, .int .i64 zz]] w fun e w' => e = .returned (.agg #[.int .i64 9, .int .i64 0, .string (⟨#[]⟩ : ByteArray), .string (⟨#[]⟩ : ByteArray), .string ty, .int .i64 op, .int .i64 it, .string tx, .int .i64 0]) ∧ Below w.heap.size w w' := by
  go_enter Tryd.func39, Tryd.ntmps39
  go_wp2
  exact bodyPost_ret (v := .agg #[.int .i64 9, .int .i64 0, .string (⟨#[]⟩ : ByteArray), .string (⟨#[]⟩ : ByteArray), .string ty, .int .i64 op, .int .i64 it, .string tx, .int .i64 0]) (by simp [results, Tryd.results39, go_sem]) rfl ⟨rfl, ((Below.refl _ w).alloc (Nat.le_refl _) _).alloc (by simp) _⟩

set_option maxRecDepth 100000 in
set_option maxHeartbeats 1000000 in
theorem bare_12 (ps : Int) (nm lb ty : ByteArray) (op it : Int) (tx : ByteArray) (zz : Int) (w : World) :
    Calls Tryd.prog 39 #[.agg #[.int .i64 12, .int .i64 ps, .string nm, .string lb, .string ty, .int .i64 op, .int .i64 it, .string tx, .int .i64 zz]] w fun e w' => e = .returned (.agg #[.int .i64 12, .int .i64 0, .string nm, .string lb, .string ty, .int .i64 op, .int .i64 0, .string tx, .int .i64 0]) ∧ Below w.heap.size w w' := by
  go_enter Tryd.func39, Tryd.ntmps39
  go_wp2
  exact bodyPost_ret (v := .agg #[.int .i64 12, .int .i64 0, .string nm, .string lb, .string ty, .int .i64 op, .int .i64 0, .string tx, .int .i64 0]) (by simp [results, Tryd.results39, go_sem]) rfl ⟨rfl, ((Below.refl _ w).alloc (Nat.le_refl _) _).alloc (by simp) _⟩

set_option maxRecDepth 100000 in
set_option maxHeartbeats 1000000 in
theorem bare_20 (ps : Int) (nm lb ty : ByteArray) (op it : Int) (tx : ByteArray) (zz : Int) (w : World) :
    Calls Tryd.prog 39 #[.agg #[.int .i64 20, .int .i64 ps, .string nm, .string lb, .string ty, .int .i64 op, .int .i64 it, .string tx, .int .i64 zz]] w fun e w' => e = .returned (.agg #[.int .i64 20, .int .i64 0, .string nm, .string lb, .string ty, .int .i64 op, .int .i64 0, .string tx, .int .i64 0]) ∧ Below w.heap.size w w' := by
  go_enter Tryd.func39, Tryd.ntmps39
  go_wp2
  exact bodyPost_ret (v := .agg #[.int .i64 20, .int .i64 0, .string nm, .string lb, .string ty, .int .i64 op, .int .i64 0, .string tx, .int .i64 0]) (by simp [results, Tryd.results39, go_sem]) rfl ⟨rfl, ((Below.refl _ w).alloc (Nat.le_refl _) _).alloc (by simp) _⟩

set_option maxRecDepth 100000 in
set_option maxHeartbeats 1000000 in
theorem bare_21 (ps : Int) (nm lb ty : ByteArray) (op it : Int) (tx : ByteArray) (zz : Int) (w : World) :
    Calls Tryd.prog 39 #[.agg #[.int .i64 21, .int .i64 ps, .string nm, .string lb, .string ty, .int .i64 op, .int .i64 it, .string tx, .int .i64 zz]] w fun e w' => e = .returned (.agg #[.int .i64 21, .int .i64 0, .string nm, .string lb, .string ty, .int .i64 op, .int .i64 0, .string tx, .int .i64 0]) ∧ Below w.heap.size w w' := by
  go_enter Tryd.func39, Tryd.ntmps39
  go_wp2
  exact bodyPost_ret (v := .agg #[.int .i64 21, .int .i64 0, .string nm, .string lb, .string ty, .int .i64 op, .int .i64 0, .string tx, .int .i64 0]) (by simp [results, Tryd.results39, go_sem]) rfl ⟨rfl, ((Below.refl _ w).alloc (Nat.le_refl _) _).alloc (by simp) _⟩

set_option maxRecDepth 100000 in
set_option maxHeartbeats 1000000 in
theorem bare_16 (ps : Int) (nm lb ty : ByteArray) (op it : Int) (tx : ByteArray) (zz : Int) (w : World) :
    Calls Tryd.prog 39 #[.agg #[.int .i64 16, .int .i64 ps, .string nm, .string lb, .string ty, .int .i64 op, .int .i64 it, .string tx, .int .i64 zz]] w fun e w' => e = .returned (.agg #[.int .i64 16, .int .i64 0, .string (⟨#[]⟩ : ByteArray), .string lb, .string ty, .int .i64 op, .int .i64 0, .string tx, .int .i64 0]) ∧ Below w.heap.size w w' := by
  go_enter Tryd.func39, Tryd.ntmps39
  go_wp2
  exact bodyPost_ret (v := .agg #[.int .i64 16, .int .i64 0, .string (⟨#[]⟩ : ByteArray), .string lb, .string ty, .int .i64 op, .int .i64 0, .string tx, .int .i64 0]) (by simp [results, Tryd.results39, go_sem]) rfl ⟨rfl, ((Below.refl _ w).alloc (Nat.le_refl _) _).alloc (by simp) _⟩

set_option maxRecDepth 100000 in
set_option maxHeartbeats 1000000 in
theorem bare_22 (ps : Int) (nm lb ty : ByteArray) (op it : Int) (tx : ByteArray) (zz : Int) (w : World) :
    Calls Tryd.prog 39 #[.agg #[.int .i64 22, .int .i64 ps, .string nm, .string lb, .string ty, .int .i64 op, .int .i64 it, .string tx, .int .i64 zz]] w fun e w' => e = .returned (.agg #[.int .i64 22, .int .i64 0, .string nm, .string lb, .string ty, .int .i64 op, .int .i64 it, .string (⟨#[]⟩ : ByteArray), .int .i64 0]) ∧ Below w.heap.size w w' := by
  go_enter Tryd.func39, Tryd.ntmps39
  go_wp2
  exact bodyPost_ret (v := .agg #[.int .i64 22, .int .i64 0, .string nm, .string lb, .string ty, .int .i64 op, .int .i64 it, .string (⟨#[]⟩ : ByteArray), .int .i64 0]) (by simp [results, Tryd.results39, go_sem]) rfl ⟨rfl, ((Below.refl _ w).alloc (Nat.le_refl _) _).alloc (by simp) _⟩

set_option maxRecDepth 100000 in
set_option maxHeartbeats 1000000 in
theorem bare_23 (ps : Int) (nm lb ty : ByteArray) (op it : Int) (tx : ByteArray) (zz : Int) (w : World) :
    Calls Tryd.prog 39 #[.agg #[.int .i64 23, .int .i64 ps, .string nm, .string lb, .string ty, .int .i64 op, .int .i64 it, .string tx, .int .i64 zz]] w fun e w' => e = .returned (.agg #[.int .i64 23, .int .i64 0, .string (⟨#[]⟩ : ByteArray), .string lb, .string ty, .int .i64 op, .int .i64 it, .string tx, .int .i64 0]) ∧ Below w.heap.size w w' := by
  go_enter Tryd.func39, Tryd.ntmps39
  go_wp2
  exact bodyPost_ret (v := .agg #[.int .i64 23, .int .i64 0, .string (⟨#[]⟩ : ByteArray), .string lb, .string ty, .int .i64 op, .int .i64 it, .string tx, .int .i64 0]) (by simp [results, Tryd.results39, go_sem]) rfl ⟨rfl, ((Below.refl _ w).alloc (Nat.le_refl _) _).alloc (by simp) _⟩

set_option maxRecDepth 100000 in
set_option maxHeartbeats 1000000 in
theorem bare_25 (ps : Int) (nm lb ty : ByteArray) (op it : Int) (tx : ByteArray) (zz : Int) (w : World) :
    Calls Tryd.prog 39 #[.agg #[.int .i64 25, .int .i64 ps, .string nm, .string lb, .string ty, .int .i64 op, .int .i64 it, .string tx, .int .i64 zz]] w fun e w' => e = .returned (.agg #[.int .i64 25, .int .i64 0, .string (⟨#[]⟩ : ByteArray), .string lb, .string ty, .int .i64 op, .int .i64 it, .string tx, .int .i64 0]) ∧ Below w.heap.size w w' := by
  go_enter Tryd.func39, Tryd.ntmps39
  go_wp2
  exact bodyPost_ret (v := .agg #[.int .i64 25, .int .i64 0, .string (⟨#[]⟩ : ByteArray), .string lb, .string ty, .int .i64 op, .int .i64 it, .string tx, .int .i64 0]) (by simp [results, Tryd.results39, go_sem]) rfl ⟨rfl, ((Below.refl _ w).alloc (Nat.le_refl _) _).alloc (by simp) _⟩

set_option maxRecDepth 100000 in
set_option maxHeartbeats 1000000 in
theorem bare_26 (ps : Int) (nm lb ty : ByteArray) (op it : Int) (tx : ByteArray) (zz : Int) (w : World) :
    Calls Tryd.prog 39 #[.agg #[.int .i64 26, .int .i64 ps, .string nm, .string lb, .string ty, .int .i64 op, .int .i64 it, .string tx, .int .i64 zz]] w fun e w' => e = .returned (.agg #[.int .i64 26, .int .i64 0, .string nm, .string lb, .string ty, .int .i64 0, .int .i64 it, .string tx, .int .i64 0]) ∧ Below w.heap.size w w' := by
  go_enter Tryd.func39, Tryd.ntmps39
  go_wp2
  exact bodyPost_ret (v := .agg #[.int .i64 26, .int .i64 0, .string nm, .string lb, .string ty, .int .i64 0, .int .i64 it, .string tx, .int .i64 0]) (by simp [results, Tryd.results39, go_sem]) rfl ⟨rfl, ((Below.refl _ w).alloc (Nat.le_refl _) _).alloc (by simp) _⟩

set_option maxRecDepth 100000 in
set_option maxHeartbeats 1000000 in
theorem bare_27 (ps : Int) (nm lb ty : ByteArray) (op it : Int) (tx : ByteArray) (zz : Int) (w : World) :
    Calls Tryd.prog 39 #[.agg #[.int .i64 27, .int .i64 ps, .string nm, .string lb, .string ty, .int .i64 op, .int .i64 it, .string tx, .int .i64 zz]] w fun e w' => e = .returned (.agg #[.int .i64 27, .int .i64 0, .string nm, .string lb, .string ty, .int .i64 0, .int .i64 it, .string tx, .int .i64 0]) ∧ Below w.heap.size w w' := by
  go_enter Tryd.func39, Tryd.ntmps39
  go_wp2
  exact bodyPost_ret (v := .agg #[.int .i64 27, .int .i64 0, .string nm, .string lb, .string ty, .int .i64 0, .int .i64 it, .string tx, .int .i64 0]) (by simp [results, Tryd.results39, go_sem]) rfl ⟨rfl, ((Below.refl _ w).alloc (Nat.le_refl _) _).alloc (by simp) _⟩

set_option maxRecDepth 100000 in
set_option maxHeartbeats 1000000 in
theorem bare_28 (ps : Int) (nm lb ty : ByteArray) (op it : Int) (tx : ByteArray) (zz : Int) (w : World) :
    Calls Tryd.prog 39 #[.agg #[.int .i64 28, .int .i64 ps, .string nm, .string lb, .string ty, .int .i64 op, .int .i64 it, .string tx, .int .i64 zz]] w fun e w' => e = .returned (.agg #[.int .i64 28, .int .i64 0, .string nm, .string lb, .string (⟨#[]⟩ : ByteArray), .int .i64 op, .int .i64 it, .string tx, .int .i64 0]) ∧ Below w.heap.size w w' := by
  go_enter Tryd.func39, Tryd.ntmps39
  go_wp2
  exact bodyPost_ret (v := .agg #[.int .i64 28, .int .i64 0, .string nm, .string lb, .string (⟨#[]⟩ : ByteArray), .int .i64 op, .int .i64 it, .string tx, .int .i64 0]) (by simp [results, Tryd.results39, go_sem]) rfl ⟨rfl, ((Below.refl _ w).alloc (Nat.le_refl _) _).alloc (by simp) _⟩

set_option maxRecDepth 100000 in
set_option maxHeartbeats 1000000 in
theorem bare_none (q : Int) (hno : ∀ k ∈ ([2, 3, 5, 8, 9, 10, 11, 12, 16, 20, 21, 22, 23, 25, 26, 27, 28] : List Int), q ≠ k) (ps : Int) (nm lb ty : ByteArray) (op it : Int) (tx : ByteArray) (zz : Int) (w : World) :
    Calls Tryd.prog 39 #[.agg #[.int .i64 q, .int .i64 ps, .string nm, .string lb, .string ty, .int .i64 op, .int .i64 it, .string tx, .int .i64 zz]] w fun e w' => e = .returned (.agg #[.int .i64 q, .int .i64 0, .string nm, .string lb, .string ty, .int .i64 op, .int .i64 it, .string tx, .int .i64 0]) ∧ Below w.heap.size w w' := by
  have e2 : (q == 2) = false := by rw [beq_eq_false_iff_ne]; exact hno 2 (by simp)
  have e3 : (q == 3) = false := by rw [beq_eq_false_iff_ne]; exact hno 3 (by simp)
  have e5 : (q == 5) = false := by rw [beq_eq_false_iff_ne]; exact hno 5 (by simp)
  have e8 : (q == 8) = false := by rw [beq_eq_false_iff_ne]; exact hno 8 (by simp)
  have e9 : (q == 9) = false := by rw [beq_eq_false_iff_ne]; exact hno 9 (by simp)
  have e10 : (q == 10) = false := by rw [beq_eq_false_iff_ne]; exact hno 10 (by simp)
  have e11 : (q == 11) = false := by rw [beq_eq_false_iff_ne]; exact hno 11 (by simp)
  have e12 : (q == 12) = false := by rw [beq_eq_false_iff_ne]; exact hno 12 (by simp)
  have e16 : (q == 16) = false := by rw [beq_eq_false_iff_ne]; exact hno 16 (by simp)
  have e20 : (q == 20) = false := by rw [beq_eq_false_iff_ne]; exact hno 20 (by simp)
  have e21 : (q == 21) = false := by rw [beq_eq_false_iff_ne]; exact hno 21 (by simp)
  have e22 : (q == 22) = false := by rw [beq_eq_false_iff_ne]; exact hno 22 (by simp)
  have e23 : (q == 23) = false := by rw [beq_eq_false_iff_ne]; exact hno 23 (by simp)
  have e25 : (q == 25) = false := by rw [beq_eq_false_iff_ne]; exact hno 25 (by simp)
  have e26 : (q == 26) = false := by rw [beq_eq_false_iff_ne]; exact hno 26 (by simp)
  have e27 : (q == 27) = false := by rw [beq_eq_false_iff_ne]; exact hno 27 (by simp)
  have e28 : (q == 28) = false := by rw [beq_eq_false_iff_ne]; exact hno 28 (by simp)
  clear hno
  go_enter Tryd.func39, Tryd.ntmps39
  go_wp2
  exact bodyPost_ret (v := .agg #[.int .i64 q, .int .i64 0, .string nm, .string lb, .string ty, .int .i64 op, .int .i64 it, .string tx, .int .i64 0]) (by simp [results, Tryd.results39, go_sem]) rfl ⟨rfl, ((Below.refl _ w).alloc (Nat.le_refl _) _).alloc (by simp) _⟩

end Go.Proofs.YtlocaalipjjnpaaDoor

namespace Go.Proofs.YtlocaalipjjnpaaDoor
open Go.RowKit

/-- Are the kids as the kind says, by the reference? -/
def shapeR (L : List Nd) (K : List Nat) (p : Int) : Bool :=
  if p = 1 then K.all fun x => (nd L x).kind == 2 else
  if p = 2 then funcS L K else
  if p = 4 then K.all fun x => isStmt (nd L x).kind else
  if p = 5 then decide (K.length = 1) && exprsS L K else
  if p = 6 then (decide (K.length = 2) && rplF L L.length (K.getD 0 0)) && exprsS L (K.drop 1) else
  if p = 7 then choiceS L K else
  if p = 8 then loopS L K 1 else
  if p = 9 then loopS L K 2 else
  if p = 12 then decide (K.length ≤ 1) && exprsS L K else
  if p = 13 then (decide (1 ≤ K.length) && decide (K.length ≤ 16)) && exprsS L K else
  if p = 14 then decide (K.length = 1) && rplF L L.length (K.getD 0 0) else
  if p = 15 then decide (K.length = 1) && (kd L (K.getD 0 0) == 25) else
  if p = 24 then decide (K.length = 2) && exprsS L K else
  if p = 25 then exprsS L K else
  if p = 26 then decide (K.length = 1) && exprsS L K else
  if p = 27 then decide (K.length = 2) && exprsS L K else
  if p = 28 then decide (K.length = 1) && exprsS L K else
  if p = 29 then decide (K.length = 1) && exprsS L K else
  if p = 30 then decide (K.length = 1) && exprsS L K else
  decide (K.length = 0)

theorem shape_any (w : World) (g o cap : Nat) (L : List Nd) (n : Nat) (hL : L.length ≤ 1353245080300) (hl : Hid (Lay w g o L)) (hn : n < L.length) (hg : Hid (∀ m, m < L.length → Good L m)) (hs : sizesS L (n + 1) (endOf L n) = true) :
    Calls Tryd.prog 28 #[.slice (some ⟨g, o, none⟩) L.length cap, .int .i64 (n : Int)] w fun e w' => e = .returned (.bool (shapeR L (kidsB L n) (nd L n).kind)) ∧ Below w.heap.size w w' := by
  unfold shapeR
  by_cases h1 : (nd L n).kind = 1
  · rw [if_pos h1]
    exact shape_1 w g o cap L n hL hl hn hg hs h1
  by_cases h2 : (nd L n).kind = 2
  · rw [if_neg h1, if_pos h2]
    exact shape_2 w g o cap L n hL hl hn hg hs h2
  by_cases h4 : (nd L n).kind = 4
  · rw [if_neg h1, if_neg h2, if_pos h4]
    exact shape_4 w g o cap L n hL hl hn hg hs h4
  by_cases h5 : (nd L n).kind = 5
  · rw [if_neg h1, if_neg h2, if_neg h4, if_pos h5]
    exact shape_5 w g o cap L n hL hl hn hg hs h5
  by_cases h6 : (nd L n).kind = 6
  · rw [if_neg h1, if_neg h2, if_neg h4, if_neg h5, if_pos h6]
    exact shape_6 w g o cap L n hL hl hn hg hs h6
  by_cases h7 : (nd L n).kind = 7
  · rw [if_neg h1, if_neg h2, if_neg h4, if_neg h5, if_neg h6, if_pos h7]
    exact shape_7 w g o cap L n hL hl hn hg hs h7
  by_cases h8 : (nd L n).kind = 8
  · rw [if_neg h1, if_neg h2, if_neg h4, if_neg h5, if_neg h6, if_neg h7, if_pos h8]
    exact shape_8 w g o cap L n hL hl hn hg hs h8
  by_cases h9 : (nd L n).kind = 9
  · rw [if_neg h1, if_neg h2, if_neg h4, if_neg h5, if_neg h6, if_neg h7, if_neg h8, if_pos h9]
    exact shape_9 w g o cap L n hL hl hn hg hs h9
  by_cases h12 : (nd L n).kind = 12
  · rw [if_neg h1, if_neg h2, if_neg h4, if_neg h5, if_neg h6, if_neg h7, if_neg h8, if_neg h9, if_pos h12]
    exact shape_12 w g o cap L n hL hl hn hg hs h12
  by_cases h13 : (nd L n).kind = 13
  · rw [if_neg h1, if_neg h2, if_neg h4, if_neg h5, if_neg h6, if_neg h7, if_neg h8, if_neg h9, if_neg h12, if_pos h13]
    exact shape_13 w g o cap L n hL hl hn hg hs h13
  by_cases h14 : (nd L n).kind = 14
  · rw [if_neg h1, if_neg h2, if_neg h4, if_neg h5, if_neg h6, if_neg h7, if_neg h8, if_neg h9, if_neg h12, if_neg h13, if_pos h14]
    exact shape_14 w g o cap L n hL hl hn hg hs h14
  by_cases h15 : (nd L n).kind = 15
  · rw [if_neg h1, if_neg h2, if_neg h4, if_neg h5, if_neg h6, if_neg h7, if_neg h8, if_neg h9, if_neg h12, if_neg h13, if_neg h14, if_pos h15]
    exact shape_15 w g o cap L n hL hl hn hg hs h15
  by_cases h24 : (nd L n).kind = 24
  · rw [if_neg h1, if_neg h2, if_neg h4, if_neg h5, if_neg h6, if_neg h7, if_neg h8, if_neg h9, if_neg h12, if_neg h13, if_neg h14, if_neg h15, if_pos h24]
    exact shape_24 w g o cap L n hL hl hn hg hs h24
  by_cases h25 : (nd L n).kind = 25
  · rw [if_neg h1, if_neg h2, if_neg h4, if_neg h5, if_neg h6, if_neg h7, if_neg h8, if_neg h9, if_neg h12, if_neg h13, if_neg h14, if_neg h15, if_neg h24, if_pos h25]
    exact shape_25 w g o cap L n hL hl hn hg hs h25
  by_cases h26 : (nd L n).kind = 26
  · rw [if_neg h1, if_neg h2, if_neg h4, if_neg h5, if_neg h6, if_neg h7, if_neg h8, if_neg h9, if_neg h12, if_neg h13, if_neg h14, if_neg h15, if_neg h24, if_neg h25, if_pos h26]
    exact shape_26 w g o cap L n hL hl hn hg hs h26
  by_cases h27 : (nd L n).kind = 27
  · rw [if_neg h1, if_neg h2, if_neg h4, if_neg h5, if_neg h6, if_neg h7, if_neg h8, if_neg h9, if_neg h12, if_neg h13, if_neg h14, if_neg h15, if_neg h24, if_neg h25, if_neg h26, if_pos h27]
    exact shape_27 w g o cap L n hL hl hn hg hs h27
  by_cases h28 : (nd L n).kind = 28
  · rw [if_neg h1, if_neg h2, if_neg h4, if_neg h5, if_neg h6, if_neg h7, if_neg h8, if_neg h9, if_neg h12, if_neg h13, if_neg h14, if_neg h15, if_neg h24, if_neg h25, if_neg h26, if_neg h27, if_pos h28]
    exact shape_28 w g o cap L n hL hl hn hg hs h28
  by_cases h29 : (nd L n).kind = 29
  · rw [if_neg h1, if_neg h2, if_neg h4, if_neg h5, if_neg h6, if_neg h7, if_neg h8, if_neg h9, if_neg h12, if_neg h13, if_neg h14, if_neg h15, if_neg h24, if_neg h25, if_neg h26, if_neg h27, if_neg h28, if_pos h29]
    exact shape_29 w g o cap L n hL hl hn hg hs h29
  by_cases h30 : (nd L n).kind = 30
  · rw [if_neg h1, if_neg h2, if_neg h4, if_neg h5, if_neg h6, if_neg h7, if_neg h8, if_neg h9, if_neg h12, if_neg h13, if_neg h14, if_neg h15, if_neg h24, if_neg h25, if_neg h26, if_neg h27, if_neg h28, if_neg h29, if_pos h30]
    exact shape_30 w g o cap L n hL hl hn hg hs h30
  rw [if_neg h1, if_neg h2, if_neg h4, if_neg h5, if_neg h6, if_neg h7, if_neg h8, if_neg h9, if_neg h12, if_neg h13, if_neg h14, if_neg h15, if_neg h24, if_neg h25, if_neg h26, if_neg h27, if_neg h28, if_neg h29, if_neg h30]
  refine shape_none w g o cap L n hL hl hn hg hs (nd L n).kind rfl ?_
  intro k hk
  simp only [List.mem_cons, List.not_mem_nil, or_false] at hk
  rcases hk with rfl | rfl | rfl | rfl | rfl | rfl | rfl | rfl | rfl | rfl | rfl | rfl | rfl | rfl | rfl | rfl | rfl | rfl | rfl
  · exact h1
  · exact h2
  · exact h4
  · exact h5
  · exact h6
  · exact h7
  · exact h8
  · exact h9
  · exact h12
  · exact h13
  · exact h14
  · exact h15
  · exact h24
  · exact h25
  · exact h26
  · exact h27
  · exact h28
  · exact h29
  · exact h30
end Go.Proofs.YtlocaalipjjnpaaDoor

namespace Go.Proofs.YtlocaalipjjnpaaDoor
open Go.RowKit

theorem sizes_all (L : List Nd) : ∀ (f k e : Nat), e - k ≤ f → sizesS L k e = true → ∀ x, k ≤ x → x < e → 1 ≤ sz L x ∧ (x : Int) + sz L x ≤ e ∧ sizesS L (x + 1) (x + (sz L x).toNat) = true
  | 0, k, e, h, _, x, h1, h2 => by omega
  | f + 1, k, e, h, hs, x, h1, h2 => by
    have hb : ¬ (sz L k < 1 ∨ (e : Int) - k < sz L k) := fun hb => by rw [sizesS_bad L k e (by omega) hb] at hs; cases hs
    rw [sizesS_go L k e (by omega) hb, Bool.and_eq_true] at hs
    by_cases hx : x = k
    · subst hx
      exact ⟨by omega, by omega, hs.1⟩
    · by_cases hlt : x < k + (sz L k).toNat
      · obtain ⟨a, b, c⟩ := sizes_all L f (k + 1) (k + (sz L k).toNat) (by omega) hs.1 x (by omega) hlt
        exact ⟨a, by omega, c⟩
      · exact sizes_all L f (k + (sz L k).toNat) e (by omega) hs.2 x (by omega) h2

theorem sizes_root {L : List Nd} (h0 : sz L 0 = (L.length : Int)) (hp : 0 < L.length) (hs : sizesS L 1 L.length = true) : ∀ m, m < L.length → Good L m ∧ sizesS L (m + 1) (endOf L m) = true := fun m hm => by
  unfold Good endOf
  by_cases hm0 : m = 0
  · subst hm0
    rw [h0, Int.toNat_natCast, Nat.zero_add, Nat.zero_add]
    exact ⟨⟨by omega, by simp⟩, hs⟩
  · obtain ⟨a, b, c⟩ := sizes_all L L.length 1 L.length (by omega) hs m (by omega) hm
    exact ⟨⟨a, b⟩, c⟩
end Go.Proofs.YtlocaalipjjnpaaDoor
