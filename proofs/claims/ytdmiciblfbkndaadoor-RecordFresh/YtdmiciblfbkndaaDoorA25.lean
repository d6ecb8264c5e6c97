import Derived.Test.YtdmiciblfbkndaaDoorA24
import Derived.Test.YtdmiciblfbkndaaDoorA21
import Derived.Test.YtdmiciblfbkndaaDoorA22
import Derived.Test.YtdmiciblfbkndaaDoorA19
import Derived.Test.YtdmiciblfbkndaaDoorA14
namespace Go.Proofs.YtdmiciblfbkndaaDoor
open Go.RowKit

theorem all_ev : AllEv := fun _ _ _ _ h hz hns hnd => revent h hz hns hnd
/-- A record that is answered: its row of events is its own. -/
def RcA (B : Nat) (w : World) (rc : Rc) (v : Value) : Prop := ∃ nv, v = .agg #[.int .i64 rc.ph, .int .i64 rc.tr, sV rc.out, .int .i64 rc.inp, nv] ∧ w.ownsRow B 37 6 nv rc.evs.length (rc.evs.flatMap ec)
theorem RcA.next {B : Nat} {w w' : World} {rc : Rc} {v : Value} (h : RcA B w rc v) (k : Below w.heap.size w w') : RcA B w' rc v := by
  obtain ⟨nv, h1, h2⟩ := h
  exact ⟨nv, h1, own_next h2 k⟩
theorem RcA.down {B C : Nat} {w : World} {rc : Rc} {v : Value} (h : RcA B w rc v) (k : C ≤ B) : RcA C w rc v := by
  obtain ⟨nv, h1, h2⟩ := h
  exact ⟨nv, h1, own_down h2 k⟩
theorem RcA.zero (B : Nat) (w : World) : RcA B w rc0 (.agg #[.int .i64 0, .int .i64 0, .string ⟨#[]⟩, .int .i64 0, .slice none 0 0]) := ⟨_, rfl, ⟨rfl, .inl ⟨rfl, rfl⟩⟩⟩
def rcZ : List Value := [.int .i64 0, .int .i64 0, .string ⟨#[]⟩, .int .i64 0, .slice none 0 0]
theorem ret_dec {w : World} {R : Nat} {a b c d e : Value} {x : Int} {tm : Array Value} (h : Full w R 28 [a, b, c, d, e]) (h2 : tm[2]?.getD undef = .pointer (some ⟨R, 0, none⟩)) (h3 : tm[3]?.getD undef = .int .i64 x) : (results Tryd.f6 tm).run Tryd.prog w = .ok (.tuple #[.agg #[a, b, c, d, e], .int .i64 x]) w := by
  obtain ⟨⟨⟨r0, g0⟩, ⟨r1, g1⟩, r2, g2⟩, ⟨r3, g3⟩, r4, g4⟩ := h.five2
  simp [results, Tryd.results6, go_sem, h2, h3, r0, r1, r2, r3, r4]
set_option maxRecDepth 100000 in
set_option maxHeartbeats 2000000 in
theorem decode_any (W : World) (b : ByteArray) (hT : SumT W) (hb : b.size ≤ 140737488355328) :
    Calls Tryd.prog 6 #[.string b] W fun e w' => (∃ v, e = .returned (.tuple #[v, .int .i64 (decS b.data.toList).2]) ∧ RcA W.heap.size w' (decS b.data.toList).1 v) ∧ Below W.heap.size W w' := by
  obtain ⟨X1, hX1⟩ : ∃ X, W.alloc (.cells rcZ.toArray 28) = X := ⟨_, rfl⟩
  obtain ⟨R, hR⟩ : ∃ R, W.heap.size = R := ⟨_, rfl⟩
  have b1 : Below W.heap.size W X1 := by rw [← hX1]; exact (Below.refl _ W).alloc (Nat.le_refl _) _
  have f1 : Full X1 R 28 rcZ := by rw [← hX1, ← hR]; exact Full.new W _ _
  have HC := follow_any all_ev X1 b (hT.next b1) hb
  unfold FollowOf at HC
  have H1 : Hid (Below W.heap.size W X1 ∧ Full X1 R 28 rcZ ∧ W.heap.size = R ∧ b.data.toList.length = b.size) := ⟨b1, f1, hR, (Lib.size_eq b).symm⟩
  have hbz : (b.size : Int) ≤ 140737488355328 := by omega
  simp only [rcZ] at hX1
  cases hf : followS b.data.toList with
  | none =>
    rw [hf] at HC
    simp only [wyZ] at HC
    have HV : Hid (decS b.data.toList = (rc0, 250)) := by show decS _ = _; unfold decS; rw [hf]
    clear hf b1 f1 hT hb
    go_enter Tryd.func6, Tryd.ntmps6
    go_wp2_with fail
    refine HC.mono ?_
    rintro e w2 ⟨hb2, rfl⟩
    have f2 := H1.out.2.1.next hb2
    have b2 : Below W.heap.size W w2 := H1.out.1.trans (hb2.mono H1.out.1.size)
    have nb : Below w2.heap.size w2 (w2.alloc (.cells #[.int .i64 0, .int .i64 0, .string ⟨#[]⟩, .int .i64 0, .slice none 0 0, .int .i64 0, .bool false] 53)) := (Below.refl _ w2).alloc (Nat.le_refl _) _
    have f3 := f2.next nb
    have H3 : Hid (Full (w2.alloc (.cells #[.int .i64 0, .int .i64 0, .string ⟨#[]⟩, .int .i64 0, .slice none 0 0, .int .i64 0, .bool false] 53)) R 28 rcZ ∧ Below W.heap.size W (w2.alloc (.cells #[.int .i64 0, .int .i64 0, .string ⟨#[]⟩, .int .i64 0, .slice none 0 0, .int .i64 0, .bool false] 53))) := ⟨f3, b2.trans (nb.mono b2.size)⟩
    obtain ⟨⟨⟨r0, g0⟩, ⟨r1, g1⟩, r2, g2⟩, ⟨r3, g3⟩, r4, g4⟩ := f3.five2
    clear HC hb2 f2 b2 nb f3 hX1
    go_wp2_with fail
    generalize w2.alloc (.cells #[.int .i64 0, .int .i64 0, .string ⟨#[]⟩, .int .i64 0, .slice none 0 0, .int .i64 0, .bool false] 53) = X3 at H3 ⊢
    have f4 : Full (X3.setCells R 0 rcZ) R 28 rcZ := Full.put (a := []) (b := rcZ) (d := []) rcZ H3.out.1 rfl
    have b4 : Below W.heap.size W (X3.setCells R 0 rcZ) := below_sets H3.out.2 (Nat.le_of_eq H1.out.2.2.1) 0 _
    simp only [World.setCells, rcZ, Nat.zero_add, Nat.reduceAdd] at f4 b4
    refine bodyPost_ret (ret_dec f4 rfl rfl) rfl ?_
    rw [HV.out]
    exact ⟨⟨_, rfl, RcA.zero _ _⟩, b4⟩
  | some w =>
    rw [hf] at HC
    have HV : Hid (decS b.data.toList = if w.fin = true ∧ b.size ≤ w.len then (w.rc, 0) else (rc0, 250)) := by show decS _ = _; unfold decS; rw [hf, ← Lib.size_eq]
    clear hf b1 f1 hT hb
    go_enter Tryd.func6, Tryd.ntmps6
    go_wp2_with fail
    refine HC.mono ?_
    rintro e w2 ⟨hb2, nv, rfl, ho⟩
    obtain ⟨qe, ce, rfl, -, -⟩ := own_slice ho
    obtain ⟨ne, hne⟩ : ∃ ne, w.rc.evs.length = ne := ⟨_, rfl⟩
    rw [hne] at ho ⊢
    obtain ⟨rc, ln, fin⟩ := w
    simp only [wyC, sV] at hne ho HV ⊢
    have nb : Below w2.heap.size w2 (w2.alloc (.cells #[.int .i64 rc.ph, .int .i64 rc.tr, .string ⟨rc.out.toArray⟩, .int .i64 rc.inp, .slice qe ne ce, .int .i64 (ln : Int), .bool fin] 53)) := (Below.refl _ w2).alloc (Nat.le_refl _) _
    have f2 := (H1.out.2.1.next hb2).next nb
    have fD := Full.new w2 #[.int .i64 rc.ph, .int .i64 rc.tr, .string ⟨rc.out.toArray⟩, .int .i64 rc.inp, .slice qe ne ce, .int .i64 (ln : Int), .bool fin] 53
    have HN : Hid (rc.evs.length = ne) := hne
    have o3 := own_next ho nb
    have b2 : Below W.heap.size W w2 := H1.out.1.trans (hb2.mono H1.out.1.size)
    have H3 : Hid (Full (w2.alloc (.cells #[.int .i64 rc.ph, .int .i64 rc.tr, .string ⟨rc.out.toArray⟩, .int .i64 rc.inp, .slice qe ne ce, .int .i64 (ln : Int), .bool fin] 53)) R 28 rcZ ∧ Below W.heap.size W (w2.alloc (.cells #[.int .i64 rc.ph, .int .i64 rc.tr, .string ⟨rc.out.toArray⟩, .int .i64 rc.inp, .slice qe ne ce, .int .i64 (ln : Int), .bool fin] 53)) ∧ (w2.alloc (.cells #[.int .i64 rc.ph, .int .i64 rc.tr, .string ⟨rc.out.toArray⟩, .int .i64 rc.inp, .slice qe ne ce, .int .i64 (ln : Int), .bool fin] 53)).ownsRow X1.heap.size 37 6 (.slice qe ne ce) ne (rc.evs.flatMap ec)) := ⟨f2, b2.trans (nb.mono b2.size), o3⟩
    obtain ⟨⟨⟨r0, g0⟩, ⟨r1, g1⟩, r2, g2⟩, ⟨r3, g3⟩, r4, g4⟩ := f2.five2
    obtain ⟨⟨⟨⟨c0, -⟩, ⟨c1, -⟩, c2, -⟩, ⟨c3, -⟩, ⟨c4, -⟩, c5, -⟩, c6, -⟩ := fD.seven2
    clear HC hb2 f2 b2 nb fD hX1 o3 ho hne
    have q0 : (0 : Int) ≤ (ln : Int) := by omega
    cases fin with
    | false =>
      have HW : Hid (decS b.data.toList = (rc0, 250)) := by show decS _ = _; rw [HV.out, if_neg (fun h => Bool.false_ne_true h.1)]
      go_wp2_with fail
      generalize (w2.alloc (.cells #[.int .i64 rc.ph, .int .i64 rc.tr, .string ⟨rc.out.toArray⟩, .int .i64 rc.inp, .slice qe ne ce, .int .i64 (ln : Int), .bool false] 53)) = X3 at H3 ⊢
      have f4 : Full (X3.setCells R 0 rcZ) R 28 rcZ := Full.put (a := []) (b := rcZ) (d := []) rcZ H3.out.1 rfl
      have b4 : Below W.heap.size W (X3.setCells R 0 rcZ) := below_sets H3.out.2.1 (Nat.le_of_eq H1.out.2.2.1) 0 _
      simp only [World.setCells, rcZ, Nat.zero_add, Nat.reduceAdd] at f4 b4
      refine bodyPost_ret (ret_dec f4 rfl rfl) rfl ?_
      rw [HW.out]
      simp only [H1.out.2.2.1] at b4 ⊢
      exact ⟨⟨_, rfl, RcA.zero _ _⟩, b4⟩
    | true =>
      by_cases hl : b.size ≤ ln
      case neg =>
        have ql : (ln : Int) < (b.size : Int) := by omega
        have HW : Hid (decS b.data.toList = (rc0, 250)) := by show decS _ = _; rw [HV.out, if_neg (fun h => hl h.2)]
        go_wp2_with fail
        generalize (w2.alloc (.cells #[.int .i64 rc.ph, .int .i64 rc.tr, .string ⟨rc.out.toArray⟩, .int .i64 rc.inp, .slice qe ne ce, .int .i64 (ln : Int), .bool true] 53)) = X3 at H3 ⊢
        have f4 : Full (X3.setCells R 0 rcZ) R 28 rcZ := Full.put (a := []) (b := rcZ) (d := []) rcZ H3.out.1 rfl
        have b4 : Below W.heap.size W (X3.setCells R 0 rcZ) := below_sets H3.out.2.1 (Nat.le_of_eq H1.out.2.2.1) 0 _
        simp only [World.setCells, rcZ, Nat.zero_add, Nat.reduceAdd] at f4 b4
        refine bodyPost_ret (ret_dec f4 rfl rfl) rfl ?_
        rw [HW.out]
        simp only [H1.out.2.2.1] at b4 ⊢
        exact ⟨⟨_, rfl, RcA.zero _ _⟩, b4⟩
      case pos =>
        have ql : (b.size : Int) ≤ (ln : Int) := by omega
        have HW : Hid (decS b.data.toList = (rc, 0)) := by show decS _ = _; rw [HV.out, if_pos ⟨rfl, hl⟩]
        clear hl
        go_wp2_with fail
        generalize (w2.alloc (.cells #[.int .i64 rc.ph, .int .i64 rc.tr, .string ⟨rc.out.toArray⟩, .int .i64 rc.inp, .slice qe ne ce, .int .i64 (ln : Int), .bool true] 53)) = X3 at H3 ⊢
        have f4 : Full (X3.setCells R 0 [.int .i64 rc.ph, .int .i64 rc.tr, .string ⟨rc.out.toArray⟩, .int .i64 rc.inp, .slice qe ne ce]) R 28 [.int .i64 rc.ph, .int .i64 rc.tr, .string ⟨rc.out.toArray⟩, .int .i64 rc.inp, .slice qe ne ce] := Full.put (a := []) (b := rcZ) (d := []) [.int .i64 rc.ph, .int .i64 rc.tr, .string ⟨rc.out.toArray⟩, .int .i64 rc.inp, .slice qe ne ce] H3.out.1 rfl
        have b4 : Below W.heap.size W (X3.setCells R 0 [.int .i64 rc.ph, .int .i64 rc.tr, .string ⟨rc.out.toArray⟩, .int .i64 rc.inp, .slice qe ne ce]) := below_sets H3.out.2.1 (Nat.le_of_eq H1.out.2.2.1) 0 _
        have o4 : (X3.setCells R 0 [.int .i64 rc.ph, .int .i64 rc.tr, .string ⟨rc.out.toArray⟩, .int .i64 rc.inp, .slice qe ne ce]).ownsRow W.heap.size 37 6 (.slice qe ne ce) ne (rc.evs.flatMap ec) := own_down (own_same H3.out.2.2 fun g hg => sets_heap (fun e => (own_blk H3.out.2.2 g hg).ne (⟨_, H3.out.1, Nat.zero_le _⟩ : Blk X3 R 28 0) (by decide) e) _ 0 X3) H1.out.1.size
        simp only [World.setCells, Nat.zero_add, Nat.reduceAdd] at f4 b4 o4
        refine bodyPost_ret (ret_dec f4 rfl rfl) rfl ?_
        rw [HW.out]
        simp only [H1.out.2.2.1] at b4 o4 ⊢
        exact ⟨⟨_, rfl, .slice qe ne ce, rfl, by rw [HN.out]; exact o4⟩, b4⟩
end Go.Proofs.YtdmiciblfbkndaaDoor

namespace Go.Proofs.YtdmiciblfbkndaaDoor
open Go.RowKit

/-- Which outcomes and inputs may not be, one by one. -/
theorem end_no (ph tr inp : Int) : (endOk ph tr inp = true ∧ (((ph = 2 ∧ 1 ≤ tr ∧ tr ≤ 7) ∨ (ph = 0 ∧ tr = 0) ∨ (ph = 1 ∧ tr = 0)) ∧ 0 ≤ inp ∧ inp ≤ 1000)) ∨ (endOk ph tr inp = false ∧ (ph < 0 ∨ 2 < ph ∨ ((0 ≤ ph ∧ ph ≤ 2) ∧ tr < 0) ∨ ((0 ≤ ph ∧ ph ≤ 2) ∧ 7 < tr) ∨ (ph = 2 ∧ tr = 0) ∨ (ph = 0 ∧ 1 ≤ tr ∧ tr ≤ 7) ∨ (ph = 1 ∧ 1 ≤ tr ∧ tr ≤ 7) ∨ (((ph = 2 ∧ 1 ≤ tr ∧ tr ≤ 7) ∨ (ph = 0 ∧ tr = 0) ∨ (ph = 1 ∧ tr = 0)) ∧ (inp < 0 ∨ 1000 < inp)))) := by
  have h : endOk ph tr inp = true ↔ (((ph = 2 ∧ 1 ≤ tr ∧ tr ≤ 7) ∨ (ph = 0 ∧ tr = 0) ∨ (ph = 1 ∧ tr = 0)) ∧ 0 ≤ inp ∧ inp ≤ 1000) := by
    unfold endOk
    simp
    omega
  cases he : endOk ph tr inp with
  | true => exact .inl ⟨rfl, h.1 he⟩
  | false =>
    refine .inr ⟨rfl, ?_⟩
    have h2 : ¬ (((ph = 2 ∧ 1 ≤ tr ∧ tr ≤ 7) ∨ (ph = 0 ∧ tr = 0) ∨ (ph = 1 ∧ tr = 0)) ∧ 0 ≤ inp ∧ inp ≤ 1000) := fun k => by rw [h.2 k] at he; cases he
    omega
set_option maxRecDepth 100000 in
set_option maxHeartbeats 4000000 in
theorem rvalid_any (W : World) (ph tr : Int) (out : ByteArray) (inp : Int) (q : Option Addr) (cap : Nat) (L : List Ev) (hR : Row W W.heap.size q L.length (L.flatMap ec)) (hz : ∀ e ∈ L, EvSz e) (hn : L.length ≤ 140737488355328) (ho : out.size ≤ 140737488355328) :
    Calls Tryd.prog 13 #[.agg (recC ph tr out inp q L.length cap)] W fun e w' => e = .returned (.int .i64 (encS ⟨ph, tr, out.data.toList, inp, L⟩).2) ∧ Below W.heap.size W w' := by
  obtain ⟨X1, hX1⟩ : ∃ X, W.alloc (.cells (recC ph tr out inp q L.length cap) 28) = X := ⟨_, rfl⟩
  obtain ⟨A, hA⟩ : ∃ A, W.heap.size = A := ⟨_, rfl⟩
  have b1 : Below W.heap.size W X1 := by rw [← hX1]; exact (Below.refl _ W).alloc (Nat.le_refl _) _
  have f1 : Full X1 A 28 [.int .i64 ph, .int .i64 tr, .string out, .int .i64 inp, .slice q L.length cap] := by rw [← hX1, ← hA]; exact Full.new W _ _
  have R1 : Row X1 W.heap.size q L.length (L.flatMap ec) := hR.below b1 (Nat.le_refl _)
  obtain ⟨n, hln⟩ : ∃ n, L.length = n := ⟨_, rfl⟩
  have HZ : Hid (∀ e ∈ L, EvSz e) := hz
  have HN : Hid (L.length = n ∧ W.heap.size = A) := ⟨hln, hA⟩
  obtain ⟨RV, HRV⟩ : ∃ RV, Hid ((encS ⟨ph, tr, out.data.toList, inp, L⟩).2 = RV) := ⟨_, (rfl : _ = _)⟩
  rw [HRV.out]
  have HE : Hid (RV = if 1048576 < n ∨ 16777216 < out.size then 2 else if (endOk ph tr inp && L.all evOk) = true then 0 else 1) := by
    show RV = _
    rw [← HRV.out]
    unfold encS
    simp only [hln]
    rw [← Lib.size_eq]
    split
    · rfl
    · split <;> rfl
  rw [hln] at hX1 f1 hn ⊢
  unfold recC at hX1 ⊢
  have H1 : Hid (Full X1 A 28 [.int .i64 ph, .int .i64 tr, .string out, .int .i64 inp, .slice q n cap] ∧ Row X1 W.heap.size q L.length (L.flatMap ec) ∧ Below W.heap.size W X1) := ⟨f1, R1, b1⟩
  have qo : (out.size : Int) ≤ 140737488355328 := by omega
  have qn : (n : Int) ≤ 140737488355328 := by omega
  obtain ⟨⟨⟨r0, -⟩, ⟨r1, -⟩, r2, -⟩, ⟨r3, -⟩, r4, -⟩ := f1.five2
  clear hR hz b1 f1 R1 hln hn ho
  rcases Nat.lt_or_ge 1048576 n with hs | hs
  · have q1 : (1048576 : Int) < (n : Int) := by omega
    have HV : Hid (RV = 2) := by show RV = 2; rw [HE.out, if_pos (.inl hs)]
    clear hs HE
    go_enter Tryd.func13, Tryd.ntmps13
    go_wp2
    go_ret
    exact ⟨congrArg (fun x => Ending.returned (.int .i64 x)) HV.out.symm, (by first | exact H1.out.2.2 | (rw [← HN.out.2]; exact H1.out.2.2))⟩
  rcases Nat.lt_or_ge 16777216 out.size with ht | ht
  · have q1 : ¬ (1048576 : Int) < (n : Int) := by omega
    have q2 : (16777216 : Int) < (out.size : Int) := by omega
    have HV : Hid (RV = 2) := by show RV = 2; rw [HE.out, if_pos (.inr ht)]
    clear hs ht HE
    go_enter Tryd.func13, Tryd.ntmps13
    go_wp2
    go_ret
    exact ⟨congrArg (fun x => Ending.returned (.int .i64 x)) HV.out.symm, (by first | exact H1.out.2.2 | (rw [← HN.out.2]; exact H1.out.2.2))⟩
  have q1 : ¬ (1048576 : Int) < (n : Int) := by omega
  have q2 : ¬ (16777216 : Int) < (out.size : Int) := by omega
  rw [if_neg (show ¬ (1048576 < n ∨ 16777216 < out.size) by omega)] at HE
  clear hs ht
  rcases end_no ph tr inp with ⟨he, hp, hi0, hi1⟩ | ⟨he, hbad⟩
  case inr =>
    rw [he, Bool.false_and, if_neg (by decide)] at HE
    rcases hbad with y1 | y1 | ⟨⟨z0, z1⟩, y1⟩ | ⟨⟨z0, z1⟩, y1⟩ | ⟨rfl, rfl⟩ | ⟨rfl, y1, y2⟩ | ⟨rfl, y1, y2⟩ | ⟨(⟨rfl, z0, z1⟩ | ⟨rfl, rfl⟩ | ⟨rfl, rfl⟩), (y1 | y1)⟩
    all_goals
      clear he
      go_enter Tryd.func13, Tryd.ntmps13
      go_wp2
      go_ret
      exact ⟨congrArg (fun x => Ending.returned (.int .i64 x)) HE.out.symm, (by first | exact H1.out.2.2 | (rw [← HN.out.2]; exact H1.out.2.2))⟩
  case inl =>
    rw [he, Bool.true_and] at HE
    rcases hp with ⟨rfl, z0, z1⟩ | ⟨rfl, rfl⟩ | ⟨rfl, rfl⟩
    case inl =>
      have z9 : ¬ tr = 0 := by omega
      have z8 : (tr == 0) = false := by rw [beq_eq_false_iff_ne]; exact z9
      have z7 : (tr != 0) = true := by rw [bne_iff_ne]; exact z9
      clear he
      go_enter Tryd.func13, Tryd.ntmps13
      go_wp2
      go_loopw [5] (fun v wr => ∃ i : Nat, v = .int .i64 (i : Int) ∧ i ≤ n ∧ Hid (Full wr A 28 [.int .i64 2, .int .i64 tr, .string out, .int .i64 inp, .slice q n cap] ∧ Row wr W.heap.size q L.length (L.flatMap ec) ∧ Below W.heap.size W wr ∧ (L.take i).all evOk = true)) (fun v _ => n - (intOf v).toNat)
      case atStart => exact ⟨0, rfl, Nat.zero_le _, H1.out.1, H1.out.2.1, H1.out.2.2, rfl⟩
      case round =>
        obtain ⟨i, rfl, him, HI⟩ := hrel
        clear r0 r1 r2 r3 r4
        obtain ⟨-, -, r4, -⟩ := HI.out.1.five2
        by_cases hlt : i < n
        · have qi : (i : Int) < (n : Int) := by omega
          have q0 : (0 : Int) ≤ (i : Int) := by omega
          obtain ⟨e, he⟩ : ∃ e, L[i]? = some e := ⟨L[i]'(by rw [HN.out.1]; exact hlt), List.getElem?_eq_getElem _⟩
          obtain ⟨g, o, rfl, hgB, hr1⟩ := ev_at HI.out.2.1 i e he
          have hsz := HZ.out e (List.mem_of_getElem? he)
          have hnx := all_next L i e he
          rw [HI.out.2.2.2, Bool.true_and] at hnx
          have hno := all_no L i e he
          obtain ⟨k, en, nm, vk, vn, vs⟩ := e
          have x0 := hr1 0 _ rfl
          have x1 := hr1 1 _ rfl
          have x2 := hr1 2 _ rfl
          have x3 := hr1 3 _ rfl
          have x4 := hr1 4 _ rfl
          have x5 := hr1 5 _ rfl
          unfold sV at x2 x5
          simp only [Nat.add_zero] at x0
          have HC := rev_any wr k en vk vn ⟨nm.toArray⟩ ⟨vs.toArray⟩ (by rw [Lib.size_eq]; have := hsz.1; simp only at this ⊢; omega) (by rw [Lib.size_eq]; have := hsz.2; simp only at this ⊢; omega)
          simp only at HC
          obtain ⟨m, hm⟩ : ∃ m, evOk ⟨k, en, nm, vk, vn, vs⟩ = m := ⟨_, rfl⟩
          rw [hm] at HC hnx hno
          have HX : Hid ((L.take (i + 1)).all evOk = m ∧ (m = false → L.all evOk = false)) := ⟨hnx, hno⟩
          clear hm hnx hno hsz he hr1 hgB
          go_wp2_with fail
          refine HC.mono ?_
          rintro e w2 ⟨rfl, hb2⟩
          have H2 : Hid (Full w2 A 28 [.int .i64 2, .int .i64 tr, .string out, .int .i64 inp, .slice (some ⟨g, o, none⟩) n cap] ∧ Row w2 W.heap.size (some ⟨g, o, none⟩) L.length (L.flatMap ec) ∧ Below W.heap.size W w2) := ⟨HI.out.1.next hb2, HI.out.2.1.below hb2 HI.out.2.2.1.size, HI.out.2.2.1.trans (hb2.mono HI.out.2.2.1.size)⟩
          clear HC hb2 x0 x1 x2 x3 x4 x5 r4 HI
          cases m with
          | false =>
            have HV : Hid (RV = 1) := by show RV = 1; rw [HE.out, HX.out.2 rfl, if_neg (by decide)]
            go_wp2_with fail
            go_ret
            exact ⟨congrArg (fun x => Ending.returned (.int .i64 x)) HV.out.symm, (by first | exact H2.out.2.2 | (rw [← HN.out.2]; exact H2.out.2.2))⟩
          | true =>
            go_wp2_with fail
            exact ⟨⟨i + 1, by go_num, by omega, H2.out.1, H2.out.2.1, H2.out.2.2, HX.out.1⟩, by simp [intOf]; omega⟩
        · obtain rfl : i = n := by omega
          have qi : ¬ (i : Int) < (i : Int) := by omega
          have HV : Hid (RV = 0) := by
            have hall := HI.out.2.2.2
            rw [List.take_of_length_le (by rw [HN.out.1]; exact Nat.le_refl _)] at hall
            show RV = 0
            rw [HE.out, hall, if_pos rfl]
          go_wp2
          go_ret
          exact ⟨congrArg (fun x => Ending.returned (.int .i64 x)) HV.out.symm, (by first | exact HI.out.2.2.1 | (rw [← HN.out.2]; exact HI.out.2.2.1))⟩
    case inr.inl =>
      clear he
      go_enter Tryd.func13, Tryd.ntmps13
      go_wp2
      go_loopw [5] (fun v wr => ∃ i : Nat, v = .int .i64 (i : Int) ∧ i ≤ n ∧ Hid (Full wr A 28 [.int .i64 0, .int .i64 0, .string out, .int .i64 inp, .slice q n cap] ∧ Row wr W.heap.size q L.length (L.flatMap ec) ∧ Below W.heap.size W wr ∧ (L.take i).all evOk = true)) (fun v _ => n - (intOf v).toNat)
      case atStart => exact ⟨0, rfl, Nat.zero_le _, H1.out.1, H1.out.2.1, H1.out.2.2, rfl⟩
      case round =>
        obtain ⟨i, rfl, him, HI⟩ := hrel
        clear r0 r1 r2 r3 r4
        obtain ⟨-, -, r4, -⟩ := HI.out.1.five2
        by_cases hlt : i < n
        · have qi : (i : Int) < (n : Int) := by omega
          have q0 : (0 : Int) ≤ (i : Int) := by omega
          obtain ⟨e, he⟩ : ∃ e, L[i]? = some e := ⟨L[i]'(by rw [HN.out.1]; exact hlt), List.getElem?_eq_getElem _⟩
          obtain ⟨g, o, rfl, hgB, hr1⟩ := ev_at HI.out.2.1 i e he
          have hsz := HZ.out e (List.mem_of_getElem? he)
          have hnx := all_next L i e he
          rw [HI.out.2.2.2, Bool.true_and] at hnx
          have hno := all_no L i e he
          obtain ⟨k, en, nm, vk, vn, vs⟩ := e
          have x0 := hr1 0 _ rfl
          have x1 := hr1 1 _ rfl
          have x2 := hr1 2 _ rfl
          have x3 := hr1 3 _ rfl
          have x4 := hr1 4 _ rfl
          have x5 := hr1 5 _ rfl
          unfold sV at x2 x5
          simp only [Nat.add_zero] at x0
          have HC := rev_any wr k en vk vn ⟨nm.toArray⟩ ⟨vs.toArray⟩ (by rw [Lib.size_eq]; have := hsz.1; simp only at this ⊢; omega) (by rw [Lib.size_eq]; have := hsz.2; simp only at this ⊢; omega)
          simp only at HC
          obtain ⟨m, hm⟩ : ∃ m, evOk ⟨k, en, nm, vk, vn, vs⟩ = m := ⟨_, rfl⟩
          rw [hm] at HC hnx hno
          have HX : Hid ((L.take (i + 1)).all evOk = m ∧ (m = false → L.all evOk = false)) := ⟨hnx, hno⟩
          clear hm hnx hno hsz he hr1 hgB
          go_wp2_with fail
          refine HC.mono ?_
          rintro e w2 ⟨rfl, hb2⟩
          have H2 : Hid (Full w2 A 28 [.int .i64 0, .int .i64 0, .string out, .int .i64 inp, .slice (some ⟨g, o, none⟩) n cap] ∧ Row w2 W.heap.size (some ⟨g, o, none⟩) L.length (L.flatMap ec) ∧ Below W.heap.size W w2) := ⟨HI.out.1.next hb2, HI.out.2.1.below hb2 HI.out.2.2.1.size, HI.out.2.2.1.trans (hb2.mono HI.out.2.2.1.size)⟩
          clear HC hb2 x0 x1 x2 x3 x4 x5 r4 HI
          cases m with
          | false =>
            have HV : Hid (RV = 1) := by show RV = 1; rw [HE.out, HX.out.2 rfl, if_neg (by decide)]
            go_wp2_with fail
            go_ret
            exact ⟨congrArg (fun x => Ending.returned (.int .i64 x)) HV.out.symm, (by first | exact H2.out.2.2 | (rw [← HN.out.2]; exact H2.out.2.2))⟩
          | true =>
            go_wp2_with fail
            exact ⟨⟨i + 1, by go_num, by omega, H2.out.1, H2.out.2.1, H2.out.2.2, HX.out.1⟩, by simp [intOf]; omega⟩
        · obtain rfl : i = n := by omega
          have qi : ¬ (i : Int) < (i : Int) := by omega
          have HV : Hid (RV = 0) := by
            have hall := HI.out.2.2.2
            rw [List.take_of_length_le (by rw [HN.out.1]; exact Nat.le_refl _)] at hall
            show RV = 0
            rw [HE.out, hall, if_pos rfl]
          go_wp2
          go_ret
          exact ⟨congrArg (fun x => Ending.returned (.int .i64 x)) HV.out.symm, (by first | exact HI.out.2.2.1 | (rw [← HN.out.2]; exact HI.out.2.2.1))⟩
    case inr.inr =>
      clear he
      go_enter Tryd.func13, Tryd.ntmps13
      go_wp2
      go_loopw [5] (fun v wr => ∃ i : Nat, v = .int .i64 (i : Int) ∧ i ≤ n ∧ Hid (Full wr A 28 [.int .i64 1, .int .i64 0, .string out, .int .i64 inp, .slice q n cap] ∧ Row wr W.heap.size q L.length (L.flatMap ec) ∧ Below W.heap.size W wr ∧ (L.take i).all evOk = true)) (fun v _ => n - (intOf v).toNat)
      case atStart => exact ⟨0, rfl, Nat.zero_le _, H1.out.1, H1.out.2.1, H1.out.2.2, rfl⟩
      case round =>
        obtain ⟨i, rfl, him, HI⟩ := hrel
        clear r0 r1 r2 r3 r4
        obtain ⟨-, -, r4, -⟩ := HI.out.1.five2
        by_cases hlt : i < n
        · have qi : (i : Int) < (n : Int) := by omega
          have q0 : (0 : Int) ≤ (i : Int) := by omega
          obtain ⟨e, he⟩ : ∃ e, L[i]? = some e := ⟨L[i]'(by rw [HN.out.1]; exact hlt), List.getElem?_eq_getElem _⟩
          obtain ⟨g, o, rfl, hgB, hr1⟩ := ev_at HI.out.2.1 i e he
          have hsz := HZ.out e (List.mem_of_getElem? he)
          have hnx := all_next L i e he
          rw [HI.out.2.2.2, Bool.true_and] at hnx
          have hno := all_no L i e he
          obtain ⟨k, en, nm, vk, vn, vs⟩ := e
          have x0 := hr1 0 _ rfl
          have x1 := hr1 1 _ rfl
          have x2 := hr1 2 _ rfl
          have x3 := hr1 3 _ rfl
          have x4 := hr1 4 _ rfl
          have x5 := hr1 5 _ rfl
          unfold sV at x2 x5
          simp only [Nat.add_zero] at x0
          have HC := rev_any wr k en vk vn ⟨nm.toArray⟩ ⟨vs.toArray⟩ (by rw [Lib.size_eq]; have := hsz.1; simp only at this ⊢; omega) (by rw [Lib.size_eq]; have := hsz.2; simp only at this ⊢; omega)
          simp only at HC
          obtain ⟨m, hm⟩ : ∃ m, evOk ⟨k, en, nm, vk, vn, vs⟩ = m := ⟨_, rfl⟩
          rw [hm] at HC hnx hno
          have HX : Hid ((L.take (i + 1)).all evOk = m ∧ (m = false → L.all evOk = false)) := ⟨hnx, hno⟩
          clear hm hnx hno hsz he hr1 hgB
          go_wp2_with fail
          refine HC.mono ?_
          rintro e w2 ⟨rfl, hb2⟩
          have H2 : Hid (Full w2 A 28 [.int .i64 1, .int .i64 0, .string out, .int .i64 inp, .slice (some ⟨g, o, none⟩) n cap] ∧ Row w2 W.heap.size (some ⟨g, o, none⟩) L.length (L.flatMap ec) ∧ Below W.heap.size W w2) := ⟨HI.out.1.next hb2, HI.out.2.1.below hb2 HI.out.2.2.1.size, HI.out.2.2.1.trans (hb2.mono HI.out.2.2.1.size)⟩
          clear HC hb2 x0 x1 x2 x3 x4 x5 r4 HI
          cases m with
          | false =>
            have HV : Hid (RV = 1) := by show RV = 1; rw [HE.out, HX.out.2 rfl, if_neg (by decide)]
            go_wp2_with fail
            go_ret
            exact ⟨congrArg (fun x => Ending.returned (.int .i64 x)) HV.out.symm, (by first | exact H2.out.2.2 | (rw [← HN.out.2]; exact H2.out.2.2))⟩
          | true =>
            go_wp2_with fail
            exact ⟨⟨i + 1, by go_num, by omega, H2.out.1, H2.out.2.1, H2.out.2.2, HX.out.1⟩, by simp [intOf]; omega⟩
        · obtain rfl : i = n := by omega
          have qi : ¬ (i : Int) < (i : Int) := by omega
          have HV : Hid (RV = 0) := by
            have hall := HI.out.2.2.2
            rw [List.take_of_length_le (by rw [HN.out.1]; exact Nat.le_refl _)] at hall
            show RV = 0
            rw [HE.out, hall, if_pos rfl]
          go_wp2
          go_ret
          exact ⟨congrArg (fun x => Ending.returned (.int .i64 x)) HV.out.symm, (by first | exact HI.out.2.2.1 | (rw [← HN.out.2]; exact HI.out.2.2.1))⟩
end Go.Proofs.YtdmiciblfbkndaaDoor

namespace Go.Proofs.YtdmiciblfbkndaaDoor
open Go.RowKit

/-- In a round of the body: the event's own cell and the row. -/
structure ByI (W : World) (A : Nat) (ev : List Value) (g o : Nat) (L : List Ev) (w : World) : Prop where
  full : Full w A 37 ev
  row : Row w W.heap.size (some ⟨g, o, none⟩) L.length (L.flatMap ec)
  bel : Below W.heap.size W w
theorem ByI.next {W : World} {A : Nat} {ev : List Value} {g o : Nat} {L : List Ev} {w w' : World} (h : ByI W A ev g o L w) (k : Below w.heap.size w w') : ByI W A ev g o L w' :=
  ⟨h.full.next k, h.row.below k h.bel.size, h.bel.trans (k.mono h.bel.size)⟩
theorem ndA_take (L : List Ev) (i : Nat) (p : Ev) (h : L[i]? = some p) : ndA 0 (L.take (i + 1)) = p.n := by
  rw [List.take_add_one, h]
  exact ndA_app _ _ _
theorem evsL_take (L : List Ev) (i : Nat) (e : Ev) (h : L[i]? = some e) : evsL 0 [] (L.take (i + 1)) = evsL 0 [] (L.take i) ++ evL (ndA 0 (L.take i)) (nsA [] (L.take i)) e := by
  rw [List.take_add_one, h]
  exact evsL_app _ _ _ _
theorem plc_le (ns : List (List UInt8)) (x : List UInt8) : plc ns x ≤ ns.length := by
  unfold plc
  split
  · rename_i h
    exact List.idxOf_lt_length_iff.2 h
  · exact Nat.zero_le _
set_option maxRecDepth 100000 in
set_option maxHeartbeats 4000000 in
theorem rbody_any (W : World) (q : Option Addr) (cap : Nat) (L : List Ev) (hR : Row W W.heap.size q L.length (L.flatMap ec)) (hok : EvsOk L) :
    Calls Tryd.prog 22 #[.slice q L.length cap] W fun e w' => e = .returned (.string ⟨(bodyL L).toArray⟩) ∧ Below W.heap.size W w' := by
  obtain ⟨n, hln⟩ : ∃ n, L.length = n := ⟨_, rfl⟩
  have HN : Hid (L.length = n) := hln
  have HO : Hid (EvsOk L) := hok
  have H0 : Hid (Row W W.heap.size q L.length (L.flatMap ec) ∧ Below W.heap.size W W) := ⟨hR, Below.refl _ _⟩
  have hn : n ≤ 64 := by rw [← hln]; exact hok.2
  have qn : (n : Int) ≤ 64 := by omega
  rw [hln]
  clear hR hln hok
  go_enter Tryd.func22, Tryd.ntmps22
  go_wp2_with fail
  go_loopw [3, 4] (fun b v wr => ∃ (i : Nat) (s : ByteArray), v = .int .i64 (i : Int) ∧ b = .string s ∧ i ≤ n ∧ Hid (s.data.toList = 1 :: evsL 0 [] (L.take i) ∧ Row wr W.heap.size q L.length (L.flatMap ec) ∧ Below W.heap.size W wr)) (fun _ v _ => n - (intOf v).toNat)
  case atStart => exact ⟨0, ⟨#[1]⟩, rfl, rfl, Nat.zero_le _, rfl, H0.out.1, H0.out.2⟩
  case round =>
    obtain ⟨i, s, rfl, rfl, hi, HI⟩ := hrel
    clear H0
    by_cases hlt : i < n
    case neg =>
      obtain rfl : i = n := by omega
      have qi : ¬ (i : Int) < (i : Int) := by omega
      have HV : Hid (s = ⟨(bodyL L).toArray⟩ ∧ Below W.heap.size W wr) := ⟨ba_of (by rw [HI.out.1, ← HN.out, List.take_length]; rfl), HI.out.2.2⟩
      clear HI hlt
      go_wp2
      go_ret
      exact ⟨congrArg (fun x => Ending.returned (.string x)) HV.out.1, HV.out.2⟩
    case pos =>
      have qi : (i : Int) < (n : Int) := by omega
      have q0 : (0 : Int) ≤ (i : Int) := by omega
      obtain ⟨e, he⟩ : ∃ e, L[i]? = some e := ⟨L[i]'(by have := HN.out; omega), List.getElem?_eq_getElem _⟩
      obtain ⟨g, o, rfl, hgB, -⟩ := ev_at HI.out.2.1 i e he
      obtain ⟨hm1, hm2, hm3⟩ := body_mid L HO.out i (by rw [HN.out]; omega)
      obtain ⟨he1, he2⟩ := HO.out.1 e (List.mem_of_getElem? he)
      have hs : s.size ≤ 1 + 400 * i := by
        rw [Lib.size_eq, HI.out.1, List.length_cons]
        omega
      have hs2 : s.size ≤ 100000 := by omega
      have hprev : (i = 0 ∧ ndA 0 (L.take i) = 0) ∨ ∃ m p, i = m + 1 ∧ L[m]? = some p ∧ ndA 0 (L.take i) = p.n ∧ 0 ≤ p.n ∧ p.n < 40000 := by
        rcases Nat.eq_zero_or_pos i with h | h
        · left
          subst h
          exact ⟨rfl, rfl⟩
        · right
          obtain ⟨p, hp⟩ : ∃ p, L[i - 1]? = some p := ⟨L[i - 1]'(by have := HN.out; omega), List.getElem?_eq_getElem _⟩
          have h2 := ndA_take L (i - 1) p hp
          rw [Nat.sub_add_cancel h] at h2
          obtain ⟨-, -, -, p1, p2, -⟩ := evOk_parts (HO.out.1 p (List.mem_of_getElem? hp)).1
          exact ⟨i - 1, p, by omega, hp, h2, p1, p2⟩
      have hnx := evsL_take L i e he
      obtain ⟨k, en, nm, vk, vn, vs⟩ := e
      obtain ⟨nb, hnb⟩ : ∃ b : ByteArray, b.data.toList = nm := ⟨⟨nm.toArray⟩, rfl⟩
      obtain ⟨vb, hvb⟩ : ∃ b : ByteArray, b.data.toList = vs := ⟨⟨vs.toArray⟩, rfl⟩
      obtain ⟨pk1, pk2, pk3, pn1, pn2, pl⟩ := evOk_parts he1
      have pv := valOk_kind pk1
      have pv0 := pv.1
      have pv1 := pv.2
      simp only at pk1 pk2 pk3 pn1 pn2 pl pv0 pv1 he2 hnx
      have x0 := ev_at2 HI.out.2.1 i _ he 0 _ rfl
      have x1 := ev_at2 HI.out.2.1 i _ he 1 _ rfl
      have x2 := ev_at2 HI.out.2.1 i _ he 2 _ rfl
      have x3 := ev_at2 HI.out.2.1 i _ he 3 _ rfl
      have x4 := ev_at2 HI.out.2.1 i _ he 4 _ rfl
      have x5 := ev_at2 HI.out.2.1 i _ he 5 _ rfl
      simp only [Nat.add_zero] at x0
      rw [sV_at hnb] at x2
      rw [sV_at hvb] at x5
      obtain ⟨nd, hnd⟩ : ∃ nd, ndA 0 (L.take i) = nd := ⟨_, rfl⟩
      obtain ⟨ns, hns⟩ : ∃ ns, nsA [] (L.take i) = ns := ⟨_, rfl⟩
      obtain ⟨X, hX⟩ : ∃ X, wr.alloc (.cells #[.int .i64 k, .int .i64 en, .string nb, .int .i64 vk, .int .i64 vn, .string vb] 37) = X := ⟨_, rfl⟩
      obtain ⟨A, hA⟩ : ∃ A, wr.heap.size = A := ⟨_, rfl⟩
      have nX : Below wr.heap.size wr X := by rw [← hX]; exact (Below.refl _ wr).alloc (Nat.le_refl _) _
      have HX : Hid (ByI W A [.int .i64 k, .int .i64 en, .string nb, .int .i64 vk, .int .i64 vn, .string vb] g o L X) := ⟨by rw [← hX, ← hA]; exact Full.new wr _ _, HI.out.2.1.below nX HI.out.2.2.size, HI.out.2.2.trans (nX.mono HI.out.2.2.size)⟩
      have HNx : Hid (1 :: evsL 0 [] (L.take (i + 1)) = s.data.toList ++ evL nd ns ⟨k, en, nm, vk, vn, vs⟩) := by
        show _ = _
        rw [hnx, HI.out.1, hnd, hns]
        rfl
      have HB : Hid (nb.data.toList = nm ∧ vb.data.toList = vs) := ⟨hnb, hvb⟩
      have HC1 : Hid (∀ (w : World) (x : Int), x = k + 16 * vk → Calls Tryd.prog 23 #[.int .u64 x, .int .i64 1] w fun e w' => e = .returned (.string ⟨[UInt8.ofNat (k.toNat + 16 * vk.toNat)].toArray⟩) ∧ Below w.heap.size w w') := fun w x hx => by
        have h := wide_any w (k.toNat + 16 * vk.toNat) 1 (by omega) (by decide)
        rw [fxS_one] at h
        rw [hx, show k + 16 * vk = ((k.toNat + 16 * vk.toNat : Nat) : Int) by omega]
        exact h
      have HC2 : Hid (∀ (w : World) (x : Int), x = en - nd → Calls Tryd.prog 40 #[.int .i64 x] w fun e w' => e = .returned (.string ⟨(sgnS (en - nd)).toArray⟩) ∧ Below w.heap.size w w') := fun w x hx => by
        rw [hx]
        exact rsgn_any w _ (by rw [hnd] at hm1; omega)
      have HC3 : Hid (∀ w : World, ByI W A [.int .i64 k, .int .i64 en, .string nb, .int .i64 vk, .int .i64 vn, .string vb] g o L w → Calls Tryd.prog 41 #[.slice (some ⟨g, o, none⟩) n cap, .int .i64 (i : Int), .string nb] w fun e w' => e = .returned (.tuple #[.int .i64 (plc ns nm : Int), .int .i64 (ns.length : Int)]) ∧ Below w.heap.size w w') := fun w hw => by
        have h := rnamed_any w (some ⟨g, o, none⟩) cap L i nb (hw.row.up hw.bel.size) (by have := HN.out; omega) (by have := HN.out; omega)
        rw [HN.out, hns, hnb] at h
        exact h
      have HC4 : Hid (∀ w : World, Calls Tryd.prog 43 #[.agg #[.int .i64 vk, .int .i64 vn, .string vb]] w fun e w' => e = .returned (.string ⟨(vlS vk vn vs).toArray⟩) ∧ Below w.heap.size w w') := fun w => by
        have h := rval_any w vk vn vb (by rw [hvb]; exact pk1) he2
        rw [hvb] at h
        exact h
      have hnl : ns.length ≤ 64 := by rw [← hns]; omega
      have hpl := plc_le ns nm
      have qnm : (nb.size : Int) ≤ 24 := by rw [Lib.size_eq, hnb]; omega
      have qnm0 : (0 : Int) ≤ (nb.size : Int) := by omega
      have hz2 : (sgnS (en - nd)).length ≤ 10 := numS_le10 _ (zz_lt _ (by rw [hnd] at hm1; omega))
      have hz4 : (vlS vk vn vs).length ≤ 400 := by
        have h := evL_le nd ns ⟨k, en, nm, vk, vn, vs⟩ he1 he2 (by rw [hnd] at hm1; exact hm1) (by omega)
        unfold evL at h
        simp only [List.length_cons, List.length_append] at h
        omega
      rw [hnd] at hprev
      clear HI he he1 he2 hm1 hm2 hm3 hs hnb hvb hgB hlt pk1 hnx nX hnd hns pv hi
      obtain ⟨f0, f1, f2, f3, f4, f5⟩ := HX.out.full.six
      have HC5 : Hid (∀ (w : World) (x : Int) (m : Nat), x = (m : Int) → m < 1000000 → Calls Tryd.prog 42 #[.int .u64 x] w fun e w' => e = .returned (.string ⟨(numS m).toArray⟩) ∧ Below w.heap.size w w') := fun w x m hx hm => by
        rw [hx]
        exact rnum_any w m (by omega)
      rcases hprev with ⟨hi0, hnd0⟩ | ⟨m, p, hi0, hp, hnd0, hp1, hp2⟩
      case' inl =>
        have qz : ¬ (0 : Int) < (i : Int) := by omega
        clear hi0
        go_upto_region 9 with fail
      case' inr =>
        have qz : (0 : Int) < (i : Int) := by omega
        have qm : (i : Int) - 1 = (m : Int) := by omega
        have qm0 : (0 : Int) ≤ (m : Int) := by omega
        have qmn : (m : Int) < (n : Int) := by omega
        have y1 := ev_at2 HX.out.row m p hp 1 _ rfl
        clear hi0 hp
        go_upto_region 9 with fail
      all_goals
        go_wp2_with fail
        refine (HC1.out _ _ (by omega)).mono ?_
        rintro e w1 ⟨rfl, hb1⟩
        have H1 : Hid (ByI W A [.int .i64 k, .int .i64 en, .string nb, .int .i64 vk, .int .i64 vn, .string vb] g o L w1) := HX.out.next hb1
        obtain ⟨sK, hsK⟩ : ∃ b : ByteArray, (⟨[UInt8.ofNat (k.toNat + 16 * vk.toNat)].toArray⟩ : ByteArray) = b := ⟨_, rfl⟩
        have zK : sK.size = 1 := by rw [← hsK]; rfl
        have yK : s.size + sK.size ≤ 9223372036854775807 := by omega
        rw [hsK]
        clear hb1 hX x0 x1 x2 x3 x4 x5 f0 f1 f2 f3 f4 f5
        try clear y1
        go_wp2_with fail
        refine (HC2.out _ _ (by first | omega | (simp only [IntKind.wrap_i64]; omega) | (rw [hnd0]))).mono ?_
        rintro e w2 ⟨rfl, hb2⟩
        have H2 : Hid (ByI W A [.int .i64 k, .int .i64 en, .string nb, .int .i64 vk, .int .i64 vn, .string vb] g o L w2) := H1.out.next hb2
        obtain ⟨sS, hsS⟩ : ∃ b : ByteArray, (⟨(sgnS (en - nd)).toArray⟩ : ByteArray) = b := ⟨_, rfl⟩
        have zS : sS.size ≤ 10 := by rw [← hsS, ba_size]; exact hz2
        have yS : (s ++ sK).size + sS.size ≤ 9223372036854775807 := by rw [ByteArray.size_append]; omega
        obtain ⟨s1, hs1⟩ : ∃ b, s ++ sK ++ sS = b := ⟨_, rfl⟩
        have z1 : s1.size ≤ 100100 := by rw [← hs1, ByteArray.size_append, ByteArray.size_append]; omega
        have HS1 : Hid (s1.data.toList = s.data.toList ++ UInt8.ofNat (k.toNat + 16 * vk.toNat) :: sgnS (en - nd)) := by
          show _ = _
          rw [← hs1, cat_list, cat_list, ← hsK, ← hsS]
          simp
        rw [hsS]
        obtain ⟨-, -, c2, -, -, -⟩ := H2.out.full.six
        clear hb2 hsK hsS H1 HX
        go_wp2_with fail
        refine (HC3.out _ H2.out).mono ?_
        rintro e w3 ⟨rfl, hb3⟩
        have H3 : Hid (ByI W A [.int .i64 k, .int .i64 en, .string nb, .int .i64 vk, .int .i64 vn, .string vb] g o L w3) := H2.out.next hb3
        clear hb3 c2 H2 hs1
        obtain ⟨-, -, c2, c3, c4, c5⟩ := H3.out.full.six
        by_cases hnm : nm = []
        · have qe : nb.toList.isEmpty = true := by rw [toL, HB.out.1, hnm]; rfl
          have hA : nmS ns nm = numS 0 := by unfold nmS; rw [if_pos hnm]
          go_wp2_with fail
          refine (HC5.out _ _ 0 (by first | rfl | omega) (by omega)).mono ?_
          rintro e w4 ⟨rfl, hb4⟩
          have H4 : Hid (ByI W A [.int .i64 k, .int .i64 en, .string nb, .int .i64 vk, .int .i64 vn, .string vb] g o L w4) := H3.out.next hb4
          obtain ⟨-, -, -, c3, c4, c5⟩ := H4.out.full.six
          obtain ⟨sN, hsN⟩ : ∃ b : ByteArray, (⟨(numS (0)).toArray⟩ : ByteArray) = b := ⟨_, rfl⟩
          have zN : sN.size ≤ 10 := by rw [← hsN, ba_size]; exact numS_le10 _ (by omega)
          have yN : s1.size + sN.size ≤ 9223372036854775807 := by omega
          obtain ⟨s2, hs2⟩ : ∃ b, s1 ++ sN = b := ⟨_, rfl⟩
          have z2 : s2.size ≤ 100200 := by rw [← hs2, ByteArray.size_append]; omega
          have HS2 : Hid (s2.data.toList = s.data.toList ++ UInt8.ofNat (k.toNat + 16 * vk.toNat) :: (sgnS (en - nd) ++ nmS ns nm)) := by
            show _ = _
            rw [← hs2, cat_list, HS1.out, ← hsN, hA]
            simp
          rw [hsN]
          clear hb4 hsN H3
          go_wp2_with fail
          refine (HC4.out _).mono ?_
          rintro e w5 ⟨rfl, hb5⟩
          have H5 := H4.out.next hb5
          obtain ⟨sV5, hsV⟩ : ∃ b : ByteArray, (⟨(vlS vk vn vs).toArray⟩ : ByteArray) = b := ⟨_, rfl⟩
          have zV : sV5.size ≤ 400 := by rw [← hsV, ba_size]; exact hz4
          have yV : s2.size + sV5.size ≤ 9223372036854775807 := by omega
          have HV : Hid ((s2 ++ sV5).data.toList = 1 :: evsL 0 [] (L.take (i + 1)) ∧ Row w5 W.heap.size (some ⟨g, o, none⟩) L.length (L.flatMap ec) ∧ Below W.heap.size W w5) := by
            refine ⟨?_, H5.row, H5.bel⟩
            rw [HNx.out, cat_list, HS2.out, ← hsV]
            unfold evL
            simp
          rw [hsV]
          clear H5 hsV hb5 c3 c4 c5
          go_wp2
          exact ⟨⟨i + 1, _, by go_num, rfl, by omega, HV⟩, by simp [intOf]; omega⟩
        · have qe : nb.toList.isEmpty = false := by
            rw [toL, HB.out.1, Bool.eq_false_iff, ne_eq, List.isEmpty_iff]
            exact hnm
          by_cases hin : nm ∈ ns
          · obtain ⟨pc, hpc⟩ : ∃ pc, plc ns nm = pc := ⟨_, rfl⟩
            have hA : nmS ns nm = numS pc := by
              unfold nmS
              rw [if_neg hnm, if_pos hin, ← hpc]
              unfold plc
              rw [if_pos hin]
            have hp0 : 0 < pc := by rw [← hpc]; unfold plc; rw [if_pos hin]; omega
            have qp : (0 : Int) < (pc : Int) := by omega
            rw [hpc] at hpl ⊢
            have qp1 : (pc : Int) ≤ 64 := by omega
            go_wp2_with fail
            refine (HC5.out _ _ pc (by first | rfl | omega) (by omega)).mono ?_
            rintro e w4 ⟨rfl, hb4⟩
            have H4 : Hid (ByI W A [.int .i64 k, .int .i64 en, .string nb, .int .i64 vk, .int .i64 vn, .string vb] g o L w4) := H3.out.next hb4
            obtain ⟨-, -, -, c3, c4, c5⟩ := H4.out.full.six
            obtain ⟨sN, hsN⟩ : ∃ b : ByteArray, (⟨(numS (pc)).toArray⟩ : ByteArray) = b := ⟨_, rfl⟩
            have zN : sN.size ≤ 10 := by rw [← hsN, ba_size]; exact numS_le10 _ (by omega)
            have yN : s1.size + sN.size ≤ 9223372036854775807 := by omega
            obtain ⟨s2, hs2⟩ : ∃ b, s1 ++ sN = b := ⟨_, rfl⟩
            have z2 : s2.size ≤ 100200 := by rw [← hs2, ByteArray.size_append]; omega
            have HS2 : Hid (s2.data.toList = s.data.toList ++ UInt8.ofNat (k.toNat + 16 * vk.toNat) :: (sgnS (en - nd) ++ nmS ns nm)) := by
              show _ = _
              rw [← hs2, cat_list, HS1.out, ← hsN, hA]
              simp
            rw [hsN]
            clear hb4 hsN H3
            go_wp2_with fail
            refine (HC4.out _).mono ?_
            rintro e w5 ⟨rfl, hb5⟩
            have H5 := H4.out.next hb5
            obtain ⟨sV5, hsV⟩ : ∃ b : ByteArray, (⟨(vlS vk vn vs).toArray⟩ : ByteArray) = b := ⟨_, rfl⟩
            have zV : sV5.size ≤ 400 := by rw [← hsV, ba_size]; exact hz4
            have yV : s2.size + sV5.size ≤ 9223372036854775807 := by omega
            have HV : Hid ((s2 ++ sV5).data.toList = 1 :: evsL 0 [] (L.take (i + 1)) ∧ Row w5 W.heap.size (some ⟨g, o, none⟩) L.length (L.flatMap ec) ∧ Below W.heap.size W w5) := by
              refine ⟨?_, H5.row, H5.bel⟩
              rw [HNx.out, cat_list, HS2.out, ← hsV]
              unfold evL
              simp
            rw [hsV]
            clear H5 hsV hb5 c3 c4 c5
            go_wp2
            exact ⟨⟨i + 1, _, by go_num, rfl, by omega, HV⟩, by simp [intOf]; omega⟩
          · have hpc : plc ns nm = 0 := by unfold plc; rw [if_neg hin]
            rw [hpc]
            obtain ⟨cn, hcn⟩ : ∃ cn, ns.length = cn := ⟨_, rfl⟩
            rw [hcn] at hnl ⊢
            have qcn : (cn : Int) ≤ 64 := by omega
            have qcn0 : (0 : Int) ≤ (cn : Int) := by omega
            have hA : nmS ns nm = numS (cn + 1) ++ (UInt8.ofNat nb.size :: nm) := by
              unfold nmS
              rw [if_neg hnm, if_neg hin, hcn, Lib.size_eq, HB.out.1]
            obtain ⟨sN, hsN⟩ : ∃ b : ByteArray, (⟨(numS (cn + 1)).toArray⟩ : ByteArray) = b := ⟨_, rfl⟩
            obtain ⟨sL, hsL⟩ : ∃ b : ByteArray, (⟨[UInt8.ofNat nb.size].toArray⟩ : ByteArray) = b := ⟨_, rfl⟩
            have zN : sN.size ≤ 10 := by rw [← hsN, ba_size]; exact numS_le10 _ (by omega)
            have zL : sL.size = 1 := by rw [← hsL]; rfl
            have znb : nb.size ≤ 24 := by omega
            have p1 : ∀ d os, Calls Tryd.prog 42 #[.int .u64 ((cn : Int) + 1)] (Sort.grow (redrawn w3 d) os) fun e w'' => e = .returned (.string sN) ∧ ∃ p : Regrown, w'' = Sort.grow (redrawn w3 p.d) p.os := fun d os => by
              have h := rnum_any (Sort.grow (redrawn w3 d) os) (cn + 1) (by omega)
              rw [hsN] at h
              exact Calls.regrown_of h
            have p2 : ∀ d os, Calls Tryd.prog 23 #[.int .u64 (nb.size : Int), .int .i64 1] (Sort.grow (redrawn w3 d) os) fun e w'' => e = .returned (.string sL) ∧ ∃ p : Regrown, w'' = Sort.grow (redrawn w3 p.d) p.os := fun d os => by
              have h := wide_any (Sort.grow (redrawn w3 d) os) nb.size 1 (by omega) (by decide)
              rw [fxS_one, hsL] at h
              exact Calls.regrown_of h
            have yN : s1.size + sN.size ≤ 9223372036854775807 := by omega
            have yL : (s1 ++ sN).size + sL.size ≤ 9223372036854775807 := by rw [ByteArray.size_append]; omega
            have yB : (s1 ++ sN ++ sL).size + nb.size ≤ 9223372036854775807 := by rw [ByteArray.size_append, ByteArray.size_append]; omega
            obtain ⟨s2, hs2⟩ : ∃ b, s1 ++ sN ++ sL ++ nb = b := ⟨_, rfl⟩
            have z2 : s2.size ≤ 100200 := by rw [← hs2, ByteArray.size_append, ByteArray.size_append, ByteArray.size_append]; omega
            have HS2 : Hid (s2.data.toList = s.data.toList ++ UInt8.ofNat (k.toNat + 16 * vk.toNat) :: (sgnS (en - nd) ++ nmS ns nm)) := by
              show _ = _
              rw [← hs2, cat_list, cat_list, cat_list, HS1.out, ← hsN, ← hsL, hA, HB.out.1]
              simp
            have i2 := cell_regrown c2
            clear c3 c4 c5 hsN hsL hA hin hpc hcn
            go_upto_region 11 with fail
            refine wp_region_quiet_below (by kernel_rfl) (by kernel_rfl) ?_
            repeat (first | go_big_quiet_step (first | with_reducible exact p1 _ _ | with_reducible exact p2 _ _) | quiet_step (first | with_reducible exact p1 _ _ | with_reducible exact p2 _ _))
            refine wpQuiet_nil ?_
            intro _ hw'
            obtain ⟨⟨dq, osq⟩, hw''⟩ := hw'
            subst hw''
            have hY := below_regrown w3 dq osq
            first | (change Exit.then _ _ Exit.normal _ (Sort.grow (redrawn w3 dq) osq)) | skip
            generalize Sort.grow (redrawn w3 dq) osq = w4 at hY ⊢
            have H4 : Hid (ByI W A [.int .i64 k, .int .i64 en, .string nb, .int .i64 vk, .int .i64 vn, .string vb] g o L w4) := H3.out.next hY
            obtain ⟨-, -, -, c3, c4, c5⟩ := H4.out.full.six
            clear p1 p2 i2 c2 hY H3
            go_wp2_with fail
            refine (HC4.out _).mono ?_
            rintro e w5 ⟨rfl, hb5⟩
            have H5 := H4.out.next hb5
            obtain ⟨sV5, hsV⟩ : ∃ b : ByteArray, (⟨(vlS vk vn vs).toArray⟩ : ByteArray) = b := ⟨_, rfl⟩
            have zV : sV5.size ≤ 400 := by rw [← hsV, ba_size]; exact hz4
            have yV : s2.size + sV5.size ≤ 9223372036854775807 := by omega
            have HV : Hid ((s2 ++ sV5).data.toList = 1 :: evsL 0 [] (L.take (i + 1)) ∧ Row w5 W.heap.size (some ⟨g, o, none⟩) L.length (L.flatMap ec) ∧ Below W.heap.size W w5) := by
              refine ⟨?_, H5.row, H5.bel⟩
              rw [HNx.out, cat_list, HS2.out, ← hsV]
              unfold evL
              simp
            rw [hsV]
            clear H5 hsV hb5 c3 c4 c5
            go_wp2
            exact ⟨⟨i + 1, _, by go_num, rfl, by omega, HV⟩, by simp [intOf]; omega⟩
end Go.Proofs.YtdmiciblfbkndaaDoor

namespace Go.Proofs.YtdmiciblfbkndaaDoor
open Go.RowKit

theorem neDiffS (a b : ByteArray) (h : a ≠ b) : ∀ w : World, (binOp BinOp.neq 9 (.string a) (.string b)).run Tryd.prog w = .ok (.bool true) w := by
  intro w
  have h2 : ¬ a.toList = b.toList := fun e => h (by
    have := congrArg List.toArray e
    rw [toL, toL] at this
    exact ByteArray.ext (by simpa using this))
  simp [go_sem, h2]
/-- Where the salvaging stands. -/
structure SvI (W : World) (R0 P : Nat) (nv : Value) (evs : List Ev) (wr : World) : Prop where
  bel : Below W.heap.size W wr
  res : Full wr R0 28 rcZ
  box : Full wr P 28 [.int .i64 0, .int .i64 0, .string ⟨#[]⟩, .int .i64 0, nv]
  own : wr.ownsRow W.heap.size 37 6 nv evs.length (evs.flatMap ec)
  lowR : W.heap.size ≤ R0
  lowP : W.heap.size ≤ P
  ne : R0 ≠ P
theorem SvI.next {W : World} {R0 P : Nat} {nv : Value} {evs : List Ev} {wr w' : World} (h : SvI W R0 P nv evs wr) (k : Below wr.heap.size wr w') : SvI W R0 P nv evs w' := ⟨h.bel.trans (k.mono h.bel.size), h.res.next k, h.box.next k, own_next h.own k, h.lowR, h.lowP, h.ne⟩
/-- One event more. -/
theorem SvI.app {W : World} {R0 P : Nat} {nv : Value} {evs : List Ev} {wr : World} (h : SvI W R0 P nv evs wr) (e : Ev) (hl : evs.length + 1 ≤ 100000000) : ∃ q cp w2,
    (Builtin.append_ #[26, 26] 26 #[nv, .slice (some ⟨wr.heap.size, 0, none⟩) 1 1]).run Tryd.prog (wr.alloc (.cells (ec e).toArray 37)) = .ok (.slice q (evs.length + 1) cp) w2 ∧
    w2.cell? ⟨P, 4, none⟩ = some nv ∧ w2.frozen? ⟨P, 4, none⟩ = false ∧
    Hid (SvI W R0 P (.slice q (evs.length + 1) cp) (evs ++ [e]) (w2.setCell ⟨P, 4, none⟩ (.slice q (evs.length + 1) cp)) ∧
      ∀ c n v xs, wr.ownsRow c 37 6 v n xs → (∀ g, v.ownBlock = some g → nv.ownBlock ≠ some g) → (w2.setCell ⟨P, 4, none⟩ (.slice q (evs.length + 1) cp)).ownsRow c 37 6 v n xs ∧ (∀ g, v.ownBlock = some g → (Value.slice q (evs.length + 1) cp).ownBlock ≠ some g)) := by
  have bZ : Below wr.heap.size wr (wr.alloc (.cells (ec e).toArray 37)) := (Below.refl _ wr).alloc (Nat.le_refl _) _
  have hZ := h.next bZ
  have fZ : Full (wr.alloc (.cells (ec e).toArray 37)) wr.heap.size 37 (ec e) := Full.new wr _ _
  obtain ⟨nv', w2, r9, o9, g9⟩ := app_two (P := Tryd.prog) 26 26 _ 64 Tryd.underlying26 infoE rfl (by decide) (by decide) nv evs.length _ hZ.own wr.heap.size (ec e) rfl (by simp [ec, sV, Value.oneCell']) fZ.range (by omega) hZ.bel.size
  obtain ⟨q9, k9, rfl, -, -⟩ := own_slice o9
  rw [show evs.flatMap ec ++ ec e = (evs ++ [e]).flatMap ec by simp] at o9
  have kR : ∀ {g : Nat} {vs : List Value}, Full (wr.alloc (.cells (ec e).toArray 37)) g 28 vs → Full w2 g 28 vs := fun fg => by
    rcases g9 with ⟨-, g9⟩ | ⟨-, g9⟩
    · exact (g9.block _ fg.lt (fun e => own_ne hZ.own (b := _) (t := _) (m := _) ⟨_, fg, by simp; exact Nat.le_refl _⟩ (by decide) e.symm)).trans fg
    · exact fg.next g9
  have f := kR hZ.box
  have hb : Below W.heap.size W w2 := by
    rcases g9 with ⟨-, g9⟩ | ⟨-, g9⟩
    · exact hZ.bel.grown g9 hZ.bel.size (own_ge hZ.own)
    · exact hZ.bel.trans (g9.mono hZ.bel.size)
  obtain ⟨-, -, f4⟩ := f.five2
  have ho' : w2.ownsRow W.heap.size 37 6 (.slice q9 (evs.length + 1) k9) (evs ++ [e]).length ((evs ++ [e]).flatMap ec) := by simpa using o9
  refine ⟨q9, k9, w2, r9, f4.1, f4.2, ⟨hb.setCell (p := ⟨P, 4, none⟩) h.lowP _, (kR hZ.res).other1 h.ne, Full.put1 (a := [.int .i64 0, .int .i64 0, .string ⟨#[]⟩, .int .i64 0]) (d := []) f _, own_oth ho' f (by decide) 4 _, h.lowR, h.lowP, h.ne⟩, fun c n v xs ho hs => ?_⟩
  have hoZ := own_next ho bZ
  have h2 : w2.ownsRow c 37 6 v n xs := by
    rcases g9 with ⟨-, g9⟩ | ⟨-, g9⟩
    · exact own_same hoZ fun g hg => g9.block g (own_blk hoZ g hg).lt (fun e => hs g hg e.symm)
    · exact own_next hoZ g9
  refine ⟨own_oth h2 f (by decide) 4 _, fun g hg e2 => ?_⟩
  rcases g9 with ⟨ge, -⟩ | ⟨ge, -⟩
  · exact hs g hg (ge ▸ e2)
  · have h3 := ge g e2
    have h4 := (own_blk hoZ g hg).lt
    omega
/-- What Salvaged answers, in memory. -/
def SvP (W : World) (b : List UInt8) (e : Ending) (w' : World) : Prop := (∃ v, e = .returned (.tuple #[v, .int .i64 ((sgS b).2.1 : Int), .bool (sgS b).2.2]) ∧ RcA W.heap.size w' (sgS b).1 v) ∧ Below W.heap.size W w'
theorem ret_sv {w : World} {R : Nat} {a b c d e : Value} {x : Int} {y : Bool} {tm : Array Value} (h : Full w R 28 [a, b, c, d, e]) (h2 : tm[2]?.getD undef = .pointer (some ⟨R, 0, none⟩)) (h3 : tm[3]?.getD undef = .int .i64 x) (h4 : tm[4]?.getD undef = .bool y) : (results Tryd.f19 tm).run Tryd.prog w = .ok (.tuple #[.agg #[a, b, c, d, e], .int .i64 x, .bool y]) w := by
  obtain ⟨⟨⟨r0, g0⟩, ⟨r1, g1⟩, r2, g2⟩, ⟨r3, g3⟩, r4, g4⟩ := h.five2
  simp [results, Tryd.results19, go_sem, h2, h3, h4, r0, r1, r2, r3, r4]
/-- The record on the way is handed out. -/
theorem SvI.out {W : World} {R0 P : Nat} {nv : Value} {evs : List Ev} {wr : World} (h : SvI W R0 P nv evs wr) : Full (wr.setCells R0 0 [.int .i64 0, .int .i64 0, .string ⟨#[]⟩, .int .i64 0, nv]) R0 28 [.int .i64 0, .int .i64 0, .string ⟨#[]⟩, .int .i64 0, nv] ∧ RcA W.heap.size (wr.setCells R0 0 [.int .i64 0, .int .i64 0, .string ⟨#[]⟩, .int .i64 0, nv]) ⟨0, 0, [], 0, evs⟩ (.agg #[.int .i64 0, .int .i64 0, .string ⟨#[]⟩, .int .i64 0, nv]) ∧ Below W.heap.size W (wr.setCells R0 0 [.int .i64 0, .int .i64 0, .string ⟨#[]⟩, .int .i64 0, nv]) :=
  ⟨Full.put (a := []) (b := rcZ) (d := []) _ h.res rfl, ⟨nv, rfl, own_same h.own fun g hg => sets_heap (by rintro rfl; exact own_ne h.own (b := g) (t := 28) (m := 5) ⟨_, h.res, by simp [rcZ]⟩ (by decide) hg) _ _ _⟩, below_sets h.bel h.lowR _ _⟩
theorem SvI.outL {W : World} {R0 P : Nat} {nv : Value} {wr : World} (rc : Rc) (h : SvI W R0 P nv rc.evs wr) (ob : ByteArray) (hob : ob.data.toList = rc.out) : Full (wr.setCells R0 0 [.int .i64 rc.ph, .int .i64 rc.tr, .string ob, .int .i64 rc.inp, nv]) R0 28 [.int .i64 rc.ph, .int .i64 rc.tr, .string ob, .int .i64 rc.inp, nv] ∧ RcA W.heap.size (wr.setCells R0 0 [.int .i64 rc.ph, .int .i64 rc.tr, .string ob, .int .i64 rc.inp, nv]) rc (.agg #[.int .i64 rc.ph, .int .i64 rc.tr, .string ob, .int .i64 rc.inp, nv]) ∧ Below W.heap.size W (wr.setCells R0 0 [.int .i64 rc.ph, .int .i64 rc.tr, .string ob, .int .i64 rc.inp, nv]) :=
  ⟨Full.put (a := []) (b := rcZ) (d := []) _ h.res rfl, ⟨nv, by rw [sV_at hob], own_same h.own fun g hg => sets_heap (by rintro rfl; exact own_ne h.own (b := g) (t := 28) (m := 5) ⟨_, h.res, by simp [rcZ]⟩ (by decide) hg) _ _ _⟩, below_sets h.bel h.lowR _ _⟩
/-- The last body's reading: its reader, the record that is made. -/
structure LsI (w4 : World) (yb : Nat) (body : ByteArray) (p : Nat) (rec : List Value) (wr : World) : Prop where
  bel : Below w4.heap.size w4 wr
  rd : Rr wr yb body p
  box : Full wr (yb + 1) 28 rec
  low : w4.heap.size ≤ yb
theorem LsI.read {w4 : World} {yb : Nat} {body : ByteArray} {p p' : Nat} {rec : List Value} {wr w' : World} (h : LsI w4 yb body p rec wr) (k : Kp (fun x => x = yb) wr w') (hr : Rr w' yb body p') : LsI w4 yb body p' rec w' :=
  ⟨h.bel.trans (k.below (fun g e => by rw [e]; exact h.low) h.bel.size), hr, Kp.full h.box k (fun e => by omega), h.low⟩
theorem LsI.next {w4 : World} {yb : Nat} {body : ByteArray} {p : Nat} {rec : List Value} {wr w' : World} (h : LsI w4 yb body p rec wr) (k : Below wr.heap.size wr w') : LsI w4 yb body p rec w' :=
  ⟨h.bel.trans (k.mono h.bel.size), h.rd.next k, h.box.next k, h.low⟩
theorem LsI.set {w4 : World} {yb : Nat} {body : ByteArray} {p : Nat} {a d : List Value} {x : Value} {wr : World} (h : LsI w4 yb body p (a ++ (x :: d)) wr) (v : Value) : LsI w4 yb body p (a ++ (v :: d)) (wr.setCell ⟨yb + 1, a.length, none⟩ v) :=
  ⟨h.bel.setCell (p := ⟨yb + 1, a.length, none⟩) (by show _ ≤ yb + 1; have := h.low; omega) _, (set_heap (a := ⟨yb + 1, a.length, none⟩) (by show yb ≠ yb + 1; omega)).trans h.rd, Full.put1 h.box v, h.low⟩
/-- So many of a chunk's events are taken. -/
def SlI (W : World) (R0 P : Nat) (evs L : List Ev) (lv : Value) (m i : Nat) (wr : World) : Prop := ∃ nv, SvI W R0 P nv (evs ++ L.take i) wr ∧ wr.ownsRow W.heap.size 37 6 lv m (L.flatMap ec) ∧ ∀ g, lv.ownBlock = some g → nv.ownBlock ≠ some g
end Go.Proofs.YtdmiciblfbkndaaDoor
