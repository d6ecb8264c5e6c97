import Derived.Test.YtljhobjgofhldaaDoordSd
namespace Go.Proofs.YtljhobjgofhldaaDoor
open Go.RowKit
theorem ArrAt.up {w : World} {B B' : Nat} {q : Option Addr} {Ls : List (List V)} (h : ArrAt w B q Ls) (hB : B ≤ B') : ArrAt w B' q Ls := fun n hn => by
  obtain ⟨g, o, p, c, h1, h2, h3, h4, h5⟩ := h n hn
  refine ⟨g, o, p, c, h1, by omega, h3, h4, fun j hj => ?_⟩
  obtain ⟨b, r, k1, k2, k3⟩ := h5 j hj
  exact ⟨b, r, k1, by omega, k3⟩
/-- How deep. -/
def dpN (dp : Int) : Nat := if dp < 1 then 0 else if 4 < dp then 4 else dp.toNat
set_option maxRecDepth 100000 in
set_option maxHeartbeats 1000000 in
theorem deep_any {q : Option Addr} {cq : Nat} {Ls : List (List V)} {v : V} {dp : Int} {w : World} (hA : ArrAt w w.heap.size q Ls) (ht : Tab10 w) (h3 : 3 ≤ w.heap.size) (hv : vIn v) :
    Calls Tryd.prog 5 #[.agg #[.int .i64 v.1, .int .i64 v.2.1, .string v.2.2], .slice q Ls.length cq, .int .i64 dp] w fun e w' => e = .returned (.string ⟨(dpS Ls (dpN dp) v).toArray⟩) ∧ Below w.heap.size w w' := by
  obtain ⟨k, n, s⟩ := v
  obtain ⟨R, hR⟩ : ∃ R, dpS Ls (dpN dp) (k, n, s) = R := ⟨_, rfl⟩
  rw [hR]
  have HD : Hid (∀ {B b : Nat} {w : World}, ShW w B b q Ls [] → Calls Tryd.prog 10 #[.slice q Ls.length cq, .pointer (some ⟨b, 0, none⟩), .agg #[.int .i64 k, .int .i64 n, .string s], .int .i64 (min dp 4)] w fun e w' => (∃ r, e = .returned r) ∧ Hid (ShW w' B b q Ls R ∧ Below B w w')) := fun {B b w} hs => by
    rw [← hR]
    unfold dpN
    by_cases h1 : dp < 1
    · rw [if_pos h1]
      exact show_plain (v := (k, n, s)) hs hv (by simp) (.inl (by omega))
    · rw [if_neg h1]
      by_cases h4 : 4 < dp
      · rw [if_pos h4, show min dp 4 = ((4 : Nat) : Int) by omega]
        exact show_dp (v := (k, n, s)) 4 (by omega) hs hv (by simp)
      · rw [if_neg h4, show min dp 4 = ((dp.toNat : Nat) : Int) by omega]
        exact show_dp (v := (k, n, s)) dp.toNat (by omega) hs hv (by simp; omega)
  have B1 : Below w.heap.size w (w.alloc (.cells #[.int .i64 k, .int .i64 n, .string s] 26)) := (Below.refl _ w).alloc (Nat.le_refl _) _
  have B2 : Below w.heap.size w ((w.alloc (.cells #[.int .i64 k, .int .i64 n, .string s] 26)).alloc (.cells #[.pointer none, .slice none 0 0] 39)) := B1.alloc B1.size _
  have HS : Hid (ShW ((w.alloc (.cells #[.int .i64 k, .int .i64 n, .string s] 26)).alloc (.cells #[.pointer none, .slice none 0 0] 39)) (w.heap.size + 1) (w.heap.size + 1) q Ls []) := by
    refine ⟨(hA.below B2).up (by omega), ?_, by simp, ht.next B2, by omega⟩
    have f := Lib.fresh_isBuilder 39 5 (w.alloc (.cells #[.int .i64 k, .int .i64 n, .string s] 26))
    have e : (w.alloc (.cells #[.int .i64 k, .int .i64 n, .string s] 26)).heap.size = w.heap.size + 1 := by simp
    rw [e] at f
    exact f
  have HB2 : Hid _ := B2
  have dS := HD.out HS.out
  clear hR B1 B2 hA ht
  go_enter Tryd.func5, Tryd.ntmps5
  go_wp2_with fail
  refine dS.mono ?_
  rintro z1 w1 ⟨⟨r, rfl⟩, H1⟩
  have dT := Tryd.Builder_String_any (w.heap.size + 1) (w.heap.size + 1) R w1 H1.out.1.i H1.out.1.s
  clear dS
  go_wp2_with fail
  refine dT.mono ?_
  rintro z2 w2 ⟨rfl, hb2⟩
  have HB3 : Hid (Below w.heap.size w w2) := HB2.out.trans ((H1.out.2.trans hb2).mono (by omega))
  clear dT hb2
  go_wp2_with fail
  go_ret
  exact ⟨rfl, HB3.out⟩
end Go.Proofs.YtljhobjgofhldaaDoor
