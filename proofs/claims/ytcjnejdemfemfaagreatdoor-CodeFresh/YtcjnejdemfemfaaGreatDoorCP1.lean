import Derived.Test.YtcjnejdemfemfaaGreatDoorCRh
import Derived.Test.YtcjnejdemfemfaaGreatDoorShC
import Derived.Test.YtcjnejdemfemfaaGreatDoorCQ1
namespace Go.Proofs.YtcjnejdemfemfaaGreatDoor
open Go.RowKit

theorem hx_eq : ∀ n : Fin 16, Lx.hx n.val = hexD n.val := by decide +kernel
theorem pc_eq (c : UInt8) : Lx.pc c = pcS c := by
  have hc := c.toNat_lt
  unfold Lx.pc pcS
  rw [hx_eq ⟨c.toNat / 16, by omega⟩, hx_eq ⟨c.toNat % 16, by omega⟩]
theorem qt_eq (l : List UInt8) : Lx.qt l = qtS l := by
  unfold Lx.qt qtS Lx.pcs
  rw [show Lx.pc = pcS from funext pc_eq]
theorem fmt_any (n : Int) (w : World) (h0 : -9223372036854775808 ≤ n) (h1 : n ≤ 9223372036854775807) (ht : Tabs w) :
    Calls Tryz.prog 44 #[.int .i64 n, .int .i64 10] w fun e w' => e = .returned (.string (YtcjnejdemfemfaaGreatDoor.bk (Lib.itoa n))) ∧ Below w.heap.size w w' := by
  refine (Tryz.strconv_FormatInt_10 n h0 h1 w ht.pow).mono ?_
  rintro e w' ⟨rfl, k, os, rfl⟩
  exact ⟨rfl, below_regrown w (w.drawn + k) os⟩
theorem may_rng {o : Nat} {n : Int} (h : mayS o n = true) : shLo.getD o 0 ≤ n ∧ n ≤ shHi.getD o 0 := by
  have := (may_iff o n).1 h
  exact ⟨this.1, this.2.1⟩
set_option maxRecDepth 100000 in
set_option maxHeartbeats 2000000 in
theorem word_any (o : Nat) (n : Int) (w : World) (ho : o < 13) (hm : mayS o n = true) (ht : Tabs w) (h0 : -9223372036854775808 ≤ n) (h1 : n ≤ 9223372036854775807) :
    Calls Tryz.prog 87 #[.int .i64 (o : Int), .int .i64 n] w fun e w' => e = .returned (.string (YtcjnejdemfemfaaGreatDoor.bk (opW o n))) ∧ Below w.heap.size w w' := by
  obtain ⟨r0, r1⟩ := may_rng hm
  by_cases k2 : o = 2
  · subst k2
    have hb := Tryz.strconv_FormatBool (n == 1) w
    have e : Lib.formatBool (n == 1) = opW 2 n := by
      unfold opW Lib.formatBool
      rw [if_pos rfl]
      by_cases q : n = 1
      · subst q; rfl
      · rw [beq_false_of_ne q, if_neg q]; rfl
    rw [e] at hb
    have hb' : Calls Tryz.prog 101 #[.bool (n == 1)] w fun e w' => e = .returned (.string (YtcjnejdemfemfaaGreatDoor.bk (opW 2 n))) ∧ w' = w := hb
    clear hb e
    generalize YtcjnejdemfemfaaGreatDoor.bk (opW 2 n) = R at *
    go_enter Tryz.func87, Tryz.ntmps87
    go_wp2_with fail
    refine hb'.mono ?_
    rintro e w1 ⟨rfl, hw⟩
    subst w1
    go_wp2
    go_ret
    exact ⟨rfl, Below.refl _ _⟩
  by_cases k5 : o = 5 ∨ o = 6
  · have e : opW o n = (sgT.getD n.toNat e0).data.toList := by
      unfold opW
      rw [if_neg k2, if_pos k5]
    have hr : 1 ≤ n ∧ n ≤ 13 := by
      rcases k5 with rfl | rfl
      · have a : shLo.getD 5 0 = 1 := rfl
        have b : shHi.getD 5 0 = 2 := rfl
        omega
      · have a : shLo.getD 6 0 = 3 := rfl
        have b : shHi.getD 6 0 = 13 := rfl
        omega
    rw [e, bk_all]
    obtain ⟨k, rfl⟩ : ∃ k : Nat, n = (k : Int) := ⟨n.toNat, by omega⟩
    have c := ht.sgn k (by omega)
    rw [Int.toNat_natCast]
    generalize sgT.getD k e0 = s at *
    have i0 : (0 : Int) ≤ (k : Int) := by omega
    have i1 : (k : Int) < 14 := by omega
    clear e hr r0 r1 hm
    rcases k5 with rfl | rfl
    · go_enter Tryz.func87, Tryz.ntmps87
      go_wp2
      go_ret
      exact ⟨rfl, Below.refl _ _⟩
    · go_enter Tryz.func87, Tryz.ntmps87
      go_wp2
      go_ret
      exact ⟨rfl, Below.refl _ _⟩
  by_cases k9 : o = 9
  · subst k9
    have e : opW 9 n = (tyT.getD n.toNat e0).data.toList := by
      unfold opW
      rw [if_neg k2, if_neg k5, if_pos rfl]
    have hr : 1 ≤ n ∧ n ≤ 15 := by
      have a : shLo.getD 9 0 = 1 := rfl
      have b : shHi.getD 9 0 = 15 := rfl
      omega
    rw [e, bk_all]
    obtain ⟨k, rfl⟩ : ∃ k : Nat, n = (k : Int) := ⟨n.toNat, by omega⟩
    have c := ht.typ k (by omega)
    rw [Int.toNat_natCast]
    generalize tyT.getD k e0 = s at *
    have i0 : (0 : Int) ≤ (k : Int) := by omega
    have i1 : (k : Int) < 20 := by omega
    clear e hr r0 r1 hm
    go_enter Tryz.func87, Tryz.ntmps87
    go_wp2
    go_ret
    exact ⟨rfl, Below.refl _ _⟩
  have e : opW o n = Lib.itoa n := by
    unfold opW
    rw [if_neg k2, if_neg k5, if_neg k9]
  rw [e]
  have hf := fmt_any n w h0 h1 ht
  generalize YtcjnejdemfemfaaGreatDoor.bk (Lib.itoa n) = R at *
  have q2 : ((o : Int) == 2) = false := by rw [beq_eq_false_iff_ne]; omega
  have q5 : ((o : Int) == 5) = false := by rw [beq_eq_false_iff_ne]; omega
  have q6 : ((o : Int) == 6) = false := by rw [beq_eq_false_iff_ne]; omega
  have q9 : ((o : Int) == 9) = false := by rw [beq_eq_false_iff_ne]; omega
  clear e k2 k5 k9 r0 r1
  go_enter Tryz.func87, Tryz.ntmps87
  go_wp2_with fail
  refine hf.mono ?_
  rintro e w1 ⟨rfl, hb⟩
  go_wp2
  go_ret
  exact ⟨rfl, hb⟩
end Go.Proofs.YtcjnejdemfemfaaGreatDoor
namespace Go.Proofs.YtcjnejdemfemfaaGreatDoor
open Go.RowKit

theorem joinW_pre : ∀ (a b : List Bs), ∃ t, joinW (a ++ b) = joinW a ++ t
  | [], b => ⟨joinW b, rfl⟩
  | [x], [] => ⟨[], by simp [joinW]⟩
  | [x], y :: r => ⟨32 :: joinW (y :: r), rfl⟩
  | x :: y :: a, b => by
    obtain ⟨t, ht⟩ := joinW_pre (y :: a) b
    refine ⟨t, ?_⟩
    show x ++ 32 :: joinW ((y :: a) ++ b) = (x ++ 32 :: joinW (y :: a)) ++ t
    rw [ht]
    simp
theorem joinW_snoc : ∀ (a : List Bs) (x : Bs), joinW (a ++ [x]) = if a.length = 0 then x else joinW a ++ 32 :: x
  | [], x => rfl
  | [y], x => rfl
  | y :: z :: a, x => by
    have h := joinW_snoc (z :: a) x
    rw [if_neg (by simp)] at h ⊢
    show y ++ 32 :: joinW ((z :: a) ++ [x]) = (y ++ 32 :: joinW (z :: a)) ++ 32 :: x
    rw [h]
    simp
theorem appS_any (w : World) (base : Nat) (v : Value) (n : Nat) (l : List UInt8) (s : ByteArray) (hown : w.ownsRow base 5 1 v n (bv l)) (hn : n + s.size ≤ 1000000000) (hb : base ≤ w.heap.size) :
    ∃ v' w', (Builtin.append_ #[66, 9] 66 #[v, .string s]).run Tryz.prog w = .ok v' w' ∧ Grew w w' base v v' (n + s.size) (l ++ s.data.toList) := by
  obtain ⟨i0, hi, hz0, hz1, hz2⟩ := info_parts info5
  rcases hown.2 with ⟨rfl, hn0⟩ | ⟨g, cap, cur, rfl, _⟩
  · have hl : l = [] := by have := hown.1; rw [bv_len] at this; exact List.eq_nil_of_length_eq_zero (by omega)
    subst hl hn0
    obtain ⟨v', w', hr, h2, h3, _⟩ := Lib.run_append_own_string (P := Tryz.prog) w w.heap.size 66 9 66 5 i0 Tryz.underlying66 Tryz.underlying9 hi hz0 hz1 hz2 _ 0 _ (World.ownsRow_nil w w.heap.size 5 1) s (by unfold maxLen; omega) (by omega) (Nat.le_refl _)
    have h2' : w'.ownsRow w.heap.size 5 1 v' (0 + s.size) (bv ([] ++ s.data.toList)) := by rw [List.nil_append, ← strCells_bv]; exact h2
    exact ⟨v', w', hr, own_down h2' hb, (Kp.refl _ _).grown h3 (fun k hk => by cases hk), fun g hg => .inr (own_ge h2' g hg)⟩
  · obtain ⟨v', w', hr, h2, h3, h4⟩ := run_appS w 66 base g cap n l s hown hn hb
    exact ⟨v', w', hr, Grew.str h2 h3 h4⟩
theorem tv_get {w : World} {B : Nat} {q : Option Addr} {n cap : Nat} {ws : List ByteArray} (h : w.ownsRow B 9 1 (.slice q n cap) n (tv ws)) (j : Nat) (hj : j < ws.length) : ∃ g, q = some ⟨g, 0, none⟩ ∧ w.cell? ⟨g, 0 + j, none⟩ = some (.string ws[j]) := by
  have hl : n = ws.length := by have := h.1; unfold tv at this; rw [List.length_map] at this; omega
  obtain ⟨q', cap', hv, _, hr⟩ := own_slice h
  cases hv
  obtain ⟨g, rfl, hg⟩ := hr (by omega)
  exact ⟨g, rfl, hg j _ (by unfold tv; rw [List.getElem?_map, List.getElem?_eq_getElem hj]; rfl)⟩
def dl (ws : List ByteArray) : List Bs := ws.map fun s => s.data.toList
end Go.Proofs.YtcjnejdemfemfaaGreatDoor
namespace Go.Proofs.YtcjnejdemfemfaaGreatDoor
open Go.RowKit

def ewB (e : En) : List ByteArray := (entW e).map YtcjnejdemfemfaaGreatDoor.bk
def iwB (x : In) : List ByteArray := (insW x).map YtcjnejdemfemfaaGreatDoor.bk
theorem dl_bk (l : List Bs) : dl (l.map YtcjnejdemfemfaaGreatDoor.bk) = l := by
  unfold dl
  rw [List.map_map]
  have : ((fun s : ByteArray => s.data.toList) ∘ YtcjnejdemfemfaaGreatDoor.bk) = id := funext fun l => bk_data l
  rw [this, List.map_id]
theorem callw (a b : Value) (w : World) : (callFunc 87 #[a, b]).run Tryz.prog w = .ok (.enter 87 #[a, b]) w := by kernel_rfl
theorem word_v (o : Nat) (n : Int) (w : World) (ho : o < 13) (hm : mayS o n = true) (ht : Tabs w) (h0 : -9223372036854775808 ≤ n) (h1 : n ≤ 9223372036854775807) :
    Calls Tryz.prog 87 #[.int .i64 (o : Int), .int .i64 n] w fun e w' => ∃ v, e = .returned v ∧ (v = .string (YtcjnejdemfemfaaGreatDoor.bk (opW o n)) ∧ Below w.heap.size w w') := (word_any o n w ho hm ht h0 h1).mono fun _ _ ⟨a, b⟩ => ⟨_, a, rfl, b⟩
theorem own_lit (w : World) (C : List Value) (e : TypeId) (k : Nat) (hk : C.length = k) (hm : k ≤ 1000) : (w.alloc (.cells C.toArray e)).ownsRow w.heap.size e 1 (.slice (some ⟨w.heap.size, 0, none⟩) k k) k C := by
  subst hk
  exact ⟨by simp, .inr ⟨w.heap.size, C.length, C.toArray, rfl, Nat.le_refl _, World.alloc_heap_new w _, Nat.le_refl _, by unfold maxLen; omega, by simp, by simp⟩⟩
theorem tv_app (a b : List ByteArray) : tv (a ++ b) = tv a ++ tv b := List.map_append
end Go.Proofs.YtcjnejdemfemfaaGreatDoor
namespace Go.Proofs.YtcjnejdemfemfaaGreatDoor
open Go.RowKit

/-- The boxes beside the words. -/
structure IW (w W : World) (p2 : Nat) (CI CR : Array Value) : Prop where
  bel : Below w.heap.size w W
  bi : W.heap[w.heap.size]? = some (.cells CI 48)
  br : W.heap[p2]? = some (.cells CR 72)
theorem IW.next {w W W' : World} {p2 : Nat} {CI CR : Array Value} (h : IW w W p2 CI CR) (b : Below W.heap.size W W') : IW w W' p2 CI CR :=
  ⟨below2 h.bel b, (b.block _ (Array.getElem?_eq_some_iff.1 h.bi).1).trans h.bi, (b.block _ (Array.getElem?_eq_some_iff.1 h.br).1).trans h.br⟩
theorem IW.app {w W W' : World} {p2 : Nat} {CI CR : Array Value} (h : IW w W p2 CI CR) {v : Value} {n : Nat} {xs : List Value} (ho : W.ownsRow w.heap.size 9 1 v n xs) (D : Obj) (hg : (W.alloc D).grownBy W' v.ownBlock) : IW w W' p2 CI CR := by
  have k : ∀ g t m, Blk W g t m → t ≠ 9 → W'.heap[g]? = W.heap[g]? := fun g t m hb ht => (hg.block g (by have := hb.lt; simp; omega) (fun e => own_ne ho hb ht e.symm)).trans (Below.heap_alloc _ _ _ hb.lt)
  exact ⟨(h.bel.alloc h.bel.size _).grown hg (by have := h.bel.size; simp; omega) (own_ge ho), (k _ 48 CI.size ⟨_, h.bi, Nat.le_refl _⟩ (by decide)).trans h.bi, (k _ 72 CR.size ⟨_, h.br, Nat.le_refl _⟩ (by decide)).trans h.br⟩
end Go.Proofs.YtcjnejdemfemfaaGreatDoor

