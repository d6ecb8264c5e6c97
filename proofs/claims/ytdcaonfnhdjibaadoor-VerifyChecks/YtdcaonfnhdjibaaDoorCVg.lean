import Derived.Test.YtdcaonfnhdjibaaDoorCV1
namespace Go.Proofs.YtdcaonfnhdjibaaDoor
open Go.RowKit

set_option maxRecDepth 100000 in
set_option maxHeartbeats 8000000 in
theorem valid_any {w : World} {B : Nat} {iq eq tq : Option Addr} {Es : List Em} {c : Cd} (h : CodeM w B iq eq tq Es c) (ia ea ta : Nat) (hB : B ≤ w.heap.size) (ht : Tabs w) :
    Calls Tryd.prog 10 #[codeV iq eq tq ia ea ta c] w fun e w' => e = .returned (.int .i64 (validS c)) ∧ Below w.heap.size w w' := by
  obtain ⟨R, HR⟩ : ∃ R, Hid (R = validS c) := ⟨_, rfl⟩
  rw [← HR.out]
  have HV : Hid (validS c = if bigC c then 2 else if mayC c then 0 else 130) := rfl
  have hil : (c.ins.length : Int) ≤ 9223372036854775807 := by have := h.il; omega
  have hel : (c.ens.length : Int) ≤ 9223372036854775807 := by have := h.el; omega
  have htl : (c.txs.length : Int) ≤ 9223372036854775807 := by have := h.tl; omega
  have B1 : Below w.heap.size w (w.alloc (.cells #[.slice iq c.ins.length ia, .slice eq c.ens.length ea, .slice tq c.txs.length ta, .int .i64 c.main] 26)) := (Below.refl _ w).alloc (Nat.le_refl _) _
  have x0 := (cells_new w #[.slice iq c.ins.length ia, .slice eq c.ens.length ea, .slice tq c.txs.length ta, .int .i64 c.main] 26 0 (.slice iq c.ins.length ia) rfl).1
  have x1 := (cells_new w #[.slice iq c.ins.length ia, .slice eq c.ens.length ea, .slice tq c.txs.length ta, .int .i64 c.main] 26 1 (.slice eq c.ens.length ea) rfl).1
  have x2 := (cells_new w #[.slice iq c.ins.length ia, .slice eq c.ens.length ea, .slice tq c.txs.length ta, .int .i64 c.main] 26 2 (.slice tq c.txs.length ta) rfl).1
  have x3 := (cells_new w #[.slice iq c.ins.length ia, .slice eq c.ens.length ea, .slice tq c.txs.length ta, .int .i64 c.main] 26 3 (.int .i64 c.main) rfl).1
  have hlt1 : w.heap.size < (w.alloc (.cells #[.slice iq c.ins.length ia, .slice eq c.ens.length ea, .slice tq c.txs.length ta, .int .i64 c.main] 26)).heap.size := by simp
  have h1 := h.below B1 hB
  have t1 := ht.next B1
  by_cases hb : bigC c = true
  · have HE : Hid (R = 2) := by
      show R = 2
      rw [HR.out, HV.out, if_pos hb]
    unfold bigC at hb
    simp only [Bool.or_eq_true, decide_eq_true_eq] at hb
    have hbi : (60 : Int) < (c.ens.length : Int) ∨ (60000 : Int) < (c.ins.length : Int) ∨ (4000 : Int) < (c.txs.length : Int) := by omega
    have HB3 : Hid ((60 : Int) < (c.ens.length : Int) ∨ (60000 : Int) < (c.ins.length : Int) ∨ (4000 : Int) < (c.txs.length : Int)) := hbi
    unfold codeV
    clear hb hbi h h1 t1 ht
    go_enter Tryd.func10, Tryd.ntmps10
    go_upto_region 1 with fail
    generalize w.alloc (.cells #[.slice iq c.ins.length ia, .slice eq c.ens.length ea, .slice tq c.txs.length ta, .int .i64 c.main] 26) = X at *
    by_cases k1 : (60 : Int) < (c.ens.length : Int)
    · go_wp2
      go_ret
      exact ⟨by rw [HE.out]; rfl, B1⟩
    by_cases k2 : (60000 : Int) < (c.ins.length : Int)
    · go_wp2
      go_ret
      exact ⟨by rw [HE.out]; rfl, B1⟩
    have k3 : (4000 : Int) < (c.txs.length : Int) := by have := HB3.out; omega
    go_wp2
    go_ret
    exact ⟨by rw [HE.out]; rfl, B1⟩
  have HE : Hid (R = if mayC c then 0 else 130) := by
    show R = _
    rw [HR.out, HV.out, if_neg hb]
  have hb' : ¬ (60 < c.ens.length) ∧ ¬ (60000 < c.ins.length) ∧ ¬ (4000 < c.txs.length) := by
    unfold bigC at hb
    simp only [Bool.or_eq_true, decide_eq_true_eq] at hb
    omega
  have k1 : (c.ens.length : Int) ≤ 60 := by omega
  have k2 : (c.ins.length : Int) ≤ 60000 := by omega
  have k3 : (c.txs.length : Int) ≤ 4000 := by omega
  by_cases hm : 0 ≤ c.main ∧ c.main < (c.ens.length : Int)
  case neg =>
    have HF : Hid (R = 130) := by
      show R = 130
      rw [HE.out, if_neg]
      intro q
      unfold mayC at q
      simp only [Bool.and_eq_true, decide_eq_true_eq] at q
      exact hm ⟨q.1.1.1.1.1, q.1.1.1.1.2⟩
    unfold codeV
    clear hb hb' h h1 t1 ht
    go_enter Tryd.func10, Tryd.ntmps10
    go_upto_region 1 with fail
    generalize w.alloc (.cells #[.slice iq c.ins.length ia, .slice eq c.ens.length ea, .slice tq c.txs.length ta, .int .i64 c.main] 26) = X at *
    by_cases k4 : 0 ≤ c.main
    · have k5 : (c.ens.length : Int) ≤ c.main := by
        rcases Int.lt_or_le c.main (c.ens.length : Int) with q | q
        · exact absurd ⟨k4, q⟩ hm
        · exact q
      clear hm
      go_wp2
      go_ret
      exact ⟨by rw [HF.out]; rfl, B1⟩
    · clear hm
      go_wp2
      go_ret
      exact ⟨by rw [HF.out]; rfl, B1⟩
  obtain ⟨m0, m1⟩ := hm
  have hp : 0 < c.ens.length := by omega
  have s1 := starts_any h1 ea (by have := B1.size; omega) hp
  have HP : Hid (∀ W, Below (w.alloc (.cells #[.slice iq c.ins.length ia, .slice eq c.ens.length ea, .slice tq c.txs.length ta, .int .i64 c.main] 26)).heap.size (w.alloc (.cells #[.slice iq c.ins.length ia, .slice eq c.ens.length ea, .slice tq c.txs.length ta, .int .i64 c.main] 26)) W → Calls Tryd.prog 31 #[codeV iq eq tq ia ea ta c] W fun e w' => e = .returned (.bool (c.ens.all entS && c.ins.all insS && c.txs.all shortT)) ∧ Below W.heap.size W w') := fun W hW =>
    parts_any (h1.below hW (by have := B1.size; omega)) ia ea ta (by have := B1.size; have := hW.size; omega) (t1.next hW)
  have HM : Hid (R = if (stsS c.ens c.ins.length && (c.ens.all entS && c.ins.all insS && c.txs.all shortT)) then 0 else 130) := by
    show R = _
    rw [HE.out]
    unfold mayC
    rw [decide_eq_true m0, decide_eq_true m1]
    simp only [Bool.true_and, Bool.and_assoc]
    rfl
  unfold codeV at HP ⊢
  generalize (c.ens.all entS && c.ins.all insS && c.txs.all shortT) = pb at HP HM
  generalize stsS c.ens c.ins.length = sb at s1 HM
  clear hb hb' h h1 t1 ht HE HV HR
  go_enter Tryd.func10, Tryd.ntmps10
  go_upto_region 1 with fail
  generalize w.alloc (.cells #[.slice iq c.ins.length ia, .slice eq c.ens.length ea, .slice tq c.txs.length ta, .int .i64 c.main] 26) = X at *
  go_wp2_with fail
  refine s1.mono ?_
  rintro e w1 ⟨rfl, hb1⟩
  cases sb
  case false =>
    go_wp2
    go_ret
    exact ⟨by rw [HM.out]; rfl, below2 B1 hb1⟩
  have c0 := (hb1.cell (p := ⟨w.heap.size, 0, none⟩) hlt1).trans x0
  have c1 := (hb1.cell (p := ⟨w.heap.size, 1, none⟩) hlt1).trans x1
  have c2 := (hb1.cell (p := ⟨w.heap.size, 2, none⟩) hlt1).trans x2
  have c3 := (hb1.cell (p := ⟨w.heap.size, 3, none⟩) hlt1).trans x3
  have p1 := HP.out w1 hb1
  clear s1 HP x0 x1 x2 x3
  go_wp2_with fail
  refine p1.mono ?_
  rintro e w2 ⟨rfl, hb2⟩
  cases pb
  · go_wp2
    go_ret
    exact ⟨by rw [HM.out]; rfl, below2 (below2 B1 hb1) hb2⟩
  · go_wp2
    go_ret
    exact ⟨by rw [HM.out]; rfl, below2 (below2 B1 hb1) hb2⟩
end Go.Proofs.YtdcaonfnhdjibaaDoor
