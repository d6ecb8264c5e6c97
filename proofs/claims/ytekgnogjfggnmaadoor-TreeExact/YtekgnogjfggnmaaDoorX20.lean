import Derived.Test.YtekgnogjfggnmaaDoorX19
import Derived.Test.YtekgnogjfggnmaaDoorX02
import Derived.Test.YtekgnogjfggnmaaDoorX17
import Derived.Test.YtekgnogjfggnmaaDoorX11
namespace Go.Proofs.YtekgnogjfggnmaaDoor
open Go.RowKit

set_option maxRecDepth 100000 in
set_option maxHeartbeats 1000000 in
theorem bare_2 (ps : Int) (nm lb ty : ByteArray) (op it : Int) (tx : ByteArray) (zz : Int) (w : World) :
    Calls Tryd.prog 55 #[.agg #[.int .i64 2, .int .i64 ps, .string nm, .string lb, .string ty, .int .i64 op, .int .i64 it, .string tx, .int .i64 zz]] w fun e w' => e = .returned (.agg #[.int .i64 2, .int .i64 0, .string (⟨#[]⟩ : ByteArray), .string lb, .string (⟨#[]⟩ : ByteArray), .int .i64 op, .int .i64 it, .string tx, .int .i64 0]) ∧ Below w.heap.size w w' := by
  go_enter Tryd.func55, Tryd.ntmps55
  go_wp2
  exact bodyPost_ret (v := .agg #[.int .i64 2, .int .i64 0, .string (⟨#[]⟩ : ByteArray), .string lb, .string (⟨#[]⟩ : ByteArray), .int .i64 op, .int .i64 it, .string tx, .int .i64 0]) (by simp [results, Tryd.results55, go_sem]) rfl ⟨rfl, ((Below.refl _ w).alloc (Nat.le_refl _) _).alloc (by simp) _⟩

set_option maxRecDepth 100000 in
set_option maxHeartbeats 1000000 in
theorem bare_3 (ps : Int) (nm lb ty : ByteArray) (op it : Int) (tx : ByteArray) (zz : Int) (w : World) :
    Calls Tryd.prog 55 #[.agg #[.int .i64 3, .int .i64 ps, .string nm, .string lb, .string ty, .int .i64 op, .int .i64 it, .string tx, .int .i64 zz]] w fun e w' => e = .returned (.agg #[.int .i64 3, .int .i64 0, .string (⟨#[]⟩ : ByteArray), .string lb, .string (⟨#[]⟩ : ByteArray), .int .i64 op, .int .i64 it, .string tx, .int .i64 0]) ∧ Below w.heap.size w w' := by
  go_enter Tryd.func55, Tryd.ntmps55
  go_wp2
  exact bodyPost_ret (v := .agg #[.int .i64 3, .int .i64 0, .string (⟨#[]⟩ : ByteArray), .string lb, .string (⟨#[]⟩ : ByteArray), .int .i64 op, .int .i64 it, .string tx, .int .i64 0]) (by simp [results, Tryd.results55, go_sem]) rfl ⟨rfl, ((Below.refl _ w).alloc (Nat.le_refl _) _).alloc (by simp) _⟩

set_option maxRecDepth 100000 in
set_option maxHeartbeats 1000000 in
theorem bare_5 (ps : Int) (nm lb ty : ByteArray) (op it : Int) (tx : ByteArray) (zz : Int) (w : World) :
    Calls Tryd.prog 55 #[.agg #[.int .i64 5, .int .i64 ps, .string nm, .string lb, .string ty, .int .i64 op, .int .i64 it, .string tx, .int .i64 zz]] w fun e w' => e = .returned (.agg #[.int .i64 5, .int .i64 0, .string (⟨#[]⟩ : ByteArray), .string lb, .string (⟨#[]⟩ : ByteArray), .int .i64 op, .int .i64 it, .string tx, .int .i64 0]) ∧ Below w.heap.size w w' := by
  go_enter Tryd.func55, Tryd.ntmps55
  go_wp2
  exact bodyPost_ret (v := .agg #[.int .i64 5, .int .i64 0, .string (⟨#[]⟩ : ByteArray), .string lb, .string (⟨#[]⟩ : ByteArray), .int .i64 op, .int .i64 it, .string tx, .int .i64 0]) (by simp [results, Tryd.results55, go_sem]) rfl ⟨rfl, ((Below.refl _ w).alloc (Nat.le_refl _) _).alloc (by simp) _⟩

set_option maxRecDepth 100000 in
set_option maxHeartbeats 1000000 in
theorem bare_8 (ps : Int) (nm lb ty : ByteArray) (op it : Int) (tx : ByteArray) (zz : Int) (w : World) :
    Calls Tryd.prog 55 #[.agg #[.int .i64 8, .int .i64 ps, .string nm, .string lb, .string ty, .int .i64 op, .int .i64 it, .string tx, .int .i64 zz]] w fun e w' => e = .returned (.agg #[.int .i64 8, .int .i64 0, .string nm, .string (⟨#[]⟩ : ByteArray), .string ty, .int .i64 op, .int .i64 it, .string tx, .int .i64 0]) ∧ Below w.heap.size w w' := by
  go_enter Tryd.func55, Tryd.ntmps55
  go_wp2
  exact bodyPost_ret (v := .agg #[.int .i64 8, .int .i64 0, .string nm, .string (⟨#[]⟩ : ByteArray), .string ty, .int .i64 op, .int .i64 it, .string tx, .int .i64 0]) (by simp [results, Tryd.results55, go_sem]) rfl ⟨rfl, ((Below.refl _ w).alloc (Nat.le_refl _) _).alloc (by simp) _⟩

set_option maxRecDepth 100000 in
set_option maxHeartbeats 1000000 in
theorem bare_10 (ps : Int) (nm lb ty : ByteArray) (op it : Int) (tx : ByteArray) (zz : Int) (w : World) :
    Calls Tryd.prog 55 #[.agg #[.int .i64 10, .int .i64 ps, .string nm, .string lb, .string ty, .int .i64 op, .int .i64 it, .string tx, .int .i64 zz]] w fun e w' => e = .returned (.agg #[.int .i64 10, .int .i64 0, .string nm, .string (⟨#[]⟩ : ByteArray), .string ty, .int .i64 op, .int .i64 it, .string tx, .int .i64 0]) ∧ Below w.heap.size w w' := by
  go_enter Tryd.func55, Tryd.ntmps55
  go_wp2
  exact bodyPost_ret (v := .agg #[.int .i64 10, .int .i64 0, .string nm, .string (⟨#[]⟩ : ByteArray), .string ty, .int .i64 op, .int .i64 it, .string tx, .int .i64 0]) (by simp [results, Tryd.results55, go_sem]) rfl ⟨rfl, ((Below.refl _ w).alloc (Nat.le_refl _) _).alloc (by simp) _⟩

set_option maxRecDepth 100000 in
set_option maxHeartbeats 1000000 in
theorem bare_11 (ps : Int) (nm lb ty : ByteArray) (op it : Int) (tx : ByteArray) (zz : Int) (w : World) :
    Calls Tryd.prog 55 #[.agg #[.int .i64 11, .int .i64 ps, .string nm, .string lb, .string ty, .int .i64 op, .int .i64 it, .string tx, .int .i64 zz]] w fun e w' => e = .returned (.agg #[.int .i64 11, .int .i64 0, .string nm, .string (⟨#[]⟩ : ByteArray), .string ty, .int .i64 op, .int .i64 it, .string tx, .int .i64 0]) ∧ Below w.heap.size w w' := by
  go_enter Tryd.func55, Tryd.ntmps55
  go_wp2
  exact bodyPost_ret (v := .agg #[.int .i64 11, .int .i64 0, .string nm, .string (⟨#[]⟩ : ByteArray), .string ty, .int .i64 op, .int .i64 it, .string tx, .int .i64 0]) (by simp [results, Tryd.results55, go_sem]) rfl ⟨rfl, ((Below.refl _ w).alloc (Nat.le_refl _) _).alloc (by simp) _⟩

set_option maxRecDepth 100000 in
set_option maxHeartbeats 1000000 in
theorem bare_9 (ps : Int) (nm lb ty : ByteArray) (op it : Int) (tx : ByteArray) (zz : Int) (w : World) :
    Calls Tryd.prog 55 #[.agg #[.int .i64 9, .int .i64 ps, .string nm, .string lb, .string ty, .int .i64 op, .int .i64 it, .string tx, .int .i64 zz]] w fun e w' => e = .returned (.agg #[.int .i64 9, .int .i64 0, .string (⟨#[]⟩ : ByteArray), .string (⟨#[]⟩ : ByteArray), .string ty, .int .i64 op, .int .i64 it, .string tx, .int .i64 0]) ∧ Below w.heap.size w w' := by
  go_enter Tryd.func55, Tryd.ntmps55
  go_wp2
  exact bodyPost_ret (v := .agg #[.int .i64 9, .int .i64 0, .string (⟨#[]⟩ : ByteArray), .string (⟨#[]⟩ : ByteArray), .string ty, .int .i64 op, .int .i64 it, .string tx, .int .i64 0]) (by simp [results, Tryd.results55, go_sem]) rfl ⟨rfl, ((Below.refl _ w).alloc (Nat.le_refl _) _).alloc (by simp) _⟩

set_option maxRecDepth 100000 in
set_option maxHeartbeats 1000000 in
theorem bare_12 (ps : Int) (nm lb ty : ByteArray) (op it : Int) (tx : ByteArray) (zz : Int) (w : World) :
    Calls Tryd.prog 55 #[.agg #[.int .i64 12, .int .i64 ps, .string nm, .string lb, .string ty, .int .i64 op, .int .i64 it, .string tx, .int .i64 zz]] w fun e w' => e = .returned (.agg #[.int .i64 12, .int .i64 0, .string nm, .string lb, .string ty, .int .i64 op, .int .i64 0, .string tx, .int .i64 0]) ∧ Below w.heap.size w w' := by
  go_enter Tryd.func55, Tryd.ntmps55
  go_wp2
  exact bodyPost_ret (v := .agg #[.int .i64 12, .int .i64 0, .string nm, .string lb, .string ty, .int .i64 op, .int .i64 0, .string tx, .int .i64 0]) (by simp [results, Tryd.results55, go_sem]) rfl ⟨rfl, ((Below.refl _ w).alloc (Nat.le_refl _) _).alloc (by simp) _⟩

set_option maxRecDepth 100000 in
set_option maxHeartbeats 1000000 in
theorem bare_20 (ps : Int) (nm lb ty : ByteArray) (op it : Int) (tx : ByteArray) (zz : Int) (w : World) :
    Calls Tryd.prog 55 #[.agg #[.int .i64 20, .int .i64 ps, .string nm, .string lb, .string ty, .int .i64 op, .int .i64 it, .string tx, .int .i64 zz]] w fun e w' => e = .returned (.agg #[.int .i64 20, .int .i64 0, .string nm, .string lb, .string ty, .int .i64 op, .int .i64 0, .string tx, .int .i64 0]) ∧ Below w.heap.size w w' := by
  go_enter Tryd.func55, Tryd.ntmps55
  go_wp2
  exact bodyPost_ret (v := .agg #[.int .i64 20, .int .i64 0, .string nm, .string lb, .string ty, .int .i64 op, .int .i64 0, .string tx, .int .i64 0]) (by simp [results, Tryd.results55, go_sem]) rfl ⟨rfl, ((Below.refl _ w).alloc (Nat.le_refl _) _).alloc (by simp) _⟩

set_option maxRecDepth 100000 in
set_option maxHeartbeats 1000000 in
theorem bare_21 (ps : Int) (nm lb ty : ByteArray) (op it : Int) (tx : ByteArray) (zz : Int) (w : World) :
    Calls Tryd.prog 55 #[.agg #[.int .i64 21, .int .i64 ps, .string nm, .string lb, .string ty, .int .i64 op, .int .i64 it, .string tx, .int .i64 zz]] w fun e w' => e = .returned (.agg #[.int .i64 21, .int .i64 0, .string nm, .string lb, .string ty, .int .i64 op, .int .i64 0, .string tx, .int .i64 0]) ∧ Below w.heap.size w w' := by
  go_enter Tryd.func55, Tryd.ntmps55
  go_wp2
  exact bodyPost_ret (v := .agg #[.int .i64 21, .int .i64 0, .string nm, .string lb, .string ty, .int .i64 op, .int .i64 0, .string tx, .int .i64 0]) (by simp [results, Tryd.results55, go_sem]) rfl ⟨rfl, ((Below.refl _ w).alloc (Nat.le_refl _) _).alloc (by simp) _⟩

set_option maxRecDepth 100000 in
set_option maxHeartbeats 1000000 in
theorem bare_16 (ps : Int) (nm lb ty : ByteArray) (op it : Int) (tx : ByteArray) (zz : Int) (w : World) :
    Calls Tryd.prog 55 #[.agg #[.int .i64 16, .int .i64 ps, .string nm, .string lb, .string ty, .int .i64 op, .int .i64 it, .string tx, .int .i64 zz]] w fun e w' => e = .returned (.agg #[.int .i64 16, .int .i64 0, .string (⟨#[]⟩ : ByteArray), .string lb, .string ty, .int .i64 op, .int .i64 0, .string tx, .int .i64 0]) ∧ Below w.heap.size w w' := by
  go_enter Tryd.func55, Tryd.ntmps55
  go_wp2
  exact bodyPost_ret (v := .agg #[.int .i64 16, .int .i64 0, .string (⟨#[]⟩ : ByteArray), .string lb, .string ty, .int .i64 op, .int .i64 0, .string tx, .int .i64 0]) (by simp [results, Tryd.results55, go_sem]) rfl ⟨rfl, ((Below.refl _ w).alloc (Nat.le_refl _) _).alloc (by simp) _⟩

set_option maxRecDepth 100000 in
set_option maxHeartbeats 1000000 in
theorem bare_22 (ps : Int) (nm lb ty : ByteArray) (op it : Int) (tx : ByteArray) (zz : Int) (w : World) :
    Calls Tryd.prog 55 #[.agg #[.int .i64 22, .int .i64 ps, .string nm, .string lb, .string ty, .int .i64 op, .int .i64 it, .string tx, .int .i64 zz]] w fun e w' => e = .returned (.agg #[.int .i64 22, .int .i64 0, .string nm, .string lb, .string ty, .int .i64 op, .int .i64 it, .string (⟨#[]⟩ : ByteArray), .int .i64 0]) ∧ Below w.heap.size w w' := by
  go_enter Tryd.func55, Tryd.ntmps55
  go_wp2
  exact bodyPost_ret (v := .agg #[.int .i64 22, .int .i64 0, .string nm, .string lb, .string ty, .int .i64 op, .int .i64 it, .string (⟨#[]⟩ : ByteArray), .int .i64 0]) (by simp [results, Tryd.results55, go_sem]) rfl ⟨rfl, ((Below.refl _ w).alloc (Nat.le_refl _) _).alloc (by simp) _⟩

set_option maxRecDepth 100000 in
set_option maxHeartbeats 1000000 in
theorem bare_23 (ps : Int) (nm lb ty : ByteArray) (op it : Int) (tx : ByteArray) (zz : Int) (w : World) :
    Calls Tryd.prog 55 #[.agg #[.int .i64 23, .int .i64 ps, .string nm, .string lb, .string ty, .int .i64 op, .int .i64 it, .string tx, .int .i64 zz]] w fun e w' => e = .returned (.agg #[.int .i64 23, .int .i64 0, .string (⟨#[]⟩ : ByteArray), .string lb, .string ty, .int .i64 op, .int .i64 it, .string tx, .int .i64 0]) ∧ Below w.heap.size w w' := by
  go_enter Tryd.func55, Tryd.ntmps55
  go_wp2
  exact bodyPost_ret (v := .agg #[.int .i64 23, .int .i64 0, .string (⟨#[]⟩ : ByteArray), .string lb, .string ty, .int .i64 op, .int .i64 it, .string tx, .int .i64 0]) (by simp [results, Tryd.results55, go_sem]) rfl ⟨rfl, ((Below.refl _ w).alloc (Nat.le_refl _) _).alloc (by simp) _⟩

set_option maxRecDepth 100000 in
set_option maxHeartbeats 1000000 in
theorem bare_25 (ps : Int) (nm lb ty : ByteArray) (op it : Int) (tx : ByteArray) (zz : Int) (w : World) :
    Calls Tryd.prog 55 #[.agg #[.int .i64 25, .int .i64 ps, .string nm, .string lb, .string ty, .int .i64 op, .int .i64 it, .string tx, .int .i64 zz]] w fun e w' => e = .returned (.agg #[.int .i64 25, .int .i64 0, .string (⟨#[]⟩ : ByteArray), .string lb, .string ty, .int .i64 op, .int .i64 it, .string tx, .int .i64 0]) ∧ Below w.heap.size w w' := by
  go_enter Tryd.func55, Tryd.ntmps55
  go_wp2
  exact bodyPost_ret (v := .agg #[.int .i64 25, .int .i64 0, .string (⟨#[]⟩ : ByteArray), .string lb, .string ty, .int .i64 op, .int .i64 it, .string tx, .int .i64 0]) (by simp [results, Tryd.results55, go_sem]) rfl ⟨rfl, ((Below.refl _ w).alloc (Nat.le_refl _) _).alloc (by simp) _⟩

set_option maxRecDepth 100000 in
set_option maxHeartbeats 1000000 in
theorem bare_26 (ps : Int) (nm lb ty : ByteArray) (op it : Int) (tx : ByteArray) (zz : Int) (w : World) :
    Calls Tryd.prog 55 #[.agg #[.int .i64 26, .int .i64 ps, .string nm, .string lb, .string ty, .int .i64 op, .int .i64 it, .string tx, .int .i64 zz]] w fun e w' => e = .returned (.agg #[.int .i64 26, .int .i64 0, .string nm, .string lb, .string ty, .int .i64 0, .int .i64 it, .string tx, .int .i64 0]) ∧ Below w.heap.size w w' := by
  go_enter Tryd.func55, Tryd.ntmps55
  go_wp2
  exact bodyPost_ret (v := .agg #[.int .i64 26, .int .i64 0, .string nm, .string lb, .string ty, .int .i64 0, .int .i64 it, .string tx, .int .i64 0]) (by simp [results, Tryd.results55, go_sem]) rfl ⟨rfl, ((Below.refl _ w).alloc (Nat.le_refl _) _).alloc (by simp) _⟩

set_option maxRecDepth 100000 in
set_option maxHeartbeats 1000000 in
theorem bare_27 (ps : Int) (nm lb ty : ByteArray) (op it : Int) (tx : ByteArray) (zz : Int) (w : World) :
    Calls Tryd.prog 55 #[.agg #[.int .i64 27, .int .i64 ps, .string nm, .string lb, .string ty, .int .i64 op, .int .i64 it, .string tx, .int .i64 zz]] w fun e w' => e = .returned (.agg #[.int .i64 27, .int .i64 0, .string nm, .string lb, .string ty, .int .i64 0, .int .i64 it, .string tx, .int .i64 0]) ∧ Below w.heap.size w w' := by
  go_enter Tryd.func55, Tryd.ntmps55
  go_wp2
  exact bodyPost_ret (v := .agg #[.int .i64 27, .int .i64 0, .string nm, .string lb, .string ty, .int .i64 0, .int .i64 it, .string tx, .int .i64 0]) (by simp [results, Tryd.results55, go_sem]) rfl ⟨rfl, ((Below.refl _ w).alloc (Nat.le_refl _) _).alloc (by simp) _⟩

set_option maxRecDepth 100000 in
set_option maxHeartbeats 1000000 in
theorem bare_28 (ps : Int) (nm lb ty : ByteArray) (op it : Int) (tx : ByteArray) (zz : Int) (w : World) :
    Calls Tryd.prog 55 #[.agg #[.int .i64 28, .int .i64 ps, .string nm, .string lb, .string ty, .int .i64 op, .int .i64 it, .string tx, .int .i64 zz]] w fun e w' => e = .returned (.agg #[.int .i64 28, .int .i64 0, .string nm, .string lb, .string (⟨#[]⟩ : ByteArray), .int .i64 op, .int .i64 it, .string tx, .int .i64 0]) ∧ Below w.heap.size w w' := by
  go_enter Tryd.func55, Tryd.ntmps55
  go_wp2
  exact bodyPost_ret (v := .agg #[.int .i64 28, .int .i64 0, .string nm, .string lb, .string (⟨#[]⟩ : ByteArray), .int .i64 op, .int .i64 it, .string tx, .int .i64 0]) (by simp [results, Tryd.results55, go_sem]) rfl ⟨rfl, ((Below.refl _ w).alloc (Nat.le_refl _) _).alloc (by simp) _⟩

set_option maxRecDepth 100000 in
set_option maxHeartbeats 1000000 in
theorem bare_none (q : Int) (hno : ∀ k ∈ ([2, 3, 5, 8, 9, 10, 11, 12, 16, 20, 21, 22, 23, 25, 26, 27, 28] : List Int), q ≠ k) (ps : Int) (nm lb ty : ByteArray) (op it : Int) (tx : ByteArray) (zz : Int) (w : World) :
    Calls Tryd.prog 55 #[.agg #[.int .i64 q, .int .i64 ps, .string nm, .string lb, .string ty, .int .i64 op, .int .i64 it, .string tx, .int .i64 zz]] w fun e w' => e = .returned (.agg #[.int .i64 q, .int .i64 0, .string nm, .string lb, .string ty, .int .i64 op, .int .i64 it, .string tx, .int .i64 0]) ∧ Below w.heap.size w w' := by
  have e2 : (q == 2) = false := by rw [beq_eq_false_iff_ne]; exact hno 2 (by simp)
  have e3 : (q == 3) = false := by rw [beq_eq_false_iff_ne]; exact hno 3 (by simp)
  have e5 : (q == 5) = false := by rw [beq_eq_false_iff_ne]; exact hno 5 (by simp)
  have e8 : (q == 8) = false := by rw [beq_eq_false_iff_ne]; exact hno 8 (by simp)
  have e9 : (q == 9) = false := by rw [beq_eq_false_iff_ne]; exact hno 9 (by simp)
  have e10 : (q == 10) = false := by rw [beq_eq_false_iff_ne]; exact hno 10 (by simp)
  have e11 : (q == 11) = false := by rw [beq_eq_false_iff_ne]; exact hno 11 (by simp)
  have e12 : (q == 12) = false := by rw [beq_eq_false_iff_ne]; exact hno 12 (by simp)
  have e16 : (q == 16) = false := by rw [beq_eq_false_iff_ne]; exact hno 16 (by simp)
  have e20 : (q == 20) = false := by rw [beq_eq_false_iff_ne]; exact hno 20 (by simp)
  have e21 : (q == 21) = false := by rw [beq_eq_false_iff_ne]; exact hno 21 (by simp)
  have e22 : (q == 22) = false := by rw [beq_eq_false_iff_ne]; exact hno 22 (by simp)
  have e23 : (q == 23) = false := by rw [beq_eq_false_iff_ne]; exact hno 23 (by simp)
  have e25 : (q == 25) = false := by rw [beq_eq_false_iff_ne]; exact hno 25 (by simp)
  have e26 : (q == 26) = false := by rw [beq_eq_false_iff_ne]; exact hno 26 (by simp)
  have e27 : (q == 27) = false := by rw [beq_eq_false_iff_ne]; exact hno 27 (by simp)
  have e28 : (q == 28) = false := by rw [beq_eq_false_iff_ne]; exact hno 28 (by simp)
  clear hno
  go_enter Tryd.func55, Tryd.ntmps55
  go_wp2
  exact bodyPost_ret (v := .agg #[.int .i64 q, .int .i64 0, .string nm, .string lb, .string ty, .int .i64 op, .int .i64 it, .string tx, .int .i64 0]) (by simp [results, Tryd.results55, go_sem]) rfl ⟨rfl, ((Below.refl _ w).alloc (Nat.le_refl _) _).alloc (by simp) _⟩

end Go.Proofs.YtekgnogjfggnmaaDoor

namespace Go.Proofs.YtekgnogjfggnmaaDoor
open Go.RowKit

theorem own_base {w : World} {b b' : Nat} {e : TypeId} {size : Nat} {v : Value} {n : Nat} {xs : List Value} (h : w.ownsRow b e size v n xs) (hb : b' ≤ b) : w.ownsRow b' e size v n xs := by
  refine ⟨h.1, ?_⟩
  rcases h.2 with h | ⟨g, cap, cur, hv, hbg, rest⟩
  · exact Or.inl h
  · exact Or.inr ⟨g, cap, cur, hv, Nat.le_trans hb hbg, rest⟩

/-- The kids that Kids answers. -/
def kidsA (L : List Nd) (N : Int) : List Nat := if hasS L N then kidsN L N.toNat else []

set_option maxHeartbeats 400000 in
theorem collect_any (w : World) (B g o cap n : Nat) (L : List Nd) (hL : L.length ≤ 1353245080300) (hn : n < L.length) (hT : Tr L) (h : KKeep B g o cap n L w) (hB : B + 1 < w.heap.size) :
    Calls Tryd.prog 34 #[.func (.func 53) #[] #[.pointer (some ⟨B + 1, 0, none⟩), .pointer (some ⟨B, 0, none⟩)]] w fun e W' => (∃ v, e = .returned v ∧ Hid (W'.ownsRow w.heap.size 3 1 v (kidsN L n).length (iv (nI (kidsN L n))))) ∧ Below w.heap.size w W' := by
  have H : Hid (Calls Tryd.prog 52 #[.slice none 0 0, .func (.func 53) #[] #[.pointer (some ⟨B + 1, 0, none⟩), .pointer (some ⟨B, 0, none⟩)]] w fun e W' => (∃ v, e = .returned v ∧ Hid (W'.ownsRow w.heap.size 3 1 v (kidsN L n).length (iv (nI (kidsN L n))))) ∧ Below w.heap.size w W') := appendSeq_any w B g o cap n L hL hn hT h hB
  clear h hT
  go_enter Tryd.func34, Tryd.ntmps34
  go_wp2_with (first
    | (go_at_call 52; refine H.out.mono ?_; rintro e w2 ⟨⟨v, rfl, hv⟩, hb2⟩)
    | go_in)
  go_ret
  exact ⟨⟨v, rfl, hv⟩, hb2⟩

set_option maxRecDepth 100000 in
set_option maxHeartbeats 1000000 in
theorem kids_any (w : World) (p : Option Addr) (n cap : Nat) (L : List Nd) (N : Int) (h : Reads w p n L) (hk : KwAt w) :
    Calls Tryd.prog 13 #[.agg #[.slice p n cap], .int .i64 N] w fun e W' => (∃ v, e = .returned v ∧ Hid (W'.ownsRow w.heap.size 3 1 v (kidsA L N).length (iv (nI (kidsA L N))))) ∧ Below w.heap.size w W' := by
  obtain ⟨w1, hw1⟩ : ∃ w1, w.alloc (.cells #[.slice p n cap] 24) = w1 := ⟨_, rfl⟩
  have B1 : Hid (Below w.heap.size w w1) := by rw [← hw1]; exact (Below.refl _ w).alloc (Nat.le_refl _) _
  have z1 : w.heap.size < w1.heap.size := by rw [← hw1]; simp
  have c1 : w1.cell? ⟨w.heap.size, 0, none⟩ = some (.slice p n cap) := by rw [← hw1]; exact cell_new _ _ _ _ _ rfl
  have RD : Hid (Reads w1 p n L) := h.next B1.out
  have H : Hid (Calls Tryd.prog 33 #[.agg #[.slice p n cap], .int .i64 N] w1 fun e w' => e = .returned (.bool (hasS L N)) ∧ Below w1.heap.size w1 w') := hasNode_any w1 p n cap L N RD.out (hk.next B1.out)
  clear h hk
  cases hh : hasS L N with
  | false =>
    have HK : Hid (kidsA L N = []) := by show _ = _; unfold kidsA; rw [hh]; rfl
    rw [hh] at H
    clear hh
    go_enter Tryd.func13, Tryd.ntmps13
    go_wp2_with (first
      | (go_at_call 33; refine H.out.mono ?_; rintro e w2 ⟨rfl, hb2⟩)
      | go_in)
    go_ret
    exact ⟨⟨_, rfl, by show World.ownsRow _ _ _ _ _ _ _; rw [HK.out]; exact World.ownsRow_nil _ _ _ _⟩, B1.out.trans (hb2.mono B1.out.size)⟩
  | true =>
    obtain ⟨k, rfl, hkl, ht⟩ := has_tree hh
    have HK : Hid (kidsA L (k : Int) = kidsN L k) := by show _ = _; unfold kidsA; rw [hh, Int.toNat_natCast]; rfl
    rw [hh] at H
    have HT : Hid (Tr L) := tr_of ht
    obtain ⟨hf, hlen, hrd⟩ := RD.out
    have hLb := hf.len
    obtain ⟨g, o, rfl, hl⟩ := hrd (fun e => by rw [e] at hkl; simp at hkl)
    subst hlen
    have HL : Hid (Lay w1 g o L) := hl
    clear hl ht hh hrd
    go_enter Tryd.func13, Tryd.ntmps13
    go_wp2_with (first
      | (go_at_call 33; refine H.out.mono ?_; rintro e w2 ⟨rfl, hb2⟩; have c2 := (hb2.cell (p := ⟨w.heap.size, 0, none⟩) z1).trans c1)
      | (go_at_call 35; refine (kidsOf_any _ _ _ _ _).mono ?_; rintro e w3 ⟨rfl, hw3⟩; have b3 : Below w2.heap.size w2 w3 := (by rw [hw3]; exact ((Below.refl _ w2).alloc (Nat.le_refl _) _).alloc (by simp) _); have kk : Hid (KKeep w2.heap.size g o cap k L w3) := (by rw [hw3]; rw [hw3] at b3; exact ⟨(HL.out.next hb2).next b3, cell_old _ (cell_new _ _ _ _ _ rfl), new_cells _ _ _ _ _ _ (by simp) rfl⟩); have z3 : w2.heap.size + 1 < w3.heap.size := (by rw [hw3]; simp); clear hw3)
      | (go_at_call 34; refine (collect_any w3 w2.heap.size g o cap k L hLb hkl HT.out kk.out z3).mono ?_; rintro e w4 ⟨⟨v, rfl, hv⟩, hb4⟩)
      | go_in)
    go_ret
    have hz : w.heap.size ≤ w3.heap.size := by have := hb2.size; omega
    refine ⟨⟨v, rfl, ?_⟩, ((B1.out.trans (hb2.mono B1.out.size)).trans (b3.mono (by have := hb2.size; omega))).trans (hb4.mono hz)⟩
    show World.ownsRow _ _ _ _ _ _ _
    rw [HK.out]
    exact own_base hv.out hz

end Go.Proofs.YtekgnogjfggnmaaDoor

namespace Go.Proofs.YtekgnogjfggnmaaDoor
open Go.RowKit Go.Shelf

/-- A way within a tree: each one's next is its kid. -/
inductive Way (L : List Nd) : List Nat → Nat → Prop
  | root : Way L [0] 0
  | step {l : List Nat} {a κ : Nat} (h : Way L l a) (hk : Kid L a κ) (hl : κ < L.length) : Way L (l ++ [κ]) κ

theorem below_set2 {B : Nat} {A W : World} (h : Below B A W) (p : Addr) (v : Value) : Below B (A.setCell p v) (W.setCell p v) :=
  ⟨h.os, h.tape, h.output, by rw [size_set, size_set]; exact h.size, fun i hi => by
    show (W.heap.modify _ _)[i]? = (A.heap.modify _ _)[i]?
    rw [Array.getElem?_modify, Array.getElem?_modify, h.block i hi]⟩
theorem set_heap_ne (w : World) (A : Nat) (v : Value) {i : Nat} (h : i ≠ A) : (w.setCell ⟨A, 0, none⟩ v).heap[i]? = w.heap[i]? := by
  show (w.heap.modify _ _)[i]? = _
  rw [Array.getElem?_modify, if_neg (Ne.symm h)]
theorem row_heap {W W' : World} {base G n c : Nat} {e : TypeId} {size : Nat} {xs : List Value} (h : W.ownsRow base e size (.slice (some ⟨G, 0, none⟩) n c) n xs) (hh : W'.heap[G]? = W.heap[G]?) : W'.ownsRow base e size (.slice (some ⟨G, 0, none⟩) n c) n xs := by
  refine ⟨h.1, ?_⟩
  rcases h.2 with ⟨h0, _⟩ | ⟨g, cap, cur, hv, hb, hg, rest⟩
  · cases h0
  · cases hv
    exact .inr ⟨_, _, cur, rfl, hb, hh.trans hg, rest⟩
theorem row_at {W : World} {base G n c : Nat} {e : TypeId} {size : Nat} {xs : List Value} (h : W.ownsRow base e size (.slice (some ⟨G, 0, none⟩) n c) n xs) : base ≤ G ∧ ∃ cur f, W.heap[G]? = some (.cells cur e f) := by
  rcases h.2 with ⟨h0, _⟩ | ⟨g, cap, cur, hv, hb, hg, rest⟩
  · cases h0
  · cases hv
    exact ⟨hb, cur, _, hg⟩
theorem at_lt {W : World} {i : Nat} {o : Obj} (h : W.heap[i]? = some o) : i < W.heap.size := (Array.getElem?_eq_some_iff.1 h).1

/-- The world of a round: the row, the cell of 'at', the marks. -/
structure Mid (w2 : World) (l : List Nat) (A G c : Nat) (ds : List Nat) (q : Nat) (W : World) : Prop where
  bel : Below w2.heap.size w2 W
  row : W.ownsRow w2.heap.size 3 1 (.slice (some ⟨G, 0, none⟩) l.length c) l.length (iv (nI l))
  ga : G < A
  alt : A < W.heap.size
  cell : W.cell? ⟨A, 0, none⟩ = some (.int .i64 (q : Int))
  fro : W.frozen? ⟨A, 0, none⟩ = false
  mks : ∀ D ∈ ds, w2.heap.size ≤ D ∧ W.heap[D]? = some (.deferred (some []))
  nod : ds.Nodup

theorem cell_not {W : World} {A D : Nat} {v : Value} {x : Option (List Deferred)} (h : W.cell? ⟨A, 0, none⟩ = some v) (hD : W.heap[D]? = some (.deferred x)) : D ≠ A := fun e => by
  subst e
  simp [World.cell?, hD] at h

theorem Mid.stop {w2 W w3 W4 : World} {l ds : List Nat} {A G c q κ D : Nat} (h : Mid w2 l A G c ds q W) (hb3 : Below W.heap.size W w3) (hb4 : Below w3.heap.size (w3.setCell ⟨A, 0, none⟩ (.int .i64 (κ : Int))) W4)
    (hD : w3.heap.size ≤ D) (hDW : W4.heap[D]? = some (.deferred (some []))) : Mid w2 l A G c (D :: ds) κ W4 := by
  have z3 := hb3.size
  have z4 := hb4.size
  rw [size_set] at z4
  obtain ⟨hG, cur, f, hGc⟩ := row_at h.row
  have hGl := at_lt hGc
  have hga := h.ga
  have halt := h.alt
  have key : ∀ i, i < W.heap.size → i ≠ A → W4.heap[i]? = W.heap[i]? := fun i hi hn => (hb4.block i (by omega)).trans ((set_heap_ne _ _ _ hn).trans (hb3.block i hi))
  have c3 := (hb3.cell (p := ⟨A, 0, none⟩) halt).trans h.cell
  have f3 := (hb3.frozen (p := ⟨A, 0, none⟩) halt).trans h.fro
  refine ⟨?_, row_heap h.row (key G hGl (by omega)), hga, by omega, ?_, ?_, ?_, ?_⟩
  · refine (((h.bel.trans (hb3.mono h.bel.size)).setCell (p := ⟨A, 0, none⟩) (by show _ ≤ A; omega) (.int .i64 (κ : Int)))).trans (hb4.mono ?_)
    have := h.bel.size
    omega
  · exact (hb4.cell (p := ⟨A, 0, none⟩) (by show A < _; omega)).trans (World.cell?_setCell_same' _ _ _ (by rw [c3]; rfl))
  · exact (hb4.frozen (p := ⟨A, 0, none⟩) (by show A < _; omega)).trans (by rw [World.frozen?_setCell]; exact f3)
  · intro D' hm
    rcases List.mem_cons.1 hm with rfl | hm
    · exact ⟨by have := h.bel.size; omega, hDW⟩
    · obtain ⟨d1, d2⟩ := h.mks D' hm
      exact ⟨d1, (key D' (at_lt d2) (cell_not h.cell d2)).trans d2⟩
  · refine List.nodup_cons.2 ⟨fun hm => ?_, h.nod⟩
    have := at_lt (h.mks D hm).2
    omega

theorem Mid.grown {w2 W w1 : World} {l ds : List Nat} {A G c κ G' c' : Nat} (h : Mid w2 l A G c ds κ W)
    (hg : (W.alloc (.cells #[.int .i64 (κ : Int)] 3)).grownBy w1 (some G)) (ho : w1.ownsRow w2.heap.size 3 1 (.slice (some ⟨G', 0, none⟩) (l.length + 1) c') (l.length + 1) (iv (nI l) ++ [.int .i64 (κ : Int)])) :
    w1.cell? ⟨A, 0, none⟩ = some (.int .i64 (κ : Int)) ∧ Mid w2 (l ++ [κ]) w1.heap.size G' c' ds κ (w1.alloc (.cells #[.int .i64 (κ : Int)] 3)) := by
  obtain ⟨hG, cur, f, hGc⟩ := row_at h.row
  have hGl := at_lt hGc
  have hga := h.ga
  have halt := h.alt
  have zg := hg.size
  rw [World.size_alloc] at zg
  have key : ∀ i, i < W.heap.size → i ≠ G → w1.heap[i]? = W.heap[i]? := fun i hi hn => (hg.block i (by rw [World.size_alloc]; omega) (fun e => hn (Option.some.inj e))).trans (by have := ((Below.refl _ W).alloc (Nat.le_refl _) (.cells #[.int .i64 (κ : Int)] 3)).block i hi; exact this)
  have bel1 : Below w2.heap.size w2 w1 := (h.bel.alloc h.bel.size _).grown hg (by rw [World.size_alloc]; have := h.bel.size; omega) (fun k e => by cases e; exact hG)
  obtain ⟨hG', cur', f', hGc'⟩ := row_at ho
  have hGl' := at_lt hGc'
  have key2 : ∀ i, i < w1.heap.size → (w1.alloc (.cells #[.int .i64 (κ : Int)] 3)).heap[i]? = w1.heap[i]? := fun i hi => ((Below.refl _ w1).alloc (Nat.le_refl _) (.cells #[.int .i64 (κ : Int)] 3)).block i hi
  obtain ⟨n1, n2⟩ := new_cell w1 (.int .i64 (κ : Int)) 3
  refine ⟨(World.cell?_of_block (key A halt (by omega))).trans h.cell, ?_, ?_, hGl', by simp, n1, n2, ?_, h.nod⟩
  · exact bel1.alloc bel1.size _
  · rw [nI_snoc, List.length_append]
    exact row_heap ho (key2 G' hGl')
  · intro D hm
    obtain ⟨d1, d2⟩ := h.mks D hm
    have dl := at_lt d2
    have dn : D ≠ G := fun e => by subst e; rw [hGc] at d2; cases d2
    have := (key D dl dn).trans d2
    exact ⟨d1, (key2 D (at_lt this)).trans this⟩

/-- The marks of the ranges are taken, one after the other. -/
theorem leaves_marks {F : Fence} {n : Nat} {fn : Func} {tmps : Array Value} {R : Ending → World → Prop} (base : Nat) (J : World → Prop)
    (hJ : ∀ D W, base ≤ D → W.heap[D]? = some (.deferred (some [])) → J W → J (W.putObj D (.deferred none))) (hend : ∀ W, J W → LeavesIn F n Tryd.prog fn tmps R [] .returning W) :
    ∀ (ds : List Nat) (W : World), (∀ D ∈ ds, base ≤ D ∧ W.heap[D]? = some (.deferred (some []))) → ds.Nodup → J W →
      LeavesInM F n Tryd.prog fn tmps R (ds.map fun D => { target := .collected D, args := #[] }) .returning W
  | [], W, _, _, h => hend W h
  | D :: ds, W, hd, hn, h => by
    obtain ⟨n1, n2⟩ := List.nodup_cons.1 hn
    obtain ⟨d1, d2⟩ := hd D (List.mem_cons_self ..)
    refine ⟨by simp, .inl ⟨_, _, rfl, run_takeDeferred d2, ?_⟩⟩
    refine leaves_marks base J hJ hend ds _ (fun D' hm => ?_) n2 (hJ D W d1 d2 h)
    obtain ⟨e1, e2⟩ := hd D' (List.mem_cons_of_mem _ hm)
    exact ⟨e1, (World.putObj_heap_other (fun e => n1 (by subst e; exact hm))).trans e2⟩

end Go.Proofs.YtekgnogjfggnmaaDoor

namespace Go.Proofs.YtekgnogjfggnmaaDoor
open Go.RowKit Go.Shelf
attribute [local go_sem] Oper.semAt_some

/-- How far the way has to go. -/
def farS (k : Nat) (a : Act) (W : World) : Nat := match (a.tmps[6]? : Option Value) with
  | some (.pointer (some p)) => match W.cell? p with
    | some (.int _ x) => k - x.toNat
    | _ => 0
  | _ => 0

set_option maxRecDepth 100000 in
set_option maxHeartbeats 2000000 in
theorem spine_yes (w : World) (g o cap : Nat) (L : List Nd) (k : Nat) (hLb : L.length ≤ 1353245080300) (hkl : k < L.length) (ht : Tr L) (hl : Hid (Lay w g o L))
    (H : Hid (∀ w1 : World, Below w.heap.size w w1 → Calls Tryd.prog 33 #[.agg #[.slice (some ⟨g, o, none⟩) L.length cap], .int .i64 (k : Int)] w1 fun e w' => e = .returned (.bool true) ∧ Below w1.heap.size w1 w')) :
    Calls Tryd.prog 14 #[.agg #[.slice (some ⟨g, o, none⟩) L.length cap], .int .i64 (k : Int)] w fun e W' => (∃ v l, e = .returned v ∧ Hid (W'.ownsRow w.heap.size 3 1 v l.length (iv (nI l))) ∧ Hid (Way L l k)) ∧ Below w.heap.size w W' := by
  obtain ⟨i0', hi, hz0, hz1, hz2⟩ := info_parts info3
  have HT : Hid (Tr L) := ht
  obtain ⟨w1, hw1⟩ : ∃ w1, (w.alloc (.cells #[.slice (some ⟨g, o, none⟩) L.length cap] 24)).alloc (.cells #[.int .i64 (k : Int)] 3) = w1 := ⟨_, rfl⟩
  have z1 : w1.heap.size = w.heap.size + 2 := by rw [← hw1]; simp
  have b1 : Below w.heap.size w w1 := by rw [← hw1]; exact ((Below.refl _ w).alloc (Nat.le_refl _) _).alloc (by simp) _
  have c1 : w1.cell? ⟨w.heap.size, 0, none⟩ = some (.slice (some ⟨g, o, none⟩) L.length cap) := by rw [← hw1]; exact cell_old _ (cell_new _ _ _ _ _ rfl)
  have c2 : w1.cell? ⟨w.heap.size + 1, 0, none⟩ = some (.int .i64 (k : Int)) := by rw [← hw1]; exact new_cells _ _ _ _ _ _ (by simp) rfl
  have H1 : Hid (Calls Tryd.prog 33 #[.agg #[.slice (some ⟨g, o, none⟩) L.length cap], .int .i64 (k : Int)] w1 fun e w' => e = .returned (.bool true) ∧ Below w1.heap.size w1 w') := H.out w1 b1
  have HL1 : Hid (Lay w1 g o L) := hl.out.next b1
  have B1 : Hid (Below w.heap.size w w1) := b1
  clear ht H hl b1
  refine (callsIn_wide (n := 6)).1 ?_
  refine callsIn_of_wp_marks Tryd.func14 rfl trivial ?_ rfl
  simp only [Tryd.ntmps14, List.size_toArray, List.length_cons, List.length_nil, Nat.reduceAdd, Nat.reduceSub, Array.replicate_succ, Array.replicate_zero, List.push_toArray, List.append_toArray, List.nil_append, List.cons_append]
  gi_wp2_with (refine ⟨trivial, ?_⟩; gi_at_call 33; refine (callsIn_wide.2 H1.out).mono ?_; rintro e w2 ⟨rfl, hb2⟩)
  have HB2 : Hid (Below w1.heap.size w1 w2) := hb2
  have z2 := hb2.size
  clear H1 hb2 hw1
  refine wpIn_loop (fun (a : Act) (W : World) => ∃ (l ds : List Nat) (q A G c : Nat) (u7 u13 u14 u15 u16 u17 u18 u19 u20 u21 u22 u23 u24 u25 u26 u27 u28 u29 u30 u31 u32 u33 u34 u35 u36 : Value), a = { tmps := #[.agg #[.slice (some ⟨g, o, none⟩) L.length cap], .int .i64 (k : Int), .pointer (some ⟨w.heap.size, 0, none⟩), .pointer (some ⟨w.heap.size + 1, 0, none⟩), .slice none 0 0, .slice (some ⟨G, 0, none⟩) l.length c, .pointer (some ⟨A, 0, none⟩), u7, .agg #[.slice (some ⟨g, o, none⟩) L.length cap], .int .i64 (k : Int), .bool true, .bool false, .slice (some ⟨w2.heap.size, 0, none⟩) 1 1, u13, u14, u15, u16, u17, u18, u19, u20, u21, u22, u23, u24, u25, u26, u27, u28, u29, u30, u31, u32, u33, u34, u35, u36, undef], defers := ds.map fun D => { target := .collected D, args := #[] } } ∧ Hid (Mid w2 l A G c ds q W) ∧ Hid (Way L l q) ∧ q ≤ k ∧ (k : Int) < q + sz L q ∧ l.length ≤ q + 1) (farS k) ?start ?round
  case start =>
    have hsz := HT.out.root
    refine ⟨[0], [], 0, _, _, 1, _, _, _, _, _, _, _, _, _, _, _, _, _, _, _, _, _, _, _, _, _, _, _, _, _, rfl, ?_, Way.root, by omega, ?_, by simp⟩
    · refine ⟨((Below.refl _ w2).alloc (Nat.le_refl _) _).alloc (by simp) _, ⟨rfl, .inr ⟨_, _, #[.int .i64 0], rfl, Nat.le_refl _, (Below.heap_alloc _ _ _ (by simp)).trans (World.alloc_heap_new w2 _), Nat.le_refl _, by decide, rfl, rfl⟩⟩, by omega, by simp, ?_, ?_, fun D hm => by simp at hm, List.nodup_nil⟩
      · have := (new_cell (w2.alloc (.cells #[.int .i64 0] 3)) (.int .i64 0) 3).1
        rwa [World.size_alloc] at this
      · have := (new_cell (w2.alloc (.cells #[.int .i64 0] 3)) (.int .i64 0) 3).2
        rwa [World.size_alloc] at this
    · rw [hsz]
      omega
  case round =>
    rintro a W ⟨l, ds, q, A, G, c, u7, u13, u14, u15, u16, u17, u18, u19, u20, u21, u22, u23, u24, u25, u26, u27, u28, u29, u30, u31, u32, u33, u34, u35, u36, rfl, hm, hw, hqk, hkq, hlen⟩
    have HM : Hid (Mid w2 l A G c ds q W) := hm
    have HW : Hid (Way L l q) := hw
    have bw : Below w1.heap.size w1 W := HB2.out.trans (hm.out.bel.mono z2)
    have zW := hm.out.bel.size
    have d1 := (bw.cell (p := ⟨w.heap.size, 0, none⟩) (show w.heap.size < _ by omega)).trans c1
    have d2 := (bw.cell (p := ⟨w.heap.size + 1, 0, none⟩) (show w.heap.size + 1 < _ by omega)).trans c2
    have d3 := hm.out.cell
    have HBW : Hid (Below w1.heap.size w1 W) := bw
    clear hm hw bw
    by_cases hq : q = k
    · subst hq
      gi_wp2
      refine leaves_marks w2.heap.size (fun W => W.ownsRow w.heap.size 3 1 (.slice (some ⟨G, 0, none⟩) l.length c) l.length (iv (nI l)) ∧ Below w.heap.size w W) ?_ ?_ ds W HM.out.mks HM.out.nod ⟨own_base HM.out.row (by omega), B1.out.trans (HBW.out.mono (by omega))⟩
      · intro D W' hD hDW hj
        exact ⟨ownsRow_putObj hj.1 _ hDW rfl, hj.2.trans (belowK_b (w := w) (Nat.le_refl _) W' D _ _ (by omega) hDW rfl rfl)⟩
      · intro W' hj
        exact ⟨_, results_tmp rfl _ _ _, ⟨.slice (some ⟨G, 0, none⟩) l.length c, l, rfl, hj.1, HW⟩, hj.2⟩
    · have hqk' : q < k := by omega
      have hne : ¬ (q : Int) = (k : Int) := by omega
      gi_wp2_with (refine ⟨trivial, ?_⟩; gi_at_call 35; refine (callsIn_wide.2 (kidsOf_any _ _ _ _ _)).mono ?_; rintro e w' ⟨rfl, rfl⟩)
      obtain ⟨w3, hw3⟩ : ∃ w3, (W.alloc (.cells #[.slice (some ⟨g, o, none⟩) L.length cap] 22)).alloc (.cells #[.int .i64 (q : Int)] 3) = w3 := ⟨_, rfl⟩
      have z3 : w3.heap.size = W.heap.size + 2 := by rw [← hw3]; simp
      have b3 : Below W.heap.size W w3 := by rw [← hw3]; exact ((Below.refl _ W).alloc (Nat.le_refl _) _).alloc (by simp) _
      have hLW : Lay W g o L := HL1.out.next HBW.out
      have kk : KKeep W.heap.size g o cap q L w3 := ⟨hLW.next b3, by rw [← hw3]; exact cell_old _ (cell_new _ _ _ _ _ rfl), by rw [← hw3]; exact new_cells _ _ _ _ _ _ (by simp) rfl⟩
      have hql : q < L.length := by omega
      obtain ⟨g1, g2⟩ := HT.out.good q hql
      have he : (endOf L q : Int) = q + sz L q := by unfold endOf; omega
      have HKK : Hid (KKeep W.heap.size g o cap q L w3) := kk
      have HB3 : Hid (Below W.heap.size W w3) := b3
      have hglt : g < W.heap.size := hLW.lt
      have HG : Hid (Good L q) := ⟨g1, g2⟩
      rw [hw3]
      clear hw3 b3 hLW kk
      refine wpIn_range_guard rfl (by omega) (gf := 53) (lb := #[.pointer (some ⟨W.heap.size + 1, 0, none⟩), .pointer (some ⟨W.heap.size, 0, none⟩)]) rfl trivial (enters_of Tryd.func53 (by kernel_rfl) rfl)
        (kids_seq 5 (by omega) W.heap.size g o cap q L w3 hLb hql HG.out HKK.out (by omega)) (Below.refl _ _) (fun _ => rfl)
        (fun pre V => (KCh L q pre ∧ posK L q pre ≤ k) ∧ Below w3.heap.size w3 V)
        (fun cd _ V => cd = .exit 2 ∧ ∃ κ : Nat, (Kid L q κ ∧ κ ≤ k ∧ (k : Int) < κ + sz L κ) ∧ Below w3.heap.size (w3.setCell ⟨A, 0, none⟩ (.int .i64 (κ : Int))) V)
        (fun s X Y row hs hg hr => ⟨hs.1, ownFrom_below (β := List Nat) (Nat.le_refl _) (Nat.le_refl _) s X Y row hs.2 hg hr⟩)
        (fun cd s X Y row hs hg hr => ⟨hs.1, hs.2.elim fun κ h => ⟨κ, h.1, ownFrom_below (β := List Nat) (by rw [size_set]; exact Nat.le_refl _) (Nat.le_refl _) s X Y row h.2 hg hr⟩⟩)
        ⟨⟨KCh.nil HT.out hql, by show q + 1 ≤ k; omega⟩, Below.refl _ _⟩ (fun pre V hI => HKK.out.below hI.2 (by omega) (by omega) hI.2.size) (fun pre x V hI => hI.1.1.last pre x rfl)
        (fun x => { tmps := #[.agg #[.slice (some ⟨g, o, none⟩) L.length cap], .int .i64 (k : Int), .pointer (some ⟨w.heap.size, 0, none⟩), .pointer (some ⟨w.heap.size + 1, 0, none⟩), .slice none 0 0, .slice (some ⟨G, 0, none⟩) l.length c, .pointer (some ⟨A, 0, none⟩), .int .i64 (x : Int), .agg #[.slice (some ⟨g, o, none⟩) L.length cap], .int .i64 (k : Int), .bool true, .bool false, .slice (some ⟨w2.heap.size, 0, none⟩) 1 1, .int .i64 (q : Int), .int .i64 (k : Int), .bool true, .pointer (some ⟨w.heap.size, 0, none⟩), .slice (some ⟨g, o, none⟩) L.length cap, .int .i64 (q : Int), .func (.func 53) #[] #[.pointer (some ⟨W.heap.size + 1, 0, none⟩), .pointer (some ⟨W.heap.size, 0, none⟩)], .int .i64 (x : Int), u21, u22, u23, u24, u25, u26, u27, u28, u29, u30, u31, u32, u33, u34, u35, u36, undef], defers := [] }) ?assign ?body ?done ?stop
      case assign =>
        intro l' x V K hK
        gi_wp2
        simpa [encK] using hK
      case body =>
        rintro l' pre x V ⟨⟨hch, hpk⟩, hB'⟩ ⟨hx, hxE⟩
        have hkid : Kid L q x := ⟨by rw [hx]; exact hch.ch, by omega⟩
        obtain ⟨e1, e2⟩ := HT.out.kid_good hql hkid
        have hxl : x < L.length := by omega
        have hb3 := HB3.out
        have p1 := (hB'.cell (p := ⟨w.heap.size, 0, none⟩) (show w.heap.size < _ by omega)).trans ((hb3.cell (p := ⟨w.heap.size, 0, none⟩) (show w.heap.size < _ by omega)).trans d1)
        have p2 := (hB'.cell (p := ⟨w.heap.size + 1, 0, none⟩) (show w.heap.size + 1 < _ by omega)).trans ((hb3.cell (p := ⟨w.heap.size + 1, 0, none⟩) (show w.heap.size + 1 < _ by omega)).trans d2)
        have hA := HM.out.alt
        have p3 := (hB'.cell (p := ⟨A, 0, none⟩) (show A < _ by omega)).trans ((hb3.cell (p := ⟨A, 0, none⟩) hA).trans d3)
        have p4 := (hB'.frozen (p := ⟨A, 0, none⟩) (show A < _ by omega)).trans ((hb3.frozen (p := ⟨A, 0, none⟩) hA).trans HM.out.fro)
        have p5 := (HKK.out.lay.next hB').size hxl
        have j0 : (0 : Int) ≤ (x : Int) := by omega
        have j1 : (x : Int) < (L.length : Int) := by omega
        have HCH : Hid (KCh L q pre ∧ x = posK L q pre ∧ x < endOf L q) := ⟨hch, hx, hxE⟩
        have HBB : Hid (Below w3.heap.size w3 V) := hB'
        have HKD : Hid (Kid L q x) := hkid
        have hxk : x ≤ k := by omega
        have HSZ : Hid (sz L x = (nd L x).size) := rfl
        have hLn : (x : Int) + (nd L x).size ≤ (L.length : Int) := by have : sz L x = (nd L x).size := rfl; omega
        have hn1 : 1 ≤ (nd L x).size := e1
        clear hch hx hxE hB' hkid e1 e2 hb3 hpk
        generalize (nd L x).size = s at *
        by_cases hks : (k : Int) < (x : Int) + s
        · gi_wp2
          refine region_round ?nd (by kernel_rfl) (by kernel_rfl) ?_
          case nd => intro o ho c; simp only [List.mem_cons, List.not_mem_nil, or_false] at ho; rcases ho with rfl | rfl | rfl | rfl | rfl | rfl | rfl | rfl | rfl | rfl <;> simp
          repeat (gi_big_quiet_step (fail))
          refine wpQuietIn_nil ?_
          rintro _ ⟨nq, rfl⟩
          have hY : Below V.heap.size V (V.drewN nq) := ⟨rfl, rfl, rfl, Nat.le_refl _, fun _ _ => rfl⟩
          gi_wp2
          refine ⟨(keeps_below hY).trans (KeepsOthers.setCell _ _ _), rfl, x, ⟨HKD.out, hxk, ?_⟩, below_set2 (HBB.out.trans (hY.mono HBB.out.size)) _ _⟩
          rw [HSZ.out]
          exact hks
        · gi_wp2
          refine region_round ?nd (by kernel_rfl) (by kernel_rfl) ?_
          case nd => intro o ho c; simp only [List.mem_cons, List.not_mem_nil, or_false] at ho; rcases ho with rfl | rfl | rfl | rfl | rfl | rfl | rfl | rfl | rfl | rfl <;> simp
          repeat (gi_big_quiet_step (fail))
          refine wpQuietIn_nil ?_
          rintro _ ⟨nq, rfl⟩
          have hY : Below V.heap.size V (V.drewN nq) := ⟨rfl, rfl, rfl, Nat.le_refl _, fun _ _ => rfl⟩
          gi_wp2
          obtain ⟨hch, hx, hxE⟩ := HCH.out
          refine ⟨keeps_below hY, ⟨?_, ?_⟩, HBB.out.trans (hY.mono HBB.out.size)⟩
          · rw [hx]
            exact hch.snoc HT.out hql (by omega)
          · rw [posK_snoc, HSZ.out]
            omega
      case done =>
        rintro D ys V hD hS ⟨⟨hch, hpk⟩, hB'⟩ hK
        exfalso
        omega
      case stop =>
        rintro D cd pre V hD ⟨rfl, κ, ⟨hkid, hκk, hkκ⟩, hB'⟩ hK
        have HM4 : Hid (Mid w2 l A G c (D :: ds) κ V) := HM.out.stop HB3.out hB' hD hK
        have r3 := HM4.out.cell
        have hqκ := hkid.ch.le
        have zV := HM4.out.bel.size
        have HKD : Hid (Kid L q κ) := hkid
        have HKK' : Hid ((k : Int) < κ + sz L κ) := hkκ
        clear hB' hD hK hkid hkκ HKK HG he g1 g2
        gi_wp2_with (gi_at_builtin; refine wpListIn_append_own _ rfl _ _ 41 rfl w2.heap.size 3 i0' (.int .i64 0) 1 8 Tryd.underlying41 hi hz0 hz1 hz2 rfl (by decide) _ _ _ rfl (HM4.out.row.alloc _) ⟨V.heap.size, 0, none⟩ 1 1 [.int .i64 (κ : Int)] rfl rfl (cell_one_new _ _ _) (by simp [Value.oneCell']) (by unfold maxLen; omega) (by omega) (by simp; omega) ?_; intro v' w4 hown' hgrow _; obtain ⟨G', c', rfl⟩ := ownsRow_succ hown'; obtain ⟨r4, m5⟩ := HM4.out.grown hgrow hown')
        have e : (l ++ [κ]).length = l.length + 1 := by simp
        have m5c := m5.cell
        refine ⟨⟨l ++ [κ], D :: ds, κ, w4.heap.size, G', c', _, _, _, _, _, _, _, _, _, _, _, _, _, _, _, _, _, _, _, _, _, _, _, _, _, by rw [e]; rfl, m5, Way.step HW.out HKD.out (by omega), hκk, HKK'.out, by omega⟩, ?_⟩
        simp [farS, d3, m5c]
        omega

end Go.Proofs.YtekgnogjfggnmaaDoor

namespace Go.Proofs.YtekgnogjfggnmaaDoor
open Go.RowKit

/-- What Spine answers. -/
def SpineOk (L : List Nd) (N : Int) (l : List Nat) : Prop := if hasS L N then Way L l N.toNat else l = []

set_option maxRecDepth 100000 in
set_option maxHeartbeats 1000000 in
theorem spine_any (w : World) (p : Option Addr) (n cap : Nat) (L : List Nd) (N : Int) (h : Reads w p n L) (hk : KwAt w) :
    Calls Tryd.prog 14 #[.agg #[.slice p n cap], .int .i64 N] w fun e W' => (∃ v l, e = .returned v ∧ Hid (W'.ownsRow w.heap.size 3 1 v l.length (iv (nI l))) ∧ Hid (SpineOk L N l)) ∧ Below w.heap.size w W' := by
  cases hh : hasS L N with
  | false =>
    obtain ⟨w1, hw1⟩ : ∃ w1, (w.alloc (.cells #[.slice p n cap] 24)).alloc (.cells #[.int .i64 N] 3) = w1 := ⟨_, rfl⟩
    have z1 : w1.heap.size = w.heap.size + 2 := by rw [← hw1]; simp
    have b1 : Below w.heap.size w w1 := by rw [← hw1]; exact ((Below.refl _ w).alloc (Nat.le_refl _) _).alloc (by simp) _
    have c1 : w1.cell? ⟨w.heap.size, 0, none⟩ = some (.slice p n cap) := by rw [← hw1]; exact cell_old _ (cell_new _ _ _ _ _ rfl)
    have c2 : w1.cell? ⟨w.heap.size + 1, 0, none⟩ = some (.int .i64 N) := by rw [← hw1]; exact new_cells _ _ _ _ _ _ (by simp) rfl
    have B1 : Hid (Below w.heap.size w w1) := b1
    have H : Hid (Calls Tryd.prog 33 #[.agg #[.slice p n cap], .int .i64 N] w1 fun e w' => e = .returned (.bool (hasS L N)) ∧ Below w1.heap.size w1 w') := hasNode_any w1 p n cap L N (h.next b1) (hk.next b1)
    have HK : Hid (SpineOk L N []) := by show SpineOk _ _ _; unfold SpineOk; rw [hh]; rfl
    rw [hh] at H
    clear hh h hk b1
    go_enter Tryd.func14, Tryd.ntmps14
    go_wp2_with (first
      | (go_at_call 33; refine H.out.mono ?_; rintro e w2 ⟨rfl, hb2⟩)
      | go_in)
    go_ret
    exact ⟨⟨_, [], rfl, World.ownsRow_nil _ _ _ _, HK⟩, B1.out.trans (hb2.mono B1.out.size)⟩
  | true =>
    obtain ⟨k, rfl, hkl, ht⟩ := has_tree hh
    obtain ⟨hf, hlen, hrd⟩ := h
    obtain ⟨g, o, rfl, hl⟩ := hrd (fun e => by rw [e] at hkl; simp at hkl)
    subst hlen
    refine (spine_yes w g o cap L k hf.len hkl (tr_of ht) hl fun w1 hb => ?_).mono ?_
    · have := hasNode_any w1 (some ⟨g, o, none⟩) L.length cap L (k : Int) ⟨hf, rfl, fun _ => ⟨g, o, rfl, hl.next hb⟩⟩ (hk.next hb)
      rw [hh] at this
      exact this
    · rintro e W' ⟨⟨v, l, e1, e2, e3⟩, hb⟩
      exact ⟨⟨v, l, e1, e2, by show SpineOk _ _ _; unfold SpineOk; rw [hh, Int.toNat_natCast]; exact e3.out⟩, hb⟩

end Go.Proofs.YtekgnogjfggnmaaDoor

namespace Go.Proofs.YtekgnogjfggnmaaDoor
open Go.RowKit

theorem nth_of {K T R : List Nat} {x : Nat} (h : K = T ++ [x] ++ R) : K[T.length]? = some x := by rw [h]; simp

/-- Each beginning of the kids. -/
theorem kids_take {L : List Nd} (hT : Tr L) {n : Nat} (hn : n < L.length) : ∀ i, i ≤ (kidsN L n).length → KCh L n ((kidsN L n).take i)
  | 0, _ => by rw [List.take_zero]; exact KCh.nil hT hn
  | i + 1, h => by
    have ih := kids_take hT hn i (by omega)
    have hlt : posK L n ((kidsN L n).take i) < endOf L n := by
      apply Classical.byContradiction
      intro hc
      have := congrArg List.length (ih.done hT hn (by omega))
      rw [List.length_take] at this
      omega
    have hs := ih.snoc hT hn hlt
    have e : (kidsN L n)[i]? = some (posK L n ((kidsN L n).take i)) := by
      have hl : ((kidsN L n).take i).length = i := by rw [List.length_take]; omega
      have h1 := nth_of hs.eq
      rwa [hl] at h1
    rw [List.take_add_one, e]
    exact hs
theorem kids_nth {L : List Nd} (hT : Tr L) {n : Nat} (hn : n < L.length) {i : Nat} (h : i < (kidsN L n).length) : (kidsN L n)[i]? = some (posK L n ((kidsN L n).take i)) ∧ Kid L n (posK L n ((kidsN L n).take i)) ∧ posK L n ((kidsN L n).take (i + 1)) = posK L n ((kidsN L n).take i) + (sz L (posK L n ((kidsN L n).take i))).toNat := by
  have ih := kids_take hT hn i (by omega)
  obtain ⟨g1, g2⟩ := hT.good n hn
  have he : (endOf L n : Int) = n + sz L n := by unfold endOf; omega
  have hlt : posK L n ((kidsN L n).take i) < endOf L n := by
    apply Classical.byContradiction
    intro hc
    have := congrArg List.length (ih.done hT hn (by omega))
    rw [List.length_take] at this
    omega
  have hs := ih.snoc hT hn hlt
  have e : (kidsN L n)[i]? = some (posK L n ((kidsN L n).take i)) := by
    have hl : ((kidsN L n).take i).length = i := by rw [List.length_take]; omega
    have h1 := nth_of hs.eq
    rwa [hl] at h1
  refine ⟨e, ⟨ih.ch, by omega⟩, ?_⟩
  rw [List.take_add_one, e]
  exact posK_snoc ..
theorem kids_end {L : List Nd} (hT : Tr L) {n : Nat} (hn : n < L.length) : posK L n (kidsN L n) = endOf L n := by
  have h := kids_take hT hn (kidsN L n).length (Nat.le_refl _)
  rw [List.take_length] at h
  obtain ⟨g1, g2⟩ := hT.good n hn
  have h1 := h.le
  apply Classical.byContradiction
  intro hc
  have hs := h.snoc hT hn (by omega)
  have := congrArg List.length hs.eq
  simp at this

theorem kids_len {L : List Nd} (hT : Tr L) {n : Nat} (hn : n < L.length) : (kidsN L n).length ≤ L.length := by
  have h := kids_take hT hn (kidsN L n).length (Nat.le_refl _)
  rw [List.take_length] at h
  obtain ⟨g1, g2⟩ := hT.good n hn
  have he : (endOf L n : Int) = n + sz L n := by unfold endOf; omega
  have h1 := h.le
  have h2 := h.len
  omega
theorem Way.len {L : List Nd} {l : List Nat} {a : Nat} (h : Way L l a) : l.length ≤ a + 1 := by
  induction h with
  | root => simp
  | step h hk hl ih =>
    have := hk.ch.le
    rw [List.length_append, List.length_singleton]
    omega

/-- A way's parts. -/
theorem Way.parts {L : List Nd} (hT : Tr L) {l : List Nat} {a : Nat} (h : Way L l a) : a < L.length ∧ l[0]? = some 0 ∧ 1 ≤ l.length ∧ l[l.length - 1]? = some a ∧ (∀ (i x y : Nat), l[i]? = some x → l[i + 1]? = some y → par L y y = (x : Int)) ∧ ∀ (i x : Nat), l[i]? = some x → x < L.length := by
  induction h with
  | root =>
    refine ⟨hT.pos, rfl, by simp, rfl, fun i x y h1 h2 => ?_, fun i x h => ?_⟩
    · simp at h2
    · have : i = 0 := by have := (List.getElem?_eq_some_iff.1 h).1; simp at this; omega
      subst this
      simp at h
      subst h
      exact hT.pos
  | @step l a κ h hk hl ih =>
    obtain ⟨i1, i2, i3, i4, i5, i6⟩ := ih
    refine ⟨hl, ?_, by simp, ?_, fun i x y h1 h2 => ?_, fun i x hx => ?_⟩
    · rw [List.getElem?_append_left (by omega)]; exact i2
    · simp
    · have hil : i + 1 < (l ++ [κ]).length := (List.getElem?_eq_some_iff.1 h2).1
      rw [List.length_append, List.length_singleton] at hil
      rw [List.getElem?_append_left (by omega)] at h1
      by_cases e : i + 1 < l.length
      · rw [List.getElem?_append_left e] at h2
        exact i5 i x y h1 h2
      · obtain rfl : i = l.length - 1 := by omega
        rw [List.getElem?_append_right (by omega)] at h2
        rw [i4] at h1
        have e0 : l.length - 1 + 1 - l.length = 0 := by omega
        rw [e0] at h2
        simp at h1 h2
        subst h1 h2
        exact hk.par hT i1
    · have hil : i < (l ++ [κ]).length := (List.getElem?_eq_some_iff.1 hx).1
      rw [List.length_append, List.length_singleton] at hil
      by_cases e : i < l.length
      · rw [List.getElem?_append_left e] at hx
        exact i6 i x hx
      · rw [List.getElem?_append_right (by omega)] at hx
        have e0 : i - l.length = 0 := by omega
        rw [e0] at hx
        simp at hx
        subst hx
        exact hl

end Go.Proofs.YtekgnogjfggnmaaDoor

namespace Go.Proofs.YtekgnogjfggnmaaDoor
open Go.RowKit

set_option maxRecDepth 100000 in
set_option maxHeartbeats 1000000 in
theorem spineZ_any (w : World) (p : Option Addr) (n cap : Nat) (L : List Nd) (N : Int) (h : Reads w p n L) (hk : KwAt w) :
    Calls Tryd.prog 14 #[.agg #[.slice p n cap], .int .i64 N] w fun e W' => (∃ v l, e = .returned v ∧ Hid (W'.ownsRow w.heap.size 3 1 v l.length (iv (nI l))) ∧ Hid (SpineOk L N l) ∧ Hid (l = [] → v = .slice none 0 0)) ∧ Below w.heap.size w W' := by
  cases hh : hasS L N with
  | false =>
    obtain ⟨w1, hw1⟩ : ∃ w1, (w.alloc (.cells #[.slice p n cap] 24)).alloc (.cells #[.int .i64 N] 3) = w1 := ⟨_, rfl⟩
    have z1 : w1.heap.size = w.heap.size + 2 := by rw [← hw1]; simp
    have b1 : Below w.heap.size w w1 := by rw [← hw1]; exact ((Below.refl _ w).alloc (Nat.le_refl _) _).alloc (by simp) _
    have c1 : w1.cell? ⟨w.heap.size, 0, none⟩ = some (.slice p n cap) := by rw [← hw1]; exact cell_old _ (cell_new _ _ _ _ _ rfl)
    have c2 : w1.cell? ⟨w.heap.size + 1, 0, none⟩ = some (.int .i64 N) := by rw [← hw1]; exact new_cells _ _ _ _ _ _ (by simp) rfl
    have B1 : Hid (Below w.heap.size w w1) := b1
    have H : Hid (Calls Tryd.prog 33 #[.agg #[.slice p n cap], .int .i64 N] w1 fun e w' => e = .returned (.bool (hasS L N)) ∧ Below w1.heap.size w1 w') := hasNode_any w1 p n cap L N (h.next b1) (hk.next b1)
    have HK : Hid (SpineOk L N []) := by show SpineOk _ _ _; unfold SpineOk; rw [hh]; rfl
    rw [hh] at H
    clear hh h hk b1
    go_enter Tryd.func14, Tryd.ntmps14
    go_wp2_with (first
      | (go_at_call 33; refine H.out.mono ?_; rintro e w2 ⟨rfl, hb2⟩)
      | go_in)
    go_ret
    exact ⟨⟨_, [], rfl, World.ownsRow_nil _ _ _ _, HK, fun _ => rfl⟩, B1.out.trans (hb2.mono B1.out.size)⟩
  | true =>
    obtain ⟨k, rfl, hkl, ht⟩ := has_tree hh
    obtain ⟨hf, hlen, hrd⟩ := h
    obtain ⟨g, o, rfl, hl⟩ := hrd (fun e => by rw [e] at hkl; simp at hkl)
    subst hlen
    refine (spine_yes w g o cap L k hf.len hkl (tr_of ht) hl fun w1 hb => ?_).mono ?_
    · have := hasNode_any w1 (some ⟨g, o, none⟩) L.length cap L (k : Int) ⟨hf, rfl, fun _ => ⟨g, o, rfl, hl.next hb⟩⟩ (hk.next hb)
      rw [hh] at this
      exact this
    · rintro e W' ⟨⟨v, l, e1, e2, e3⟩, hb⟩
      exact ⟨⟨v, l, e1, e2, by show SpineOk _ _ _; unfold SpineOk; rw [hh, Int.toNat_natCast]; exact e3.out, fun h0 => by have := (e3.out.parts (tr_of ht)).2.2.1; rw [h0] at this; simp at this⟩, hb⟩

end Go.Proofs.YtekgnogjfggnmaaDoor

namespace Go.Proofs.YtekgnogjfggnmaaDoor
open Go.RowKit Go.Shelf
attribute [local go_sem] Oper.semAt_some

set_option maxRecDepth 100000 in
set_option maxHeartbeats 2000000 in
theorem appendSeqZ_any (w : World) (B g o cap n : Nat) (L : List Nd) (hL : L.length ≤ 1353245080300) (hn : n < L.length) (hT : Tr L) (h : KKeep B g o cap n L w) (hB : B + 1 < w.heap.size) :
    Calls Tryd.prog 52 #[.slice none 0 0, .func (.func 53) #[] #[.pointer (some ⟨B + 1, 0, none⟩), .pointer (some ⟨B, 0, none⟩)]] w fun e W' => (∃ v, e = .returned v ∧ Hid (W'.ownsRow w.heap.size 3 1 v (kidsN L n).length (iv (nI (kidsN L n)))) ∧ Hid (kidsN L n = [] → v = .slice none 0 0)) ∧ Below w.heap.size w W' := by
  obtain ⟨i0, hi, hz0, hz1, hz2⟩ := info_parts info3
  have HT : Hid (Tr L) := hT
  obtain ⟨g1, g2⟩ := hT.good n hn
  have hE : endOf L n ≤ L.length := by unfold endOf; omega
  have HG : Hid (Good L n) := ⟨g1, g2⟩
  clear hT g1 g2
  refine (callsIn_wide (n := 6)).1 ?_
  refine callsIn_of_wp_marks Tryd.func52 rfl trivial ?_ rfl
  simp only [Tryd.ntmps52, List.size_toArray, List.length_cons, List.length_nil, Nat.reduceAdd, Nat.reduceSub, Array.replicate_succ, Array.replicate_zero, List.push_toArray, List.append_toArray, List.nil_append, List.cons_append]
  gi_wp2
  have bO := Boxed.new w 41 (.slice none 0 0)
  have hB0 : Below w.heap.size w (w.alloc (.cells #[.slice none 0 0] 41)) := (Below.refl _ w).alloc (Nat.le_refl _) _
  have kc : KKeep B g o cap n L (w.alloc (.cells #[.slice none 0 0] 41)) := h.below hB0 hB h.lay.lt (by simp)
  refine wpIn_range_guard rfl (by omega) (gf := 53) (lb := #[.pointer (some ⟨B + 1, 0, none⟩), .pointer (some ⟨B, 0, none⟩)]) rfl trivial (enters_of Tryd.func53 (by kernel_rfl) rfl)
    (kids_seq 5 (by omega) B g o cap n L _ hL hn HG.out kc (by simp; omega)) (Below.refl _ _) (fun _ => rfl)
    (fun pre W => ((∃ v, Boxed W w.heap.size 41 v ∧ W.ownsRow w.heap.size 3 1 v pre.length (iv (nI pre)) ∧ (pre = [] → v = .slice none 0 0)) ∧ KCh L n pre) ∧ Below w.heap.size w W)
    (fun _ _ _ => False)
    (OwnFrom.and (Own.from (fun s A B' row hs hg hr => ⟨holdsRow_own w.heap.size w.heap.size 41 3 1 (fun pre : List Nat => pre.length) (fun pre => iv (nI pre)) (fun pre v => pre = [] → v = .slice none 0 0) s A B' row hs.1 hg hr, hs.2⟩) _) (ownFrom_below (Nat.le_refl _) (by simp)))
    (fun _ _ _ _ _ hs _ _ => hs)
    ⟨⟨⟨_, bO, World.ownsRow_nil _ _ _ _, fun _ => rfl⟩, KCh.nil HT.out hn⟩, hB0⟩ (fun pre W hI => h.below hI.2 hB h.lay.lt hI.2.size) (fun pre x W hI => hI.1.2.last pre x rfl)
    (fun x => { tmps := #[.slice none 0 0, .func (.func 53) #[] #[.pointer (some ⟨B + 1, 0, none⟩), .pointer (some ⟨B, 0, none⟩)], .pointer (some ⟨w.heap.size, 0, none⟩), undef, .slice none 0 0, .int .i64 (x : Int), .func (.func 53) #[] #[.pointer (some ⟨B + 1, 0, none⟩), .pointer (some ⟨B, 0, none⟩)], .int .i64 (x : Int), undef, undef, undef, undef, undef], defers := [] }) ?assign ?body ?done ?stop
  case assign =>
    intro l x W K hK
    gi_wp2
    simpa [encK] using hK
  case body =>
    rintro l pre x W ⟨⟨⟨v, hv, hrow, _⟩, hch⟩, hB'⟩ ⟨hx, hxE⟩
    have hc := hv.cell
    have hpl := hch.len
    have hple := hch.le
    have HCH : Hid (KCh L n pre) := hch
    have hsz := hB'.size
    have HX : Hid (x = posK L n pre) := hx
    have hpx : pre.length + n + 1 ≤ x := by omega
    have hxl : x ≤ L.length := by omega
    have HXE : Hid (posK L n pre < endOf L n) := by show _ < _; omega
    clear hch hx hpl hple hxE
    gi_wp2_with (gi_at_builtin; refine wpListIn_append_own _ rfl _ _ 41 rfl w.heap.size 3 i0 (.int .i64 0) 1 8 Tryd.underlying41 hi hz0 hz1 hz2 rfl (by decide) _ _ _ rfl (hrow.alloc _) ⟨W.heap.size, 0, none⟩ 1 1 [.int .i64 (x : Int)] rfl rfl (cell_one_new _ _ _) (by simp [Value.oneCell']) (by unfold maxLen; omega) (by omega) (by simp; omega) ?_; intro v' w1 hown' hgrow _; obtain ⟨g', cap', rfl⟩ := ownsRow_succ hown'; obtain ⟨hv1, hv2, hr2, hk2, hb2⟩ := hv.appended (by decide) hrow hB'.size (Nat.le_refl _) hown' hgrow; have hc1 := hv1.cell; have hf1 := hv1.frozen)
    refine ⟨hk2, ⟨⟨_, hv2, by rw [nI_snoc, List.length_append]; exact hr2, fun h => by simp at h⟩, ?_⟩, hB'.trans hb2⟩
    rw [HX.out]
    exact HCH.out.snoc HT.out hn HXE.out
  case done =>
    rintro D ys W hD hS ⟨⟨⟨v, hv, hrow, hnl⟩, hch⟩, hB'⟩ hK
    have HNL : Hid (ys = [] → v = .slice none 0 0) := hnl
    clear hnl
    have hc := hv.cell
    have HE : Hid (kidsN L n = ys) := hch.done HT.out hn hS
    clear hch hS
    gi_wp2
    refine ⟨by simp, .inl ⟨_, _, rfl, run_takeDeferred hK, ?_⟩⟩
    exact ⟨_, results_tmp rfl _ _ _, ⟨v, rfl, by rw [HE.out]; exact ownsRow_putObj hrow _ hK rfl, by rw [HE.out]; exact HNL⟩, hB'.trans (belowK_b (w := w) (Nat.le_refl _) W D _ _ (by simp at hD; omega) hK rfl rfl)⟩
  case stop =>
    rintro D c pre W _ hF _
    exact hF.elim

set_option maxHeartbeats 400000 in
theorem collectZ_any (w : World) (B g o cap n : Nat) (L : List Nd) (hL : L.length ≤ 1353245080300) (hn : n < L.length) (hT : Tr L) (h : KKeep B g o cap n L w) (hB : B + 1 < w.heap.size) :
    Calls Tryd.prog 34 #[.func (.func 53) #[] #[.pointer (some ⟨B + 1, 0, none⟩), .pointer (some ⟨B, 0, none⟩)]] w fun e W' => (∃ v, e = .returned v ∧ Hid (W'.ownsRow w.heap.size 3 1 v (kidsN L n).length (iv (nI (kidsN L n)))) ∧ Hid (kidsN L n = [] → v = .slice none 0 0)) ∧ Below w.heap.size w W' := by
  have H : Hid (Calls Tryd.prog 52 #[.slice none 0 0, .func (.func 53) #[] #[.pointer (some ⟨B + 1, 0, none⟩), .pointer (some ⟨B, 0, none⟩)]] w fun e W' => (∃ v, e = .returned v ∧ Hid (W'.ownsRow w.heap.size 3 1 v (kidsN L n).length (iv (nI (kidsN L n)))) ∧ Hid (kidsN L n = [] → v = .slice none 0 0)) ∧ Below w.heap.size w W') := appendSeqZ_any w B g o cap n L hL hn hT h hB
  clear h hT
  go_enter Tryd.func34, Tryd.ntmps34
  go_wp2_with (first
    | (go_at_call 52; refine H.out.mono ?_; rintro e w2 ⟨⟨v, rfl, hv, hv0⟩, hb2⟩)
    | go_in)
  go_ret
  exact ⟨⟨v, rfl, hv, hv0⟩, hb2⟩

set_option maxRecDepth 100000 in
set_option maxHeartbeats 1000000 in
theorem kidsZ_any (w : World) (p : Option Addr) (n cap : Nat) (L : List Nd) (N : Int) (h : Reads w p n L) (hk : KwAt w) :
    Calls Tryd.prog 13 #[.agg #[.slice p n cap], .int .i64 N] w fun e W' => (∃ v, e = .returned v ∧ Hid (W'.ownsRow w.heap.size 3 1 v (kidsA L N).length (iv (nI (kidsA L N)))) ∧ Hid (kidsA L N = [] → v = .slice none 0 0)) ∧ Below w.heap.size w W' := by
  obtain ⟨w1, hw1⟩ : ∃ w1, w.alloc (.cells #[.slice p n cap] 24) = w1 := ⟨_, rfl⟩
  have B1 : Hid (Below w.heap.size w w1) := by rw [← hw1]; exact (Below.refl _ w).alloc (Nat.le_refl _) _
  have z1 : w.heap.size < w1.heap.size := by rw [← hw1]; simp
  have c1 : w1.cell? ⟨w.heap.size, 0, none⟩ = some (.slice p n cap) := by rw [← hw1]; exact cell_new _ _ _ _ _ rfl
  have RD : Hid (Reads w1 p n L) := h.next B1.out
  have H : Hid (Calls Tryd.prog 33 #[.agg #[.slice p n cap], .int .i64 N] w1 fun e w' => e = .returned (.bool (hasS L N)) ∧ Below w1.heap.size w1 w') := hasNode_any w1 p n cap L N RD.out (hk.next B1.out)
  clear h hk
  cases hh : hasS L N with
  | false =>
    have HK : Hid (kidsA L N = []) := by show _ = _; unfold kidsA; rw [hh]; rfl
    rw [hh] at H
    clear hh
    go_enter Tryd.func13, Tryd.ntmps13
    go_wp2_with (first
      | (go_at_call 33; refine H.out.mono ?_; rintro e w2 ⟨rfl, hb2⟩)
      | go_in)
    go_ret
    exact ⟨⟨_, rfl, by show World.ownsRow _ _ _ _ _ _ _; rw [HK.out]; exact World.ownsRow_nil _ _ _ _, fun _ => rfl⟩, B1.out.trans (hb2.mono B1.out.size)⟩
  | true =>
    obtain ⟨k, rfl, hkl, ht⟩ := has_tree hh
    have HK : Hid (kidsA L (k : Int) = kidsN L k) := by show _ = _; unfold kidsA; rw [hh, Int.toNat_natCast]; rfl
    rw [hh] at H
    have HT : Hid (Tr L) := tr_of ht
    obtain ⟨hf, hlen, hrd⟩ := RD.out
    have hLb := hf.len
    obtain ⟨g, o, rfl, hl⟩ := hrd (fun e => by rw [e] at hkl; simp at hkl)
    subst hlen
    have HL : Hid (Lay w1 g o L) := hl
    clear hl ht hh hrd
    go_enter Tryd.func13, Tryd.ntmps13
    go_wp2_with (first
      | (go_at_call 33; refine H.out.mono ?_; rintro e w2 ⟨rfl, hb2⟩; have c2 := (hb2.cell (p := ⟨w.heap.size, 0, none⟩) z1).trans c1)
      | (go_at_call 35; refine (kidsOf_any _ _ _ _ _).mono ?_; rintro e w3 ⟨rfl, hw3⟩; have b3 : Below w2.heap.size w2 w3 := (by rw [hw3]; exact ((Below.refl _ w2).alloc (Nat.le_refl _) _).alloc (by simp) _); have kk : Hid (KKeep w2.heap.size g o cap k L w3) := (by rw [hw3]; rw [hw3] at b3; exact ⟨(HL.out.next hb2).next b3, cell_old _ (cell_new _ _ _ _ _ rfl), new_cells _ _ _ _ _ _ (by simp) rfl⟩); have z3 : w2.heap.size + 1 < w3.heap.size := (by rw [hw3]; simp); clear hw3)
      | (go_at_call 34; refine (collectZ_any w3 w2.heap.size g o cap k L hLb hkl HT.out kk.out z3).mono ?_; rintro e w4 ⟨⟨v, rfl, hv, hv0⟩, hb4⟩)
      | go_in)
    go_ret
    have hz : w.heap.size ≤ w3.heap.size := by have := hb2.size; omega
    refine ⟨⟨v, rfl, ?_, by rw [HK.out]; exact hv0⟩, ((B1.out.trans (hb2.mono B1.out.size)).trans (b3.mono (by have := hb2.size; omega))).trans (hb4.mono hz)⟩
    show World.ownsRow _ _ _ _ _ _ _
    rw [HK.out]
    exact own_base hv.out hz

end Go.Proofs.YtekgnogjfggnmaaDoor

namespace Go.Proofs.YtekgnogjfggnmaaDoor
open Go.RowKit

theorem last_at {l : List Int} (h : l ≠ []) : ∃ q x, l = q ++ [x] := ⟨l.dropLast, l.getLast h, (List.dropLast_concat_getLast h).symm⟩

def lenOf : Value → Nat
  | .slice _ n _ => n
  | _ => 0

/-- Some answer. -/
def AnyB (e : Ending) : Prop := ∃ b : Bool, e = .returned (.bool b)
theorem anyB (b : Bool) : AnyB (.returned (.bool b)) := ⟨b, rfl⟩

set_option maxRecDepth 100000 in
set_option maxHeartbeats 1000000 in
/-- Up to that many nodes no list is too deep. -/
theorem deep_small (w : World) (p : Option Addr) (n cap : Nat) (hn : n ≤ 65536) :
    Calls Tryd.prog 6 #[.agg #[.slice p n cap]] w fun e w' => AnyB e ∧ Below w.heap.size w w' := by
  have h0 : ¬ (65536 : Int) < (n : Int) := by omega
  go_enter Tryd.func6, Tryd.ntmps6
  go_wp2
  go_loop [4] (fun v => v = .int .i64 0) (fun _ => 0)
  case atStart => rfl
  case round =>
    subst hrel
    by_cases hp : (0 : Int) < (n : Int)
    · go_wp2
      go_ret
      exact ⟨anyB _, (Below.refl _ _).alloc (Nat.le_refl _) _⟩
    · go_wp2
      go_ret
      exact ⟨anyB _, (Below.refl _ _).alloc (Nat.le_refl _) _⟩

set_option maxRecDepth 100000 in
set_option maxHeartbeats 2000000 in
theorem deep_big (w : World) (g o cap : Nat) (L : List Nd) (hL : L.length ≤ 1353245080300) (hn : 65536 < L.length) (h : Hid (Lay w g o L)) :
    Calls Tryd.prog 6 #[.agg #[.slice (some ⟨g, o, none⟩) L.length cap]] w fun e w' => AnyB e ∧ Below w.heap.size w w' := by
  have h0 : (65536 : Int) < (L.length : Int) := by omega
  obtain ⟨w1, hw1⟩ : ∃ w1, w.alloc (.cells #[.slice (some ⟨g, o, none⟩) L.length cap] 24) = w1 := ⟨_, rfl⟩
  have B1 : Hid (Below w.heap.size w w1) := by rw [← hw1]; exact (Below.refl _ w).alloc (Nat.le_refl _) _
  have c1 : w1.cell? ⟨w.heap.size, 0, none⟩ = some (.slice (some ⟨g, o, none⟩) L.length cap) := by rw [← hw1]; exact cell_new _ _ _ _ _ rfl
  have z1 : w.heap.size < w1.heap.size := by rw [← hw1]; simp
  have L1 : Hid (Lay w1 g o L) := h.out.next B1.out
  go_enter Tryd.func6, Tryd.ntmps6
  go_wp2
  clear hw1 h
  have C1 : Hid (w1.cell? ⟨w.heap.size, 0, none⟩ = some (.slice (some ⟨g, o, none⟩) L.length cap)) := c1
  clear c1
  go_loopw [3, 4] (fun v u wr => ∃ (k : Nat) (l : List Int), k ≤ L.length ∧ u = .int .i64 (k : Int) ∧ l.length ≤ k ∧ l.length ≤ 65536 ∧ Hid (∀ x ∈ l, 0 ≤ x ∧ x ≤ (L.length : Int)) ∧ Hid (wr.ownsRow w1.heap.size 3 1 v l.length (iv l)) ∧ Hid (Below w1.heap.size w1 wr)) (fun _ u _ => L.length - (intOf u).toNat)
  case atStart => exact ⟨0, [], by omega, rfl, by simp, by simp, fun x hx => by simp at hx, World.ownsRow_nil _ _ _ _, Below.refl _ _⟩
  case round =>
    obtain ⟨k, l, hk, rfl, hlk, hl65, hl, ho, hB⟩ := hrel
    have c1 := (hB.out.cell (p := ⟨w.heap.size, 0, none⟩) z1).trans C1.out
    by_cases hlt : k < L.length
    · have j0 : (0 : Int) ≤ (k : Int) := by omega
      have j1 : (k : Int) < (L.length : Int) := by omega
      have d8 := (L1.out.next hB.out).size hlt
      obtain ⟨zz, hzz⟩ : ∃ zz, (nd L k).size = zz := ⟨_, rfl⟩
      rw [hzz] at d8
      clear hzz
      go_upto_region 5 with fail
      go_loop [3] (fun v' => ∃ l' : List Int, l'.length ≤ l.length ∧ Hid (∀ x ∈ l', 0 ≤ x ∧ x ≤ (L.length : Int)) ∧ Hid (wr.ownsRow w1.heap.size 3 1 v' l'.length (iv l'))) (fun v' => lenOf v')
      case atStart => exact ⟨l, Nat.le_refl _, hl, ho⟩
      case round =>
        obtain ⟨l', hll, hl', ho'⟩ := hrel
        clear ho hl
        rcases own_form ho'.out with ⟨rfl, rfl⟩ | ⟨g', cap', rfl, hcl, hcell⟩
        · go_upto_region 7 with fail
          have hcap : 1 ≤ 1073741824 := by omega
          have he0 : (0 : Int) ≤ (L.length : Int) := by omega
          have he1 : (L.length : Int) ≤ (L.length : Int) := by omega
          by_cases hs : zz < (L.length : Int) - (k : Int)
          · by_cases hz1 : zz < 1
            · have hz2 : max zz 1 = 1 := by omega
              go_wp2_with (first
                | (at_builtin; refine wpList_appJ (w0 := w1) (by rfl) _ _ (by rfl) _ ([] : List Int) 1 rfl (by rfl) ho' hB _ _ rfl (by rfl) hcap ?_; intro g2 cap2 w2 ho2 hb2)
                | go_in)
              all_goals first
                | (go_ret; exact ⟨anyB _, B1.out.trans (hb2.out.mono (by omega))⟩)
                | (refine ⟨⟨k + 1, ([] : List Int) ++ [_], by omega, by go_num, by simp only [List.length_append, List.length_cons, List.length_nil]; omega, by simp only [List.length_append, List.length_cons, List.length_nil]; (first | omega | (have := HMM.out; omega)), fun y hy => ?_, ho2, hb2⟩, by simp [intOf]; omega⟩
                   rcases List.mem_append.1 hy with hy | hy
                   · exact hl'.out y hy
                   · rw [List.mem_singleton.1 hy]; omega)
            · have hz2 : max zz 1 = zz := by omega
              go_wp2_with (first
                | (at_builtin; refine wpList_appJ (w0 := w1) (by rfl) _ _ (by rfl) _ ([] : List Int) 1 rfl (by rfl) ho' hB _ _ rfl (by rfl) hcap ?_; intro g2 cap2 w2 ho2 hb2)
                | go_in)
              all_goals first
                | (go_ret; exact ⟨anyB _, B1.out.trans (hb2.out.mono (by omega))⟩)
                | (refine ⟨⟨k + 1, ([] : List Int) ++ [_], by omega, by go_num, by simp only [List.length_append, List.length_cons, List.length_nil]; omega, by simp only [List.length_append, List.length_cons, List.length_nil]; (first | omega | (have := HMM.out; omega)), fun y hy => ?_, ho2, hb2⟩, by simp [intOf]; omega⟩
                   rcases List.mem_append.1 hy with hy | hy
                   · exact hl'.out y hy
                   · rw [List.mem_singleton.1 hy]; omega)
          · go_wp2_with (first
              | (at_builtin; refine wpList_appJ (w0 := w1) (by rfl) _ _ (by rfl) _ ([] : List Int) 1 rfl (by rfl) ho' hB _ _ rfl (by rfl) hcap ?_; intro g2 cap2 w2 ho2 hb2)
              | go_in)
            all_goals first
              | (go_ret; exact ⟨anyB _, B1.out.trans (hb2.out.mono (by omega))⟩)
              | (refine ⟨⟨k + 1, ([] : List Int) ++ [_], by omega, by go_num, by simp only [List.length_append, List.length_cons, List.length_nil]; omega, by simp only [List.length_append, List.length_cons, List.length_nil]; (first | omega | (have := HMM.out; omega)), fun y hy => ?_, ho2, hb2⟩, by simp [intOf]; omega⟩
                 rcases List.mem_append.1 hy with hy | hy
                 · exact hl'.out y hy
                 · rw [List.mem_singleton.1 hy]; omega)

        · by_cases hne : l' = []
          · subst hne
            have HO : Hid (wr.ownsRow w1.heap.size 3 1 (.slice (some ⟨g', 0, none⟩) 0 cap') 0 (iv [])) := ho'
            clear ho' hcell
            go_upto_region 7 with fail
            have hcap : 1 ≤ 1073741824 := by omega
            have he0 : (0 : Int) ≤ (L.length : Int) := by omega
            have he1 : (L.length : Int) ≤ (L.length : Int) := by omega
            by_cases hs : zz < (L.length : Int) - (k : Int)
            · by_cases hz1 : zz < 1
              · have hz2 : max zz 1 = 1 := by omega
                go_wp2_with (first
                  | (at_builtin; refine wpList_appJ (w0 := w1) (by rfl) _ _ (by rfl) _ ([] : List Int) 1 rfl (by rfl) HO hB _ _ rfl (by rfl) hcap ?_; intro g2 cap2 w2 ho2 hb2)
                  | go_in)
                all_goals first
                  | (go_ret; exact ⟨anyB _, B1.out.trans (hb2.out.mono (by omega))⟩)
                  | (refine ⟨⟨k + 1, ([] : List Int) ++ [_], by omega, by go_num, by simp only [List.length_append, List.length_cons, List.length_nil]; omega, by simp only [List.length_append, List.length_cons, List.length_nil]; (first | omega | (have := HMM.out; omega)), fun y hy => ?_, ho2, hb2⟩, by simp [intOf]; omega⟩
                     rcases List.mem_append.1 hy with hy | hy
                     · exact hl'.out y hy
                     · rw [List.mem_singleton.1 hy]; omega)
              · have hz2 : max zz 1 = zz := by omega
                go_wp2_with (first
                  | (at_builtin; refine wpList_appJ (w0 := w1) (by rfl) _ _ (by rfl) _ ([] : List Int) 1 rfl (by rfl) HO hB _ _ rfl (by rfl) hcap ?_; intro g2 cap2 w2 ho2 hb2)
                  | go_in)
                all_goals first
                  | (go_ret; exact ⟨anyB _, B1.out.trans (hb2.out.mono (by omega))⟩)
                  | (refine ⟨⟨k + 1, ([] : List Int) ++ [_], by omega, by go_num, by simp only [List.length_append, List.length_cons, List.length_nil]; omega, by simp only [List.length_append, List.length_cons, List.length_nil]; (first | omega | (have := HMM.out; omega)), fun y hy => ?_, ho2, hb2⟩, by simp [intOf]; omega⟩
                     rcases List.mem_append.1 hy with hy | hy
                     · exact hl'.out y hy
                     · rw [List.mem_singleton.1 hy]; omega)
            · go_wp2_with (first
                | (at_builtin; refine wpList_appJ (w0 := w1) (by rfl) _ _ (by rfl) _ ([] : List Int) 1 rfl (by rfl) HO hB _ _ rfl (by rfl) hcap ?_; intro g2 cap2 w2 ho2 hb2)
                | go_in)
              all_goals first
                | (go_ret; exact ⟨anyB _, B1.out.trans (hb2.out.mono (by omega))⟩)
                | (refine ⟨⟨k + 1, ([] : List Int) ++ [_], by omega, by go_num, by simp only [List.length_append, List.length_cons, List.length_nil]; omega, by simp only [List.length_append, List.length_cons, List.length_nil]; (first | omega | (have := HMM.out; omega)), fun y hy => ?_, ho2, hb2⟩, by simp [intOf]; omega⟩
                   rcases List.mem_append.1 hy with hy | hy
                   · exact hl'.out y hy
                   · rw [List.mem_singleton.1 hy]; omega)

          · obtain ⟨q, x, rfl⟩ := last_at hne
            have hx : wr.cell? ⟨g', q.length, none⟩ = some (.int .i64 x) := hcell q.length x (by simp)
            obtain ⟨x0, x1⟩ := hl'.out x (by simp)
            have hq1 : (q ++ [x]).length = q.length + 1 := by simp
            have HP : Hid (wr.ownsRow w1.heap.size 3 1 (.slice (some ⟨g', 0, none⟩) q.length cap') q.length (iv q)) := by
              have := ho'.out
              rw [iv_app, hq1] at this
              exact ownsRow_pop (by rw [iv_len]; omega) this
            have HLQ : Hid (∀ y ∈ q, 0 ≤ y ∧ y ≤ (L.length : Int)) := fun y hy => hl'.out y (by simp [hy])
            obtain ⟨ql, hql⟩ : ∃ ql, q ++ [x] = ql := ⟨_, rfl⟩
            rw [hql] at ho' hll hcl hl' hq1
            have HO : Hid (wr.ownsRow w1.heap.size 3 1 (.slice (some ⟨g', 0, none⟩) (q.length + 1) cap') ql.length (iv ql)) := by rw [hq1] at ho' ⊢; exact ho'
            have HQL : Hid (ql.length = q.length + 1) := hq1
            rw [hq1] at hll hcl
            rw [hql, hq1]
            clear hcell ho' hne hq1 hql
            obtain ⟨m, hm⟩ : ∃ m, q.length = m := ⟨_, rfl⟩
            rw [hm] at hx HP HO HQL hll hcl ⊢
            have HM : Hid (q.length = m) := hm
            clear hm
            have m0 : (0 : Int) < ((m + 1 : Nat) : Int) := by omega
            by_cases hxk : x ≤ (k : Int)
            · go_wp2
              exact ⟨⟨q, by rw [HM.out]; omega, HLQ, by rw [HM.out]; exact HP⟩, by simp [lenOf]⟩
            · go_upto_region 7 with fail
              clear HP HLQ
              have hql : ql.length ≤ k := by rw [HQL.out]; omega
              obtain ⟨M, hM⟩ : ∃ M, ql.length + 1 = M := ⟨_, rfl⟩
              have HMM : Hid (ql.length + 1 = M) := hM
              have hMk : M ≤ k + 1 := by omega
              have hM65 : M ≤ 65537 := by have := HQL.out; omega
              clear hM
              have hcap : M ≤ 1073741824 := by omega
              have he0 : (0 : Int) ≤ x := by omega
              have he1 : x ≤ (L.length : Int) := by omega
              by_cases hs : zz < x - (k : Int)
              · by_cases hz1 : zz < 1
                · have hz2 : max zz 1 = 1 := by omega
                  go_wp2_with (first
                    | (at_builtin; refine wpList_appJ (w0 := w1) (by rfl) _ _ (by rfl) _ ql M HMM (by rfl) HO hB _ _ rfl (by rfl) hcap ?_; intro g2 cap2 w2 ho2 hb2)
                    | go_in)
                  all_goals first
                    | (go_ret; exact ⟨anyB _, B1.out.trans (hb2.out.mono (by omega))⟩)
                    | (refine ⟨⟨k + 1, ql ++ [_], by omega, by go_num, by simp only [List.length_append, List.length_cons, List.length_nil]; omega, by simp only [List.length_append, List.length_cons, List.length_nil]; (first | omega | (have := HMM.out; omega)), fun y hy => ?_, ho2, hb2⟩, by simp [intOf]; omega⟩
                       rcases List.mem_append.1 hy with hy | hy
                       · exact hl'.out y hy
                       · rw [List.mem_singleton.1 hy]; omega)
                · have hz2 : max zz 1 = zz := by omega
                  go_wp2_with (first
                    | (at_builtin; refine wpList_appJ (w0 := w1) (by rfl) _ _ (by rfl) _ ql M HMM (by rfl) HO hB _ _ rfl (by rfl) hcap ?_; intro g2 cap2 w2 ho2 hb2)
                    | go_in)
                  all_goals first
                    | (go_ret; exact ⟨anyB _, B1.out.trans (hb2.out.mono (by omega))⟩)
                    | (refine ⟨⟨k + 1, ql ++ [_], by omega, by go_num, by simp only [List.length_append, List.length_cons, List.length_nil]; omega, by simp only [List.length_append, List.length_cons, List.length_nil]; (first | omega | (have := HMM.out; omega)), fun y hy => ?_, ho2, hb2⟩, by simp [intOf]; omega⟩
                       rcases List.mem_append.1 hy with hy | hy
                       · exact hl'.out y hy
                       · rw [List.mem_singleton.1 hy]; omega)
              · go_wp2_with (first
                  | (at_builtin; refine wpList_appJ (w0 := w1) (by rfl) _ _ (by rfl) _ ql M HMM (by rfl) HO hB _ _ rfl (by rfl) hcap ?_; intro g2 cap2 w2 ho2 hb2)
                  | go_in)
                all_goals first
                  | (go_ret; exact ⟨anyB _, B1.out.trans (hb2.out.mono (by omega))⟩)
                  | (refine ⟨⟨k + 1, ql ++ [_], by omega, by go_num, by simp only [List.length_append, List.length_cons, List.length_nil]; omega, by simp only [List.length_append, List.length_cons, List.length_nil]; (first | omega | (have := HMM.out; omega)), fun y hy => ?_, ho2, hb2⟩, by simp [intOf]; omega⟩
                     rcases List.mem_append.1 hy with hy | hy
                     · exact hl'.out y hy
                     · rw [List.mem_singleton.1 hy]; omega)

    · obtain rfl : k = L.length := by omega
      go_wp2
      go_ret
      exact ⟨anyB _, B1.out.trans (hB.out.mono (by omega))⟩

end Go.Proofs.YtekgnogjfggnmaaDoor
