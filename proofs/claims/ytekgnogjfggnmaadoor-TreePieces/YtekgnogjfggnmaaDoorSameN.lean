import Derived.Test.YtekgnogjfggnmaaDoorSub
import Derived.Deep.QuietTactic
import Derived.BigQuiet
namespace Go.Proofs.YtekgnogjfggnmaaDoor
open Go.RowKit

theorem belowN (w : World) : ∀ n : Nat, Below w.heap.size w (w.drewN n)
  | 0 => Below.refl _ w
  | n + 1 => (belowN w n).drew

set_option maxRecDepth 100000 in
theorem neq9 (kd ps op it zz : Int) (nm lb ty tx : ByteArray) : ∀ w : World,
    (binOp BinOp.neq 36 (.agg #[.int .i64 kd, .int .i64 ps, .string nm, .string lb, .string ty, .int .i64 op, .int .i64 it, .string tx, .int .i64 zz]) (.agg #[.int .i64 kd, .int .i64 ps, .string nm, .string lb, .string ty, .int .i64 op, .int .i64 it, .string tx, .int .i64 zz])).run Tryd.prog w = .ok (.bool false) w := by
  intro w
  simp [go_sem]

set_option maxRecDepth 100000 in
set_option maxHeartbeats 1000000 in
/-- sameNodes of two slices that read as one list. -/
theorem sameN_any (w : World) (g o cap g' o' cap' : Nat) (S : List Nd) (hS : S.length ≤ 1353245080300) (ha : Hid (Lay w g o S)) (hb : Hid (Lay w g' o' S)) :
    Calls Tryd.prog 24 #[.slice (some ⟨g, o, none⟩) S.length cap, .slice (some ⟨g', o', none⟩) S.length cap'] w fun e w' => e = .returned (.bool true) ∧ Below w.heap.size w w' := by
  go_enter Tryd.func24, Tryd.ntmps24
  go_wp2
  go_loopw [5] (fun v wr => ∃ k : Nat, k ≤ S.length ∧ v = .int .i64 (k : Int) ∧ Hid (Below w.heap.size w wr)) (fun v _ => S.length - (intOf v).toNat)
  case atStart => exact ⟨0, by omega, rfl, Below.refl _ _⟩
  case round =>
    obtain ⟨k, hk, rfl, hB⟩ := hrel
    by_cases hlt : k < S.length
    · have j0 : (0 : Int) ≤ (k : Int) := by omega
      have j1 : (k : Int) < (S.length : Int) := by omega
      have dA := (ha.out.next hB.out).c k hlt
      have dB := (hb.out.next hB.out).c k hlt
      obtain ⟨x, hx⟩ : ∃ x, nd S k = x := ⟨_, rfl⟩
      rw [hx] at dA dB
      clear hx
      obtain ⟨kd, ps, nm, lb, ty, op, it, tx, zz⟩ := x
      have hne := neq9 kd ps op it zz nm lb ty tx
      have a0 : wr.cell? ⟨g, o + k * 9, none⟩ = some (.int .i64 kd) := dA 0 _ rfl
      have a1 : wr.cell? ⟨g, o + k * 9 + 1, none⟩ = some (.int .i64 ps) := dA 1 _ rfl
      have a2 : wr.cell? ⟨g, o + k * 9 + 2, none⟩ = some (.string nm) := dA 2 _ rfl
      have a3 : wr.cell? ⟨g, o + k * 9 + 3, none⟩ = some (.string lb) := dA 3 _ rfl
      have a4 : wr.cell? ⟨g, o + k * 9 + 4, none⟩ = some (.string ty) := dA 4 _ rfl
      have a5 : wr.cell? ⟨g, o + k * 9 + 5, none⟩ = some (.int .i64 op) := dA 5 _ rfl
      have a6 : wr.cell? ⟨g, o + k * 9 + 6, none⟩ = some (.int .i64 it) := dA 6 _ rfl
      have a7 : wr.cell? ⟨g, o + k * 9 + 7, none⟩ = some (.string tx) := dA 7 _ rfl
      have a8 : wr.cell? ⟨g, o + k * 9 + 8, none⟩ = some (.int .i64 zz) := dA 8 _ rfl
      have b0 : wr.cell? ⟨g', o' + k * 9, none⟩ = some (.int .i64 kd) := dB 0 _ rfl
      have b1 : wr.cell? ⟨g', o' + k * 9 + 1, none⟩ = some (.int .i64 ps) := dB 1 _ rfl
      have b2 : wr.cell? ⟨g', o' + k * 9 + 2, none⟩ = some (.string nm) := dB 2 _ rfl
      have b3 : wr.cell? ⟨g', o' + k * 9 + 3, none⟩ = some (.string lb) := dB 3 _ rfl
      have b4 : wr.cell? ⟨g', o' + k * 9 + 4, none⟩ = some (.string ty) := dB 4 _ rfl
      have b5 : wr.cell? ⟨g', o' + k * 9 + 5, none⟩ = some (.int .i64 op) := dB 5 _ rfl
      have b6 : wr.cell? ⟨g', o' + k * 9 + 6, none⟩ = some (.int .i64 it) := dB 6 _ rfl
      have b7 : wr.cell? ⟨g', o' + k * 9 + 7, none⟩ = some (.string tx) := dB 7 _ rfl
      have b8 : wr.cell? ⟨g', o' + k * 9 + 8, none⟩ = some (.int .i64 zz) := dB 8 _ rfl
      clear dA dB
      go_wp2
      go_quiet (fail)
      go_wp2
      exact ⟨⟨k + 1, by omega, by go_num, hB.out.trans ((belowN wr nq).mono hB.out.size)⟩, by simp [intOf]; omega⟩
    · obtain rfl : k = S.length := by omega
      go_wp2
      go_ret
      exact ⟨rfl, hB.out⟩

end Go.Proofs.YtekgnogjfggnmaaDoor
