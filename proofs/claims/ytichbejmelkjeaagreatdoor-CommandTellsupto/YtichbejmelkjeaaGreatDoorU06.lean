import Derived.Test.YtichbejmelkjeaaGreatDoorProg
import Derived.Deep.MidRow
import Derived.Test.YtichbejmelkjeaaGreatDoorU00
import Derived.Test.YtichbejmelkjeaaGreatDoorU02
namespace Go.Proofs.YtichbejmelkjeaaGreatDoor.Lx
open Go.RowKit

def kwCells : List Value := kws.map fun s => Value.string s
def kwAgg : Value := .agg kwCells.toArray

set_option maxRecDepth 100000 in
theorem kw_idx (k : Nat) (hk : k < 20) : ∀ w : World, (Instr.index 154 kwAgg (.int .i64 (k : Int))).run Tryz.prog w = .ok (.string (kws.getD k ByteArray.empty)) w := by
  have h : k = 0 ∨ k = 1 ∨ k = 2 ∨ k = 3 ∨ k = 4 ∨ k = 5 ∨ k = 6 ∨ k = 7 ∨ k = 8 ∨ k = 9 ∨ k = 10 ∨ k = 11 ∨ k = 12 ∨ k = 13 ∨ k = 14 ∨ k = 15 ∨ k = 16 ∨ k = 17 ∨ k = 18 ∨ k = 19 := by omega
  rcases h with rfl | rfl | rfl | rfl | rfl | rfl | rfl | rfl | rfl | rfl | rfl | rfl | rfl | rfl | rfl | rfl | rfl | rfl | rfl | rfl
  all_goals exact fun w => by kernel_rfl

theorem gKw : Tryz.prog.globalNamed "retrace/lex.keywords" = some 12 := by kernel_rfl
theorem kwInfo : (Tryz.prog.info? 154).map (·.size) = some kwCells.length := by kernel_rfl
set_option maxRecDepth 100000 in
theorem kw_range {w : World} (h : StrIs Tryz.prog w "retrace/lex.keywords" kws) : w.rangeAt 12 0 kwCells := by
  intro j v hv
  have hj : j < kws.length := by have := (List.getElem?_eq_some_iff.1 hv).1; simpa [kwCells] using this
  rw [Nat.zero_add, h.cell gKw j hj]
  simp only [kwCells, List.getElem?_map, List.getElem?_eq_getElem hj, Option.map_some, Option.some.injEq] at hv
  rw [← hv, List.getD_eq_getElem?_getD, List.getElem?_eq_getElem hj]
  rfl

theorem kw_none {s : ByteArray} (h : ∀ j, j < 20 → ((kws.getD j ByteArray.empty).data.toList == s.data.toList) = false) : kw s = false := by
  unfold kw
  rw [List.any_eq_false]
  intro x hx
  obtain ⟨j, hj, rfl⟩ := List.getElem_of_mem hx
  have := h j hj
  rw [List.getD_eq_getElem?_getD, List.getElem?_eq_getElem hj] at this
  simpa using this
theorem kw_some {s : ByteArray} (j : Nat) (hj : j < 20) (h : ((kws.getD j ByteArray.empty).data.toList == s.data.toList) = true) : kw s = true := by
  unfold kw
  rw [List.any_eq_true]
  refine ⟨kws[j]'hj, List.getElem_mem _, ?_⟩
  rw [List.getD_eq_getElem?_getD, List.getElem?_eq_getElem hj] at h
  exact h

theorem toL (s : ByteArray) : s.toList = s.data.toList := ByteArray.toList_eq s
theorem toL_eq {s x : ByteArray} (h : (s.toList == x.toList) = true) : (x.data.toList == s.data.toList) = true := by rw [toL, toL] at h; simpa using (eq_of_beq h).symm
theorem toL_ne {s x : ByteArray} (h : (s.toList == x.toList) = false) : (x.data.toList == s.data.toList) = false := by rw [toL, toL] at h; rw [beq_eq_false_iff_ne] at h ⊢; exact fun e => h e.symm
theorem toL_eq' {s x : ByteArray} (h : (x.toList == s.toList) = true) : (x.data.toList == s.data.toList) = true := by rw [toL, toL] at h; exact h
theorem toL_ne' {s x : ByteArray} (h : (x.toList == s.toList) = false) : (x.data.toList == s.data.toList) = false := by rw [toL, toL] at h; exact h

set_option maxRecDepth 100000 in
set_option maxHeartbeats 400000 in
theorem keyword_r (s : ByteArray) (w : World) (hr : w.rangeAt 12 0 kwCells) :
    Calls Tryz.prog 110 #[.string s] w fun e w' => e = .returned (.bool (kw s)) ∧ w' = w := by
  have HR : Hid (w.rangeAt 12 0 kwCells) := hr
  clear hr
  go_enter Tryz.func110, Tryz.ntmps110
  go_wp2_with (first | (refine wpList_load_mid (by rfl) 154 (.global 12) (by rfl) 12 0 (by rfl) kwCells _ HR.out Tryz.underlying154 (by rfl) kwInfo ?_) | go_in)
  go_loop [6] (fun i => ∃ k : Nat, k ≤ 20 ∧ i = .int .i64 (k : Int) ∧ Hid (∀ j, j < k → ((kws.getD j ByteArray.empty).data.toList == s.data.toList) = false)) (fun i => 20 - (intOf i).toNat)
  case atStart => exact ⟨0, by omega, rfl, fun j hj => by omega⟩
  case round =>
    obtain ⟨k, hk, rfl, hn⟩ := hrel
    by_cases hlt : k < 20
    · have hi := kw_idx k hlt
      unfold kwAgg at hi
      obtain ⟨x, hx⟩ : ∃ x, x = kws.getD k ByteArray.empty := ⟨_, rfl⟩
      rw [← hx] at hi
      have HX : Hid (x = kws.getD k ByteArray.empty) := hx
      clear hx
      go_wp2
      · have h1 : (s.toList == x.toList) = true := by assumption
        have hk1 : kw s = true := kw_some k hlt (by rw [← HX.out]; exact toL_eq h1)
        rw [hk1]
        go_ret
        exact ⟨rfl, rfl⟩
      · have h1 : (s.toList == x.toList) = false := by assumption
        refine ⟨⟨k + 1, by omega, by go_num, fun j hj => ?_⟩, by simp [intOf]; omega⟩
        by_cases hjk : j < k
        · exact hn.out j hjk
        · obtain rfl : j = k := by omega
          rw [← HX.out]
          exact toL_ne h1
    · obtain rfl : k = 20 := by omega
      have hk1 : kw s = false := kw_none hn.out
      have HK : Hid (kw s = false) := hk1
      clear hk1
      go_wp2
      rw [HK.out]
      go_ret
      exact ⟨rfl, rfl⟩

theorem keyword_any (s : ByteArray) (w : World) (hk : StrIs Tryz.prog w "retrace/lex.keywords" kws) :
    Calls Tryz.prog 110 #[.string s] w fun e w' => e = .returned (.bool (kw s)) ∧ w' = w := keyword_r s w (kw_range hk)

end Go.Proofs.YtichbejmelkjeaaGreatDoor.Lx
