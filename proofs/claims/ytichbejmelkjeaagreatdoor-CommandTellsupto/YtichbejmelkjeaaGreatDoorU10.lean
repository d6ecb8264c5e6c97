import Derived.Lib.QuietBelow
import Derived.BigQuiet
import Derived.Test.YtichbejmelkjeaaGreatDoorU08
namespace Go.Proofs.YtichbejmelkjeaaGreatDoor.Vs
open Go.RowKit

theorem ix_run (a : ByteArray) (j : Nat) (h : j < a.size) : ∀ w : World, (Instr.index 9 (.string a) (.int .i64 (j : Int))).run Tryz.prog w = .ok (.int .u8 ((a[j]).toNat : Int)) w := by
  intro w
  have h1 : (j : Int) < (a.size : Int) := by omega
  simp [Instr.index, asIntOf, go_sem, h]
theorem drop_at (a : ByteArray) (j : Nat) (h : j < a.size) : a.data.toList.drop j = a[j] :: a.data.toList.drop (j + 1) := by
  rw [List.drop_eq_getElem_cons (by rw [Array.length_toList]; exact h)]
  rfl


end Go.Proofs.YtichbejmelkjeaaGreatDoor.Vs
