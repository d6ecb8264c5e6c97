import Derived.Sort.Walk0
import Derived.RowKit
import Derived.Lib.Strings
namespace Go.Proofs.YtdcioemjmmhbhaaDoor
open Go.RowKit

abbrev e0 : ByteArray := ⟨#[]⟩
/-- May it be? -/
def okV (k n : Int) (s : ByteArray) : Bool :=
  if k = 0 then n == 0 && s.toList == [] else if k = 1 then s.toList == [] else if k = 2 then (n == 0 || n == 1) && s.toList == []
  else if k = 3 then n == 0 && decide (s.size ≤ 256) else if k = 4 then decide (0 ≤ n) && s.toList == [] else false

theorem e0_list : e0.toList = [] := by simp [e0, ByteArray.toList_eq]
theorem eq_e0 {s : ByteArray} (h : s.toList = []) : s = e0 := by
  rw [ByteArray.toList_eq] at h
  obtain ⟨⟨l⟩⟩ := s
  simp only at h
  subst h
  rfl
end Go.Proofs.YtdcioemjmmhbhaaDoor
