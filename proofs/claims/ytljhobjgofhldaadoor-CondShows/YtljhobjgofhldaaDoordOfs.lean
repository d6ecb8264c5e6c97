import Derived.Test.YtljhobjgofhldaaDoordBox
import Derived.Test.YtljhobjgofhldaaDoorShA
namespace Go.Proofs.YtljhobjgofhldaaDoor
open Go.RowKit

set_option maxHeartbeats 400000 in
theorem clone_any (s : ByteArray) (w : World) (hs : s.size ≤ 281474976710656) : Calls Tryd.prog 32 #[.string s] w fun e w' => e = .returned (.string s) ∧ Below w.heap.size w w' := by
  go_enter Tryd.func32, Tryd.ntmps32
  go_wp2_with (go_at_call 38; refine (Tryd.stringslite_Clone s w hs).mono ?_; rintro e w1 ⟨rfl, hb1⟩)
  go_ret
  exact ⟨rfl, hb1⟩

/-- is tells whether a value may be and is of that kind. -/
def isS (k n : Int) (s : ByteArray) (K : Int) : Bool := k == K && okV k n s
end Go.Proofs.YtljhobjgofhldaaDoor
