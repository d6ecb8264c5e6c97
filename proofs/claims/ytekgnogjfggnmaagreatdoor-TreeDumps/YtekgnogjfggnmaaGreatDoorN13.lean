import Derived.OneCell
import Derived.Test.YtekgnogjfggnmaaGreatDoorN12
namespace Go.Proofs.YtekgnogjfggnmaaGreatDoor.ApI
open Go.RowKit
section
variable {P : Program} {w : World} {base : Nat} {e : TypeId}
theorem own_head {g n m cap : Nat} {xs ys : List Value} (h : w.ownsRow base e 1 (.slice (some ⟨g, 0, none⟩) m cap) m ys) (hnm : n ≤ m) (hx : xs = ys.take n) (hlen : xs.length = n) : w.ownsRow base e 1 (.slice (some ⟨g, 0, none⟩) n cap) n xs := by
 rcases h.2 with ⟨hv, _⟩ | ⟨g', cap', cur, hv, hb, hg, hnc, hcm, hcs, htake⟩
 ·simp at hv
 ·simp only [Value.slice.injEq, Option.some.injEq, Addr.mk.injEq] at hv
  obtain ⟨⟨rfl, _⟩, _, rfl⟩ := hv
  refine ⟨by rw [hlen]; omega, Or.inr ⟨g, cap, cur, rfl, hb, hg, by omega, hcm, hcs, ?_⟩⟩
  rw [hx, ← htake, List.take_take]
  congr 1
  omega
end
end Go.Proofs.YtekgnogjfggnmaaGreatDoor.ApI
