import Derived.Sort.QuietIn
import Derived.OwnWalkIn
namespace Go.Proofs.YtekgnogjfggnmaaGreatDoor
section
variable {F : Fence} {n : Nat} {P : Program} {ops : Array Oper} {md : Region.Mode} {C : World → Prop}
end
end Go.Proofs.YtekgnogjfggnmaaGreatDoor
