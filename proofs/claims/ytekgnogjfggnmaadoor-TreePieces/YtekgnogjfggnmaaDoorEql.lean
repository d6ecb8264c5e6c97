import Derived.Test.YtekgnogjfggnmaaDoorPut
namespace Go.Proofs.YtekgnogjfggnmaaDoor
open Go.RowKit

set_option maxRecDepth 100000 in
theorem eql9 (Kd It kd ps op it zz : Int) (Nm nm lb ty tx : ByteArray) : ∀ w : World,
    (binOp BinOp.eql 36 (.agg #[.int .i64 Kd, .int .i64 ps, .string Nm, .string lb, .string ty, .int .i64 op, .int .i64 It, .string tx, .int .i64 zz]) (.agg #[.int .i64 kd, .int .i64 ps, .string nm, .string lb, .string ty, .int .i64 op, .int .i64 it, .string tx, .int .i64 zz])).run Tryd.prog w = .ok (.bool ((Kd == kd) && (Nm.toList == nm.toList) && (It == it))) w := by
  intro w
  by_cases h1 : Kd = kd <;> by_cases h2 : Nm.toList = nm.toList <;> by_cases h3 : It = it <;> simp [go_sem, h1, h2, h3]

end Go.Proofs.YtekgnogjfggnmaaDoor
