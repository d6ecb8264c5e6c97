import Derived.Test.YtfghajokmmlijaaTextsA
import Derived.Test.YtfghajokmmlijaaTextsB
import Derived.Test.YtfghajokmmlijaaTextsC
import Derived.Test.YtfghajokmmlijaaTextsD
namespace Go.Proofs.Ytfghajokmmlijaa
open Go.RowKit

theorem texts_any (op kd k n : Int) (s : ByteArray) (k' n' : Int) (s' : ByteArray) (k2 n2 : Int) (s2 : ByteArray) (w : World) (hs : s.size ≤ 9223372036854775807) (hs' : s'.size ≤ 9223372036854775807) (hs2 : s2.size ≤ 9223372036854775807) :
    Calls Try.prog 3 #[.agg #[.int .i64 op, .int .i64 kd, .int .i64 k, .int .i64 n, .string s, .int .i64 k', .int .i64 n', .string s', .int .i64 k2, .int .i64 n2, .string s2]] w fun e w' => e = .returned (.bool true) ∧ Below w.heap.size w w' := by
  by_cases h1 : 256 < (cutS s).size + (cutS s').size
  · exact texts_long op kd k n s k' n' s' k2 n2 s2 w hs hs' hs2 _ _ _ rfl rfl rfl h1
  by_cases h2 : 256 < (cutS s').size + (cutS s2).size
  · exact texts_b op kd k n s k' n' s' k2 n2 s2 w hs hs' hs2 _ _ _ rfl rfl rfl (by omega) h2
  by_cases h3 : (cutS s).size + (cutS s').size + (cutS s2).size ≤ 256
  · exact texts_c op kd k n s k' n' s' k2 n2 s2 w hs hs' hs2 _ _ _ rfl rfl rfl (by omega) (by omega) h3
  · exact texts_d op kd k n s k' n' s' k2 n2 s2 w hs hs' hs2 _ _ _ rfl rfl rfl (by omega) (by omega) (by omega)
end Go.Proofs.Ytfghajokmmlijaa
