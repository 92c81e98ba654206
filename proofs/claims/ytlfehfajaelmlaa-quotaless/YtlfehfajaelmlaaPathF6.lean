/- The contracts of slices.Grow (of nothing) and slices.Concat, at strings. -/
import Derived.Test.YtlfehfajaelmlaaPathF5
namespace Go.Proofs.Ytlfehfajaelmlaa
open Go.RowKit

/-- The lists of SS, the first k of them together. -/
def catS (SS : Nat → List ByteArray) : Nat → List ByteArray
  | 0 => []
  | k + 1 => catS SS k ++ SS k

end Go.Proofs.Ytlfehfajaelmlaa
