/-
  What the laws' helpers that mark bytes do: markByteS lays its marks, heldByteS finds them; conditions: at most 2^40 bytes, marks from 0 to 2^40.
-/
import Derived.Test.YtggbmpgpopenoabEq
namespace Go.Proofs.Ytggbmpgpopenoab
open Go.RowKit
set_option maxRecDepth 100000

end Go.Proofs.Ytggbmpgpopenoab
