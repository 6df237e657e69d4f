/-
  What the draws of chapter 2 hand over, whatever bytes they are drawn from: two ints, bytes and a yes or no, some ints and a yes or no; condition: at most 1048576 bytes, each of them one.
-/
import Derived.Test.YtoolfgbghhbjmacDraws
import Derived.Test.YtoolfgbghhbjmacInfoI
namespace Go.Proofs.Ytoolfgbghhbjmac
open Go.RowKit

end Go.Proofs.Ytoolfgbghhbjmac
