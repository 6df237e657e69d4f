/-
  What the specification's l8Inv answers: a number to the power p less 2, as parts. Condition: parts that are not too great.
-/
import Derived.Test.YtoolfgbghhbjmamSpecMul
namespace Go.Proofs.Ytoolfgbghhbjmam
open Go.RowKit

end Go.Proofs.Ytoolfgbghhbjmam
