/-
  What the specification's l8Mul answers: the product of two numbers, carried twice. Condition: parts that are not too great.
-/
import Derived.Test.YtoolfgbghhbjmamFieldOf
namespace Go.Proofs.Ytoolfgbghhbjmam
open Go.RowKit

end Go.Proofs.Ytoolfgbghhbjmam
