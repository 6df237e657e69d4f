/-
  What the specification's l8Add and l8Sub answer: each part with its fellow. Condition: parts that are not too great.
-/
import Derived.Test.YtoolfgbghhbjmanFieldRow
namespace Go.Proofs.Ytoolfgbghhbjman
open Go.RowKit

def addZK (f g : Nat → Int) (k i : Nat) : Int := if i < k then f i + g i else f i

def subZK (f g : Nat → Int) (k i : Nat) : Int := if i < k then f i - g i else f i

end Go.Proofs.Ytoolfgbghhbjman
