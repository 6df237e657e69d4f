/-
  The int's row of the program's table of types.
-/
import Derived.Test.YtelfejgpphoifaaDoorPlainI
import Derived.Test.YtelfejgpphoifaaDoorInfo
namespace Go.Proofs.YtelfejgpphoifaaDoor
open Go.RowKit
set_option maxRecDepth 100000

theorem infoInt : (Tryd.prog.info? 3).map (fun i => (i.zero, i.size, i.bytes)) = some (some (.int .i64 0), 1, 8) := by kernel_rfl

end Go.Proofs.YtelfejgpphoifaaDoor
