/-
  The int's row of the program's table of types.
-/
import Derived.Test.YtdjdanpicbaieaaDoorPlainI
import Derived.Test.YtdjdanpicbaieaaDoorInfo
namespace Go.Proofs.YtdjdanpicbaieaaDoor
open Go.RowKit

theorem infoInt : (Tryd.prog.info? 3).map (fun i => (i.zero, i.size, i.bytes)) = some (some (.int .i64 0), 1, 8) := by kernel_rfl

end Go.Proofs.YtdjdanpicbaieaaDoor
