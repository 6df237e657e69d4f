/-
  The byte's row of the program's table of types.
-/
import Derived.Test.YtdjdanpicbaieaaDoorPlain
import Derived.Test.YtdjdanpicbaieaaDoorChecked
import Derived.Deep.QuietTactic
import Derived.BigQuiet
namespace Go.Proofs.YtdjdanpicbaieaaDoor
open Go.RowKit

theorem infoByte : (Tryd.prog.info? 5).map (fun i => (i.zero, i.size, i.bytes)) = some (some (.int .u8 0), 1, 1) := by kernel_rfl

end Go.Proofs.YtdjdanpicbaieaaDoor
