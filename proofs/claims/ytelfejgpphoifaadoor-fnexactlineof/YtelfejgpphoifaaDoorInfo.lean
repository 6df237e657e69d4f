/-
  The byte's row of the program's table of types.
-/
import Derived.Test.YtelfejgpphoifaaDoorPlain
import Derived.Test.YtelfejgpphoifaaDoorChecked
import Derived.Deep.QuietTactic
import Derived.BigQuiet
namespace Go.Proofs.YtelfejgpphoifaaDoor
open Go.RowKit
set_option maxRecDepth 100000

theorem infoByte : (Tryd.prog.info? 5).map (fun i => (i.zero, i.size, i.bytes)) = some (some (.int .u8 0), 1, 1) := by kernel_rfl

end Go.Proofs.YtelfejgpphoifaaDoor
