/-
  The byte's row of the program's table of types.
-/
import Derived.Test.YtkkaipeklbhliaaPlain
import Derived.Test.YtkkaipeklbhliaaChecked
import Derived.Deep.QuietTactic
import Derived.BigQuiet
namespace Go.Proofs.Ytkkaipeklbhliaa
open Go.RowKit
set_option maxRecDepth 100000

theorem infoByte : (Try.prog.info? 5).map (fun i => (i.zero, i.size, i.bytes)) = some (some (.int .u8 0), 1, 1) := by kernel_rfl

end Go.Proofs.Ytkkaipeklbhliaa
