/-
  The int's row of the program's table of types.
-/
import Derived.Test.YtghoibggmddkmanPlainI
import Derived.Test.YtghoibggmddkmanInfo
namespace Go.Proofs.Ytghoibggmddkman
open Go.RowKit

theorem infoInt : (Try.prog.info? 3).map (fun i => (i.zero, i.size, i.bytes)) = some (some (.int .i64 0), 1, 8) := by kernel_rfl

end Go.Proofs.Ytghoibggmddkman
