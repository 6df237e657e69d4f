/-
  The int's row of the program's table of types.
-/
import Derived.Test.YtaijemajolgmfabDoorPlainI
import Derived.Test.YtaijemajolgmfabDoorInfo
namespace Go.Proofs.YtaijemajolgmfabDoor
open Go.RowKit

theorem infoInt : (Tryd.prog.info? 3).map (fun i => (i.zero, i.size, i.bytes)) = some (some (.int .i64 0), 1, 8) := by kernel_rfl

end Go.Proofs.YtaijemajolgmfabDoor
