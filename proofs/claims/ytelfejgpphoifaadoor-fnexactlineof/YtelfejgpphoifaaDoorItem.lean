/-
  The laws' own functions of an item: its size, a copy, whether two are the same; conditions: bytes that lie there.
-/
import Derived.Test.YtelfejgpphoifaaDoorEq
import Derived.Test.YtelfejgpphoifaaDoorTo
import Derived.Test.YtelfejgpphoifaaDoorMarks
import Derived.Test.YtelfejgpphoifaaDoorCells
namespace Go.Proofs.YtelfejgpphoifaaDoor
open Go.RowKit
set_option maxRecDepth 100000

theorem below_drewL {a w : World} (h : Below a.heap.size a w) : Below a.heap.size a w.drew := h.drew

theorem str_ne {s s' : ByteArray} (h : s ≠ s') : (s.toList == s'.toList) = false := by
  rw [beq_eq_false_iff_ne]
  intro e
  rw [ByteArray.toList_eq, ByteArray.toList_eq] at e
  exact h (ByteArray.ext (Array.toList_inj.1 e))

/-- What is left of a room by an item. -/
def szI (s : ByteArray) (n : Nat) (l : Int) : Int := if (s.size : Int) + n ≤ l then l - s.size - n else -1

end Go.Proofs.YtelfejgpphoifaaDoor
