/-
  The laws' own functions of an item: its size, a copy, whether two are the same; conditions: bytes that lie there.
-/
import Derived.Test.YtkdbcplcpcdnbaaEq
import Derived.Test.YtkdbcplcpcdnbaaTo
import Derived.Test.YtkdbcplcpcdnbaaMarks
import Derived.Test.YtkdbcplcpcdnbaaCells
namespace Go.Proofs.Ytkdbcplcpcdnbaa
open Go.RowKit
set_option maxRecDepth 100000

theorem szByteS_any (p : Option Addr) (n c : Nat) (l : Int) (w : World) (hn : n ≤ 9223372036854775807) (hl : 0 ≤ l ∧ l ≤ 1048576) :
    Calls Try.prog 60 #[.slice p n c, .int .i64 l] w fun e w' => e = .returned (.int .i64 (if (n : Int) ≤ l then l - n else -1)) ∧ Below w.heap.size w w' := by
  by_cases h : (n : Int) ≤ l
  · rw [if_pos h]
    go_enter Try.func60, Try.ntmps60
    go_wp2_with (fail)
    go_ret
    exact ⟨rfl, .refl _ _⟩
  · rw [if_neg h]
    go_enter Try.func60, Try.ntmps60
    go_wp2_with (fail)
    go_ret
    exact ⟨rfl, .refl _ _⟩

theorem below_drewL {a w : World} (h : Below a.heap.size a w) : Below a.heap.size a w.drew := h.drew

theorem str_ne {s s' : ByteArray} (h : s ≠ s') : (s.toList == s'.toList) = false := by
  rw [beq_eq_false_iff_ne]
  intro e
  rw [ByteArray.toList_eq, ByteArray.toList_eq] at e
  exact h (ByteArray.ext (Array.toList_inj.1 e))

/-- What is left of a room by an item. -/
def szI (s : ByteArray) (n : Nat) (l : Int) : Int := if (s.size : Int) + n ≤ l then l - s.size - n else -1

end Go.Proofs.Ytkdbcplcpcdnbaa
