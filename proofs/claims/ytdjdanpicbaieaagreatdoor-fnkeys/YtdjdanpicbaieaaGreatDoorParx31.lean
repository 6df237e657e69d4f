/-
  FnExactCurrent returns true for any two ints, and writes nothing that was there.
-/
import Derived.Test.YtdjdanpicbaieaaGreatDoorRows
import Derived.Test.YtdjdanpicbaieaaGreatDoorParx01
namespace Go.Proofs.YtdjdanpicbaieaaGreatDoor
open Go.RowKit
set_option maxRecDepth 100000

/-- What both sides' Current answers. -/
def curB (a b : Int) : Bool := decide ((0 ≤ a ∧ a ≤ 40) ∧ (0 ≤ b ∧ b ≤ 40) ∧ (b = a ∨ b = a - 1))
theorem curB_is {a b : Int} {x : Bool} (h : x = true ↔ (0 ≤ a ∧ a ≤ 40) ∧ (0 ≤ b ∧ b ≤ 40) ∧ (b = a ∨ b = a - 1)) : Ending.returned (.bool x) = .returned (.bool (curB a b)) := by
  rw [show x = curB a b from Bool.eq_iff_iff.2 (by rw [h, curB, decide_eq_true_iff])]

set_option maxHeartbeats 1000000 in
theorem specCurrent_any (a b : Int) (w : World) :
    Calls Tryz.prog 18 #[.int .i64 a, .int .i64 b] w fun e w' => e = .returned (.bool (curB a b)) ∧ Below w.heap.size w w' := by
  go_enter Tryz.func18, Tryz.ntmps18
  go_wp2
  all_goals
    go_ret
    exact ⟨curB_is (by simp; try omega), Below.refl _ _⟩

set_option maxHeartbeats 1000000 in
theorem implCurrent_any (a b : Int) (w : World) :
    Calls Tryz.prog 17 #[.int .i64 a, .int .i64 b] w fun e w' => e = .returned (.bool (curB a b)) ∧ Below w.heap.size w w' := by
  go_enter Tryz.func17, Tryz.ntmps17
  go_wp2
  all_goals
    go_ret
    exact ⟨curB_is (by simp; try omega), Below.refl _ _⟩

end Go.Proofs.YtdjdanpicbaieaaGreatDoor
