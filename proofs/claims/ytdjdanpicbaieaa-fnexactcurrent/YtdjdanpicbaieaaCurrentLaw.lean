/-
  FnExactCurrent returns true for any two ints, and writes nothing that was there.
-/
import Derived.Test.YtdjdanpicbaieaaRows
import Derived.Test.YtdjdanpicbaieaaPlain
namespace Go.Proofs.Ytdjdanpicbaieaa
open Go.RowKit

/-- What both sides' Current answers. -/
def curB (a b : Int) : Bool := decide ((0 ≤ a ∧ a ≤ 40) ∧ (0 ≤ b ∧ b ≤ 40) ∧ (b = a ∨ b = a - 1))
theorem curB_is {a b : Int} {x : Bool} (h : x = true ↔ (0 ≤ a ∧ a ≤ 40) ∧ (0 ≤ b ∧ b ≤ 40) ∧ (b = a ∨ b = a - 1)) : Ending.returned (.bool x) = .returned (.bool (curB a b)) := by
  rw [show x = curB a b from Bool.eq_iff_iff.2 (by rw [h, curB, decide_eq_true_iff])]

set_option maxHeartbeats 1000000 in
theorem specCurrent_any (a b : Int) (w : World) :
    Calls Try.prog 4 #[.int .i64 a, .int .i64 b] w fun e w' => e = .returned (.bool (curB a b)) ∧ Below w.heap.size w w' := by
  go_enter Try.func4, Try.ntmps4
  go_wp2
  all_goals
    go_ret
    exact ⟨curB_is (by simp; try omega), Below.refl _ _⟩

set_option maxHeartbeats 1000000 in
theorem implCurrent_any (a b : Int) (w : World) :
    Calls Try.prog 5 #[.int .i64 a, .int .i64 b] w fun e w' => e = .returned (.bool (curB a b)) ∧ Below w.heap.size w w' := by
  go_enter Try.func5, Try.ntmps5
  go_wp2
  all_goals
    go_ret
    exact ⟨curB_is (by simp; try omega), Below.refl _ _⟩

theorem current_law (a b : Int) (w : World) :
    Calls Try.prog 3 #[.int .i64 a, .int .i64 b] w fun e w' => e = .returned (.bool true) ∧ Below w.heap.size w w' := by
  have hs := fun w => specCurrent_any a b w
  have hi := fun w => implCurrent_any a b w
  generalize curB a b = r at hs hi
  have hd : (r != r) = false := by simp
  go_enter Try.func3, Try.ntmps3
  go_wp2_with (fail)
  refine (hs _).mono ?_
  rintro e w1 ⟨rfl, b1⟩
  go_wp2_with (fail)
  refine (hi _).mono ?_
  rintro e w2 ⟨rfl, b2⟩
  go_wp2
  go_ret
  exact ⟨rfl, below_on b1 b2⟩

end Go.Proofs.Ytdjdanpicbaieaa
