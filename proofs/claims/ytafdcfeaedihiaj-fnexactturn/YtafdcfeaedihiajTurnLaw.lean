/-
  FnExactTurn returns true for any ints, and writes nothing that was there.
-/
import Derived.Test.YtafdcfeaedihiajWord
namespace Go.Proofs.Ytafdcfeaedihiaj
open Go.RowKit

theorem turn_law (n k : Int) (w : World) :
    Calls Try.prog 6 #[.int .i64 n, .int .i64 k] w fun e w' => e = .returned (.bool true) ∧ Below w.heap.size w w' := by
  have hs := fun w => specTurn_any n k w
  have hi := fun w => implTurn_any n k w
  generalize turnI n k = r at hs hi
  have hd : (r != r) = false := by simp
  go_enter Try.func6, Try.ntmps6
  go_wp2_with (fail)
  refine (hs _).mono ?_
  rintro e w1 ⟨rfl, b1⟩
  go_wp2_with (fail)
  refine (hi _).mono ?_
  rintro e w2 ⟨rfl, b2⟩
  go_wp2
  go_ret
  exact ⟨rfl, below_on b1 b2⟩

end Go.Proofs.Ytafdcfeaedihiaj
