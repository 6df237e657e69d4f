/-
  FnExactWord returns true for any ints, and writes nothing that was there.
-/
import Derived.Test.YtafdcfeaedihiajWord
namespace Go.Proofs.Ytafdcfeaedihiaj
open Go.RowKit

theorem word_law (n : Int) (w : World) :
    Calls Try.prog 5 #[.int .i64 n] w fun e w' => e = .returned (.bool true) ∧ Below w.heap.size w w' := by
  have hs := fun w => specWord_any n w
  have hi := fun w => implWord_any n w
  generalize n % 4294967296 = r at hs hi
  have hd : (r != r) = false := by simp
  go_enter Try.func5, Try.ntmps5
  go_wp2_with (fail)
  refine (hs _).mono ?_
  rintro e w1 ⟨rfl, b1⟩
  go_wp2_with (fail)
  refine (hi _).mono ?_
  rintro e w2 ⟨rfl, b2⟩
  go_wp2
  go_ret
  exact ⟨rfl, below_on b1 b2⟩

end Go.Proofs.Ytafdcfeaedihiaj
