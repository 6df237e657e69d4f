/-
  How many signs impl.signsFor says that so many bytes have. Conditions: at most 2^40 bytes.
-/
import Derived.Test.YtkkaipeklbhliaaSixMath
import Derived.Test.YtkkaipeklbhliaaInfo
namespace Go.Proofs.Ytkkaipeklbhliaa
open Go.RowKit
set_option maxRecDepth 100000

theorem signsFor_any (n : Nat) (w : World) (hn : n ≤ 1099511627776) : Calls Try.prog 23 #[.int .i64 (n : Int)] w fun e w' => e = .returned (.int .i64 ((sixN n : Nat) : Int)) ∧ w' = w := by
  go_enter Try.func23, Try.ntmps23
  go_wp2
  go_ret
  refine ⟨?_, rfl⟩
  congr 2
  unfold sixN
  go_num

end Go.Proofs.Ytkkaipeklbhliaa
