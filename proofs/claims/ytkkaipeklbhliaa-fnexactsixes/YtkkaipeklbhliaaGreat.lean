/-
  What spec.Great and impl.Great answer at every argument; no condition but that n is an int.
-/
import Derived.Test.YtkkaipeklbhliaaLittle
import Derived.Test.YtkkaipeklbhliaaRev
namespace Go.Proofs.Ytkkaipeklbhliaa
open Go.RowKit
set_option maxRecDepth 100000

theorem revL_step (xs : List Int) (n k : Nat) (u : Int) (hx : xs.length = n) (hk : k < n) (hu : u = xs.getD (n - 1 - k) 0) : xs.reverse.take k ++ [u] = xs.reverse.take (k + 1) := by
  subst hu
  rw [List.take_succ_eq_append_getElem (by simp; omega), List.getElem_reverse]
  simp [List.getElem?_eq_getElem (show n - 1 - k < xs.length by omega), hx]

set_option maxHeartbeats 2000000 in
theorem implGreat_any (n many : Int) (w : World) (h63 : n ≤ 9223372036854775807) :
    Calls Try.prog 40 #[.int .i64 n, .int .i64 many] w fun e w' => ∃ p c, e = .returned (.slice p (fitN n many) c) ∧ Own 5 w' w.heap.size w'.heap.size (.slice p (fitN n many) c) (fitN n many) (fitL n many).reverse ∧ Below w.heap.size w w' := by
  have hle := fitN_le n many
  go_enter Try.func40, Try.ntmps40
  go_wp2_with (fail)
  refine (implLittle_any n many _ h63).mono ?_
  rintro e w1 ⟨p1, c1, rfl, r1, b1⟩
  go_wp2_with (fail)
  refine (reverse_any _ _ p1 (fitN n many) c1 (fitL n many) _ (by omega) r1).mono ?_
  rintro e w2 ⟨rfl, r2, g2⟩
  go_wp2_with (fail)
  go_ret
  exact ⟨_, _, rfl, .of r2.1, b1.grown g2 b1.size fun k hk => (r1.1.lt k hk).1⟩

end Go.Proofs.Ytkkaipeklbhliaa
