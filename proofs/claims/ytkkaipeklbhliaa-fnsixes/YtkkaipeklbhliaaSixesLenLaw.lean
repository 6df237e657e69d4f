/-
  FnExactSixesLen returns true for any number, and writes nothing that was there. The program's function enters by what it answers (CI).
-/
import Derived.Test.YtkkaipeklbhliaaInfo
namespace Go.Proofs.Ytkkaipeklbhliaa
open Go.RowKit
set_option maxRecDepth 100000

/-- How many signs so many bytes have; 0 of others. -/
def sixLen (n : Int) : Int := if 0 ≤ n ∧ n ≤ 4000 then (8 * n + 5) / 6 else 0

theorem specSixesLen_any (n : Int) (w : World) (hn : -9223372036854775808 ≤ n ∧ n ≤ 9223372036854775807) : Calls Try.prog 15 #[.int .i64 n] w fun e w' => e = .returned (.int .i64 (sixLen n)) ∧ w' = w := by
  by_cases a : 0 ≤ n
  · by_cases b : n ≤ 4000
    · have e : sixLen n = (8 * n + 5) / 6 := by unfold sixLen; rw [if_pos ⟨a, b⟩]
      rw [e]
      go_enter Try.func15, Try.ntmps15
      go_wp2
      go_ret
      exact ⟨by go_num, rfl⟩
    · have e : sixLen n = 0 := by unfold sixLen; rw [if_neg (by omega)]
      rw [e]
      go_enter Try.func15, Try.ntmps15
      go_wp2
      go_ret
      exact ⟨rfl, rfl⟩
  · have e : sixLen n = 0 := by unfold sixLen; rw [if_neg (by omega)]
    rw [e]
    go_enter Try.func15, Try.ntmps15
    go_wp2
    go_ret
    exact ⟨rfl, rfl⟩

theorem sixesLen_law (n : Int) (w : World) (hn : -9223372036854775808 ≤ n ∧ n ≤ 9223372036854775807) (CI : ∀ w : World, Calls Try.prog 16 #[.int .i64 n] w fun e w' => e = .returned (.int .i64 (sixLen n)) ∧ Below w.heap.size w w') :
    Calls Try.prog 5 #[.int .i64 n] w fun e w' => e = .returned (.bool true) ∧ Below w.heap.size w w' := by
  go_enter Try.func5, Try.ntmps5
  go_wp2_with (first | (go_at_call 15; refine (specSixesLen_any _ _ hn).mono ?_; rintro e w' ⟨rfl, he⟩; obtain rfl := he.symm) | (go_at_call 16; refine (CI _).mono ?_; rintro e w1 ⟨rfl, hb⟩))
  go_ret
  exact ⟨rfl, hb⟩

end Go.Proofs.Ytkkaipeklbhliaa
