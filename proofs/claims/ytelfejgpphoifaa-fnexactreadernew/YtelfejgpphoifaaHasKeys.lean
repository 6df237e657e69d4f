/-
  Whether there is a key of a seed and an epoch, and a number within its limits, in the program and in the specification. No condition.
-/
import Derived.Test.YtelfejgpphoifaaCells
namespace Go.Proofs.Ytelfejgpphoifaa
open Go.RowKit
set_option maxRecDepth 100000

/-- Is there a key of so many bytes' seed and that epoch? -/
def hasB (n : Nat) (e : Int) : Bool := decide (n = 32 ∧ 0 ≤ e ∧ e ≤ 40)
theorem hasB_yes {n : Nat} {e : Int} (h : n = 32 ∧ 0 ≤ e ∧ e ≤ 40) : hasB n e = true := decide_eq_true h
theorem hasB_no {n : Nat} {e : Int} (h : ¬ (n = 32 ∧ 0 ≤ e ∧ e ≤ 40)) : hasB n e = false := decide_eq_false h

theorem hasKeys_any (p : Option Addr) (n c : Nat) (e : Int) (w : World) :
    Calls Try.prog 25 #[.slice p n c, .int .i64 e] w fun r w' => r = .returned (.bool (hasB n e)) ∧ w' = w := by
  by_cases hn : n = 32
  · subst hn
    go_enter Try.func25, Try.ntmps25
    go_wp2
    all_goals
      go_ret
      refine ⟨?_, rfl⟩
      congr 2
      unfold hasB
      simp
      try omega
  · have hd : ((n : Int) == 32) = false := by simp; omega
    rw [hasB_no (fun h => hn h.1)]
    go_enter Try.func25, Try.ntmps25
    go_wp2
    go_ret
    exact ⟨rfl, rfl⟩

theorem l1In_any (n a b : Int) (w : World) :
    Calls Try.prog 22 #[.int .i64 n, .int .i64 a, .int .i64 b] w fun r w' => r = .returned (.bool (decide (a ≤ n ∧ n ≤ b))) ∧ w' = w := by
  go_enter Try.func22, Try.ntmps22
  go_wp2
  all_goals
    go_ret
    refine ⟨?_, rfl⟩
    congr 2
    simp
    try omega

end Go.Proofs.Ytelfejgpphoifaa
