/-
  FnExactSixesLen: what impl.SixesLen answers of any number. Conditions: an int.
-/
import Derived.Test.YtkkaipeklbhliaaSixesLenLaw
import Derived.Test.YtkkaipeklbhliaaSigns
namespace Go.Proofs.Ytkkaipeklbhliaa
open Go.RowKit
set_option maxRecDepth 100000

theorem implSixesLen_any (n : Int) (w : World) (hn : -9223372036854775808 ≤ n ∧ n ≤ 9223372036854775807) : Calls Try.prog 16 #[.int .i64 n] w fun e w' => e = .returned (.int .i64 (sixLen n)) ∧ Below w.heap.size w w' := by
  by_cases a : 0 ≤ n
  · have a' : ¬ n < 0 := by omega
    by_cases b : n ≤ 4000
    · have e : sixLen n = ((sixN n.toNat : Nat) : Int) := by unfold sixLen sixN; rw [if_pos ⟨a, b⟩]; omega
      have b' : ¬ 4000 < n := by omega
      have C := fun w => signsFor_any n.toNat w (by omega)
      rw [Int.toNat_of_nonneg a] at C
      rw [e]
      clear e
      go_enter Try.func16, Try.ntmps16
      go_wp2_with (go_at_call 23; refine (C _).mono ?_; rintro e w' ⟨rfl, he⟩; obtain rfl := he.symm)
      go_ret
      exact ⟨rfl, Below.refl _ _⟩
    · have e : sixLen n = 0 := by unfold sixLen; rw [if_neg (by omega)]
      have b' : 4000 < n := by omega
      rw [e]
      go_enter Try.func16, Try.ntmps16
      go_wp2
      go_ret
      exact ⟨rfl, Below.refl _ _⟩
  · have e : sixLen n = 0 := by unfold sixLen; rw [if_neg (by omega)]
    have a' : n < 0 := by omega
    rw [e]
    go_enter Try.func16, Try.ntmps16
    go_wp2
    go_ret
    exact ⟨rfl, Below.refl _ _⟩

end Go.Proofs.Ytkkaipeklbhliaa
