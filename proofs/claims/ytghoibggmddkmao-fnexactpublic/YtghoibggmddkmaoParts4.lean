/-
  Parts of numbers, and an array of four that is indexed.
-/
import Derived.Test.YtghoibggmddkmaoFieldA
namespace Go.Proofs.Ytghoibggmddkmao
open Go.RowKit

theorem num_of_parts {f : Nat → Int} {n : Nat} (h : ∀ i, i < n → 0 ≤ f i ∧ f i < bU) {k : Nat} (hk : k < n) : f k = numU (valU f n) k := by
  have hc : ∀ j, j ≤ n → carU f 0 j = 0 := by
    intro j
    induction j with
    | zero => intro _; rfl
    | succ j ih =>
      intro hj
      have := h j (by omega)
      rw [carU, ih (by omega), Int.add_zero, Int.ediv_eq_zero_of_lt this.1 this.2]
  have e := digU_num f 0 hk
  rw [Int.add_zero] at e
  have := h k hk
  rw [← e, digU, hc k (by omega), Int.add_zero, Int.emod_eq_of_lt this.1 this.2]

theorem index4 (f : Nat → Int) (k : Nat) (hk : k < 4) (w : World) : (Instr.index 38 (.agg (uV f 4).toArray) (.int .i64 (k : Int))).run Try.prog w = .ok (.int .u64 (f k)) w := by
  have h0 : (Instr.index 38 (.agg (uV f 4).toArray) (.int .i64 0)).run Try.prog w = .ok (.int .u64 (f 0)) w := by kernel_rfl
  have h1 : (Instr.index 38 (.agg (uV f 4).toArray) (.int .i64 1)).run Try.prog w = .ok (.int .u64 (f 1)) w := by kernel_rfl
  have h2 : (Instr.index 38 (.agg (uV f 4).toArray) (.int .i64 2)).run Try.prog w = .ok (.int .u64 (f 2)) w := by kernel_rfl
  have h3 : (Instr.index 38 (.agg (uV f 4).toArray) (.int .i64 3)).run Try.prog w = .ok (.int .u64 (f 3)) w := by kernel_rfl
  have hc : k = 0 ∨ k = 1 ∨ k = 2 ∨ k = 3 := by omega
  rcases hc with rfl | rfl | rfl | rfl
  · exact h0
  · exact h1
  · exact h2
  · exact h3

end Go.Proofs.Ytghoibggmddkmao
