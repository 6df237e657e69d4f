/-
  The size of a list of items, as the laws reckon it. Conditions: items that lie there, lengths that there can be.
-/
import Derived.Test.YtkdbcplcpcdnbaaItemsEq
namespace Go.Proofs.Ytkdbcplcpcdnbaa
open Go.RowKit
set_option maxRecDepth 100000

/-- How much the items hold. -/
def totI (its : List ItA) : Nat := (its.map fun x => x.s.size + x.n).sum
theorem totI_step (its : List ItA) (k : Nat) (h : k < its.length) : totI (its.take (k + 1)) = totI (its.take k) + ((its.getD k default).s.size + (its.getD k default).n) := by
  unfold totI
  rw [take_getD h, List.map_append, List.sum_append]
  simp
theorem totI_le (its : List ItA) (k : Nat) : totI (its.take k) ≤ totI its := by
  unfold totI
  have e := congrArg (fun l => (l.map fun (x : ItA) => x.s.size + x.n).sum) (List.take_append_drop k its)
  simp only [List.map_append, List.sum_append] at e
  omega
theorem totI_mem (its : List ItA) (x : ItA) (h : x ∈ its) : x.s.size + x.n ≤ totI its := by
  induction its with
  | nil => simp at h
  | cons y r ih =>
    have e : totI (y :: r) = y.s.size + y.n + totI r := by simp [totI]
    rcases List.mem_cons.1 h with rfl | h
    · omega
    · have := ih h
      omega

end Go.Proofs.Ytkdbcplcpcdnbaa
