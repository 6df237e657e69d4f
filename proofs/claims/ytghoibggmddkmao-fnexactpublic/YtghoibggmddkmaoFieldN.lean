/-
  What the program's readField answers, together. Conditions: bytes; a capacity that is not less than the length.
-/
import Derived.Test.YtghoibggmddkmaoFieldJ
import Derived.Test.YtghoibggmddkmaoParts4
import Derived.Test.YtghoibggmddkmaoFieldL
import Derived.Test.YtghoibggmddkmaoFieldM
namespace Go.Proofs.Ytghoibggmddkmao
open Go.RowKit

/-- What readField answers of bytes. -/
def rdZ (n : Nat) (xs : List Int) : Int := if n = 32 then numF xs % fldP else 0
theorem rdZ_range (n : Nat) (xs : List Int) : 0 ≤ rdZ n xs ∧ rdZ n xs < fldP := by
  unfold rdZ
  split
  · exact ⟨Int.emod_nonneg _ (by have := fldP_pos; omega), Int.emod_lt_of_pos _ fldP_pos⟩
  · exact ⟨by decide, fldP_pos⟩
theorem readField_any (p : Option Addr) (n c : Nat) (xs : List Int) (w X : World) (h : BytesIn w p n xs) (hb : ∀ x ∈ xs, 0 ≤ x ∧ x < 256) (hc : n ≤ c) (hX : Below w.heap.size w X) :
    Calls Try.prog 24 #[.slice p n c] X fun e w' => e = .returned (.tuple #[uP (rdZ n xs), .bool (decide (n = 32))]) ∧ Below X.heap.size X w' := by
  by_cases hn : n = 32
  · subst hn
    obtain ⟨b, o, rfl, hcell⟩ := in_below h hX (by decide)
    have C := readField_yes b o c xs X hc hb hcell
    rw [show rdZ 32 xs = numF xs % fldP from if_pos rfl, show decide (32 = 32) = true from rfl]
    exact C
  · have C := readField_no p n c X hn
    rw [show rdZ n xs = 0 from if_neg hn, show decide (n = 32) = false from decide_eq_false hn]
    exact C
theorem both_sub (x y : Int) : (x % fldP - y % fldP) % fldP = (x - y) % fldP := ((likeP_mod x).sub (likeP_mod y)).mod
theorem both_mul (x y : Int) : (x % fldP * (y % fldP)) % fldP = (x * y) % fldP := by rw [left_mul, right_mul]

end Go.Proofs.Ytghoibggmddkmao
