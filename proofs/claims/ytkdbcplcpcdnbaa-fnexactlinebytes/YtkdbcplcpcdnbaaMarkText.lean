/-
  The laws' own mark as a text. Condition: a number above 0 that is not great.
-/
import Derived.Test.YtkdbcplcpcdnbaaItemsEq
namespace Go.Proofs.Ytkdbcplcpcdnbaa
open Go.RowKit
set_option maxRecDepth 100000

/-- The digits of a number, ahead of a text. -/
def mtD (k : Nat) (out : ByteArray) : ByteArray := if _h : k = 0 then out else mtD (k / 10) (strOfNums [((48 + k % 10 : Nat) : Int)] ++ out)
termination_by k
decreasing_by omega
def mtS (k : Nat) : ByteArray := ({ data := #[109] } : ByteArray) ++ mtD k { data := #[] }
theorem mtD_zero (out : ByteArray) : mtD 0 out = out := by rw [mtD]; simp
theorem mtD_pos (k : Nat) (out : ByteArray) (h : 0 < k) : mtD k out = mtD (k / 10) (strOfNums [((48 + k % 10 : Nat) : Int)] ++ out) := by
  rw [mtD, dif_neg (by omega)]

end Go.Proofs.Ytkdbcplcpcdnbaa
