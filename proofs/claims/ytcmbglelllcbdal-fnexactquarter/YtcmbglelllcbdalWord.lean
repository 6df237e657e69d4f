/-
  What spec.Word and impl.Word answer at every int: what is left by 2^32; no condition.
-/
import Derived.Test.YtcmbglelllcbdalWordMath
namespace Go.Proofs.Ytcmbglelllcbdal
open Go.RowKit

theorem specWord_same (n : Int) (w : World) :
    Calls Try.prog 11 #[.int .i64 n] w fun e w' => e = .returned (.int .i64 (n % 4294967296)) ∧ w' = w := by
  have hm := i64_mask32 n
  go_enter Try.func11, Try.ntmps11
  go_wp2
  go_ret
  exact ⟨rfl, rfl⟩

theorem specWord_any (n : Int) (w : World) :
    Calls Try.prog 11 #[.int .i64 n] w fun e w' => e = .returned (.int .i64 (n % 4294967296)) ∧ Below w.heap.size w w' :=
  (specWord_same n w).mono fun _ _ ⟨h1, h2⟩ => ⟨h1, by rw [h2]; exact Below.refl _ _⟩

end Go.Proofs.Ytcmbglelllcbdal
