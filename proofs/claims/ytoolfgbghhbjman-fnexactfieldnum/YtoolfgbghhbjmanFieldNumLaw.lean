/-
  FnExactFieldNum returns true for any int, and writes nothing that was there.
-/
import Derived.Test.YtoolfgbghhbjmanTo
import Derived.Test.YtoolfgbghhbjmanEq
import Derived.Test.YtoolfgbghhbjmanMarks
import Derived.Test.YtoolfgbghhbjmanFieldNumS
namespace Go.Proofs.Ytoolfgbghhbjman
open Go.RowKit

set_option maxHeartbeats 8000000 in
theorem fieldNum_law (n : Int) (w : World) (h63 : n ≤ 9223372036854775807) :
    Calls Try.prog 6 #[.int .i64 n] w fun e w' => e = .returned (.bool true) ∧ Below w.heap.size w w' := by
  go_enter Try.func6, Try.ntmps6
  go_wp2_with (fail)
  refine (specFieldNum_any n _ h63).mono ?_
  rintro e w1 ⟨pr1, cr1, rfl, r1, b1⟩
  have k1 : Below w.heap.size w w1 := below_on (Below.refl _ _) b1
  have z1 := b1.size
  go_wp2_with (fail)
  refine (implFieldNum_any n _ h63).mono ?_
  rintro e w2 ⟨pr2, cr2, rfl, r2, b2⟩
  have k2 : Below w.heap.size w w2 := below_on k1 b2
  have z2 := b2.size
  replace r1 := r1.on b2
  go_wp2_with (fail)
  refine (eqByteS_any pr2 pr1 32 32 cr2 cr1 (numB (nnZ n)) (numB (nnZ n)) _ (by omega) r2.len r1.len r2.bytes r1.bytes).mono ?_
  rintro e w3 ⟨rfl, b3⟩
  have k3 : Below w.heap.size w w3 := below_on k2 b3
  have z3 := b3.size
  replace r1 := r1.on b3
  replace r2 := r2.on b3
  go_wp2_with (fail)
  refine (markByteS_own _ _ pr2 32 cr2 (numB (nnZ n)) 1 _ (by omega) (by omega) (by omega) r2).mono ?_
  rintro e w4 ⟨rfl, m4, g4⟩
  have k4 : Below w.heap.size w w4 := below_mark k3 g4 r2 (by omega)
  have z4 := g4.size
  replace r1 := r1.far g4 r2 (by omega)
  clear r2 g4
  have r2 := m4
  clear m4
  go_wp2_with (fail)
  refine (heldByteS_any pr2 32 cr2 1 _ (by omega) (by omega) (by omega) r2.bytes).mono ?_
  rintro e w5 ⟨rfl, b5⟩
  have k5 : Below w.heap.size w w5 := below_on k4 b5
  have z5 := b5.size
  replace r1 := r1.on b5
  replace r2 := r2.on b5
  go_wp2_with (fail)
  refine (implFieldNum_any n _ h63).mono ?_
  rintro e w6 ⟨pr3, cr3, rfl, r3, b6⟩
  have k6 : Below w.heap.size w w6 := below_on k5 b6
  have z6 := b6.size
  replace r1 := r1.on b6
  replace r2 := r2.on b6
  go_wp2_with (fail)
  refine (eqByteS_any pr3 pr1 32 32 cr3 cr1 (numB (nnZ n)) (numB (nnZ n)) _ (by omega) r3.len r1.len r3.bytes r1.bytes).mono ?_
  rintro e w7 ⟨rfl, b7⟩
  have k7 : Below w.heap.size w w7 := below_on k6 b7
  have z7 := b7.size
  replace r1 := r1.on b7
  replace r2 := r2.on b7
  replace r3 := r3.on b7
  go_wp2_with (fail)
  refine (heldByteS_any pr2 32 cr2 1 _ (by omega) (by omega) (by omega) r2.bytes).mono ?_
  rintro e w8 ⟨rfl, b8⟩
  have k8 : Below w.heap.size w w8 := below_on k7 b8
  have z8 := b8.size
  replace r1 := r1.on b8
  replace r2 := r2.on b8
  replace r3 := r3.on b8
  go_wp2_with (fail)
  go_ret
  exact ⟨rfl, k8⟩

end Go.Proofs.Ytoolfgbghhbjman
