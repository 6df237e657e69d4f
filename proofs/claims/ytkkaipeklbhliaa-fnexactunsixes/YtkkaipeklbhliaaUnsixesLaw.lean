/-
  FnExactUnsixes returns true for any text of at most 1048576 signs, and writes nothing that was there.
-/
import Derived.Test.YtkkaipeklbhliaaMarks
import Derived.Test.YtkkaipeklbhliaaEq
import Derived.Test.YtkkaipeklbhliaaSpecUnsixes
import Derived.Test.YtkkaipeklbhliaaImplUnsixes
namespace Go.Proofs.Ytkkaipeklbhliaa
open Go.RowKit
set_option maxRecDepth 100000

theorem unN6_le (s : ByteArray) (hs : s.size ≤ 1048576) : unN6 s ≤ 1048576 := by unfold unN6; split <;> omega

set_option maxHeartbeats 4000000 in
theorem unsixes_small (s : ByteArray) (w : World) (hs : s.size ≤ 1048576) :
    Calls Try.prog 4 #[.string s] w fun e w' => e = .returned (.bool true) ∧ Below w.heap.size w w' := by
  have c1 : ¬ (1048576 : Int) < (s.size : Int) := by omega
  have c3 := unN6_le s hs
  go_enter Try.func4, Try.ntmps4
  go_wp2_with (fail)
  refine (specUnsixes_any s _ hs).mono ?_
  rintro e w1 ⟨pr1, cr1, rfl, r1, b1⟩
  have k1 : Below w.heap.size w w1 := below_on (Below.refl _ _) b1
  have z1 := b1.size
  go_wp2_with (fail)
  refine (implUnsixes_any s _ hs).mono ?_
  rintro e w2 ⟨pr2, cr2, rfl, r2, b2⟩
  have k2 : Below w.heap.size w w2 := below_on k1 b2
  have z2 := b2.size
  replace r1 := r1.on b2
  go_wp2_with (fail)
  refine (eqByteS_any pr2 pr1 (unN6 s) (unN6 s) cr2 cr1 (unL6 s) (unL6 s) _ (by omega) r2.len r1.len r2.bytes r1.bytes).mono ?_
  rintro e w3 ⟨rfl, b3⟩
  have k3 : Below w.heap.size w w3 := below_on k2 b3
  have z3 := b3.size
  replace r1 := r1.on b3
  replace r2 := r2.on b3
  go_wp2_with (fail)
  refine (markByteS_own _ _ pr2 (unN6 s) cr2 (unL6 s) 1 _ (by omega) (by omega) (by omega) r2).mono ?_
  rintro e w4 ⟨rfl, m4, g4⟩
  have k4 : Below w.heap.size w w4 := below_mark k3 g4 r2 (by omega)
  have z4 := g4.size
  replace r1 := r1.far g4 r2 (by omega)
  clear r2 g4
  have r2 := m4
  clear m4
  go_wp2_with (fail)
  refine (heldByteS_any pr2 (unN6 s) cr2 1 _ (by omega) (by omega) (by omega) r2.bytes).mono ?_
  rintro e w5 ⟨rfl, b5⟩
  have k5 : Below w.heap.size w w5 := below_on k4 b5
  have z5 := b5.size
  replace r1 := r1.on b5
  replace r2 := r2.on b5
  go_wp2_with (fail)
  refine (implUnsixes_any s _ hs).mono ?_
  rintro e w6 ⟨pr3, cr3, rfl, r3, b6⟩
  have k6 : Below w.heap.size w w6 := below_on k5 b6
  have z6 := b6.size
  replace r1 := r1.on b6
  replace r2 := r2.on b6
  go_wp2_with (fail)
  refine (eqByteS_any pr3 pr1 (unN6 s) (unN6 s) cr3 cr1 (unL6 s) (unL6 s) _ (by omega) r3.len r1.len r3.bytes r1.bytes).mono ?_
  rintro e w7 ⟨rfl, b7⟩
  have k7 : Below w.heap.size w w7 := below_on k6 b7
  have z7 := b7.size
  replace r1 := r1.on b7
  replace r2 := r2.on b7
  replace r3 := r3.on b7
  go_wp2_with (fail)
  refine (heldByteS_any pr2 (unN6 s) cr2 1 _ (by omega) (by omega) (by omega) r2.bytes).mono ?_
  rintro e w8 ⟨rfl, b8⟩
  have k8 : Below w.heap.size w w8 := below_on k7 b8
  have z8 := b8.size
  replace r1 := r1.on b8
  replace r2 := r2.on b8
  replace r3 := r3.on b8
  go_wp2_with (fail)
  go_ret
  exact ⟨rfl, k8⟩

theorem unsixes_law (s : ByteArray) (w : World) :
    Calls Try.prog 4 #[.string s] w fun e w' => e = .returned (.bool true) ∧ Below w.heap.size w w' := by
  by_cases h0 : s.size ≤ 1048576
  · exact unsixes_small s w h0
  · have c1 : (1048576 : Int) < (s.size : Int) := by omega
    go_enter Try.func4, Try.ntmps4
    go_wp2
    go_ret
    exact ⟨rfl, Below.refl _ _⟩

end Go.Proofs.Ytkkaipeklbhliaa
