/-
  FnExactSixes returns true for any list of at most 1048576 bytes, and writes nothing that was there.
-/
import Derived.Test.YtkkaipeklbhliaaTo
import Derived.Test.YtkkaipeklbhliaaMarks
import Derived.Test.YtkkaipeklbhliaaEq
import Derived.Test.YtkkaipeklbhliaaSpecSixes
import Derived.Test.YtkkaipeklbhliaaImplSixes
import Derived.Test.YtkkaipeklbhliaaPartOf
namespace Go.Proofs.Ytkkaipeklbhliaa
open Go.RowKit
set_option maxRecDepth 100000

set_option maxHeartbeats 4000000 in
theorem sixes_small (p : Option Addr) (n c : Nat) (xs : List Int) (w : World) (hn : n ≤ 1048576) (hx : xs.length = n) (h : BytesIn w p n xs) (hr : ∀ x ∈ xs, 0 ≤ x ∧ x < 256) :
    Calls Try.prog 3 #[.slice p n c] w fun e w' => e = .returned (.bool true) ∧ Below w.heap.size w w' := by
  have c1 : ¬ (1048576 : Int) < (n : Int) := by omega
  go_enter Try.func3, Try.ntmps3
  go_wp2_with (fail)
  refine (toByteS_own p n c xs _ hn hx h).mono ?_
  rintro e w1 ⟨pr1, cr1, rfl, r1, b1⟩
  have k1 : Below w.heap.size w w1 := below_on (Below.refl _ _) b1
  have z1 := b1.size
  go_wp2_with (fail)
  refine (specSixes_any pr1 n cr1 xs _ hn hx r1.bytes hr).mono ?_
  rintro e w2 ⟨rfl, b2⟩
  have k2 : Below w.heap.size w w2 := below_on k1 b2
  have z2 := b2.size
  replace r1 := r1.on b2
  clear r1
  go_wp2_with (fail)
  refine (toByteS_own p n c xs _ hn hx (in_below h k2)).mono ?_
  rintro e w3 ⟨pr2, cr2, rfl, r2, b3⟩
  have k3 : Below w.heap.size w w3 := below_on k2 b3
  have z3 := b3.size
  go_wp2_with (fail)
  refine (implSixes_any pr2 n cr2 xs _ hn (own_le r2) hx r2.bytes hr).mono ?_
  rintro e w4 ⟨rfl, b4⟩
  have k4 : Below w.heap.size w w4 := below_on k3 b4
  have z4 := b4.size
  replace r2 := r2.on b4
  go_wp2_with (fail)
  refine (toByteS_own p n c xs _ hn hx (in_below h k4)).mono ?_
  rintro e w5 ⟨pr3, cr3, rfl, r3, b5⟩
  have k5 : Below w.heap.size w w5 := below_on k4 b5
  have z5 := b5.size
  replace r2 := r2.on b5
  go_wp2_with (fail)
  refine (eqByteS_any pr2 pr3 n n cr2 cr3 xs xs _ (by omega) r2.len r3.len r2.bytes r3.bytes).mono ?_
  rintro e w6 ⟨rfl, b6⟩
  have k6 : Below w.heap.size w w6 := below_on k5 b6
  have z6 := b6.size
  replace r2 := r2.on b6
  replace r3 := r3.on b6
  go_wp2_with (fail)
  go_ret
  exact ⟨rfl, k6⟩

theorem sixes_law (p : Option Addr) (n c : Nat) (xs : List Int) (w : World) (hx : xs.length = n) (h : BytesIn w p n xs) (hr : ∀ x ∈ xs, 0 ≤ x ∧ x < 256) :
    Calls Try.prog 3 #[.slice p n c] w fun e w' => e = .returned (.bool true) ∧ Below w.heap.size w w' := by
  by_cases hn : n ≤ 1048576
  · exact sixes_small p n c xs w hn hx h hr
  · have d : (1048576 : Int) < (n : Int) := by omega
    clear hx h hr
    go_enter Try.func3, Try.ntmps3
    go_wp2
    go_ret
    exact ⟨rfl, Below.refl _ _⟩

end Go.Proofs.Ytkkaipeklbhliaa
