/-
  FnExactSame returns true for any two lists of bytes and changes neither; no condition.
-/
import Derived.Test.YtjcombfcilbafaiBytes
namespace Go.Proofs.Ytjcombfcilbafai
open Go.RowKit

theorem specSame_any (p q : Option Addr) (n m c d : Nat) (xs ys : List Int) (w : World) (hx : xs.length = n) (hy : ys.length = m) (h : BytesIn w p n xs) (h' : BytesIn w q m ys) :
    Calls Try.prog 15 #[.slice p n c, .slice q m d] w fun e w' => e = .returned (.bool ((strOfNums xs).toList == (strOfNums ys).toList)) ∧ Below w.heap.size w w' := by
  have g := text_of (P := Try.prog) h hx c 22 5 9 Try.underlying22 Try.underlying5 Try.underlying9
  have g' := text_of (P := Try.prog) h' hy d 22 5 9 Try.underlying22 Try.underlying5 Try.underlying9
  go_enter Try.func15, Try.ntmps15
  go_wp2
  go_ret
  exact ⟨rfl, Below.refl _ _⟩

theorem implSame_any (p q : Option Addr) (n m c d : Nat) (xs ys : List Int) (w : World) (hx : xs.length = n) (hy : ys.length = m) (h : BytesIn w p n xs) (h' : BytesIn w q m ys) :
    Calls Try.prog 16 #[.slice p n c, .slice q m d] w fun e w' => e = .returned (.bool ((strOfNums xs).toList == (strOfNums ys).toList)) ∧ Below w.heap.size w w' := by
  have g := text_of (P := Try.prog) h hx c 22 5 9 Try.underlying22 Try.underlying5 Try.underlying9
  have g' := text_of (P := Try.prog) h' hy d 22 5 9 Try.underlying22 Try.underlying5 Try.underlying9
  go_enter Try.func16, Try.ntmps16
  go_wp2
  go_ret
  exact ⟨rfl, Below.refl _ _⟩

set_option maxHeartbeats 1000000 in
theorem same_small (p q : Option Addr) (n m c d : Nat) (xs ys : List Int) (w : World) (hn : n ≤ 1048576) (hm : m ≤ 1048576) (hx : xs.length = n) (hy : ys.length = m) (h : BytesIn w p n xs) (h' : BytesIn w q m ys) :
    Calls Try.prog 5 #[.slice p n c, .slice q m d] w fun e w' => e = .returned (.bool true) ∧ Below w.heap.size w w' := by
  have c1 : ¬ (1048576 : Int) < (n : Int) := by omega
  have c2 : ¬ (1048576 : Int) < (m : Int) := by omega
  go_enter Try.func5, Try.ntmps5
  go_wp2_with (fail)
  refine (toByteS_any p n c xs _ hn hx h).mono ?_
  rintro e w1 ⟨rfl, o1, b1⟩
  go_wp2_with (fail)
  refine (toByteS_any q m d ys _ hm hy (in_below h' b1)).mono ?_
  rintro e w2 ⟨rfl, o2, b2⟩
  go_wp2_with (fail)
  refine (specSame_any _ _ _ _ _ _ xs ys _ hx hy (owns_in (owns_below o1 b2)) (owns_in o2)).mono ?_
  rintro e w3 ⟨rfl, b3⟩
  have k3 := below_on (below_on b1 b2) b3
  clear o1 o2
  go_wp2_with (fail)
  refine (toByteS_any p n c xs _ hn hx (in_below h k3)).mono ?_
  rintro e w4 ⟨rfl, o4, b4⟩
  have k4 := below_on k3 b4
  go_wp2_with (fail)
  refine (toByteS_any q m d ys _ hm hy (in_below h' k4)).mono ?_
  rintro e w5 ⟨rfl, o5, b5⟩
  have k5 := below_on k4 b5
  have o4' := owns_below o4 b5
  go_wp2_with (fail)
  refine (implSame_any _ _ _ _ _ _ xs ys _ hx hy (owns_in o4') (owns_in o5)).mono ?_
  rintro e w6 ⟨rfl, b6⟩
  have k6 := below_on k5 b6
  have o4'' := owns_below o4' b6
  have o5' := owns_below o5 b6
  clear o4 o4' o5
  go_wp2_with (fail)
  refine (toByteS_any p n c xs _ hn hx (in_below h k6)).mono ?_
  rintro e w7 ⟨rfl, o7, b7⟩
  have k7 := below_on k6 b7
  have o4 := owns_below o4'' b7
  have o5 := owns_below o5' b7
  clear o4'' o5'
  go_wp2_with (fail)
  refine (eqByteS_any _ _ _ _ _ _ xs xs _ (by omega) hx hx (owns_in o4) (owns_in o7)).mono ?_
  rintro e w8 ⟨rfl, b8⟩
  have k8 := below_on k7 b8
  have o5' := owns_below o5 b8
  clear o4 o5 o7
  go_wp2_with (fail)
  refine (toByteS_any q m d ys _ hm hy (in_below h' k8)).mono ?_
  rintro e w9 ⟨rfl, o9, b9⟩
  have k9 := below_on k8 b9
  go_wp2_with (fail)
  refine (eqByteS_any _ _ _ _ _ _ ys ys _ (by omega) hy hy (owns_in (owns_below o5' b9)) (owns_in o9)).mono ?_
  rintro e wa ⟨rfl, ba⟩
  have ka := below_on k9 ba
  go_wp2_with (fail)
  go_ret
  exact ⟨rfl, ka⟩

end Go.Proofs.Ytjcombfcilbafai
