/-
  What the laws' helper big answers of a code's length, and a list's beginning; no condition.
-/
import Derived.Test.YtkkaipeklbhliaaInfo
namespace Go.Proofs.Ytkkaipeklbhliaa
open Go.RowKit
set_option maxRecDepth 100000

theorem big_small (p : Option Addr) (n c : Nat) (w : World) (hn : n ≤ 1048576) : Calls Try.prog 17 #[.slice p n c] w fun e w' => e = .returned (.bool false) ∧ Below w.heap.size w w' := by
  have hd : decide ((1048576 : Int) < (n : Int)) = false := by simp; omega
  go_enter Try.func17, Try.ntmps17
  go_wp2
  go_ret
  refine ⟨?_, Below.refl _ _⟩
  first | rfl | (congr 2)

theorem big_great (p : Option Addr) (n c : Nat) (w : World) (hn : ¬ n ≤ 1048576) : Calls Try.prog 17 #[.slice p n c] w fun e w' => e = .returned (.bool true) ∧ Below w.heap.size w w' := by
  have hd : (1048576 : Int) < (n : Int) := by omega
  go_enter Try.func17, Try.ntmps17
  go_wp2
  go_ret
  exact ⟨by simp, Below.refl _ _⟩

theorem in_prefix {w : World} {p : Option Addr} {n m : Nat} {xs : List Int} (h : BytesIn w p n xs) (hm : m ≤ n) : BytesIn w p m (xs.take m) := by
  intro h0
  obtain ⟨b, o, rfl, hc⟩ := h (by omega)
  refine ⟨b, o, rfl, fun i hi => ?_⟩
  rw [hc i (by omega)]
  simp [hi]

end Go.Proofs.Ytkkaipeklbhliaa
