/-
  What the specification's and the program's HashStart answer: the eight numbers, in memory of their own; no condition.
-/
import Derived.Test.YtdjdanpicbaieaaDoorInfoI
namespace Go.Proofs.YtdjdanpicbaieaaDoor
open Go.RowKit
set_option maxRecDepth 100000

def startN : List Nat := [0x6a09e667, 0xbb67ae85, 0x3c6ef372, 0xa54ff53a, 0x510e527f, 0x9b05688c, 0x1f83d9ab, 0x5be0cd19]
def startL : List Int := startN.map fun (n : Nat) => (n : Int)

theorem owns_start (w : World) (ty : Nat) :
    OwnI ty (w.alloc (.cells #[.int .i64 0x6a09e667, .int .i64 0xbb67ae85, .int .i64 0x3c6ef372, .int .i64 0xa54ff53a, .int .i64 0x510e527f, .int .i64 0x9b05688c, .int .i64 0x1f83d9ab, .int .i64 0x5be0cd19] ty)) w.heap.size (w.heap.size + 1) (.slice (some ⟨w.heap.size, 0, none⟩) 8 8) 8 startL := by
  refine ⟨⟨rfl, .inr ⟨w.heap.size, 8, _, rfl, Nat.le_refl _, heap_alloc_new w _, Nat.le_refl _, by unfold maxLen; omega, rfl, rfl⟩⟩, ?_⟩
  intro k hk
  simp [Value.ownBlock] at hk
  omega

theorem specStart_any (w : World) :
    Calls Tryd.prog 73 #[] w fun e w' => ∃ p c, e = .returned (.slice p 8 c) ∧ OwnI 3 w' w.heap.size w'.heap.size (.slice p 8 c) 8 startL ∧ Below w.heap.size w w' := by
  go_enter Tryd.func73, Tryd.ntmps73
  go_wp2
  go_ret
  exact ⟨_, _, rfl, .of (owns_start w 3).1, (Below.refl _ _).alloc (Nat.le_refl _) _⟩

theorem implStart_any (w : World) :
    Calls Tryd.prog 78 #[] w fun e w' => ∃ p c, e = .returned (.slice p 8 c) ∧ OwnI 3 w' w.heap.size w'.heap.size (.slice p 8 c) 8 startL ∧ Below w.heap.size w w' := by
  go_enter Tryd.func78, Tryd.ntmps78
  go_wp2
  go_ret
  exact ⟨_, _, rfl, .of (owns_start w 3).1, (Below.refl _ _).alloc (Nat.le_refl _) _⟩

end Go.Proofs.YtdjdanpicbaieaaDoor
