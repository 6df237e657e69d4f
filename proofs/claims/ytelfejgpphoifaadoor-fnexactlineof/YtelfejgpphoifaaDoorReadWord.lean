/-
  What impl.readWord answers at any four bytes: the number that they are, great or little; condition: they are bytes.
-/
import Derived.Test.YtelfejgpphoifaaDoorWord
import Derived.Test.YtelfejgpphoifaaDoorRev
namespace Go.Proofs.YtelfejgpphoifaaDoor
open Go.RowKit
set_option maxRecDepth 100000

/-- Four bytes, the high ones first. -/
def four (x0 x1 x2 x3 : Nat) : Nat := ((x0 * 256 + x1) * 256 + x2) * 256 + x3
def fours (x0 x1 x2 x3 : Nat) : Nat → Nat
  | 0 => 0
  | 1 => x0
  | 2 => x0 * 256 + x1
  | 3 => (x0 * 256 + x1) * 256 + x2
  | _ => four x0 x1 x2 x3

theorem or_byte {q x : Nat} (hq : q < 16777216) (hx : x < 256) : bits .or .u32 ((q : Int) * 256) (x : Int) = ((q * 256 + x : Nat) : Int) := by
  have e : (q : Int) * 256 = ((q * 256 : Nat) : Int) := by omega
  rw [e, u32_or _ _ (by omega) (by omega)]
  have := Nat.two_pow_add_eq_or_of_lt (i := 8) hx q
  rw [Nat.mul_comm q]
  show ((2 ^ 8 * q ||| x : Nat) : Int) = _
  rw [← this]

theorem owns_four (w : World) (ty : Nat) (x0 x1 x2 x3 : Int) :
    Own ty (w.alloc (.cells #[.int .u8 x0, .int .u8 x1, .int .u8 x2, .int .u8 x3] ty)) w.heap.size (w.heap.size + 1) (.slice (some ⟨w.heap.size, 0, none⟩) 4 4) 4 [x0, x1, x2, x3] := by
  refine ⟨⟨rfl, .inr ⟨w.heap.size, 4, _, rfl, Nat.le_refl _, heap_alloc_new w _, Nat.le_refl _, by unfold maxLen; omega, rfl, rfl⟩⟩, ?_⟩
  intro k hk
  simp [Value.ownBlock] at hk
  omega

end Go.Proofs.YtelfejgpphoifaaDoor
