/-
  What the specification's FieldAdd, FieldSub, FieldMul, FieldInv and FieldOf answer at whatever bytes: 32 bytes of what is left by p, or nothing. Condition: bytes all.
-/
import Derived.Test.YtghoibggmddkmaoSpecFBytes
namespace Go.Proofs.Ytghoibggmddkmao
open Go.RowKit

/-- The number of 32 bytes, the highest bit left away. -/
def numF (xs : List Int) : Int := valZ (ofZ xs) 16
def two32 (n m : Nat) : Prop := n = 32 ∧ m = 32
instance (n m : Nat) : Decidable (two32 n m) := inferInstanceAs (Decidable (_ ∧ _))
def fldN (n m : Nat) : Nat := if two32 n m then 32 else 0
/-- The bytes of z, where both are of 32 bytes. -/
def fldL (z : Int) (n m : Nat) : List Int := if two32 n m then numB (z % fldP) else []
theorem fldN_le (n m : Nat) : fldN n m ≤ 32 := by unfold fldN; split <;> omega
theorem numB_length (z : Int) : (numB z).length = 32 := rfl
theorem fldL_length (z : Int) (n m : Nat) : (fldL z n m).length = fldN n m := by
  unfold fldL fldN
  split
  · exact numB_length _
  · rfl
theorem numB_byte (z : Int) : ∀ y ∈ numB z, 0 ≤ y ∧ y < 256 := by
  intro y hy
  simp only [numB, List.mem_flatMap, List.mem_cons, List.not_mem_nil, or_false] at hy
  obtain ⟨i, _, h | h⟩ := hy <;> omega
theorem fldL_byte (z : Int) (n m : Nat) : ∀ y ∈ fldL z n m, 0 ≤ y ∧ y < 256 := by
  unfold fldL
  split
  · exact numB_byte _
  · intro y hy; cases hy
theorem okOf {xs : List Int} (hb : ∀ x ∈ xs, 0 ≤ x ∧ x < 256) : okZ (ofZ xs) := fun i => by
  have := ofZ_range hb i
  omega
theorem okZ_wide {f : Nat → Int} (h : okZ f) : (∀ i, -140737488355328 ≤ f i) ∧ ∀ i, f i ≤ 140737488355328 := ⟨fun i => by have := h i; omega, fun i => by have := h i; omega⟩
theorem invE_val : (fldP - 2).toNat = invE 254 := by
  have := invE_last
  omega

def oneN (n : Nat) : Nat := if n = 32 then 32 else 0
def oneL (z : Int) (n : Nat) : List Int := if n = 32 then numB (z % fldP) else []
theorem oneN_le (n : Nat) : oneN n ≤ 32 := by unfold oneN; split <;> omega
theorem oneL_length (z : Int) (n : Nat) : (oneL z n).length = oneN n := by
  unfold oneL oneN
  split
  · exact numB_length _
  · rfl
theorem oneL_byte (z : Int) (n : Nat) : ∀ y ∈ oneL z n, 0 ≤ y ∧ y < 256 := by
  unfold oneL
  split
  · exact numB_byte _
  · intro y hy; cases hy

end Go.Proofs.Ytghoibggmddkmao
