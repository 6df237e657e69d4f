/-
  Plain laws of lists for a block of a stream: rounds of columns and of diagonals, sums with what was first.
-/
import Derived.Test.YtcmbglelllcbdalDoorQuarterMath
import Derived.Test.YtcmbglelllcbdalDoorWords
import Derived.Test.YtcmbglelllcbdalDoorWordBytes
namespace Go.Proofs.YtcmbglelllcbdalDoor

def colsL (L : List Int) : Nat → List Int
  | 0 => L
  | k + 1 => quarterL (colsL L k) k (k + 4) (k + 8) (k + 12)
def diasL (L : List Int) : Nat → List Int
  | 0 => L
  | k + 1 => quarterL (diasL L k) k (4 + (k + 1) % 4) (8 + (k + 2) % 4) (12 + (k + 3) % 4)
def doubleL (L : List Int) : List Int := diasL (colsL L 4) 4
def tenL (L : List Int) : Nat → List Int
  | 0 => L
  | k + 1 => doubleL (tenL L k)
theorem quarterL_length (L : List Int) (a b c d : Nat) : (quarterL L a b c d).length = L.length := setQ_length
theorem colsL_length (L : List Int) : ∀ k, (colsL L k).length = L.length
  | 0 => rfl
  | k + 1 => by rw [colsL, quarterL_length, colsL_length L k]
theorem diasL_length (L : List Int) : ∀ k, (diasL L k).length = L.length
  | 0 => rfl
  | k + 1 => by rw [diasL, quarterL_length, diasL_length L k]
theorem doubleL_length (L : List Int) : (doubleL L).length = L.length := by rw [doubleL, diasL_length, colsL_length]
theorem tenL_length (L : List Int) : ∀ k, (tenL L k).length = L.length
  | 0 => rfl
  | k + 1 => by rw [tenL, doubleL_length, tenL_length L k]
/-- The first k with what was first, the others as they were. -/
def sumsL (X F : List Int) (k : Nat) : List Int := ((List.range k).map fun i => (((wordN (X.getD i 0) + wordN (F.getD i 0)) % 4294967296 : Nat) : Int)) ++ X.drop k
theorem sumsL_zero (X F : List Int) : sumsL X F 0 = X := rfl
theorem sumsL_length {X : List Int} (F : List Int) {k : Nat} (h : k ≤ X.length) : (sumsL X F k).length = X.length := by simp [sumsL]; omega
theorem sumsL_get {X : List Int} (F : List Int) {k : Nat} (h : k < X.length) : (sumsL X F k)[k]? = some (X.getD k 0) := by
  rw [sumsL, List.getElem?_append_right (by simp)]
  simp [List.getElem?_eq_getElem h]
theorem sumsL_set {X : List Int} (F : List Int) {k : Nat} (h : k < X.length) (z : Int) (hz : z = (((wordN (X.getD k 0) + wordN (F.getD k 0)) % 4294967296 : Nat) : Int)) : (sumsL X F k).set k z = sumsL X F (k + 1) := by
  subst hz
  simp only [sumsL]
  rw [List.set_append_right _ _ (by simp), List.length_map, List.length_range, Nat.sub_self, List.range_succ, List.map_append, List.append_assoc]
  congr 1
  rw [List.drop_eq_getElem_cons h]
  rfl
/-- The 16 words at first: four that are given, the key's eight, the count, the nonce's three. -/
def firstL (key : List Int) (count : Int) (nonce : List Int) : List Int := [1634760805, 857760878, 2036477234, 1797285236] ++ wordsL false key 8 ++ [count] ++ wordsL false nonce 3
theorem firstL_length (key : List Int) (count : Int) (nonce : List Int) : (firstL key count nonce).length = 16 := by simp [firstL, wordsL]
def blkOk (n m : Nat) (count : Int) : Prop := n = 32 ∧ m = 12 ∧ 0 ≤ count ∧ count ≤ 4294967295
instance (n m : Nat) (count : Int) : Decidable (blkOk n m count) := inferInstanceAs (Decidable (_ ∧ _ ∧ _ ∧ _))
def blkB (key : List Int) (count : Int) (nonce : List Int) : List Int := bytesL false (sumsL (tenL (firstL key count nonce) 10) (firstL key count nonce) 16)
def blkN (n m : Nat) (count : Int) : Nat := if blkOk n m count then 64 else 0
def blkL (key : List Int) (count : Int) (nonce : List Int) : List Int := if blkOk key.length nonce.length count then blkB key count nonce else []
theorem blkN_le (n m : Nat) (count : Int) : blkN n m count ≤ 64 := by unfold blkN; split <;> omega
theorem blkB_length (key : List Int) (count : Int) (nonce : List Int) : (blkB key count nonce).length = 64 := by
  rw [blkB, bytesL_length, sumsL_length _ (by rw [tenL_length, firstL_length]; decide), tenL_length, firstL_length]
theorem blkL_length (key : List Int) (count : Int) (nonce : List Int) : (blkL key count nonce).length = blkN key.length nonce.length count := by
  unfold blkL blkN
  split
  · exact blkB_length _ _ _
  · rfl

end Go.Proofs.YtcmbglelllcbdalDoor
