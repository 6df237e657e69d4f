/-
  Epochs: whether one has keys, and how an epoch is told behind a word, in the program and in the specification. Conditions: each fact's own.
-/
import Derived.Test.YthfnechcddmjkaaGreatDoorParf02
import Derived.Test.YthfnechcddmjkaaGreatDoorParf17
import Derived.Test.YthfnechcddmjkaaGreatDoorParf03
import Derived.Lib.SlBytesConst
import Derived.Lib.ConvBytes
import Derived.ArgAppend
namespace Go.Proofs.YthfnechcddmjkaaGreatDoor
open Go.RowKit
set_option maxRecDepth 100000

def epochL : List Int := [101, 112, 111, 99, 104]
def routeL : List Int := [114, 111, 117, 116, 101]
def tellL (info : List Int) (e : Int) : List Int := info ++ (fitL e 2).reverse
theorem fitE_byte (e : Int) : ∀ x ∈ fitL e 2, 0 ≤ x ∧ x < 256 := fun x hx => by
  obtain ⟨i, _, rfl⟩ := List.mem_map.1 hx
  exact ⟨Int.emod_nonneg _ (by decide), Int.emod_lt_of_pos _ (by decide)⟩

def numsOf (s : ByteArray) : List Int := s.data.toList.map fun b => (b.toNat : Int)

theorem lit_in (w : World) (ty : Nat) (fz : Nat × Nat) (a b c d e : Int) : BytesIn (w.alloc (.cells #[.int .u8 a, .int .u8 b, .int .u8 c, .int .u8 d, .int .u8 e] ty fz)) (some ⟨w.heap.size, 0, none⟩) 5 [a, b, c, d, e] := by
  intro _
  refine ⟨w.heap.size, 0, rfl, fun i hi => ?_⟩
  rw [cell_of_row _ _ _ _ _ _ (heap_made w _)]
  match i, hi with
  | 0, _ => rfl
  | 1, _ => rfl
  | 2, _ => rfl
  | 3, _ => rfl
  | 4, _ => rfl

end Go.Proofs.YthfnechcddmjkaaGreatDoor
