/-
  What strings.IndexByte, IndexRune and ContainsRune answer of the 64 signs. Conditions: a byte; a rune that is not below 0.
-/
import Derived.Lib.Strings
import Derived.Lib.Slices
import Derived.Lib.Walk
import Derived.Lib.Bytealg
import Derived.Laws.Runes
import Derived.Laws.RangeAny
import Derived.Test.YtkkaipeklbhliaaUnsixMath
import Derived.Test.YtkkaipeklbhliaaInfo
namespace Go.Proofs.Ytkkaipeklbhliaa
open Go.RowKit
set_option maxRecDepth 100000

set_option maxHeartbeats 1000000 in
theorem sliteIndex_any (s : ByteArray) (c : Int) (w : World) :
    Calls Try.prog 45 #[.string s, .int .u8 c] w fun e w' => e = .returned (.int .i64 (Lib.indexByte s.data.toList c.toNat.toUInt8)) ∧ w' = w := by
  go_enter Try.func45, Try.ntmps45
  go_wp2
  rw [run_callFunc_extern Try.func48 (by kernel_rfl) (by kernel_rfl) (by kernel_rfl) (e := Extern.BytealgIndexByte.indexByte) (by kernel_rfl), Lib.run_indexByteString]
  simp only [Result.andThen]
  rw [Oper.upon_value]
  go_wp2
  go_ret
  exact ⟨rfl, rfl⟩

theorem indexByte_any (s : ByteArray) (c : Int) (w : World) :
    Calls Try.prog 39 #[.string s, .int .u8 c] w fun e w' => e = .returned (.int .i64 (Lib.indexByte s.data.toList c.toNat.toUInt8)) ∧ w' = w := by
  go_enter Try.func39, Try.ntmps39
  go_wp2_with (go_at_call 45; refine (sliteIndex_any _ _ _).mono ?_; rintro e w' ⟨rfl, rfl⟩)
  go_ret
  exact ⟨rfl, rfl⟩

theorem index_h6 (c : Int) (h0 : 0 ≤ c) (h1 : c < 256) : Lib.indexByte sixSigns c.toNat.toUInt8 = h6 c := by
  have all : ∀ n : Fin 256, Lib.indexByte sixSigns n.val.toUInt8 = h6 ((n.val : Nat) : Int) := by decide +kernel
  have := all ⟨c.toNat, by omega⟩
  simp only [Int.toNat_of_nonneg h0] at this
  exact this

theorem signAt_any (c : Int) (w : World) (h0 : 0 ≤ c) (h1 : c < 256) :
    Calls Try.prog 39 #[.string ⟨#[65, 66, 67, 68, 69, 70, 71, 72, 73, 74, 75, 76, 77, 78, 79, 80, 81, 82, 83, 84, 85, 86, 87, 88, 89, 90, 97, 98, 99, 100, 101, 102, 103, 104, 105, 106, 107, 108, 109, 110, 111, 112, 113, 114, 115, 116, 117, 118, 119, 120, 121, 122, 48, 49, 50, 51, 52, 53, 54, 55, 56, 57, 45, 95]⟩, .int .u8 c] w fun e w' => e = .returned (.int .i64 (h6 c)) ∧ w' = w := by
  have h := indexByte_any ⟨sixSigns.toArray⟩ c w
  rw [show (ByteArray.mk sixSigns.toArray).data.toList = sixSigns from rfl, index_h6 c h0 h1] at h
  exact h

theorem ascii_signs : ∀ b ∈ sixSigns, b.toNat < 128 := by decide +kernel

set_option maxHeartbeats 1000000 in
theorem containsRune_low (r : Int) (w : World) (h0 : 0 ≤ r) (h1 : r < 128) :
    Calls Try.prog 38 #[.string ⟨#[65, 66, 67, 68, 69, 70, 71, 72, 73, 74, 75, 76, 77, 78, 79, 80, 81, 82, 83, 84, 85, 86, 87, 88, 89, 90, 97, 98, 99, 100, 101, 102, 103, 104, 105, 106, 107, 108, 109, 110, 111, 112, 113, 114, 115, 116, 117, 118, 119, 120, 121, 122, 48, 49, 50, 51, 52, 53, 54, 55, 56, 57, 45, 95]⟩, .int .i32 r] w fun e w' => e = .returned (.int .i64 (h6 r)) ∧ w' = w := by
  have C := fun X => signAt_any r X h0 (by omega)
  go_enter Try.func38, Try.ntmps38
  go_wp2_with (go_at_call 39; refine (C _).mono ?_; rintro e w' ⟨rfl, he⟩; obtain rfl := he.symm)
  go_ret
  exact ⟨rfl, rfl⟩

end Go.Proofs.Ytkkaipeklbhliaa
