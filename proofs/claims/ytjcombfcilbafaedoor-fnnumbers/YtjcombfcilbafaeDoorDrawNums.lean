/-
  What the draws of a number, of a numeral and of a text with what parts it give, whatever the code; condition: a code of at most 1048576 bytes.
-/
import Derived.Test.YtjcombfcilbafaeDoorDrawsPick
namespace Go.Proofs.YtjcombfcilbafaeDoor
open Go.RowKit

set_option maxHeartbeats 2000000 in
theorem drawDigits_any (p : Option Addr) (n c : Nat) (xs : List Int) (w : World) (hn : n ≤ 1048576) (hx : xs.length = n) (hb : BytesIn w p n xs) (hr : ∀ x ∈ xs, 0 ≤ x ∧ x < 256) :
    Calls Tryd.prog 5 #[.slice p n c] w fun e w' => ∃ z : Int, e = .returned (.int .i64 z) ∧ -9223372036854775808 ≤ z ∧ z ≤ 9223372036854775807 ∧ Below w.heap.size w w' := by
  go_enter Tryd.func5, Tryd.ntmps5
  go_wp2_with (fail)
  refine (l1New_any p n c xs _ hn hx hb hr).mono ?_
  rintro e w1 ⟨a, rfl, ha, ha1, hc1, b1⟩
  have z1 := b1.size
  go_wp2_with (fail)
  have hb0 : Below w1.heap.size w1 (w1.alloc (.cells (([0, 7, -12, 100000, 9223372036854775807, -9223372036854775808] : List Int).map (Value.int .i64)).toArray 3)) := (Below.refl _ _).alloc (Nat.le_refl _) _
  refine (l1PickInt_any a p n c xs w1.heap.size 6 [0, 7, -12, 100000, 9223372036854775807, -9223372036854775808] _ (by omega) (by omega) rfl (lit_ints w1 [0, 7, -12, 100000, 9223372036854775807, -9223372036854775808] 3) (by omega) (hc1.below hb0 ha1 hc1.code_lt)).mono ?_
  rintro e w2 ⟨z, hz, rfl, hc2, g2⟩
  have b2 := below_cur (below_on b1 hb0) g2 ha
  clear hb0
  have hz2 : Hid (-9223372036854775808 ≤ z ∧ z ≤ 9223372036854775807) := by
    simp only [List.mem_cons, List.not_mem_nil, or_false] at hz
    show -9223372036854775808 ≤ z ∧ z ≤ 9223372036854775807
    omega
  clear hz
  go_wp2_with (fail)
  go_ret
  exact ⟨z, rfl, hz2.out.1, hz2.out.2, b2⟩

set_option maxHeartbeats 2000000 in
theorem drawNumber_any (p : Option Addr) (n c : Nat) (xs : List Int) (w : World) (hn : n ≤ 1048576) (hx : xs.length = n) (hb : BytesIn w p n xs) (hr : ∀ x ∈ xs, 0 ≤ x ∧ x < 256) :
    Calls Tryd.prog 6 #[.slice p n c] w fun e w' => ∃ s : ByteArray, e = .returned (.string s) ∧ s.size ≤ 7 ∧ Below w.heap.size w w' := by
  go_enter Tryd.func6, Tryd.ntmps6
  go_wp2_with (fail)
  refine (l1New_any p n c xs _ hn hx hb hr).mono ?_
  rintro e w1 ⟨a, rfl, ha, ha1, hc1, b1⟩
  have z1 := b1.size
  go_wp2_with (fail)
  have hb0 : Below w1.heap.size w1 (w1.alloc (.cells (([⟨#[48]⟩, ⟨#[55]⟩, ⟨#[57, 57, 57, 57, 57, 57]⟩, ⟨#[49, 48, 48, 48, 48, 48, 48]⟩, ⟨#[48, 49]⟩, ⟨#[]⟩, ⟨#[45, 49]⟩, ⟨#[120]⟩, ⟨#[49, 50, 97]⟩] : List ByteArray).map Value.string).toArray 9)) := (Below.refl _ _).alloc (Nat.le_refl _) _
  refine (l1Pick_any a p n c xs w1.heap.size 9 [⟨#[48]⟩, ⟨#[55]⟩, ⟨#[57, 57, 57, 57, 57, 57]⟩, ⟨#[49, 48, 48, 48, 48, 48, 48]⟩, ⟨#[48, 49]⟩, ⟨#[]⟩, ⟨#[45, 49]⟩, ⟨#[120]⟩, ⟨#[49, 50, 97]⟩] _ (by omega) (by omega) rfl (lit_strs w1 [⟨#[48]⟩, ⟨#[55]⟩, ⟨#[57, 57, 57, 57, 57, 57]⟩, ⟨#[49, 48, 48, 48, 48, 48, 48]⟩, ⟨#[48, 49]⟩, ⟨#[]⟩, ⟨#[45, 49]⟩, ⟨#[120]⟩, ⟨#[49, 50, 97]⟩] 9) (by omega) (hc1.below hb0 ha1 hc1.code_lt)).mono ?_
  rintro e w2 ⟨t, ht, rfl, hc2, g2⟩
  have b2 := below_cur (below_on b1 hb0) g2 ha
  clear hb0
  have ht2 : Hid (t.size ≤ 7) := by
    show t.size ≤ 7
    simp only [List.mem_cons, List.not_mem_nil, or_false] at ht
    rcases ht with rfl | rfl | rfl | rfl | rfl | rfl | rfl | rfl | rfl <;> decide
  clear ht
  go_wp2_with (fail)
  go_ret
  exact ⟨t, rfl, ht2.out, b2⟩

set_option maxHeartbeats 2000000 in
theorem drawSplit_any (p : Option Addr) (n c : Nat) (xs : List Int) (w : World) (hn : n ≤ 1048576) (hx : xs.length = n) (hb : BytesIn w p n xs) (hr : ∀ x ∈ xs, 0 ≤ x ∧ x < 256) :
    Calls Tryd.prog 9 #[.slice p n c] w fun e w' => ∃ (s : ByteArray) (B : Int), e = .returned (.tuple #[.string s, .int .u8 B]) ∧ s.size ≤ 6 ∧ 0 ≤ B ∧ B < 256 ∧ Below w.heap.size w w' := by
  go_enter Tryd.func9, Tryd.ntmps9
  go_wp2_with (fail)
  refine (l1New_any p n c xs _ hn hx hb hr).mono ?_
  rintro e w1 ⟨a, rfl, ha, ha1, hc1, b1⟩
  have z1 := b1.size
  go_wp2_with (fail)
  have hb0 : Below w1.heap.size w1 (w1.alloc (.cells (([⟨#[]⟩, ⟨#[97]⟩, ⟨#[97, 44, 98]⟩, ⟨#[44]⟩, ⟨#[97, 44, 44, 98, 44]⟩, ⟨#[97, 47, 98, 44, 99, 47]⟩] : List ByteArray).map Value.string).toArray 9)) := (Below.refl _ _).alloc (Nat.le_refl _) _
  refine (l1Pick_any a p n c xs w1.heap.size 6 [⟨#[]⟩, ⟨#[97]⟩, ⟨#[97, 44, 98]⟩, ⟨#[44]⟩, ⟨#[97, 44, 44, 98, 44]⟩, ⟨#[97, 47, 98, 44, 99, 47]⟩] _ (by omega) (by omega) rfl (lit_strs w1 [⟨#[]⟩, ⟨#[97]⟩, ⟨#[97, 44, 98]⟩, ⟨#[44]⟩, ⟨#[97, 44, 44, 98, 44]⟩, ⟨#[97, 47, 98, 44, 99, 47]⟩] 9) (by omega) (hc1.below hb0 ha1 hc1.code_lt)).mono ?_
  rintro e w2 ⟨t, ht, rfl, hc2, g2⟩
  have b2 := below_cur (below_on b1 hb0) g2 ha
  have z2 := g2.size
  clear hb0
  have ht2 : Hid (t.size ≤ 6) := by
    show t.size ≤ 6
    simp only [List.mem_cons, List.not_mem_nil, or_false] at ht
    rcases ht with rfl | rfl | rfl | rfl | rfl | rfl <;> decide
  clear ht
  go_wp2_with (fail)
  have hb2 : Below w2.heap.size w2 (w2.alloc (.cells (([44, 47] : List Int).map (Value.int .i64)).toArray 3)) := (Below.refl _ _).alloc (Nat.le_refl _) _
  refine (l1PickInt_any a p n c xs w2.heap.size 2 [44, 47] _ (by omega) (by omega) rfl (lit_ints w2 [44, 47] 3) (by have := hc2.lt; omega) (hc2.below hb2 hc2.lt hc2.code_lt)).mono ?_
  rintro e w3 ⟨m, hm, rfl, hc3, g3⟩
  have b3 := below_cur (below_on b2 hb2) g3 ha
  clear hb2
  have hm2 : 0 ≤ m ∧ m < 256 := by
    simp only [List.mem_cons, List.not_mem_nil, or_false] at hm
    omega
  obtain ⟨hm0, hm1⟩ := hm2
  clear hm
  go_wp2_with (fail)
  go_ret2
  exact ⟨t, m, rfl, ht2.out, hm0, hm1, b3⟩

end Go.Proofs.YtjcombfcilbafaeDoor
