/-
  What strings.IndexRune answers of a text of signs below 128 and a rune that has more bytes than one: that it is not there. Conditions: a text of 4 to 1048576 signs.
-/
import Derived.WalkMore
import Derived.Test.YtkkaipeklbhliaaSignHigh
namespace Go.Proofs.Ytkkaipeklbhliaa
open Go.RowKit
set_option maxRecDepth 100000

theorem index_far (s : ByteArray) (hs : ∀ b ∈ s.data.toList, b.toNat < 128) (a e : Nat) (c : UInt8) (hc : 128 ≤ c.toNat) (w : World) :
    Calls Try.prog 39 #[.string (s.extract a e), .int .u8 (c.toNat : Int)] w fun z w' => z = .returned (.int .i64 (-1)) ∧ w' = w := by
  have h := indexByte_any (s.extract a e) (c.toNat : Int) w
  have e2 : ((c.toNat : Int)).toNat.toUInt8 = c := by simp
  rw [e2, ← Lib.firstIdx_eq, firstIdx_ascii s a e c hs hc] at h
  exact h

set_option maxHeartbeats 4000000 in
theorem runeHigh_any (s : ByteArray) (hs : ∀ b ∈ s.data.toList, b.toNat < 128) (hs4 : 4 ≤ s.size) (hs5 : s.size ≤ 1048576) (r : Int) (w : World) (h128 : 128 ≤ r) (hne : r ≠ 65533) (hv : validRune r = true) :
    Calls Try.prog 38 #[.string s, .int .i32 r] w fun e w' => e = .returned (.int .i64 (-1)) ∧ Below w.heap.size w w' := by
  have C := fun X => validRune_any r X
  have h3 : (r == 65533) = false := by simpa using hne
  obtain ⟨he1, he2, he3⟩ := encode_facts r (by rw [validRune_eq]; exact hv) h128
  obtain ⟨E, hE⟩ : ∃ E, E = Utf8.encode r := ⟨_, rfl⟩
  rw [← hE] at he1 he2 he3
  rw [hv] at C
  clear hv hne
  obtain ⟨j, hj⟩ : ∃ j, E.size = j + 1 := ⟨E.size - 1, by omega⟩
  have hE1 : ∀ h : j < E.size, 128 ≤ (E[j]'h).toNat := fun h => by have := he3 (by omega); simp only [hj, Nat.add_one_sub_one] at this; exact this
  have hj3 : j ≤ 3 := by omega
  have hj1 : 1 ≤ j := by omega
  have hjs : j < s.size := by omega
  have hjE : j < E.size := by omega
  have hn : (((s[j]'hjs).toNat : Int) != ((E[j]'hjE).toNat : Int)) = true := by
    have h1 := hs _ (Array.getElem_mem_toList (xs := s.data) hjs)
    have h2 := hE1 hjE
    have h3 : (s[j]'hjs).toNat < 128 := h1
    simp
    omega
  have CF := fun a X => index_far s hs a s.size (E[j]'hjE) (hE1 hjE) X
  clear he1 he2 he3 hE1
  have hE' : Utf8.encode r = E := hE.symm
  clear hE
  go_enter Try.func38, Try.ntmps38
  go_wp2_with (go_at_call 42; refine (C _).mono ?_; rintro e w' ⟨rfl, he⟩; obtain rfl := he.symm)
  go_step3
  go_wp2
  go_loopw [9] (fun i wr => i = .int .i64 (j : Int) ∧ wr = w) (fun _ _ => 0)
  case atStart => exact ⟨by go_num, rfl⟩
  case round =>
    obtain ⟨rfl, rfl⟩ := hrel
    have i1 : (j : Int) < (s.size : Int) := by omega
    have i2 : (j : Int) < (E.size : Int) := by omega
    have i0 : (0 : Int) ≤ (j : Int) := by omega
    have i3 : (j : Int) ≤ 3 := by omega
    have i4 : (0 : Int) ≤ (j : Int) + 1 := by omega
    have i5 : (j : Int) + 1 ≤ (s.size : Int) := by omega
    have i6 : IntKind.i64.wrap ((j : Int) + 1) = (j : Int) + 1 := by rw [IntKind.wrap_i64]; omega
    clear hj
    go_wp2
    go_step3
    go_wp2
    go_quiet (fail)
    go_wp2
    go_quiet ((go_at_call 39; exact (CF _ _).mono (fun _ _ h => ⟨h.1, _, h.2⟩)))
    go_wp2
    simp (config := { zetaDelta := true }) only [Exit.noGoto_ret, Exit.inBlock, Exit.then]
    go_ret
    exact ⟨rfl, below_drewN (Below.refl _ _) _⟩

theorem indexRune_any (r : Int) (w : World) (h0 : 0 ≤ r) :
    Calls Try.prog 38 #[.string ⟨#[65, 66, 67, 68, 69, 70, 71, 72, 73, 74, 75, 76, 77, 78, 79, 80, 81, 82, 83, 84, 85, 86, 87, 88, 89, 90, 97, 98, 99, 100, 101, 102, 103, 104, 105, 106, 107, 108, 109, 110, 111, 112, 113, 114, 115, 116, 117, 118, 119, 120, 121, 122, 48, 49, 50, 51, 52, 53, 54, 55, 56, 57, 45, 95]⟩, .int .i32 r] w fun e w' => e = .returned (.int .i64 (h6 r)) ∧ Below w.heap.size w w' := by
  by_cases h1 : r < 128
  · exact (containsRune_low r w h0 h1).mono (fun _ _ h => ⟨h.1, by rw [h.2]; exact Below.refl _ _⟩)
  · rw [h6_high r (by omega)]
    by_cases h2 : r = 65533
    · subst h2
      exact runeErr_any _ ascii_signs w
    · by_cases hv : validRune r = true
      · exact runeHigh_any _ ascii_signs (by decide) (by decide) r w (by omega) h2 hv
      · exact (runeNot_any _ r w (by omega) (by simpa using hv)).mono (fun _ _ h => ⟨h.1, by rw [h.2]; exact Below.refl _ _⟩)

theorem containsRune_any (r : Int) (w : World) (h0 : 0 ≤ r) :
    Calls Try.prog 27 #[.string ⟨#[65, 66, 67, 68, 69, 70, 71, 72, 73, 74, 75, 76, 77, 78, 79, 80, 81, 82, 83, 84, 85, 86, 87, 88, 89, 90, 97, 98, 99, 100, 101, 102, 103, 104, 105, 106, 107, 108, 109, 110, 111, 112, 113, 114, 115, 116, 117, 118, 119, 120, 121, 122, 48, 49, 50, 51, 52, 53, 54, 55, 56, 57, 45, 95]⟩, .int .i32 r] w fun e w' => e = .returned (.bool (decide (0 ≤ h6 r))) ∧ Below w.heap.size w w' := by
  have C := fun X => indexRune_any r X h0
  go_enter Try.func27, Try.ntmps27
  go_wp2_with (go_at_call 38; refine (C _).mono ?_; rintro e w' ⟨rfl, hb⟩)
  go_ret
  exact ⟨rfl, hb⟩

end Go.Proofs.Ytkkaipeklbhliaa
