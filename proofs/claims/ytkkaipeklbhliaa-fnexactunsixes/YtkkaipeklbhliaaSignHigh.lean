/-
  What strings.ContainsRune answers of the 64 signs and any rune. Conditions: a rune that is not below 0.
-/
import Derived.Test.YtkkaipeklbhliaaSignAt
namespace Go.Proofs.Ytkkaipeklbhliaa
open Go.RowKit
set_option maxRecDepth 100000

theorem ascii_at (s : ByteArray) (hs : ∀ b ∈ s.data.toList, b.toNat < 128) (pos : Nat) (h : pos < s.size) : ∃ R : Nat, Utf8.decode s pos = (R, 1) ∧ R < 128 := by
  have hm : s[pos]'h ∈ s.data.toList := Array.getElem_mem_toList (xs := s.data) h
  exact ⟨_, decode_ascii s pos h (hs _ hm), hs _ hm⟩

set_option maxHeartbeats 2000000 in
theorem runeErr_any (s : ByteArray) (hs : ∀ b ∈ s.data.toList, b.toNat < 128) (w : World) :
    Calls Try.prog 38 #[.string s, .int .i32 65533] w fun e w' => e = .returned (.int .i64 (-1)) ∧ Below w.heap.size w w' := by
  go_enter Try.func38, Try.ntmps38
  go_wp2
  go_loopw [5] (fun _ wr => ∃ pos : Nat, pos ≤ s.size ∧ wr.heap[w.heap.size]? = some (.stringIter s pos) ∧ Below w.heap.size w wr) (fun _ wr => s.size - wr.iterPos w.heap.size)
  case atStart => exact ⟨0, Nat.zero_le _, World.iter_heap w s 0, (Below.refl _ _).alloc (Nat.le_refl _) _⟩
  case round =>
    obtain ⟨pos, hpos, hit, hbel⟩ := hrel
    by_cases hlt : pos < s.size
    · have hnx : ∀ ty, (Instr.next (.pointer (some ⟨w.heap.size, 0, none⟩)) true ty).run Try.prog wr = _ := fun ty => Lib.run_next_any_at wr w.heap.size s pos ty hit hlt
      obtain ⟨R, hdec, hR⟩ := ascii_at s hs pos hlt
      simp only [hdec] at hnx
      clear hdec
      have hR2 : ((R : Int) == 65533) = false := by simp; omega
      have hit2 := Lib.iterAt_heap wr w.heap.size s pos (pos + 1) hit
      have hbel2 := Lib.below_iterAt hbel (Nat.le_refl _) s (pos + 1)
      go_wp2
      go_roundw
      case rel => exact ⟨pos + 1, by omega, hit2, hbel2⟩
      case measure => rw [World.iterPos, World.iterPos, hit2, hit]; simp; omega
    · have hnx : ∀ ty, (Instr.next (.pointer (some ⟨w.heap.size, 0, none⟩)) true ty).run Try.prog wr = _ := fun ty => Lib.run_next_end_at wr w.heap.size s pos ty hit hlt
      go_wp2
      go_ret
      exact ⟨rfl, hbel⟩

theorem validRune_any (r : Int) (w : World) : Calls Try.prog 42 #[.int .i32 r] w fun e w' => e = .returned (.bool (validRune r)) ∧ w' = w := by
  by_cases a : 0 ≤ r
  · by_cases b : r < 55296
    · have e : validRune r = true := by unfold validRune; exact decide_eq_true (by omega)
      rw [e]
      go_enter Try.func42, Try.ntmps42
      go_wp2
      go_ret
      exact ⟨rfl, rfl⟩
    · by_cases c : 57343 < r
      · by_cases d : r ≤ 1114111
        · have e : validRune r = true := by unfold validRune; exact decide_eq_true (by omega)
          rw [e]
          go_enter Try.func42, Try.ntmps42
          go_wp2
          go_ret
          exact ⟨rfl, rfl⟩
        · have e : validRune r = false := by unfold validRune; exact decide_eq_false (by omega)
          rw [e]
          go_enter Try.func42, Try.ntmps42
          go_wp2
          go_ret
          exact ⟨rfl, rfl⟩
      · have e : validRune r = false := by unfold validRune; exact decide_eq_false (by omega)
        rw [e]
        go_enter Try.func42, Try.ntmps42
        go_wp2
        go_ret
        exact ⟨rfl, rfl⟩
  · have e : validRune r = false := by unfold validRune; exact decide_eq_false (by omega)
    have c : ¬ 57343 < r := by omega
    rw [e]
    go_enter Try.func42, Try.ntmps42
    go_wp2
    go_ret
    exact ⟨rfl, rfl⟩

set_option maxHeartbeats 2000000 in
theorem runeNot_any (s : ByteArray) (r : Int) (w : World) (h128 : 128 ≤ r) (hv : validRune r = false) :
    Calls Try.prog 38 #[.string s, .int .i32 r] w fun e w' => e = .returned (.int .i64 (-1)) ∧ w' = w := by
  have C := fun X => validRune_any r X
  have h3 : (r == 65533) = false := by
    simp
    rintro rfl
    revert hv
    decide
  rw [hv] at C
  clear hv
  go_enter Try.func38, Try.ntmps38
  go_wp2_with (go_at_call 42; refine (C _).mono ?_; rintro e w' ⟨rfl, he⟩; obtain rfl := he.symm)
  go_ret
  exact ⟨rfl, rfl⟩

end Go.Proofs.Ytkkaipeklbhliaa
