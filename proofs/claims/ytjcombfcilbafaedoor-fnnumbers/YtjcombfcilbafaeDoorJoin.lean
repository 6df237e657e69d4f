/-
  Parts of a text, with the byte between, are the text: as a loop over the parts puts them together.
-/
import Derived.Test.YtjcombfcilbafaeDoorImplSplitCore
namespace Go.Proofs.YtjcombfcilbafaeDoor
open Go.RowKit

/-- What the first parts are, put together with the byte between. -/
def backL (ps : List (List UInt8)) (b : UInt8) : Nat → List UInt8
  | 0 => []
  | j + 1 => backL ps b j ++ (if j = 0 then [] else [b]) ++ ps.getD j []

theorem back_cons (p : List UInt8) (ps : List (List UInt8)) (b : UInt8) (j : Nat) : backL (p :: ps) b (j + 1) = if j = 0 then p else p ++ b :: backL ps b j := by
  induction j with
  | zero => simp [backL]
  | succ j ih =>
    rw [backL, ih]
    by_cases h : j = 0
    · subst h
      simp [backL]
    · rw [if_neg h, if_neg (by omega), if_neg (by omega), backL, if_neg h]
      simp

theorem back_grows (ps : List (List UInt8)) (b : UInt8) (j m : Nat) : (backL ps b j).length ≤ (backL ps b (j + m)).length := by
  induction m with
  | zero => exact Nat.le_refl _
  | succ m ih =>
    rw [← Nat.add_assoc, backL]
    simp only [List.length_append]
    omega

theorem free_of {l : List UInt8} {b : UInt8} (h : b ∉ l) : ∀ x ∈ l, x ≠ b := by
  rintro x hx rfl
  exact h hx

theorem split_some (l : List UInt8) (b : UInt8) : (Lib.split l [b]).length ≠ 0 := by
  by_cases h : b ∈ l
  · obtain ⟨p, r, rfl, hp⟩ := List.eq_append_cons_of_mem h
    rw [split_hit (free_of hp)]
    simp
  · rw [split_none (free_of h)]
    simp

theorem back_all (b : UInt8) : ∀ (n : Nat) (l : List UInt8), l.length ≤ n → backL (Lib.split l [b]) b (Lib.split l [b]).length = l := by
  intro n
  induction n with
  | zero =>
    intro l hl
    obtain rfl : l = [] := List.length_eq_zero_iff.1 (by omega)
    rw [split_none (by simp)]
    simp [backL]
  | succ n ih =>
    intro l hl
    by_cases h : b ∈ l
    · obtain ⟨p, r, rfl, hp⟩ := List.eq_append_cons_of_mem h
      rw [split_hit (free_of hp), List.length_cons, back_cons, if_neg (split_some r b), ih r (by simp at hl; omega)]
    · rw [split_none (free_of h)]
      simp [backL]

/-- The same over texts. -/
def backT (ts : List ByteArray) (b : UInt8) : Nat → List UInt8 := backL (ts.map fun t => t.data.toList) b
theorem parts_lists (l : List UInt8) (b : UInt8) : (partsL l b).map (fun t => t.data.toList) = Lib.split l [b] := by
  simp [partsL, Function.comp_def]
theorem backT_all (l : List UInt8) (b : UInt8) : backT (partsL l b) b (partsL l b).length = l := by
  have e : (partsL l b).length = (Lib.split l [b]).length := by simp [partsL]
  rw [backT, parts_lists, e]
  exact back_all b _ l (Nat.le_refl _)
theorem backT_succ (ts : List ByteArray) (b : UInt8) (j : Nat) : backT ts b (j + 1) = backT ts b j ++ (if j = 0 then [] else [b]) ++ (ts.getD j ByteArray.empty).data.toList := by
  rw [backT, backL]
  congr 1
  by_cases h : j < ts.length
  · simp [h]
  · simp [List.getElem?_eq_none (show ts.length ≤ j by omega)]
theorem backT_le (ts : List ByteArray) (b : UInt8) {j n : Nat} (h : j ≤ n) : (backT ts b j).length ≤ (backT ts b n).length := by
  obtain ⟨m, rfl⟩ : ∃ m, n = j + m := ⟨n - j, by omega⟩
  exact back_grows _ b j m
theorem parts_pos (l : List UInt8) (b : UInt8) : 0 < (partsL l b).length := by
  have := split_some l b
  simp only [partsL, List.length_map]
  omega

end Go.Proofs.YtjcombfcilbafaeDoor
