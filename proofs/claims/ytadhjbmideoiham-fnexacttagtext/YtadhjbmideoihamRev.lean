/-
  What slices.Reverse does to a row of bytes that the call owns, whatever its block's type; condition: at most 2^40 bytes.
-/
import Derived.Test.YtadhjbmideoihamInfo
namespace Go.Proofs.Ytadhjbmideoiham
open Go.RowKit

/-- Reversed from both ends, k times. -/
def revK (xs : List Int) (n k : Nat) : List Int := (List.range n).map fun (i : Nat) => if i < k ∨ n ≤ i + k then xs.getD (n - 1 - i) 0 else xs.getD i 0
theorem revK_length (xs : List Int) (n k : Nat) : (revK xs n k).length = n := by simp [revK]
theorem revK_zero (xs : List Int) (n : Nat) (hx : xs.length = n) : revK xs n 0 = xs := by
  apply List.ext_getElem
  · simp [revK, hx]
  · intro i h1 h2
    simp [revK] at h1 ⊢
    rw [if_neg (by omega)]
    simp [List.getElem?_eq_getElem h2]
theorem revK_at (xs : List Int) (n k i : Nat) (hi : i < n) : (revK xs n k)[i]? = some (if i < k ∨ n ≤ i + k then xs.getD (n - 1 - i) 0 else xs.getD i 0) := by
  simp [revK, hi]
theorem revK_end (xs : List Int) (n k : Nat) (hx : xs.length = n) (h : n ≤ 2 * k + 1) : revK xs n k = xs.reverse := by
  apply List.ext_getElem
  · simp [revK, hx]
  · intro i h1 h2
    simp [revK] at h1
    simp at h2
    rw [List.getElem_reverse]
    simp only [revK, List.getElem_map, List.getElem_range, List.getD_eq_getElem?_getD]
    by_cases hc : i < k ∨ n ≤ i + k
    · rw [if_pos hc, List.getElem?_eq_getElem (by omega)]
      simp [hx]
    · rw [if_neg hc]
      have e : xs.length - 1 - i = i := by omega
      rw [List.getElem?_eq_getElem (by omega)]
      simp [e]
theorem revK_step (xs : List Int) (n k j : Nat) (hj : j + k + 1 = n) (hkj : k < j) :
    (((revK xs n k).map (Value.int .u8)).set k (.int .u8 (xs.getD j 0))).set j (.int .u8 (xs.getD k 0)) = (revK xs n (k + 1)).map (Value.int .u8) := by
  apply List.ext_getElem?
  intro i
  by_cases hi : i < n
  · rw [List.getElem?_map, revK_at xs n (k + 1) i hi]
    by_cases e1 : i = j
    · subst e1
      rw [List.getElem?_set_self (by simp [revK_length]; omega), if_pos (by omega)]
      simp [show n - 1 - i = k by omega]
    · rw [List.getElem?_set_ne (by omega)]
      by_cases e2 : i = k
      · subst e2
        rw [List.getElem?_set_self (by simp [revK_length]; omega), if_pos (by omega)]
        simp [show n - 1 - i = j by omega]
      · rw [List.getElem?_set_ne (by omega), List.getElem?_map, revK_at xs n k i hi]
        by_cases hc : i < k ∨ n ≤ i + k
        · rw [if_pos hc, if_pos (by omega)]
        · rw [if_neg hc, if_neg (by omega)]
  · rw [List.getElem?_eq_none (by simp [revK_length]; omega), List.getElem?_eq_none (by simp [revK_length]; omega)]

end Go.Proofs.Ytadhjbmideoiham
