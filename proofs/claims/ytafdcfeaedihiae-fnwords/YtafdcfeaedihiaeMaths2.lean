/-
  Numbers for chapter 2's laws: bytes that are read as words and told again, and words that are told and read again, are what they were.
-/
import Derived.Test.YtafdcfeaedihiaeWords
import Derived.Test.YtafdcfeaedihiaeWordBytes
import Derived.Test.YtafdcfeaedihiaeSameInts
namespace Go.Proofs.Ytafdcfeaedihiae
open Go.RowKit

theorem little4 (v : Int) : littleL v 4 = [v / 1 % 256, v / 256 % 256, v / 65536 % 256, v / 16777216 % 256] := rfl

theorem four_bytes (x0 x1 x2 x3 : Nat) (h0 : x0 < 256) (h1 : x1 < 256) (h2 : x2 < 256) (h3 : x3 < 256) : littleL (((four x3 x2 x1 x0 : Nat) : Int) % 4294967296) 4 = [(x0 : Int), (x1 : Int), (x2 : Int), (x3 : Int)] := by
  rw [little4]
  have e : (((four x3 x2 x1 x0 : Nat) : Int) % 4294967296) = ((x3 * 256 + x2) * 256 + x1) * 256 + x0 := by unfold four; omega
  rw [e]
  have a1 : ((((x3 : Int) * 256 + x2) * 256 + x1) * 256 + x0) / 1 % 256 = x0 := by omega
  have a2 : ((((x3 : Int) * 256 + x2) * 256 + x1) * 256 + x0) / 256 % 256 = x1 := by omega
  have a3 : ((((x3 : Int) * 256 + x2) * 256 + x1) * 256 + x0) / 65536 % 256 = x2 := by omega
  have a4 : ((((x3 : Int) * 256 + x2) * 256 + x1) * 256 + x0) / 16777216 % 256 = x3 := by omega
  rw [a1, a2, a3, a4]

theorem fourL_at (great : Bool) (xs : List Int) (i : Nat) (hb : ∀ x ∈ xs, 0 ≤ x ∧ x < 256) (hi : 4 * i + 3 < xs.length) : fourL great (wordAt great xs i) = [xs.getD (4 * i) 0, xs.getD (4 * i + 1) 0, xs.getD (4 * i + 2) 0, xs.getD (4 * i + 3) 0] := by
  have byte : ∀ j, j < 4 → 0 ≤ xs.getD (4 * i + j) 0 ∧ xs.getD (4 * i + j) 0 < 256 := by
    intro j hj
    refine hb _ ?_
    simp [List.getElem?_eq_getElem (show 4 * i + j < xs.length by omega)]
  have b0 := byte 0 (by omega)
  have b1 := byte 1 (by omega)
  have b2 := byte 2 (by omega)
  have b3 := byte 3 (by omega)
  simp only [Nat.add_zero] at b0
  unfold fourL wordAt
  cases great
  · simp only [Bool.false_eq_true, if_false, Nat.add_zero]
    rw [four_bytes _ _ _ _ (by omega) (by omega) (by omega) (by omega), Int.toNat_of_nonneg b0.1, Int.toNat_of_nonneg b1.1, Int.toNat_of_nonneg b2.1, Int.toNat_of_nonneg b3.1]
  · simp only [if_true, Nat.add_zero]
    rw [four_bytes _ _ _ _ (by omega) (by omega) (by omega) (by omega), Int.toNat_of_nonneg b0.1, Int.toNat_of_nonneg b1.1, Int.toNat_of_nonneg b2.1, Int.toNat_of_nonneg b3.1]
    rfl

theorem take_four (xs : List Int) (k : Nat) (h : 4 * k + 3 < xs.length) : xs.take (4 * k) ++ [xs.getD (4 * k) 0, xs.getD (4 * k + 1) 0, xs.getD (4 * k + 2) 0, xs.getD (4 * k + 3) 0] = xs.take (4 * (k + 1)) := by
  have e : ∀ j, j < xs.length → xs.take j ++ [xs.getD j 0] = xs.take (j + 1) := by
    intro j hj
    rw [List.take_succ_eq_append_getElem hj]
    simp [List.getElem?_eq_getElem hj]
  rw [show 4 * (k + 1) = 4 * k + 3 + 1 by omega, ← e (4 * k + 3) (by omega), ← e (4 * k + 2) (by omega), ← e (4 * k + 1) (by omega), ← e (4 * k) (by omega)]
  simp only [List.append_assoc, List.cons_append, List.nil_append]

theorem bytes_words (great : Bool) (xs : List Int) (hb : ∀ x ∈ xs, 0 ≤ x ∧ x < 256) (k : Nat) (hk : 4 * k ≤ xs.length) : bytesL great (wordsL great xs k) = xs.take (4 * k) := by
  induction k with
  | zero => simp [wordsL, bytesL]
  | succ k ih =>
    rw [← wordsL_step, bytesL, List.flatMap_append, ← take_four xs k (by omega)]
    have := ih (by omega)
    rw [bytesL] at this
    rw [this]
    simp only [List.flatMap_cons, List.flatMap_nil, List.append_nil]
    rw [fourL_at great xs k hb (by omega)]

theorem bytesL_at (great : Bool) (ys : List Int) (i j : Nat) (hi : i < ys.length) (hj : j < 4) : (bytesL great ys).getD (4 * i + j) 0 = (fourL great (ys.getD i 0)).getD j 0 := by
  induction ys generalizing i with
  | nil => simp at hi
  | cons y ys ih =>
    have e : bytesL great (y :: ys) = fourL great y ++ bytesL great ys := by simp [bytesL]
    have hl := fourL_length great y
    rw [e]
    cases i with
    | zero =>
      simp only [List.getD_eq_getElem?_getD]
      rw [List.getElem?_append_left (by omega)]
      simp
    | succ i =>
      have h2 := ih i (by simp at hi; omega)
      simp only [List.getD_eq_getElem?_getD] at h2 ⊢
      rw [List.getElem?_append_right (by omega), hl, show 4 * (i + 1) + j - 4 = 4 * i + j by omega, h2]
      simp

theorem word_four (v : Int) (h0 : 0 ≤ v) (h1 : v < 4294967296) : ((four (v / 16777216 % 256).toNat (v / 65536 % 256).toNat (v / 256 % 256).toNat (v / 1 % 256).toNat : Nat) : Int) = v := by
  unfold four
  omega

theorem words_bytes (great : Bool) (ys : List Int) : wordsL great (bytesL great ys) ys.length = modL ys := by
  apply List.ext_getElem
  · simp [wordsL, modL]
  · intro i h1 h2
    simp only [wordsL, List.getElem_map, List.getElem_range, modL]
    have hi : i < ys.length := by simpa [wordsL] using h1
    have eg : ys.getD i 0 = ys[i] := by simp [List.getElem?_eq_getElem hi]
    have a0 := bytesL_at great ys i 0 hi (by omega)
    have a1 := bytesL_at great ys i 1 hi (by omega)
    have a2 := bytesL_at great ys i 2 hi (by omega)
    have a3 := bytesL_at great ys i 3 hi (by omega)
    unfold wordAt
    simp only [a0, a1, a2, a3, eg]
    have hm := word_four (ys[i] % 4294967296) (by omega) (by omega)
    unfold fourL
    cases great
    · simp only [Bool.false_eq_true, if_false, little4]
      exact hm
    · simp only [if_true, little4]
      exact hm

end Go.Proofs.Ytafdcfeaedihiae
