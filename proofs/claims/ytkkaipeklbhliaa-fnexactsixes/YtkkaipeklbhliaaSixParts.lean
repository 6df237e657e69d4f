/-
  The signs of bytes are the signs of their threes, one behind another. Conditions: none.
-/
import Derived.Test.YtkkaipeklbhliaaChunkSeq
import Derived.Test.YtkkaipeklbhliaaGroupMath
namespace Go.Proofs.Ytkkaipeklbhliaa
open Go.RowKit
set_option maxRecDepth 100000

/-- The bytes of the i-th three; its signs; the signs of some threes. -/
def prt3 (n : Nat) (xs : List Int) (i : Nat) : List Int := (xs.drop (3 * i)).take (ckM n i)
def sxP (n : Nat) (xs : List Int) (i : Nat) : List Int := sixT (prt3 n xs i) (sixN (ckM n i))
def sxF (n : Nat) (xs : List Int) (pre : List (Fin (ckK n))) : List Int := pre.flatMap fun x => sxP n xs x.1
theorem sxF_snoc (n : Nat) (xs : List Int) (pre : List (Fin (ckK n))) (x : Fin (ckK n)) : sxF n xs (pre ++ [x]) = sxF n xs pre ++ sxP n xs x.1 := by simp [sxF]
theorem sxN_le (n i : Nat) : sixN (ckM n i) ≤ 4 := by have := ckM_le n i; unfold sixN; omega
theorem sxP_length (n : Nat) (xs : List Int) (i : Nat) : (sxP n xs i).length = sixN (ckM n i) := sixT_length _ _
theorem sxF_le (n : Nat) (xs : List Int) : ∀ pre : List (Fin (ckK n)), (sxF n xs pre).length ≤ 4 * pre.length
  | [] => by simp [sxF]
  | x :: t => by
    have := sxF_le n xs t
    have h := sxN_le n x.1
    have e : sxF n xs (x :: t) = sxP n xs x.1 ++ sxF n xs t := by simp [sxF]
    rw [e, List.length_append, sxP_length, List.length_cons]
    omega
theorem prt3_length {n i : Nat} {xs : List Int} (hx : xs.length = n) (hi : i < ckK n) : (prt3 n xs i).length = ckM n i := by
  have := ckM_fit hi
  simp [prt3, hx]
  omega
theorem prt3_lt {n i : Nat} {xs : List Int} (hr : ∀ x ∈ xs, 0 ≤ x ∧ x < 256) : ∀ x ∈ prt3 n xs i, 0 ≤ x ∧ x < 256 := fun x hx => hr x (List.mem_of_mem_drop (List.mem_of_mem_take hx))
theorem prt3_getD {n i : Nat} {xs : List Int} (hx : xs.length = n) (hi : i < ckK n) (j : Nat) (hj : j < 3) : (prt3 n xs i).getD j 0 = xs.getD (3 * i + j) 0 := by
  unfold prt3
  by_cases h : j < ckM n i
  · simp [List.getD_eq_getElem?_getD, h, List.getElem?_drop]
  · have h1 := ckM_fit hi
    have h2 : n ≤ 3 * i + j := by unfold ckM at h; unfold ckK at hi; split at h <;> omega
    rw [List.getD_eq_getElem?_getD, List.getD_eq_getElem?_getD, List.getElem?_eq_none (by simp; omega), List.getElem?_eq_none (by omega)]
theorem prt3_six {n i : Nat} {xs : List Int} (hx : xs.length = n) (hi : i < ckK n) (j : Nat) (hj : j < 4) : sixD (prt3 n xs i) j = sixD xs (4 * i + j) := by
  have g0 := prt3_getD hx hi 0 (by decide)
  have g1 := prt3_getD hx hi 1 (by decide)
  have g2 := prt3_getD hx hi 2 (by decide)
  have h4 : j = 0 ∨ j = 1 ∨ j = 2 ∨ j = 3 := by omega
  rcases h4 with rfl | rfl | rfl | rfl
  · have e := sixD0 (prt3 n xs i) 0
    simp only [Nat.mul_zero] at e
    rw [e, Nat.add_zero, sixD0, g0, Nat.add_zero]
  · have e := sixD1 (prt3 n xs i) 0
    simp only [Nat.mul_zero, Nat.zero_add] at e
    rw [e, sixD1, g0, g1, Nat.add_zero]
  · have e := sixD2 (prt3 n xs i) 0
    simp only [Nat.mul_zero, Nat.zero_add] at e
    rw [e, sixD2, g1, g2]
  · have e := sixD3 (prt3 n xs i) 0
    simp only [Nat.mul_zero, Nat.zero_add] at e
    rw [e, sixD3, g2]
theorem sixT_more (xs : List Int) (a m : Nat) : sixT xs (a + m) = sixT xs a ++ (List.range m).map fun j => sx (sixD xs (a + j)) := by
  simp [sixT, List.range_add]
theorem sxP_is {n i : Nat} {xs : List Int} (hx : xs.length = n) (hi : i < ckK n) : sixT xs (4 * i) ++ sxP n xs i = sixT xs (4 * i + sixN (ckM n i)) := by
  rw [sixT_more]
  congr 1
  unfold sxP sixT
  apply List.map_congr_left
  intro j hj
  have := sxN_le n i
  rw [List.mem_range] at hj
  rw [prt3_six hx hi j (by omega)]
theorem sxF_take {n : Nat} {xs : List Int} (hx : xs.length = n) : ∀ k, k ≤ ckK n → sxF n xs ((List.finRange (ckK n)).take k) = sixT xs (if k = ckK n then sixN n else 4 * k)
  | 0, _ => by
    have : (if 0 = ckK n then sixN n else 4 * 0) = 0 := by unfold ckK sixN; split <;> omega
    rw [this]
    simp [sxF, sixT]
  | k + 1, h => by
    have hk : k < ckK n := h
    rw [fin_step hk, sxF_snoc, sxF_take hx k (by omega), if_neg (by omega), sxP_is hx hk]
    congr 1
    have h1 := ckM_fit hk
    unfold ckM at h1 ⊢
    unfold sixN
    unfold ckK at hk ⊢
    split <;> split <;> omega
theorem sxF_all {n : Nat} {xs : List Int} (hx : xs.length = n) : sxF n xs (List.finRange (ckK n)) = sixL xs := by
  have := sxF_take hx (ckK n) (Nat.le_refl _)
  rw [List.take_of_length_le (by simp), if_pos rfl] at this
  rw [this]
  unfold sixL
  rw [hx]
/-- The signs of a three are those of its group. -/
theorem gP_part (xs : List Int) (k : Nat) (hk : k ≤ 4) : (gP xs k).take k = sixT xs k := by
  have h4 : k = 0 ∨ k = 1 ∨ k = 2 ∨ k = 3 ∨ k = 4 := by omega
  rcases h4 with rfl | rfl | rfl | rfl | rfl <;> simp [gP, sixT, List.range_succ]
theorem part_in {w : World} {b o n i : Nat} {xs : List Int} (hx : xs.length = n) (hi : i < ckK n) (h : ∀ j, j < n → w.cell? ⟨b, o + j, none⟩ = some (.int .u8 (xs.getD j 0))) : BytesIn w (some ⟨b, o + 3 * i, none⟩) (ckM n i) (prt3 n xs i) := fun _ => ⟨b, o + 3 * i, rfl, fun j hj => by
  have h1 := ckM_fit hi
  have h2 := ckM_le n i
  rw [prt3_getD hx hi j (by omega), Nat.add_assoc]
  exact h _ (by omega)⟩

end Go.Proofs.Ytkkaipeklbhliaa
