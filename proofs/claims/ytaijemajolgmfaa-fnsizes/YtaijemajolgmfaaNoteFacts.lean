/-
  What is padded is found again: the mathematics.
-/
import Derived.Test.YtaijemajolgmfaaSpecUnnote
namespace Go.Proofs.Ytaijemajolgmfaa
open Go.RowKit

theorem un_note {xs : List Int} (h : xs.length ≤ 200) : unOk (noteL xs) ∧ unM (noteL xs) = xs.length ∧ unL (noteL xs) = xs := by
  have hM := noteM_le xs.length
  have e : noteL xs = 0 :: (xs.length : Int) :: (xs ++ List.replicate (noteM xs.length - (xs.length + 2)) 0) := by unfold noteL; rw [if_pos h]; rfl
  have hN : unN (noteL xs) = xs.length := by rw [e]; simp [unN]
  have hS : unS (noteL xs) = xs := by
    unfold unS
    rw [hN, e]
    simp
  have hL := noteL_length xs
  have hL2 : noteN xs.length = noteM xs.length := if_pos h
  have hk : unOk (noteL xs) := ⟨by omega, by rw [hN]; omega, by rw [hN]; exact h, by rw [hS]⟩
  exact ⟨hk, by unfold unM; rw [if_pos hk, hN], by unfold unL; rw [if_pos hk, hS]⟩
theorem note_un {bs : List Int} (h : unOk bs) : noteL (unL bs) = bs ∧ noteN (unM bs) = bs.length := by
  have e : unL bs = unS bs := if_pos h
  have e1 : noteL (unL bs) = bs := by rw [e]; exact h.2.2.2
  refine ⟨e1, ?_⟩
  rw [← unL_length, ← noteL_length, e1]
theorem note_size {n : Nat} (h : n ≤ 200) : ((noteN n : Nat) : Int) % 32 = 0 ∧ (n : Int) + 2 ≤ ((noteN n : Nat) : Int) ∧ ((noteN n : Nat) : Int) ≤ (n : Int) + 2 + 96 := by
  have : noteN n = noteM n := if_pos h
  rw [this]
  have := noteM_le n
  refine ⟨?_, by omega, by omega⟩
  unfold noteM
  split <;> omega

end Go.Proofs.Ytaijemajolgmfaa
