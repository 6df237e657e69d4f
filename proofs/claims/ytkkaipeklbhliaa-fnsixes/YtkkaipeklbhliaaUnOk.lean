/-
  When the signs of a text are those of the bytes that they mean: where those of its last group are. Conditions: each fact's own.
-/
import Derived.Test.YtkkaipeklbhliaaUnGroup
import Derived.Laws.Strings
namespace Go.Proofs.Ytkkaipeklbhliaa
open Go.RowKit
set_option maxRecDepth 100000

theorem bytes_same (a b : ByteArray) : a.toList = b.toList ↔ a.size = b.size ∧ ∀ j, j < b.size → c6 a j = c6 b j := by
  rw [ByteArray.toList_eq, ByteArray.toList_eq]
  have la : a.data.toList.length = a.size := by simp
  have lb : b.data.toList.length = b.size := by simp
  constructor
  · intro h
    refine ⟨by rw [← la, ← lb, h], fun j _ => ?_⟩
    unfold c6
    rw [h]
  · rintro ⟨hz, hj⟩
    apply List.ext_getElem (by omega)
    intro i h1 h2
    have := hj i (by omega)
    unfold c6 at this
    rw [List.getD_eq_getElem?_getD, List.getD_eq_getElem?_getD, List.getElem?_eq_getElem h1, List.getElem?_eq_getElem h2] at this
    simp only [Option.getD_some] at this
    exact UInt8.toNat_inj.1 (by omega)

section
variable {s : ByteArray} {q m : Nat}
/-- What a group's place in the signs of all bytes says. -/
theorem six_part (t i : Nat) (ht : t = 3 * q + 6 * m / 8) (hi : i < 4) : sixD (unT6 s t) (4 * q + i) = sixD (prt s q m) i := by
  have P := part_getD s q m
  have e0 : (unT6 s t).getD (3 * q) 0 = (prt s q m).getD 0 0 := by rw [P, unT6_getE, Nat.add_zero]; by_cases h : 0 < 6 * m / 8 <;> simp [h, ht]
  have e1 : (unT6 s t).getD (3 * q + 1) 0 = (prt s q m).getD 1 0 := by
    rw [P, unT6_getE]
    by_cases h : 1 < 6 * m / 8
    · rw [if_pos h, if_pos (by omega)]
    · rw [if_neg h, if_neg (by omega)]
  have e2 : (unT6 s t).getD (3 * q + 2) 0 = (prt s q m).getD 2 0 := by
    rw [P, unT6_getE]
    by_cases h : 2 < 6 * m / 8
    · rw [if_pos h, if_pos (by omega)]
    · rw [if_neg h, if_neg (by omega)]
  have hi4 : i = 0 ∨ i = 1 ∨ i = 2 ∨ i = 3 := by omega
  rcases hi4 with rfl | rfl | rfl | rfl
  · rw [Nat.add_zero, sixD0, e0]; exact (sixD0 (prt s q m) 0).symm
  · rw [sixD1, e0, e1]; exact (sixD1 (prt s q m) 0).symm
  · rw [sixD2, e1, e2]; exact (sixD2 (prt s q m) 0).symm
  · rw [sixD3, e2]; exact (sixD3 (prt s q m) 0).symm
theorem six_before (t Q i : Nat) (h : 3 * Q + 2 < t) (hi : i < 4) (hA : ∀ i, i < 4 → 0 ≤ d6 s (4 * Q + i)) : sixD (unT6 s t) (4 * Q + i) = d6 s (4 * Q + i) := by
  have l0 := d6_le s (4 * Q)
  have l1 := d6_le s (4 * Q + 1)
  have l2 := d6_le s (4 * Q + 2)
  have l3 := d6_le s (4 * Q + 3)
  have a0 := hA 0 (by omega)
  have a1 := hA 1 (by omega)
  have a2 := hA 2 (by omega)
  have a3 := hA 3 (by omega)
  rw [Nat.add_zero] at a0
  have e0 := unD0 s Q
  have e1 := unD1 s Q
  have e2 := unD2 s Q
  have g0 : (unT6 s t).getD (3 * Q) 0 = unD s (3 * Q) := unT6_getD s (by omega)
  have g1 : (unT6 s t).getD (3 * Q + 1) 0 = unD s (3 * Q + 1) := unT6_getD s (by omega)
  have g2 : (unT6 s t).getD (3 * Q + 2) 0 = unD s (3 * Q + 2) := unT6_getD s (by omega)
  have hj : i = 0 ∨ i = 1 ∨ i = 2 ∨ i = 3 := by omega
  rcases hj with rfl | rfl | rfl | rfl
  · rw [Nat.add_zero, sixD0, g0, e0]; omega
  · rw [sixD1, g0, g1, e0, e1]; omega
  · rw [sixD2, g1, g2, e1, e2]; omega
  · rw [sixD3, g2, e2]; omega
theorem c6_sx (i : Nat) (h : 0 ≤ d6 s i) : c6 s i = sx (d6 s i) := (sx_h6 _ (c6_lt s i).1 (c6_lt s i).2 h).symm
/-- A whole group's signs are those of its bytes. -/
theorem full_same (h : ∀ i, i < 4 → 0 ≤ d6 s (4 * q + i)) : gP (prt s q 4) 4 = gC s q 4 := by
  apply List.ext_getElem
  · simp [gP, gC]
  · intro i h1 h2
    have hi : i < 4 := by simpa [gP] using h1
    have a := gP_getD (prt s q 4) 4 i hi
    have b := gC_getD s q 4 i hi
    rw [List.getD_eq_getElem?_getD, List.getElem?_eq_getElem h1, Option.getD_some, if_pos hi] at a
    rw [List.getD_eq_getElem?_getD, List.getElem?_eq_getElem h2, Option.getD_some, if_pos hi] at b
    rw [a, b, c6_sx _ (h i hi), ← six_part (s := s) (q := q) (m := 4) (3 * q + 3) i rfl hi, six_before (s := s) (3 * q + 3) q i (by omega) hi h]
theorem ok6_last (hn : s.size = 4 * q + m) (h1 : 1 ≤ m) (h4 : m ≤ 4) (hA : All6 s s.size) : ok6 s = true ↔ gP (prt s q m) (sixN (6 * m / 8)) = gC s q m := by
  have ht : 6 * s.size / 8 = 3 * q + 6 * m / 8 := by omega
  have hs6 : sixN (3 * q + 6 * m / 8) = 4 * q + sixN (6 * m / 8) := by unfold sixN; omega
  have hAq : ∀ i, i < m → 0 ≤ d6 s (4 * q + i) := fun i hi => hA _ (by omega)
  rw [ok6_iff, ht, bytes_same, size_text, unT6_length, hs6]
  constructor
  · rintro ⟨_, hz, hj⟩
    have hz2 : sixN (6 * m / 8) = m := by omega
    rw [hz2]
    apply List.ext_getElem
    · simp [gP, gC]
    · intro i h1 h2
      have hi : i < 4 := by simpa [gP] using h1
      have a := gP_getD (prt s q m) m i hi
      have b := gC_getD s q m i hi
      rw [List.getD_eq_getElem?_getD, List.getElem?_eq_getElem h1, Option.getD_some] at a
      rw [List.getD_eq_getElem?_getD, List.getElem?_eq_getElem h2, Option.getD_some] at b
      rw [a, b]
      by_cases him : i < m
      · rw [if_pos him, if_pos him]
        have := hj (4 * q + i) (by omega)
        rw [c6_text, unT6_length, hs6, if_pos (by omega), six_part _ i rfl hi] at this
        exact this
      · rw [if_neg him, if_neg him]
  · intro h
    have hz2 : sixN (6 * m / 8) = m := by
      have hm : m = 1 ∨ m = 2 ∨ m = 3 ∨ m = 4 := by omega
      rcases hm with rfl | rfl | rfl | rfl
      · exfalso
        have : (gP (prt s q 1) (sixN (6 * 1 / 8))).getD 0 0 = (gC s q 1).getD 0 0 := by rw [h]
        rw [gP_getD _ _ _ (by decide), gC_getD _ _ _ _ (by decide), if_neg (by decide), if_pos (by decide)] at this
        have h0 := hAq 0 (by decide)
        unfold d6 at h0
        rw [← this] at h0
        revert h0
        decide
      · rfl
      · rfl
      · rfl
    rw [hz2] at h
    refine ⟨hA, by omega, fun j hj => ?_⟩
    rw [c6_text, unT6_length, hs6, if_pos (by omega), c6_sx j (hA j hj)]
    by_cases hq : j < 4 * q
    · have := six_before (s := s) (3 * q + 6 * m / 8) (j / 4) (j % 4) (by omega) (by omega) (fun i hi => hA _ (by omega))
      rw [show 4 * (j / 4) + j % 4 = j by omega] at this
      rw [this]
    · obtain ⟨i, rfl⟩ : ∃ i, j = 4 * q + i := ⟨j - 4 * q, by omega⟩
      have : (gP (prt s q m) m).getD i 0 = (gC s q m).getD i 0 := by rw [h]
      rw [gP_getD _ _ _ (by omega), gC_getD _ _ _ _ (by omega), if_pos (by omega), if_pos (by omega)] at this
      rw [six_part _ i rfl (by omega), this, c6_sx _ (hA _ hj)]
theorem ok6_empty (h : s.size = 0) : ok6 s = true := by
  rw [ok6_iff, h, bytes_same, size_text, unT6_length, h]
  exact ⟨fun j hj => by omega, rfl, fun j hj => by omega⟩
end

end Go.Proofs.Ytkkaipeklbhliaa
