/-
  Groups of four signs of a text: the bytes that a group means, and when its signs are those of these bytes. Conditions: each fact's own.
-/
import Derived.Test.YtkkaipeklbhliaaPartOf
namespace Go.Proofs.Ytkkaipeklbhliaa
open Go.RowKit
set_option maxRecDepth 100000

/-- The first m signs of a text's group q, filled up with 0. -/
def gC (s : ByteArray) (q m : Nat) : List Int := (List.range 4).map fun i => if i < m then c6 s (4 * q + i) else 0
theorem gC_length (s : ByteArray) (q m : Nat) : (gC s q m).length = 4 := by simp [gC]
theorem gC_zero (s : ByteArray) (q : Nat) : gC s q 0 = [0, 0, 0, 0] := by simp [gC]; decide
theorem gC_getD (s : ByteArray) (q m i : Nat) (h : i < 4) : (gC s q m).getD i 0 = if i < m then c6 s (4 * q + i) else 0 := by simp [gC, h]
theorem gP_getD (xs : List Int) (k i : Nat) (h : i < 4) : (gP xs k).getD i 0 = if i < k then sx (sixD xs i) else 0 := by simp [gP, h]
theorem gC_set (s : ByteArray) (q m : Nat) (_ : m < 4) : (gC s q m).set m (c6 s (4 * q + m)) = gC s q (m + 1) := by
  apply List.ext_getElem
  · simp [gC]
  · intro i h1 h2
    simp [gC] at h1 h2 ⊢
    rw [List.getElem_set]
    split
    · next e => subst e; simp
    · next e =>
      simp
      by_cases hi : i < m
      · rw [if_pos hi, if_pos (by omega)]
      · rw [if_neg hi, if_neg (by omega)]
theorem gC_lt (s : ByteArray) (q m : Nat) : ∀ x ∈ gC s q m, 0 ≤ x ∧ x < 256 := by
  intro x hx
  simp only [gC, List.mem_map, List.mem_range] at hx
  obtain ⟨i, _, rfl⟩ := hx
  split
  · exact c6_lt _ _
  · omega
theorem gC_sign (s : ByteArray) (q m i : Nat) (h : ∀ i, i < m → 0 ≤ d6 s (4 * q + i)) (hm : m ≤ 4) (hi : i < m) : 0 ≤ h6 ((gC s q m).getD i 0) := by
  rw [gC_getD s q m i (by omega), if_pos hi]
  exact h i hi
/-- The whole bytes of a group's first m signs. -/
def prt (s : ByteArray) (q m : Nat) : List Int := (List.range (6 * m / 8)).map fun i => unD s (3 * q + i)
theorem part_length (s : ByteArray) (q m : Nat) : (prt s q m).length = 6 * m / 8 := by simp [prt]
theorem part_getD (s : ByteArray) (q m i : Nat) : (prt s q m).getD i 0 = if i < 6 * m / 8 then unD s (3 * q + i) else 0 := by
  by_cases h : i < 6 * m / 8
  · simp [prt, h]
  · rw [if_neg h, List.getD_eq_getElem?_getD, List.getElem?_eq_none (by rw [part_length]; omega)]; rfl
theorem part_more (s : ByteArray) (q m : Nat) : unT6 s (3 * q) ++ prt s q m = unT6 s (3 * q + 6 * m / 8) := by
  simp only [unT6, prt, List.range_add, List.map_append, List.map_map]
  rfl
theorem unT6_getE (s : ByteArray) (t j : Nat) : (unT6 s t).getD j 0 = if j < t then unD s j else 0 := by
  by_cases h : j < t
  · rw [if_pos h, unT6_getD s h]
  · rw [if_neg h, List.getD_eq_getElem?_getD, List.getElem?_eq_none (by rw [unT6_length]; omega)]; rfl

section
variable {s : ByteArray} {q m : Nat}
theorem part_lt (h : ∀ i, i < m → 0 ≤ d6 s (4 * q + i)) : ∀ x ∈ prt s q m, 0 ≤ x ∧ x < 256 := by
  intro x hx
  simp only [prt, List.mem_map, List.mem_range] at hx
  obtain ⟨i, hi, rfl⟩ := hx
  have l0 := d6_le s (4 * q)
  have l1 := d6_le s (4 * q + 1)
  have l2 := d6_le s (4 * q + 2)
  have l3 := d6_le s (4 * q + 3)
  have hi3 : i = 0 ∨ i = 1 ∨ 2 ≤ i := by omega
  rcases hi3 with rfl | rfl | h2
  · have a := h 0 (by omega)
    have b := h 1 (by omega)
    rw [Nat.add_zero] at a ⊢
    rw [unD0]; omega
  · have a := h 1 (by omega)
    have b := h 2 (by omega)
    rw [unD1]; omega
  · by_cases h3 : i = 2
    · subst h3
      have a := h 2 (by omega)
      have b := h 3 (by omega)
      rw [unD2]; omega
    · have e3 : 3 * q + i = 3 * (q + i / 3) + i % 3 := by omega
      have u0 := h (4 * (i / 3)) (by omega)
      have u1 := h (4 * (i / 3) + 1) (by omega)
      have l0 := d6_le s (4 * (q + i / 3))
      have l1 := d6_le s (4 * (q + i / 3) + 1)
      have l2 := d6_le s (4 * (q + i / 3) + 2)
      have l3 := d6_le s (4 * (q + i / 3) + 3)
      rw [show 4 * q + 4 * (i / 3) = 4 * (q + i / 3) by omega] at u0
      rw [show 4 * q + (4 * (i / 3) + 1) = 4 * (q + i / 3) + 1 by omega] at u1
      have hj : i % 3 = 0 ∨ i % 3 = 1 ∨ i % 3 = 2 := by omega
      rcases hj with hj | hj | hj
      · rw [e3, hj, Nat.add_zero, unD0]; omega
      · have u2 := h (4 * (i / 3) + 2) (by omega)
        rw [show 4 * q + (4 * (i / 3) + 2) = 4 * (q + i / 3) + 2 by omega] at u2
        rw [e3, hj, unD1]; omega
      · have u2 := h (4 * (i / 3) + 2) (by omega)
        have u3 := h (4 * (i / 3) + 3) (by omega)
        rw [show 4 * q + (4 * (i / 3) + 2) = 4 * (q + i / 3) + 2 by omega] at u2
        rw [show 4 * q + (4 * (i / 3) + 3) = 4 * (q + i / 3) + 3 by omega] at u3
        rw [e3, hj, unD2]; omega
theorem dN_gC (k : Nat) (hk : k < m) (hm : m ≤ 4) : dN (gC s q m) (k + 1) = dN (gC s q m) k * 64 + d6 s (4 * q + k) := by
  rw [dN, gC_getD s q m k (by omega), if_pos hk]
  rfl
theorem part_of (h : ∀ i, i < m → 0 ≤ d6 s (4 * q + i)) (h1 : 1 ≤ m) (h4 : m ≤ 4) : (b3 (bN (gC s q m) m)).take (6 * m / 8) = prt s q m := by
  have l0 := d6_le s (4 * q)
  have l1 := d6_le s (4 * q + 1)
  have l2 := d6_le s (4 * q + 2)
  have l3 := d6_le s (4 * q + 3)
  have z : dN (gC s q m) 0 = 0 := rfl
  have d1 := dN_gC (s := s) (q := q) (m := m) 0 (by omega) h4
  rw [z, Nat.add_zero] at d1
  have hm : m = 1 ∨ m = 2 ∨ m = 3 ∨ m = 4 := by omega
  rcases hm with rfl | rfl | rfl | rfl
  · rfl
  · have a := h 0 (by omega)
    have b := h 1 (by omega)
    have d2 := dN_gC (s := s) (q := q) (m := 2) 1 (by omega) h4
    have e0 := unD0 s q
    have eB : bN (gC s q 2) 2 = (d6 s (4 * q) * 64 + d6 s (4 * q + 1)) * 4096 := by unfold bN; rw [d2, d1]; simp
    rw [Nat.add_zero] at a
    have : b3 (bN (gC s q 2) 2) = [unD s (3 * q), bN (gC s q 2) 2 / 256 % 256, bN (gC s q 2) 2 % 256] := by
      unfold b3
      congr 1
      rw [eB, e0]; omega
    rw [this]
    rfl
  · have a := h 0 (by omega)
    have b := h 1 (by omega)
    have c := h 2 (by omega)
    have d2 := dN_gC (s := s) (q := q) (m := 3) 1 (by omega) h4
    have d3 := dN_gC (s := s) (q := q) (m := 3) 2 (by omega) h4
    have e0 := unD0 s q
    have e1 := unD1 s q
    have eB : bN (gC s q 3) 3 = ((d6 s (4 * q) * 64 + d6 s (4 * q + 1)) * 64 + d6 s (4 * q + 2)) * 64 := by unfold bN; rw [d3, d2, d1]; simp
    rw [Nat.add_zero] at a
    have : b3 (bN (gC s q 3) 3) = [unD s (3 * q), unD s (3 * q + 1), bN (gC s q 3) 3 % 256] := by
      have f0 : bN (gC s q 3) 3 / 65536 % 256 = unD s (3 * q) := by rw [eB, e0]; omega
      have f1 : bN (gC s q 3) 3 / 256 % 256 = unD s (3 * q + 1) := by rw [eB, e1]; omega
      unfold b3
      rw [f0, f1]
    rw [this]
    rfl
  · have a := h 0 (by omega)
    have b := h 1 (by omega)
    have c := h 2 (by omega)
    have d := h 3 (by omega)
    have d2 := dN_gC (s := s) (q := q) (m := 4) 1 (by omega) h4
    have d3 := dN_gC (s := s) (q := q) (m := 4) 2 (by omega) h4
    have d4 := dN_gC (s := s) (q := q) (m := 4) 3 (by omega) h4
    have e0 := unD0 s q
    have e1 := unD1 s q
    have e2 := unD2 s q
    have eB : bN (gC s q 4) 4 = ((d6 s (4 * q) * 64 + d6 s (4 * q + 1)) * 64 + d6 s (4 * q + 2)) * 64 + d6 s (4 * q + 3) := by unfold bN; rw [d4, d3, d2, d1]; simp
    rw [Nat.add_zero] at a
    have : b3 (bN (gC s q 4) 4) = [unD s (3 * q), unD s (3 * q + 1), unD s (3 * q + 2)] := by
      have f0 : bN (gC s q 4) 4 / 65536 % 256 = unD s (3 * q) := by rw [eB, e0]; omega
      have f1 : bN (gC s q 4) 4 / 256 % 256 = unD s (3 * q + 1) := by rw [eB, e1]; omega
      have f2 : bN (gC s q 4) 4 % 256 = unD s (3 * q + 2) := by rw [eB, e2]; omega
      unfold b3
      rw [f0, f1, f2]
    rw [this]
    rfl
end

end Go.Proofs.Ytkkaipeklbhliaa
