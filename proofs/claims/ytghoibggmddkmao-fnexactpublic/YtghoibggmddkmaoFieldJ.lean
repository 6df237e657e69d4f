/-
  The bytes of numbers of four parts: plain laws.
-/
import Derived.Test.YtghoibggmddkmaoFieldC
import Derived.Laws.BitsAllLaws
namespace Go.Proofs.Ytghoibggmddkmao
open Go.RowKit

theorem cutD (q C D E : Int) (hC : 0 < C) : q % (C * (D * E)) / C % D = q / C % D := by
  have h := Int.mul_ediv_add_emod q (C * (D * E))
  have e : q = q % (C * (D * E)) + C * (D * (E * (q / (C * (D * E))))) := by
    have : C * (D * E) * (q / (C * (D * E))) = C * (D * (E * (q / (C * (D * E))))) := by simp only [Int.mul_assoc]
    omega
  have e2 : q / C = q % (C * (D * E)) / C + D * (E * (q / (C * (D * E)))) := by
    conv => lhs; rw [e]
    rw [Int.add_mul_ediv_left _ _ (by omega)]
  rw [e2, Int.add_mul_emod_self_left]
theorem bU_cut (p : Nat) (hp : p < 8) : ∃ E : Int, bU = 2 ^ (8 * p) * (256 * E) := by
  have hc : p = 0 ∨ p = 1 ∨ p = 2 ∨ p = 3 ∨ p = 4 ∨ p = 5 ∨ p = 6 ∨ p = 7 := by omega
  rcases hc with rfl | rfl | rfl | rfl | rfl | rfl | rfl | rfl
  · exact ⟨72057594037927936, by decide⟩
  · exact ⟨281474976710656, by decide⟩
  · exact ⟨1099511627776, by decide⟩
  · exact ⟨4294967296, by decide⟩
  · exact ⟨16777216, by decide⟩
  · exact ⟨65536, by decide⟩
  · exact ⟨256, by decide⟩
  · exact ⟨1, by decide⟩
theorem pow8 (p : Nat) : (2 : Int) ^ (8 * p) = 256 ^ p := by rw [Int.pow_mul]; rfl
theorem powB (i : Nat) : bU ^ i = 256 ^ (8 * i) := by rw [Int.pow_mul]; rfl
theorem byte_num (z : Int) (i p : Nat) (hp : p < 8) : numU z i / 2 ^ (8 * p) % 256 = z / 256 ^ (8 * i + p) % 256 := by
  obtain ⟨E, hE⟩ := bU_cut p hp
  have h2 : (0 : Int) < 2 ^ (8 * p) := Int.pow_pos (by decide)
  have hB := powU_pos i
  rw [numU]
  conv => lhs; lhs; lhs; rhs; rw [hE]
  rw [cutD _ _ _ _ h2, Int.ediv_ediv_of_nonneg (by omega), pow8, powB, ← Int.pow_add]
theorem numB_at (z : Int) (j : Nat) (hj : j < 32) : (numB z).getD j 0 = z / 256 ^ j % 256 := by
  have e16 : ∀ i : Nat, (65536 : Int) ^ i = 256 ^ (2 * i) := fun i => by rw [Int.pow_mul]; rfl
  have hp : ∀ i : Nat, (0 : Int) < 65536 ^ i := fun i => Int.pow_pos (by decide)
  rcases Nat.mod_two_eq_zero_or_one j with h | h
  · obtain ⟨i, rfl⟩ : ∃ i, j = 2 * i := ⟨j / 2, by omega⟩
    rw [numB_lo z i (by omega), ← e16]
    generalize z / 65536 ^ i = q
    omega
  · obtain ⟨i, rfl⟩ : ∃ i, j = 2 * i + 1 := ⟨j / 2, by omega⟩
    have e : z / 256 ^ (2 * i + 1) = z / 65536 ^ i / 256 := by
      rw [Int.ediv_ediv_of_nonneg (by have := hp i; omega), e16, ← Int.pow_succ]
    rw [numB_hi z i (by omega), e]
    generalize z / 65536 ^ i = q
    omega
theorem byte_at (z : Int) (i p : Nat) (hi : i < 4) (hp : p < 8) : numU z i / 2 ^ (8 * p) % 256 = (numB z).getD (8 * i + p) 0 := by
  rw [byte_num z i p hp, numB_at z (8 * i + p) (by omega)]
/-- A part in the midst of its bytes. -/
def byN (xs : List Int) (i : Nat) : Nat → Nat
  | 0 => 0
  | p + 1 => byN xs i p + (xs.getD (8 * i + p) 0).toNat * 2 ^ (8 * p)
theorem byN_lt {xs : List Int} (hb : ∀ x ∈ xs, 0 ≤ x ∧ x < 256) (i : Nat) : ∀ p, byN xs i p < 2 ^ (8 * p)
  | 0 => by simp [byN]
  | p + 1 => by
    have ih := byN_lt hb i p
    have hx := byteZ hb (8 * i + p)
    have h1 : (xs.getD (8 * i + p) 0).toNat * 2 ^ (8 * p) ≤ 255 * 2 ^ (8 * p) := Nat.mul_le_mul_right _ (by omega)
    rw [byN, show 8 * (p + 1) = 8 * p + 8 by omega, Nat.pow_add]
    omega
theorem or_low {a b i : Nat} (ha : a < 2 ^ i) : a ||| b * 2 ^ i = a + b * 2 ^ i := by
  have h := Nat.two_pow_add_eq_or_of_lt ha b
  rw [Nat.or_comm, Nat.mul_comm b, ← h, Nat.add_comm]
theorem or_step {xs : List Int} (hb : ∀ x ∈ xs, 0 ≤ x ∧ x < 256) (i p : Nat) (hp : p < 8) : bits .or .u64 (byN xs i p : Int) (((xs.getD (8 * i + p) 0).toNat * 2 ^ (8 * p) : Nat) : Int) = (byN xs i (p + 1) : Int) := by
  have h1 := byN_lt hb i p
  have h2 := byN_lt hb i (p + 1)
  have h3 : 2 ^ (8 * (p + 1)) ≤ 2 ^ 64 := Nat.pow_le_pow_right (by decide) (by omega)
  have h4 : 2 ^ (8 * p) ≤ 2 ^ 64 := Nat.pow_le_pow_right (by decide) (by omega)
  have e64 : (2 : Nat) ^ 64 = 18446744073709551616 := by decide
  rw [byN] at h2 ⊢
  rw [bits_or_u64_nat _ _ (by omega) (by omega), or_low h1]
theorem top_off (v : Nat) (hv : v < 18446744073709551616) : bits .andNot .u64 (v : Int) 9223372036854775808 = ((v % 9223372036854775808 : Nat) : Int) := by
  have h := u64_andNot_nat v 9223372036854775808 hv (by omega)
  have e : v &&& (18446744073709551615 - 9223372036854775808) = v % 9223372036854775808 := Nat.and_two_pow_sub_one_eq_mod v 63
  rw [e] at h
  exact h
/-- The parts of 32 bytes, the highest bit left away. -/
def rdU (xs : List Int) (i : Nat) : Int := if i = 3 then ((byN xs 3 8 % 9223372036854775808 : Nat) : Int) else (byN xs i 8 : Int)
theorem rdU_range {xs : List Int} (hb : ∀ x ∈ xs, 0 ≤ x ∧ x < 256) (i : Nat) : 0 ≤ rdU xs i ∧ rdU xs i < bU := by
  have h := byN_lt hb i 8
  have e64 : (2 : Nat) ^ (8 * 8) = 18446744073709551616 := by decide
  unfold rdU bU
  split <;> omega
theorem val_rdU {xs : List Int} (hb : ∀ x ∈ xs, 0 ≤ x ∧ x < 256) : valU (rdU xs) 4 = numF xs := by
  have hz : ∀ j, ((xs.getD j 0).toNat : Int) = xs.getD j 0 := fun j => Int.toNat_of_nonneg (byteZ hb j).1
  have hr := fun j => byteZ hb j
  have top : ∀ L M : Nat, L < 281474976710656 → (L + M * 281474976710656) % 9223372036854775808 = L + (M % 32768) * 281474976710656 := fun L M h => by omega
  have h6 := byN_lt hb 3 6
  have e6 : (2 : Nat) ^ (8 * 6) = 281474976710656 := by decide
  rw [e6] at h6
  have e8 : byN xs 3 8 = byN xs 3 6 + ((xs.getD 30 0).toNat + 256 * (xs.getD 31 0).toNat) * 281474976710656 := by
    simp only [byN, Nat.reduceMul, Nat.reduceAdd, Nat.reducePow]
    omega
  have et : ((byN xs 3 8 % 9223372036854775808 : Nat) : Int) = (byN xs 3 6 : Int) + (pairZ xs 15 % 32768) * 281474976710656 := by
    rw [e8, top _ _ h6]
    have h30 := hz 30
    have h31 := hz 31
    unfold pairZ
    simp only [Nat.reduceMul, Nat.reduceAdd]
    omega
  have part : ∀ i, (byN xs i 8 : Int) = pairZ xs (4 * i) + pairZ xs (4 * i + 1) * 65536 + pairZ xs (4 * i + 2) * 4294967296 + pairZ xs (4 * i + 3) * 281474976710656 := by
    intro i
    have h0 := hz (8 * i)
    have h1 := hz (8 * i + 1)
    have h2 := hz (8 * i + 2)
    have h3 := hz (8 * i + 3)
    have h4 := hz (8 * i + 4)
    have h5 := hz (8 * i + 5)
    have h6 := hz (8 * i + 6)
    have h7 := hz (8 * i + 7)
    unfold pairZ
    rw [show 2 * (4 * i) = 8 * i by omega, show 2 * (4 * i + 1) = 8 * i + 2 by omega, show 2 * (4 * i + 2) = 8 * i + 4 by omega, show 2 * (4 * i + 3) = 8 * i + 6 by omega]
    simp only [byN, Nat.add_zero, Nat.add_assoc, Nat.reduceAdd, Nat.reduceMul, Nat.reducePow]
    omega
  have part3 : (byN xs 3 6 : Int) = pairZ xs 12 + pairZ xs 13 * 65536 + pairZ xs 14 * 4294967296 := by
    have h0 := hz 24
    have h1 := hz 25
    have h2 := hz 26
    have h3 := hz 27
    have h4 := hz 28
    have h5 := hz 29
    unfold pairZ
    simp only [byN, Nat.add_zero, Nat.reduceMul, Nat.reduceAdd, Nat.reducePow]
    omega
  have p0 := part 0
  have p1 := part 1
  have p2 := part 2
  simp only [Nat.reduceMul, Nat.reduceAdd] at p0 p1 p2
  have l0 : rdU xs 0 = (byN xs 0 8 : Int) := rfl
  have l1 : rdU xs 1 = (byN xs 1 8 : Int) := rfl
  have l2 : rdU xs 2 = (byN xs 2 8 : Int) := rfl
  have l3 : rdU xs 3 = ((byN xs 3 8 % 9223372036854775808 : Nat) : Int) := rfl
  unfold numF
  have o : ∀ i, i ≠ 15 → ofZ xs i = pairZ xs i := fun i h => if_neg h
  have o15 : ofZ xs 15 = pairZ xs 15 % 32768 := if_pos rfl
  simp only [valU, valZ, l0, l1, l2, l3, et, part3, p0, p1, p2, bU, Int.reducePow, o 0 (by decide), o 1 (by decide), o 2 (by decide), o 3 (by decide), o 4 (by decide), o 5 (by decide), o 6 (by decide), o 7 (by decide), o 8 (by decide), o 9 (by decide), o 10 (by decide), o 11 (by decide), o 12 (by decide), o 13 (by decide), o 14 (by decide), o15]
  omega

end Go.Proofs.Ytghoibggmddkmao
