/-
  What is left by p, read again: the number itself; and what follows for sums, products and inverses. Plain laws of whole numbers.
-/
import Derived.Test.YtghoibggmddkmanSpecField
import Derived.Test.YtghoibggmddkmanPrimeP
namespace Go.Proofs.Ytghoibggmddkman

theorem numB_lo (z : Int) (i : Nat) (hi : i < 16) : (numB z).getD (2 * i) 0 = z / 65536 ^ i % 65536 % 256 := by
  have h : i = 0 ∨ i = 1 ∨ i = 2 ∨ i = 3 ∨ i = 4 ∨ i = 5 ∨ i = 6 ∨ i = 7 ∨ i = 8 ∨ i = 9 ∨ i = 10 ∨ i = 11 ∨ i = 12 ∨ i = 13 ∨ i = 14 ∨ i = 15 := by omega
  rcases h with rfl | rfl | rfl | rfl | rfl | rfl | rfl | rfl | rfl | rfl | rfl | rfl | rfl | rfl | rfl | rfl <;> rfl
theorem numB_hi (z : Int) (i : Nat) (hi : i < 16) : (numB z).getD (2 * i + 1) 0 = z / 65536 ^ i % 65536 / 256 % 256 := by
  have h : i = 0 ∨ i = 1 ∨ i = 2 ∨ i = 3 ∨ i = 4 ∨ i = 5 ∨ i = 6 ∨ i = 7 ∨ i = 8 ∨ i = 9 ∨ i = 10 ∨ i = 11 ∨ i = 12 ∨ i = 13 ∨ i = 14 ∨ i = 15 := by omega
  rcases h with rfl | rfl | rfl | rfl | rfl | rfl | rfl | rfl | rfl | rfl | rfl | rfl | rfl | rfl | rfl | rfl <;> rfl
theorem parts_val (z : Int) : ∀ n, valZ (fun i => z / 65536 ^ i % 65536) n = z % 65536 ^ n
  | 0 => by simp [valZ, Int.emod_one]
  | n + 1 => by
    have hp := powZ_pos n
    rw [valZ, parts_val z n, Int.pow_succ]
    have h1 := Int.mul_ediv_add_emod z (65536 ^ n)
    have h2 := Int.mul_ediv_add_emod (z / 65536 ^ n) 65536
    have e : z = (65536 ^ n * 65536) * (z / 65536 ^ n / 65536) + (z % 65536 ^ n + z / 65536 ^ n % 65536 * 65536 ^ n) := by
      have : 65536 ^ n * (z / 65536 ^ n) = 65536 ^ n * (65536 * (z / 65536 ^ n / 65536)) + 65536 ^ n * (z / 65536 ^ n % 65536) := by rw [← Int.mul_add, h2]
      rw [Int.mul_assoc, Int.mul_comm (z / 65536 ^ n % 65536)]
      omega
    have r1 : 0 ≤ z % 65536 ^ n := Int.emod_nonneg _ (by omega)
    have r2 : z % 65536 ^ n < 65536 ^ n := Int.emod_lt_of_pos _ hp
    have r3 : 0 ≤ z / 65536 ^ n % 65536 := by omega
    have r4 : z / 65536 ^ n % 65536 ≤ 65535 := by omega
    have r5 : 0 ≤ z / 65536 ^ n % 65536 * 65536 ^ n := Int.mul_nonneg r3 (by omega)
    have r6 : z / 65536 ^ n % 65536 * 65536 ^ n ≤ 65535 * 65536 ^ n := Int.mul_le_mul_of_nonneg_right r4 (by omega)
    have k : z % (65536 ^ n * 65536) = (65536 ^ n * 65536 * (z / 65536 ^ n / 65536) + (z % 65536 ^ n + z / 65536 ^ n % 65536 * 65536 ^ n)) % (65536 ^ n * 65536) := congrArg (fun x => x % (65536 ^ n * 65536)) e
    rw [Int.mul_add_emod_self_left, Int.emod_eq_of_lt (a := z % 65536 ^ n + z / 65536 ^ n % 65536 * 65536 ^ n) (by omega) (by omega)] at k
    exact k.symm
theorem numF_numB {z : Int} (h0 : 0 ≤ z) (h1 : z < fldP) : numF (numB z) = z := by
  have hb : (65536 : Int) ^ 16 = 65536 * 65536 ^ 15 := by decide
  have hP : fldP < 32768 * 65536 ^ 15 := by decide
  have h15 : z / 65536 ^ 15 < 32768 := Int.ediv_lt_of_lt_mul (by decide) (by omega)
  have h15' : 0 ≤ z / 65536 ^ 15 := Int.ediv_nonneg h0 (by decide)
  have e : valZ (ofZ (numB z)) 16 = valZ (fun i => z / 65536 ^ i % 65536) 16 := valZ_congr fun i hi => by
    have hp : pairZ (numB z) i = z / 65536 ^ i % 65536 := by
      unfold pairZ
      rw [numB_lo z i hi, numB_hi z i hi]
      omega
    unfold ofZ
    split
    · rename_i h
      subst h
      rw [hp]
      omega
    · exact hp
  rw [numF, e, parts_val, Int.emod_eq_of_lt h0 (by rw [hb]; omega)]
theorem fldP_pos : 0 < fldP := by decide
theorem numF_left (z : Int) : numF (numB (z % fldP)) = z % fldP := numF_numB (Int.emod_nonneg _ (by have := fldP_pos; omega)) (Int.emod_lt_of_pos _ fldP_pos)

/-! ### what follows -/
theorem left_mul (x y : Int) : (x % fldP * y) % fldP = (x * y) % fldP := ((likeP_mod x).mulR y).mod
theorem right_mul (x y : Int) : (x * (y % fldP)) % fldP = (x * y) % fldP := ((likeP_mod y).mulL x).mod
theorem left_add (x y : Int) : (x % fldP + y) % fldP = (x + y) % fldP := ((likeP_mod x).add (likeP.refl y)).mod
theorem both_add (x y : Int) : (x % fldP + y % fldP) % fldP = (x + y) % fldP := ((likeP_mod x).add (likeP_mod y)).mod
theorem left_sub (x y : Int) : (x % fldP - y) % fldP = (x - y) % fldP := ((likeP_mod x).sub (likeP.refl y)).mod
theorem mod_left (x : Int) : x % fldP % fldP = x % fldP := (likeP_mod x).mod
theorem like_pow {a b : Int} (h : likeP a b) : ∀ n, likeP (a ^ n) (b ^ n)
  | 0 => by rw [Int.pow_zero, Int.pow_zero]; exact likeP.refl _
  | n + 1 => by rw [Int.pow_succ, Int.pow_succ]; exact (like_pow h n).mul h
theorem left_pow (x : Int) (n : Nat) : ((x % fldP) ^ n) % fldP = (x ^ n) % fldP := (like_pow (likeP_mod x) n).mod
/-- Fermat's word for p. -/
theorem fermatP (z : Int) (hz : z % fldP ≠ 0) : z ^ ((fldP - 2).toNat + 1) % fldP = 1 := by
  have hpos := fldP_pos
  obtain ⟨n, hn⟩ : ∃ n : Nat, z % fldP = n := ⟨(z % fldP).toNat, by have := Int.emod_nonneg z (show fldP ≠ 0 by omega); omega⟩
  have hP : fldP = ((57896044618658097711785492504343953926634992332820282019728792003956564819949 : Nat) : Int) := rfl
  have hlt : z % fldP < fldP := Int.emod_lt_of_pos _ hpos
  have hn0 : n % 57896044618658097711785492504343953926634992332820282019728792003956564819949 ≠ 0 := by
    rw [Nat.mod_eq_of_lt (by omega)]
    omega
  have hf := prime_n77.2 n hn0
  have he : (fldP - 2).toNat + 1 = 57896044618658097711785492504343953926634992332820282019728792003956564819949 - 1 := by decide
  rw [he, ← left_pow, hn, hP, ← Int.natCast_pow, ← Int.natCast_emod, hf]
  rfl
/-- An inverse's inverse. -/
theorem fermat_back (z : Int) (hz : z % fldP ≠ 0) : ((z ^ (fldP - 2).toNat) ^ (fldP - 2).toNat) % fldP = z % fldP := by
  have h := fermatP z hz
  have hl : likeP (z ^ ((fldP - 2).toNat + 1)) 1 := likeP_of_mod (by rw [h]; decide)
  have e : (z ^ (fldP - 2).toNat) ^ (fldP - 2).toNat = (z ^ ((fldP - 2).toNat + 1)) ^ ((fldP - 2).toNat - 1) * z := by
    rw [← Int.pow_mul, ← Int.pow_mul]
    have : (fldP - 2).toNat * (fldP - 2).toNat = ((fldP - 2).toNat + 1) * ((fldP - 2).toNat - 1) + 1 := by decide
    rw [this, Int.pow_succ]
  rw [e]
  have h2 := (like_pow hl ((fldP - 2).toNat - 1)).mulR z
  rw [Int.one_pow, Int.one_mul] at h2
  exact h2.mod

end Go.Proofs.Ytghoibggmddkman
