/-
  Numbers for words of 32 bits: what is left by 2^32 and by 32 as the masks tell it, and a word turned left, as the two or's of its parts tell it; each at its own bounds.
-/
import Derived.Test.YtkkaipeklbhliaaInfo
namespace Go.Proofs.Ytkkaipeklbhliaa
open Go.RowKit
set_option maxRecDepth 100000

theorem i64_mask (a : Int) (e : Nat) (m : Int) (hm : m = ((2 ^ e - 1 : Nat) : Int)) (he : e ≤ 62) : bits .and .i64 a m = a % ((2 ^ e : Nat) : Int) := by
  have hp : 2 ^ e ≤ 2 ^ 62 := Nat.pow_le_pow_right (by decide) he
  have h0 : 0 < 2 ^ e := Nat.two_pow_pos e
  have eb : (BitVec.ofInt 64 m).toNat = 2 ^ e - 1 := by
    rw [BitVec.toNat_ofInt, hm]
    omega
  have ea : (BitVec.ofInt 64 a).toNat = (a % 18446744073709551616).toNat := by rw [BitVec.toNat_ofInt]; rfl
  have ed : (18446744073709551616 : Int) = ((2 ^ e : Nat) : Int) * ((2 ^ (64 - e) : Nat) : Int) := by
    rw [← Int.natCast_mul, ← Nat.pow_add, show e + (64 - e) = 64 by omega]
    rfl
  have : (BitVec.ofInt 64 a &&& BitVec.ofInt 64 m).toNat = (a % 18446744073709551616).toNat % 2 ^ e := by
    rw [BitVec.toNat_and, ea, eb, Nat.and_two_pow_sub_one_eq_mod]
  show IntKind.i64.wrap ((BitVec.ofInt 64 a &&& BitVec.ofInt 64 m).toNat : Int) = _
  have hlt : (a % 18446744073709551616).toNat % 2 ^ e < 2 ^ e := Nat.mod_lt _ h0
  have e2 : (((a % 18446744073709551616).toNat % 2 ^ e : Nat) : Int) = a % ((2 ^ e : Nat) : Int) := by
    rw [Int.natCast_emod, Int.toNat_of_nonneg (Int.emod_nonneg _ (by decide)), ed, Int.emod_emod_of_dvd _ (Int.dvd_mul_right _ _)]
  rw [this, IntKind.wrap_i64]
  rw [← e2]
  omega

theorem i64_mask32 (a : Int) : bits .and .i64 a 4294967295 = a % 4294967296 := i64_mask a 32 _ rfl (by decide)
theorem i64_mask31 (a : Int) : bits .and .i64 a 31 = a % 32 := i64_mask a 5 _ rfl (by decide)

theorem u64_mask31 (k : Int) : bits .and .u64 (IntKind.u64.wrap k) 31 = k % 32 := by
  have ew : IntKind.u64.wrap k = k % 18446744073709551616 := by rw [IntKind.wrap_u64]
  have ea : (BitVec.ofInt 64 (k % 18446744073709551616)).toNat = (k % 18446744073709551616).toNat := by rw [BitVec.toNat_ofInt]; omega
  have : (BitVec.ofInt 64 (k % 18446744073709551616) &&& BitVec.ofInt 64 31).toNat = (k % 18446744073709551616).toNat % 32 := by
    rw [BitVec.toNat_and, ea]
    show _ &&& (2 ^ 5 - 1) = _
    rw [Nat.and_two_pow_sub_one_eq_mod]
  rw [ew]
  show IntKind.u64.wrap ((BitVec.ofInt 64 (k % 18446744073709551616) &&& BitVec.ofInt 64 31).toNat : Int) = _
  rw [this, IntKind.wrap_u64]
  omega

/-- x, a word, turned left by m. -/
def turnN (x m : Nat) : Nat := 2 ^ m * (x % 2 ^ (32 - m)) + x / 2 ^ (32 - m)

theorem turn_hi {x m : Nat} (hx : x < 4294967296) (hm : m < 32) : x / 2 ^ (32 - m) < 2 ^ m := by
  rw [Nat.div_lt_iff_lt_mul (Nat.two_pow_pos _), ← Nat.pow_add, show m + (32 - m) = 32 by omega]
  exact hx

theorem turn_lt {x m : Nat} (hx : x < 4294967296) (hm : m < 32) : turnN x m < 4294967296 := by
  have h1 := turn_hi hx hm
  have h2 : x % 2 ^ (32 - m) < 2 ^ (32 - m) := Nat.mod_lt _ (Nat.two_pow_pos _)
  have h3 : 2 ^ m * (x % 2 ^ (32 - m) + 1) ≤ 2 ^ m * 2 ^ (32 - m) := Nat.mul_le_mul_left _ h2
  rw [← Nat.pow_add, show m + (32 - m) = 32 by omega, Nat.mul_add] at h3
  unfold turnN
  omega

theorem turn_or {x m : Nat} (hx : x < 4294967296) (hm : m < 32) : (x * 2 ^ m % 4294967296 ||| x / 2 ^ (32 - m)) = turnN x m := by
  have e : x * 2 ^ m % 4294967296 = 2 ^ m * (x % 2 ^ (32 - m)) := by
    rw [show (4294967296 : Nat) = 2 ^ m * 2 ^ (32 - m) by rw [← Nat.pow_add, show m + (32 - m) = 32 by omega], Nat.mul_comm x, Nat.mul_mod_mul_left]
  rw [e, turnN, Nat.two_pow_add_eq_or_of_lt (turn_hi hx hm)]

theorem turn_or' {x m : Nat} (hx : x < 4294967296) (hm : m < 32) : (x * 2 ^ m ||| x / 2 ^ (32 - m)) % 4294967296 = turnN x m := by
  rw [← turn_or hx hm]
  show (_ ||| _) % 2 ^ 32 = (_ % 2 ^ 32 ||| _)
  rw [Nat.or_mod_two_pow]
  congr 1
  exact Nat.mod_eq_of_lt (Nat.lt_of_le_of_lt (Nat.div_le_self _ _) hx)

theorem bv64_nat {a : Nat} (h : a < 18446744073709551616) : (BitVec.ofInt 64 (a : Int)).toNat = a := by rw [BitVec.toNat_ofInt]; omega
theorem bv32_nat {a : Nat} (h : a < 4294967296) : (BitVec.ofInt 32 (a : Int)).toNat = a := by rw [BitVec.toNat_ofInt]; omega

theorem i64_or (a b : Nat) (h1 : a < 9223372036854775808) (h2 : b < 9223372036854775808) : bits .or .i64 (a : Int) (b : Int) = ((a ||| b : Nat) : Int) := by
  have hlt : (a ||| b) < 2 ^ 63 := Nat.or_lt_two_pow h1 h2
  have : (BitVec.ofInt 64 (a : Int) ||| BitVec.ofInt 64 (b : Int)).toNat = (a ||| b) := by rw [BitVec.toNat_or, bv64_nat (by omega), bv64_nat (by omega)]
  show IntKind.i64.wrap ((BitVec.ofInt 64 (a : Int) ||| BitVec.ofInt 64 (b : Int)).toNat : Int) = _
  rw [this, IntKind.wrap_i64]
  omega

theorem u32_or (a b : Nat) (h1 : a < 4294967296) (h2 : b < 4294967296) : bits .or .u32 (a : Int) (b : Int) = ((a ||| b : Nat) : Int) := by
  have hlt : (a ||| b) < 2 ^ 32 := Nat.or_lt_two_pow h1 h2
  have : (BitVec.ofInt 32 (a : Int) ||| BitVec.ofInt 32 (b : Int)).toNat = (a ||| b) := by rw [BitVec.toNat_or, bv32_nat h1, bv32_nat h2]
  show IntKind.u32.wrap ((BitVec.ofInt 32 (a : Int) ||| BitVec.ofInt 32 (b : Int)).toNat : Int) = _
  rw [this, IntKind.wrap_u32]
  omega

theorem turn_u32 {x m : Nat} (hx : x < 4294967296) (hm : m < 32) : bits .or .u32 ((x : Int) * 2 ^ m % 4294967296) ((x : Int) / 2 ^ (32 - m)) = ((turnN x m : Nat) : Int) := by
  have e1 : (x : Int) * 2 ^ m % 4294967296 = ((x * 2 ^ m % 4294967296 : Nat) : Int) := by simp
  have e2 : (x : Int) / 2 ^ (32 - m) = ((x / 2 ^ (32 - m) : Nat) : Int) := by simp
  rw [e1, e2, u32_or _ _ (Nat.mod_lt _ (by decide)) (Nat.lt_of_le_of_lt (Nat.div_le_self _ _) hx), turn_or hx hm]

theorem turn_i64 {x m : Nat} (hx : x < 4294967296) (hm : m < 32) : bits .or .i64 ((x : Int) * 2 ^ m) ((x : Int) / 2 ^ (32 - m)) % 4294967296 = ((turnN x m : Nat) : Int) := by
  have e1 : (x : Int) * 2 ^ m = ((x * 2 ^ m : Nat) : Int) := by simp
  have e2 : (x : Int) / 2 ^ (32 - m) = ((x / 2 ^ (32 - m) : Nat) : Int) := by simp
  have hb : x * 2 ^ m < 9223372036854775808 := by
    have h1 : 2 ^ m ≤ 2 ^ 31 := Nat.pow_le_pow_right (by decide) (by omega)
    have h2 : x * 2 ^ m ≤ 4294967295 * 2 ^ 31 := Nat.mul_le_mul (by omega) h1
    omega
  have hd : x / 2 ^ (32 - m) ≤ x := Nat.div_le_self _ _
  have e3 := turn_or' hx hm
  rw [e1, e2, i64_or _ _ hb (by omega)]
  generalize (x * 2 ^ m ||| x / 2 ^ (32 - m)) = q at e3 ⊢
  omega

theorem shl_small {x m : Nat} (hx : x < 4294967296) (hm : m < 32) : 0 ≤ (x : Int) * 2 ^ m ∧ (x : Int) * 2 ^ m ≤ 9223372036854775807 := by
  have e1 : (x : Int) * 2 ^ m = ((x * 2 ^ m : Nat) : Int) := by simp
  have h1 : 2 ^ m ≤ 2 ^ 31 := Nat.pow_le_pow_right (by decide) (by omega)
  have h2 : x * 2 ^ m ≤ 4294967295 * 2 ^ 31 := Nat.mul_le_mul (by omega) h1
  omega

/-- Turned by all its bits a word is what it was. -/
theorem turn_turn {x m : Nat} (hx : x < 4294967296) (hm : m < 32) : turnN (turnN x m) ((32 - m) % 32) = x := by
  rcases Nat.eq_zero_or_pos m with rfl | h0
  · have e : ∀ y, y < 4294967296 → turnN y 0 = y := by
      intro y hy
      simp only [turnN]
      omega
    rw [show (32 - 0) % 32 = 0 from rfl, e _ (turn_lt hx hm), e x hx]
  · rw [Nat.mod_eq_of_lt (show 32 - m < 32 by omega)]
    have hh := turn_hi hx hm
    have e1 : turnN x m % 2 ^ m = x / 2 ^ (32 - m) := by
      rw [turnN, Nat.mul_add_mod, Nat.mod_eq_of_lt hh]
    have e2 : turnN x m / 2 ^ m = x % 2 ^ (32 - m) := by
      rw [turnN, Nat.mul_add_div (Nat.two_pow_pos _), Nat.div_eq_of_lt hh, Nat.add_zero]
    rw [show turnN (turnN x m) (32 - m) = 2 ^ (32 - m) * (turnN x m % 2 ^ (32 - (32 - m))) + turnN x m / 2 ^ (32 - (32 - m)) from rfl, show 32 - (32 - m) = m by omega, e1, e2, Nat.div_add_mod]

def wordN (n : Int) : Nat := (n % 4294967296).toNat
theorem wordN_lt (n : Int) : wordN n < 4294967296 := by unfold wordN; omega
theorem wordN_eq (n : Int) : ((wordN n : Nat) : Int) = n % 4294967296 := by unfold wordN; omega
def countN (k : Int) : Nat := (k % 32).toNat
theorem countN_lt (k : Int) : countN k < 32 := by unfold countN; omega
theorem countN_eq (k : Int) : ((countN k : Nat) : Int) = k % 32 := by unfold countN; omega
/-- What Turn answers. -/
def turnI (n k : Int) : Int := ((turnN (wordN n) (countN k) : Nat) : Int)
theorem turnI_lt (n k : Int) : 0 ≤ turnI n k ∧ turnI n k < 4294967296 := by
  have := turn_lt (wordN_lt n) (countN_lt k)
  unfold turnI
  omega
theorem turnI_back (n k : Int) : turnI (turnI n k) (32 - k % 32) = n % 4294967296 := by
  have h1 := turnI_lt n k
  have e1 : wordN (turnI n k) = turnN (wordN n) (countN k) := by
    unfold wordN
    rw [Int.emod_eq_of_lt h1.1 h1.2]
    simp [turnI, wordN]
  have h2 := countN_lt k
  have e2 : countN (32 - k % 32) = (32 - countN k) % 32 := by
    rw [← countN_eq]
    unfold countN at *
    omega
  rw [← wordN_eq]
  show ((turnN (wordN (turnI n k)) (countN (32 - k % 32)) : Nat) : Int) = _
  rw [e1, e2, turn_turn (wordN_lt n) h2]

end Go.Proofs.Ytkkaipeklbhliaa
