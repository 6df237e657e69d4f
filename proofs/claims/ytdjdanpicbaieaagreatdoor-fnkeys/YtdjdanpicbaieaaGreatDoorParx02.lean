/-
  The byte's row of the program's table of types.
  Numbers for words of 32 bits: what is left by 2^32 and by 32 as the masks tell it, and a word turned left, as the two or's of its parts tell it; each at its own bounds.
  What spec.Word and impl.Word answer at every int: what is left by 2^32; no condition.
  What bits.RotateLeft32, spec.Turn and impl.Turn answer at every two ints: the word turned left by what is left of k by 32; no condition.
  Numbers for a hash: the mixes of a word, the choice and the majority as and, or and xor tell them, a round of the eight words, the words that a block is spread to; each at its own bounds.
  What the mixes, the choice and the majority of words answer, and the specification's l3Mix; condition: words.
  What the specification's Turn and l3Mix answer at a word, in each of the four ways in which they are called: they only read; condition: a word.
  What slices.Reverse does to a row of bytes that the call owns, whatever its block's type; condition: at most 2^40 bytes.
  What impl.readWord answers at any four bytes: the number that they are, great or little; condition: they are bytes.
  The int's row of the program's table of types.
  'append(out, x)' of one int, out a row that the call owns, as one step of a region that draws its order, in whatever world the int lies; it says besides that the row's old cells stay as they were. Conditions: each fact's own.
  What spec.Little and impl.Little answer at every argument; no condition but that n is an int.
  What spec.Great and impl.Great answer at every argument; no condition but that n is an int.
  What spec.WordBytes and impl.WordBytes answer, whatever ints they are given: each one's word as four bytes, great or little; condition: at most 2^30 ints.
  What the specification's and the program's HashStart answer: the eight numbers, in memory of their own; no condition.
  FnExactXor: what spec.Xor and impl.Xor answer, and the law's road; no condition beyond at most 1048576 bytes.
  Numbers of 16 parts of 16 bits, which may be below 0 or above 16 bits, and what is left of them by 2 to the 255th less 19: plain laws of whole numbers.
  Two numbers of 16 parts multiplied, and a number to a power: plain laws of whole numbers.
  2 to the 255th less 19 is a prime, and so a number's power by it less 1 is 1: by a number whose powers are all of them (Pratt's way). Plain laws of natural numbers.
  FnExactHex: what spec.Hex and impl.Hex answer; conditions: at most 1048576 bytes.
  What the laws' helper eqByteS does, whatever bytes it is given: it compares; no condition but that a length is an int's.
  What the laws' helper toByteS does, whatever bytes it is given: it copies them; condition: at most 1048576 bytes.
  What the draws' cursor does, whatever bytes it is over: l1New makes one, l1Byte and l1Below give a number in their bounds and move it on; condition: at most 1048576 bytes.
  What the draws of bytes, of one of some texts or numbers, and of yes or no do, whatever cursor they are given; conditions: at most 255 bytes, at most 256 to pick from.
  What the laws' draws of chapter 3 make of any code: some bytes of their own, at most 4001. Condition: the code is of bytes, at most 2^20.
  What the draws of a tag's law answer: a key of 32 bytes or so, and some bytes.
  What the draws of chapter 12's laws answer: a seed, most often of 32 bytes, and an epoch; two epochs.
  What spec.Same and impl.Same answer, whatever bytes they are given; no condition.
  What the laws' helper big answers of a code's length, and a list's beginning; no condition.
-/
import Derived.Test.YtdjdanpicbaieaaGreatDoorParx01
import Derived.Test.YtdjdanpicbaieaaGreatDoorChecked
import Derived.Deep.QuietTactic
import Derived.BigQuiet
import Derived.Deep.AppendLies
import Derived.Deep.RegionLaw
namespace Go.Proofs.YtdjdanpicbaieaaGreatDoor
open Go.RowKit
set_option maxRecDepth 100000

theorem infoByte : (Tryz.prog.info? 5).map (fun i => (i.zero, i.size, i.bytes)) = some (some (.int .u8 0), 1, 1) := by kernel_rfl

end Go.Proofs.YtdjdanpicbaieaaGreatDoor

namespace Go.Proofs.YtdjdanpicbaieaaGreatDoor
open Go.RowKit
set_option maxRecDepth 100000

theorem i64_mask (a : Int) (e : Nat) (m : Int) (hm : m = ((2 ^ e - 1 : Nat) : Int)) (he : e ≤ 62) : bits .and .i64 a m = a % ((2 ^ e : Nat) : Int) := by
  have hp : 2 ^ e ≤ 2 ^ 62 := Nat.pow_le_pow_right (by decide) he
  have h0 : 0 < 2 ^ e := Nat.two_pow_pos e
  have eb : (BitVec.ofInt 64 m).toNat = 2 ^ e - 1 := by
    rw [BitVec.toNat_ofInt, hm]
    omega
  have ea : (BitVec.ofInt 64 a).toNat = (a % 18446744073709551616).toNat := by rw [BitVec.toNat_ofInt]; rfl
  have ed : (18446744073709551616 : Int) = ((2 ^ e : Nat) : Int) * ((2 ^ (64 - e) : Nat) : Int) := by
    rw [← Int.natCast_mul, ← Nat.pow_add, show e + (64 - e) = 64 by omega]
    rfl
  have : (BitVec.ofInt 64 a &&& BitVec.ofInt 64 m).toNat = (a % 18446744073709551616).toNat % 2 ^ e := by
    rw [BitVec.toNat_and, ea, eb, Nat.and_two_pow_sub_one_eq_mod]
  show IntKind.i64.wrap ((BitVec.ofInt 64 a &&& BitVec.ofInt 64 m).toNat : Int) = _
  have hlt : (a % 18446744073709551616).toNat % 2 ^ e < 2 ^ e := Nat.mod_lt _ h0
  have e2 : (((a % 18446744073709551616).toNat % 2 ^ e : Nat) : Int) = a % ((2 ^ e : Nat) : Int) := by
    rw [Int.natCast_emod, Int.toNat_of_nonneg (Int.emod_nonneg _ (by decide)), ed, Int.emod_emod_of_dvd _ (Int.dvd_mul_right _ _)]
  rw [this, IntKind.wrap_i64]
  rw [← e2]
  omega

theorem i64_mask32 (a : Int) : bits .and .i64 a 4294967295 = a % 4294967296 := i64_mask a 32 _ rfl (by decide)
theorem i64_mask31 (a : Int) : bits .and .i64 a 31 = a % 32 := i64_mask a 5 _ rfl (by decide)

theorem u64_mask31 (k : Int) : bits .and .u64 (IntKind.u64.wrap k) 31 = k % 32 := by
  have ew : IntKind.u64.wrap k = k % 18446744073709551616 := by rw [IntKind.wrap_u64]
  have ea : (BitVec.ofInt 64 (k % 18446744073709551616)).toNat = (k % 18446744073709551616).toNat := by rw [BitVec.toNat_ofInt]; omega
  have : (BitVec.ofInt 64 (k % 18446744073709551616) &&& BitVec.ofInt 64 31).toNat = (k % 18446744073709551616).toNat % 32 := by
    rw [BitVec.toNat_and, ea]
    show _ &&& (2 ^ 5 - 1) = _
    rw [Nat.and_two_pow_sub_one_eq_mod]
  rw [ew]
  show IntKind.u64.wrap ((BitVec.ofInt 64 (k % 18446744073709551616) &&& BitVec.ofInt 64 31).toNat : Int) = _
  rw [this, IntKind.wrap_u64]
  omega

/-- x, a word, turned left by m. -/
def turnN (x m : Nat) : Nat := 2 ^ m * (x % 2 ^ (32 - m)) + x / 2 ^ (32 - m)

theorem turn_hi {x m : Nat} (hx : x < 4294967296) (hm : m < 32) : x / 2 ^ (32 - m) < 2 ^ m := by
  rw [Nat.div_lt_iff_lt_mul (Nat.two_pow_pos _), ← Nat.pow_add, show m + (32 - m) = 32 by omega]
  exact hx

theorem turn_lt {x m : Nat} (hx : x < 4294967296) (hm : m < 32) : turnN x m < 4294967296 := by
  have h1 := turn_hi hx hm
  have h2 : x % 2 ^ (32 - m) < 2 ^ (32 - m) := Nat.mod_lt _ (Nat.two_pow_pos _)
  have h3 : 2 ^ m * (x % 2 ^ (32 - m) + 1) ≤ 2 ^ m * 2 ^ (32 - m) := Nat.mul_le_mul_left _ h2
  rw [← Nat.pow_add, show m + (32 - m) = 32 by omega, Nat.mul_add] at h3
  unfold turnN
  omega

theorem turn_or {x m : Nat} (hx : x < 4294967296) (hm : m < 32) : (x * 2 ^ m % 4294967296 ||| x / 2 ^ (32 - m)) = turnN x m := by
  have e : x * 2 ^ m % 4294967296 = 2 ^ m * (x % 2 ^ (32 - m)) := by
    rw [show (4294967296 : Nat) = 2 ^ m * 2 ^ (32 - m) by rw [← Nat.pow_add, show m + (32 - m) = 32 by omega], Nat.mul_comm x, Nat.mul_mod_mul_left]
  rw [e, turnN, Nat.two_pow_add_eq_or_of_lt (turn_hi hx hm)]

theorem turn_or' {x m : Nat} (hx : x < 4294967296) (hm : m < 32) : (x * 2 ^ m ||| x / 2 ^ (32 - m)) % 4294967296 = turnN x m := by
  rw [← turn_or hx hm]
  show (_ ||| _) % 2 ^ 32 = (_ % 2 ^ 32 ||| _)
  rw [Nat.or_mod_two_pow]
  congr 1
  exact Nat.mod_eq_of_lt (Nat.lt_of_le_of_lt (Nat.div_le_self _ _) hx)

theorem bv64_nat {a : Nat} (h : a < 18446744073709551616) : (BitVec.ofInt 64 (a : Int)).toNat = a := by rw [BitVec.toNat_ofInt]; omega
theorem bv32_nat {a : Nat} (h : a < 4294967296) : (BitVec.ofInt 32 (a : Int)).toNat = a := by rw [BitVec.toNat_ofInt]; omega

theorem i64_or (a b : Nat) (h1 : a < 9223372036854775808) (h2 : b < 9223372036854775808) : bits .or .i64 (a : Int) (b : Int) = ((a ||| b : Nat) : Int) := by
  have hlt : (a ||| b) < 2 ^ 63 := Nat.or_lt_two_pow h1 h2
  have : (BitVec.ofInt 64 (a : Int) ||| BitVec.ofInt 64 (b : Int)).toNat = (a ||| b) := by rw [BitVec.toNat_or, bv64_nat (by omega), bv64_nat (by omega)]
  show IntKind.i64.wrap ((BitVec.ofInt 64 (a : Int) ||| BitVec.ofInt 64 (b : Int)).toNat : Int) = _
  rw [this, IntKind.wrap_i64]
  omega

theorem u32_or (a b : Nat) (h1 : a < 4294967296) (h2 : b < 4294967296) : bits .or .u32 (a : Int) (b : Int) = ((a ||| b : Nat) : Int) := by
  have hlt : (a ||| b) < 2 ^ 32 := Nat.or_lt_two_pow h1 h2
  have : (BitVec.ofInt 32 (a : Int) ||| BitVec.ofInt 32 (b : Int)).toNat = (a ||| b) := by rw [BitVec.toNat_or, bv32_nat h1, bv32_nat h2]
  show IntKind.u32.wrap ((BitVec.ofInt 32 (a : Int) ||| BitVec.ofInt 32 (b : Int)).toNat : Int) = _
  rw [this, IntKind.wrap_u32]
  omega

theorem turn_u32 {x m : Nat} (hx : x < 4294967296) (hm : m < 32) : bits .or .u32 ((x : Int) * 2 ^ m % 4294967296) ((x : Int) / 2 ^ (32 - m)) = ((turnN x m : Nat) : Int) := by
  have e1 : (x : Int) * 2 ^ m % 4294967296 = ((x * 2 ^ m % 4294967296 : Nat) : Int) := by simp
  have e2 : (x : Int) / 2 ^ (32 - m) = ((x / 2 ^ (32 - m) : Nat) : Int) := by simp
  rw [e1, e2, u32_or _ _ (Nat.mod_lt _ (by decide)) (Nat.lt_of_le_of_lt (Nat.div_le_self _ _) hx), turn_or hx hm]

theorem turn_i64 {x m : Nat} (hx : x < 4294967296) (hm : m < 32) : bits .or .i64 ((x : Int) * 2 ^ m) ((x : Int) / 2 ^ (32 - m)) % 4294967296 = ((turnN x m : Nat) : Int) := by
  have e1 : (x : Int) * 2 ^ m = ((x * 2 ^ m : Nat) : Int) := by simp
  have e2 : (x : Int) / 2 ^ (32 - m) = ((x / 2 ^ (32 - m) : Nat) : Int) := by simp
  have hb : x * 2 ^ m < 9223372036854775808 := by
    have h1 : 2 ^ m ≤ 2 ^ 31 := Nat.pow_le_pow_right (by decide) (by omega)
    have h2 : x * 2 ^ m ≤ 4294967295 * 2 ^ 31 := Nat.mul_le_mul (by omega) h1
    omega
  have hd : x / 2 ^ (32 - m) ≤ x := Nat.div_le_self _ _
  have e3 := turn_or' hx hm
  rw [e1, e2, i64_or _ _ hb (by omega)]
  generalize (x * 2 ^ m ||| x / 2 ^ (32 - m)) = q at e3 ⊢
  omega

theorem shl_small {x m : Nat} (hx : x < 4294967296) (hm : m < 32) : 0 ≤ (x : Int) * 2 ^ m ∧ (x : Int) * 2 ^ m ≤ 9223372036854775807 := by
  have e1 : (x : Int) * 2 ^ m = ((x * 2 ^ m : Nat) : Int) := by simp
  have h1 : 2 ^ m ≤ 2 ^ 31 := Nat.pow_le_pow_right (by decide) (by omega)
  have h2 : x * 2 ^ m ≤ 4294967295 * 2 ^ 31 := Nat.mul_le_mul (by omega) h1
  omega

/-- Turned by all its bits a word is what it was. -/
theorem turn_turn {x m : Nat} (hx : x < 4294967296) (hm : m < 32) : turnN (turnN x m) ((32 - m) % 32) = x := by
  rcases Nat.eq_zero_or_pos m with rfl | h0
  · have e : ∀ y, y < 4294967296 → turnN y 0 = y := by
      intro y hy
      simp only [turnN]
      omega
    rw [show (32 - 0) % 32 = 0 from rfl, e _ (turn_lt hx hm), e x hx]
  · rw [Nat.mod_eq_of_lt (show 32 - m < 32 by omega)]
    have hh := turn_hi hx hm
    have e1 : turnN x m % 2 ^ m = x / 2 ^ (32 - m) := by
      rw [turnN, Nat.mul_add_mod, Nat.mod_eq_of_lt hh]
    have e2 : turnN x m / 2 ^ m = x % 2 ^ (32 - m) := by
      rw [turnN, Nat.mul_add_div (Nat.two_pow_pos _), Nat.div_eq_of_lt hh, Nat.add_zero]
    rw [show turnN (turnN x m) (32 - m) = 2 ^ (32 - m) * (turnN x m % 2 ^ (32 - (32 - m))) + turnN x m / 2 ^ (32 - (32 - m)) from rfl, show 32 - (32 - m) = m by omega, e1, e2, Nat.div_add_mod]

def wordN (n : Int) : Nat := (n % 4294967296).toNat
theorem wordN_lt (n : Int) : wordN n < 4294967296 := by unfold wordN; omega
theorem wordN_eq (n : Int) : ((wordN n : Nat) : Int) = n % 4294967296 := by unfold wordN; omega
def countN (k : Int) : Nat := (k % 32).toNat
theorem countN_lt (k : Int) : countN k < 32 := by unfold countN; omega
theorem countN_eq (k : Int) : ((countN k : Nat) : Int) = k % 32 := by unfold countN; omega
/-- What Turn answers. -/
def turnI (n k : Int) : Int := ((turnN (wordN n) (countN k) : Nat) : Int)
theorem turnI_lt (n k : Int) : 0 ≤ turnI n k ∧ turnI n k < 4294967296 := by
  have := turn_lt (wordN_lt n) (countN_lt k)
  unfold turnI
  omega
theorem turnI_back (n k : Int) : turnI (turnI n k) (32 - k % 32) = n % 4294967296 := by
  have h1 := turnI_lt n k
  have e1 : wordN (turnI n k) = turnN (wordN n) (countN k) := by
    unfold wordN
    rw [Int.emod_eq_of_lt h1.1 h1.2]
    simp [turnI, wordN]
  have h2 := countN_lt k
  have e2 : countN (32 - k % 32) = (32 - countN k) % 32 := by
    rw [← countN_eq]
    unfold countN at *
    omega
  rw [← wordN_eq]
  show ((turnN (wordN (turnI n k)) (countN (32 - k % 32)) : Nat) : Int) = _
  rw [e1, e2, turn_turn (wordN_lt n) h2]

end Go.Proofs.YtdjdanpicbaieaaGreatDoor

namespace Go.Proofs.YtdjdanpicbaieaaGreatDoor
open Go.RowKit
set_option maxRecDepth 100000

theorem specWord_same (n : Int) (w : World) :
    Calls Tryz.prog 127 #[.int .i64 n] w fun e w' => e = .returned (.int .i64 (n % 4294967296)) ∧ w' = w := by
  have hm := i64_mask32 n
  go_enter Tryz.func127, Tryz.ntmps127
  go_wp2
  go_ret
  exact ⟨rfl, rfl⟩

theorem implWord_same (n : Int) (w : World) :
    Calls Tryz.prog 154 #[.int .i64 n] w fun e w' => e = .returned (.int .i64 (n % 4294967296)) ∧ w' = w := by
  go_enter Tryz.func154, Tryz.ntmps154
  go_wp2
  go_ret
  exact ⟨rfl, rfl⟩

theorem specWord_any (n : Int) (w : World) :
    Calls Tryz.prog 127 #[.int .i64 n] w fun e w' => e = .returned (.int .i64 (n % 4294967296)) ∧ Below w.heap.size w w' :=
  (specWord_same n w).mono fun _ _ ⟨h1, h2⟩ => ⟨h1, by rw [h2]; exact Below.refl _ _⟩

theorem implWord_any (n : Int) (w : World) :
    Calls Tryz.prog 154 #[.int .i64 n] w fun e w' => e = .returned (.int .i64 (n % 4294967296)) ∧ Below w.heap.size w w' :=
  (implWord_same n w).mono fun _ _ ⟨h1, h2⟩ => ⟨h1, by rw [h2]; exact Below.refl _ _⟩

end Go.Proofs.YtdjdanpicbaieaaGreatDoor

namespace Go.Proofs.YtdjdanpicbaieaaGreatDoor
open Go.RowKit
set_option maxRecDepth 100000

theorem rotate_same (x : Nat) (k : Int) (w : World) (hx : x < 4294967296) :
    Calls Tryz.prog 161 #[.int .u32 x, .int .i64 k] w fun e w' => e = .returned (.int .u32 ((turnN x (countN k) : Nat) : Int)) ∧ w' = w := by
  have hm := (u64_mask31 k).trans (countN_eq k).symm
  have hlt := countN_lt k
  generalize countN k = m at hm hlt ⊢
  have ho := turn_u32 hx hlt
  go_enter Tryz.func161, Tryz.ntmps161
  go_wp2
  go_ret
  exact ⟨rfl, rfl⟩

theorem turned_same (x : Nat) (k : Int) (w : World) (hx : x < 4294967296) :
    Calls Tryz.prog 159 #[.int .u32 x, .int .i64 k] w fun e w' => e = .returned (.int .u32 ((turnN x (countN k) : Nat) : Int)) ∧ w' = w := by
  have hr := turn_lt hx (countN_lt k)
  have hc := fun w => rotate_same x k w hx
  generalize turnN x (countN k) = r at hr hc ⊢
  go_enter Tryz.func159, Tryz.ntmps159
  go_wp2_with (fail)
  refine (hc _).mono ?_
  rintro e w1 ⟨rfl, rfl⟩
  go_wp2
  go_ret
  exact ⟨rfl, rfl⟩

theorem specTurn_any (n k : Int) (w : World) :
    Calls Tryz.prog 157 #[.int .i64 n, .int .i64 k] w fun e w' => e = .returned (.int .i64 (turnI n k)) ∧ Below w.heap.size w w' := by
  have hx := wordN_lt n
  have he := wordN_eq n
  have hm := (i64_mask31 k).trans (countN_eq k).symm
  have hlt := countN_lt k
  unfold turnI
  generalize wordN n = x at hx he ⊢
  generalize countN k = m at hm hlt ⊢
  have ho := turn_i64 hx hlt
  have hs := shl_small hx hlt
  generalize turnN x m = r at ho ⊢
  go_enter Tryz.func157, Tryz.ntmps157
  go_wp2_with (fail)
  refine (specWord_same n _).mono ?_
  rintro e w1 ⟨rfl, rfl⟩
  rw [← he]
  clear he
  go_wp2_with (fail)
  go_quiet ((go_at_call 127; exact Calls.quiet_of_same (specWord_same _ _)))
  go_wp2
  go_ret
  rw [ho]
  exact ⟨rfl, below_drewN (Below.refl _ _) _⟩

end Go.Proofs.YtdjdanpicbaieaaGreatDoor

namespace Go.Proofs.YtdjdanpicbaieaaGreatDoor
open Go.RowKit
set_option maxRecDepth 100000

theorem u32_xor (a b : Nat) (h1 : a < 4294967296) (h2 : b < 4294967296) : bits .xor .u32 (a : Int) (b : Int) = ((a ^^^ b : Nat) : Int) := by
  have hlt : (a ^^^ b) < 2 ^ 32 := Nat.xor_lt_two_pow h1 h2
  have : (BitVec.ofInt 32 (a : Int) ^^^ BitVec.ofInt 32 (b : Int)).toNat = (a ^^^ b) := by rw [BitVec.toNat_xor, bv32_nat h1, bv32_nat h2]
  show IntKind.u32.wrap ((BitVec.ofInt 32 (a : Int) ^^^ BitVec.ofInt 32 (b : Int)).toNat : Int) = _
  rw [this, IntKind.wrap_u32]
  omega

theorem u32_and (a b : Nat) (h1 : a < 4294967296) (h2 : b < 4294967296) : bits .and .u32 (a : Int) (b : Int) = ((a &&& b : Nat) : Int) := by
  have hlt : (a &&& b) < 2 ^ 32 := Nat.and_lt_two_pow _ h2
  have : (BitVec.ofInt 32 (a : Int) &&& BitVec.ofInt 32 (b : Int)).toNat = (a &&& b) := by rw [BitVec.toNat_and, bv32_nat h1, bv32_nat h2]
  show IntKind.u32.wrap ((BitVec.ofInt 32 (a : Int) &&& BitVec.ofInt 32 (b : Int)).toNat : Int) = _
  rw [this, IntKind.wrap_u32]
  omega

theorem i64_xor (a b : Nat) (h1 : a < 4294967296) (h2 : b < 4294967296) : bits .xor .i64 (a : Int) (b : Int) = ((a ^^^ b : Nat) : Int) := by
  have hlt : (a ^^^ b) < 2 ^ 32 := Nat.xor_lt_two_pow h1 h2
  have : (BitVec.ofInt 64 (a : Int) ^^^ BitVec.ofInt 64 (b : Int)).toNat = (a ^^^ b) := by rw [BitVec.toNat_xor, bv64_nat (by omega), bv64_nat (by omega)]
  show IntKind.i64.wrap ((BitVec.ofInt 64 (a : Int) ^^^ BitVec.ofInt 64 (b : Int)).toNat : Int) = _
  rw [this, IntKind.wrap_i64]
  omega

theorem i64_and (a b : Nat) (h1 : a < 4294967296) (h2 : b < 4294967296) : bits .and .i64 (a : Int) (b : Int) = ((a &&& b : Nat) : Int) := by
  have hlt : (a &&& b) < 2 ^ 32 := Nat.and_lt_two_pow _ h2
  have : (BitVec.ofInt 64 (a : Int) &&& BitVec.ofInt 64 (b : Int)).toNat = (a &&& b) := by rw [BitVec.toNat_and, bv64_nat (by omega), bv64_nat (by omega)]
  show IntKind.i64.wrap ((BitVec.ofInt 64 (a : Int) &&& BitVec.ofInt 64 (b : Int)).toNat : Int) = _
  rw [this, IntKind.wrap_i64]
  omega

theorem xor_lt {a b : Nat} (h1 : a < 4294967296) (h2 : b < 4294967296) : a ^^^ b < 4294967296 := Nat.xor_lt_two_pow (n := 32) h1 h2
theorem and_lt {a b : Nat} (h2 : b < 4294967296) : a &&& b < 4294967296 := Nat.and_lt_two_pow (n := 32) _ h2
theorem or_lt {a b : Nat} (h1 : a < 4294967296) (h2 : b < 4294967296) : a ||| b < 4294967296 := Nat.or_lt_two_pow (n := 32) h1 h2

/-- The mixes: turned right by a, b and c; by a and b, and shifted by c. -/
def greatN (x a b c : Nat) : Nat := turnN x (32 - a) ^^^ turnN x (32 - b) ^^^ turnN x (32 - c)
def smallN (x a b c : Nat) : Nat := turnN x (32 - a) ^^^ turnN x (32 - b) ^^^ x / 2 ^ c
theorem greatN_lt {x a b c : Nat} (hx : x < 4294967296) (ha : 0 < a) (hb : 0 < b) (hc : 0 < c) : greatN x a b c < 4294967296 :=
  xor_lt (xor_lt (turn_lt hx (by omega)) (turn_lt hx (by omega))) (turn_lt hx (by omega))
theorem smallN_lt {x a b c : Nat} (hx : x < 4294967296) (ha : 0 < a) (hb : 0 < b) : smallN x a b c < 4294967296 :=
  xor_lt (xor_lt (turn_lt hx (by omega)) (turn_lt hx (by omega))) (Nat.lt_of_le_of_lt (Nat.div_le_self _ _) hx)

theorem u32_xor3 (a b c : Nat) (h1 : a < 4294967296) (h2 : b < 4294967296) (h3 : c < 4294967296) : bits .xor .u32 (bits .xor .u32 (a : Int) (b : Int)) (c : Int) = ((a ^^^ b ^^^ c : Nat) : Int) := by
  rw [u32_xor a b h1 h2, u32_xor _ c (xor_lt h1 h2) h3]
theorem i64_xor3 (a b c : Nat) (h1 : a < 4294967296) (h2 : b < 4294967296) (h3 : c < 4294967296) : bits .xor .i64 (bits .xor .i64 (a : Int) (b : Int)) (c : Int) = ((a ^^^ b ^^^ c : Nat) : Int) := by
  rw [i64_xor a b h1 h2, i64_xor _ c (xor_lt h1 h2) h3]

/-- The choice and the majority. -/
def chN (e f g : Nat) : Nat := (e &&& f) ^^^ ((4294967295 ^^^ e) &&& g)
def majN (a b c : Nat) : Nat := (a &&& b) ^^^ (a &&& c) ^^^ (b &&& c)
theorem chN_lt {e f g : Nat} (hf : f < 4294967296) (hg : g < 4294967296) : chN e f g < 4294967296 := xor_lt (and_lt hf) (and_lt hg)
theorem majN_lt {a b c : Nat} (hb : b < 4294967296) (hc : c < 4294967296) : majN a b c < 4294967296 := xor_lt (xor_lt (and_lt hb) (and_lt hc)) (and_lt hc)

theorem ch_or {e f g : Nat} (he : e < 4294967296) : (e &&& f ||| (4294967295 ^^^ e) &&& g) = chN e f g := by
  unfold chN
  apply Nat.eq_of_testBit_eq
  intro i
  have hk : (4294967295 : Nat).testBit i = decide (i < 32) := by
    rw [show (4294967295 : Nat) = 2 ^ 32 - 1 from rfl, Nat.testBit_two_pow_sub_one]
  simp only [Nat.testBit_or, Nat.testBit_xor, Nat.testBit_and, hk]
  by_cases hi : i < 32
  · simp only [hi, decide_true]
    cases e.testBit i <;> cases f.testBit i <;> cases g.testBit i <;> rfl
  · have : e.testBit i = false := Nat.testBit_lt_two_pow (Nat.lt_of_lt_of_le (show e < 2 ^ 32 from he) (Nat.pow_le_pow_right (by decide) (by omega)))
    rw [this]
    simp

theorem maj_or (a b c : Nat) : (a &&& b ||| a &&& c ||| b &&& c) = majN a b c := by
  unfold majN
  apply Nat.eq_of_testBit_eq
  intro i
  simp only [Nat.testBit_or, Nat.testBit_xor, Nat.testBit_and]
  cases a.testBit i <;> cases b.testBit i <;> cases c.testBit i <;> rfl

theorem u32_maj {a b c : Nat} (ha : a < 4294967296) (hb : b < 4294967296) (hc : c < 4294967296) :
    bits .or .u32 (bits .or .u32 (bits .and .u32 (a : Int) (b : Int)) (bits .and .u32 (a : Int) (c : Int))) (bits .and .u32 (b : Int) (c : Int)) = ((majN a b c : Nat) : Int) := by
  rw [u32_and a b ha hb, u32_and a c ha hc, u32_and b c hb hc, u32_or _ _ (and_lt hb) (and_lt hc), u32_or _ _ (or_lt (and_lt hb) (and_lt hc)) (and_lt hc), maj_or]
theorem i64_maj {a b c : Nat} (ha : a < 4294967296) (hb : b < 4294967296) (hc : c < 4294967296) :
    bits .xor .i64 (bits .xor .i64 (bits .and .i64 (a : Int) (b : Int)) (bits .and .i64 (a : Int) (c : Int))) (bits .and .i64 (b : Int) (c : Int)) = ((majN a b c : Nat) : Int) := by
  rw [i64_and a b ha hb, i64_and a c ha hc, i64_and b c hb hc, i64_xor _ _ (and_lt hb) (and_lt hc), i64_xor _ _ (xor_lt (and_lt hb) (and_lt hc)) (and_lt hc), majN]
theorem u32_ch {e f g : Nat} (he : e < 4294967296) (hf : f < 4294967296) (hg : g < 4294967296) :
    bits .or .u32 (bits .and .u32 (e : Int) (f : Int)) (bits .and .u32 (bits .xor .u32 IntKind.u32.max (e : Int)) (g : Int)) = ((chN e f g : Nat) : Int) := by
  have h0 : bits .xor .u32 IntKind.u32.max (e : Int) = ((4294967295 ^^^ e : Nat) : Int) := u32_xor 4294967295 e (by decide) he
  rw [h0, u32_and e f he hf, u32_and _ g (xor_lt (by decide) he) hg, u32_or _ _ (and_lt hf) (and_lt hg), ch_or he]
theorem i64_ch {e f g : Nat} (he : e < 4294967296) (hf : f < 4294967296) (hg : g < 4294967296) :
    bits .xor .i64 (bits .and .i64 (e : Int) (f : Int)) (bits .and .i64 (bits .xor .i64 4294967295 (e : Int)) (g : Int)) = ((chN e f g : Nat) : Int) := by
  have h0 : bits .xor .i64 4294967295 (e : Int) = ((4294967295 ^^^ e : Nat) : Int) := i64_xor 4294967295 e (by decide) he
  rw [h0, i64_and e f he hf, i64_and _ g (xor_lt (by decide) he) hg, i64_xor _ _ (and_lt hf) (and_lt hg), chN]

/-- The eight words. -/
structure St where
  a : Nat
  b : Nat
  c : Nat
  d : Nat
  e : Nat
  f : Nat
  g : Nat
  h : Nat
def St.ok (s : St) : Prop := s.a < 4294967296 ∧ s.b < 4294967296 ∧ s.c < 4294967296 ∧ s.d < 4294967296 ∧ s.e < 4294967296 ∧ s.f < 4294967296 ∧ s.g < 4294967296 ∧ s.h < 4294967296
def St.list (s : St) : List Nat := [s.a, s.b, s.c, s.d, s.e, s.f, s.g, s.h]
def t1N (s : St) (k w : Nat) : Nat := s.h + greatN s.e 6 11 25 + chN s.e s.f s.g + k + w
def t2N (s : St) : Nat := greatN s.a 2 13 22 + majN s.a s.b s.c
def stepN (s : St) (k w : Nat) : St := ⟨(t1N s k w + t2N s) % 4294967296, s.a, s.b, s.c, (s.d + t1N s k w) % 4294967296, s.e, s.f, s.g⟩
theorem stepN_ok {s : St} (h : s.ok) (k w : Nat) : (stepN s k w).ok := by
  obtain ⟨h1, h2, h3, h4, h5, h6, h7, h8⟩ := h
  exact ⟨Nat.mod_lt _ (by decide), h1, h2, h3, Nat.mod_lt _ (by decide), h5, h6, h7⟩

/-- The numbers of the rounds. -/
def keysL : List Nat := [0x428a2f98, 0x71374491, 0xb5c0fbcf, 0xe9b5dba5, 0x3956c25b, 0x59f111f1, 0x923f82a4, 0xab1c5ed5,
  0xd807aa98, 0x12835b01, 0x243185be, 0x550c7dc3, 0x72be5d74, 0x80deb1fe, 0x9bdc06a7, 0xc19bf174,
  0xe49b69c1, 0xefbe4786, 0x0fc19dc6, 0x240ca1cc, 0x2de92c6f, 0x4a7484aa, 0x5cb0a9dc, 0x76f988da,
  0x983e5152, 0xa831c66d, 0xb00327c8, 0xbf597fc7, 0xc6e00bf3, 0xd5a79147, 0x06ca6351, 0x14292967,
  0x27b70a85, 0x2e1b2138, 0x4d2c6dfc, 0x53380d13, 0x650a7354, 0x766a0abb, 0x81c2c92e, 0x92722c85,
  0xa2bfe8a1, 0xa81a664b, 0xc24b8b70, 0xc76c51a3, 0xd192e819, 0xd6990624, 0xf40e3585, 0x106aa070,
  0x19a4c116, 0x1e376c08, 0x2748774c, 0x34b0bcb5, 0x391c0cb3, 0x4ed8aa4a, 0x5b9cca4f, 0x682e6ff3,
  0x748f82ee, 0x78a5636f, 0x84c87814, 0x8cc70208, 0x90befffa, 0xa4506ceb, 0xbef9a3f7, 0xc67178f2]
theorem keysL_length : keysL.length = 64 := rfl
theorem keysL_lt : ∀ k ∈ keysL, k < 4294967296 := by decide
theorem getD_lt {l : List Nat} {B : Nat} (h : ∀ k ∈ l, k < B) (hB : 0 < B) (i : Nat) : l.getD i 0 < B := by
  rw [List.getD_eq_getElem?_getD]
  cases e : l[i]? with
  | none => exact hB
  | some v => exact h v (List.mem_of_getElem? e)

def roundsN (W : List Nat) (s : St) : Nat → St
  | 0 => s
  | t + 1 => stepN (roundsN W s t) (keysL.getD t 0) (W.getD t 0)
theorem roundsN_ok (W : List Nat) {s : St} (h : s.ok) : ∀ t, (roundsN W s t).ok
  | 0 => h
  | t + 1 => stepN_ok (roundsN_ok W h t) _ _

/-- What is told behind the rounds: word by word together. -/
def addL (xs ys : List Nat) : List Nat := (List.range 8).map fun i => (xs.getD i 0 + ys.getD i 0) % 4294967296
theorem addL_length (xs ys : List Nat) : (addL xs ys).length = 8 := by simp [addL]
theorem addL_lt (xs ys : List Nat) : ∀ x ∈ addL xs ys, x < 4294967296 := by
  intro x hx
  simp only [addL, List.mem_map] at hx
  obtain ⟨i, _, rfl⟩ := hx
  exact Nat.mod_lt _ (by decide)
def stOf (l : List Nat) : St := ⟨l.getD 0 0, l.getD 1 0, l.getD 2 0, l.getD 3 0, l.getD 4 0, l.getD 5 0, l.getD 6 0, l.getD 7 0⟩
theorem stOf_list {l : List Nat} (h : l.length = 8) : (stOf l).list = l := by
  match l, h with
  | [a, b, c, d, e, f, g, h], _ => rfl
theorem stOf_ok {l : List Nat} (h : ∀ x ∈ l, x < 4294967296) : (stOf l).ok :=
  ⟨getD_lt h (by decide) _, getD_lt h (by decide) _, getD_lt h (by decide) _, getD_lt h (by decide) _, getD_lt h (by decide) _, getD_lt h (by decide) _, getD_lt h (by decide) _, getD_lt h (by decide) _⟩

/-- The 64 words of a block: n more behind its sixteen. -/
def nextN (l : List Nat) (t : Nat) : Nat := (smallN (l.getD (t - 2) 0) 17 19 10 + l.getD (t - 7) 0 + smallN (l.getD (t - 15) 0) 7 18 3 + l.getD (t - 16) 0) % 4294967296
def moreN (l : List Nat) : Nat → List Nat
  | 0 => l
  | n + 1 => moreN l n ++ [nextN (moreN l n) (16 + n)]
theorem moreN_length (l : List Nat) (n : Nat) : (moreN l n).length = l.length + n := by
  induction n with
  | zero => rfl
  | succ n ih => simp [moreN, ih]; omega
theorem moreN_lt {l : List Nat} (h : ∀ x ∈ l, x < 4294967296) (n : Nat) : ∀ x ∈ moreN l n, x < 4294967296 := by
  induction n with
  | zero => exact h
  | succ n ih =>
    intro x hx
    simp only [moreN, List.mem_append, List.mem_singleton] at hx
    rcases hx with hx | rfl
    · exact ih x hx
    · exact Nat.mod_lt _ (by decide)
theorem moreN_getD (l : List Nat) (n m i : Nat) (hl : l.length = 16) (hi : i < 16 + n) (hn : n ≤ m) : (moreN l m).getD i 0 = (moreN l n).getD i 0 := by
  induction m with
  | zero => rw [show n = 0 by omega]
  | succ m ih =>
    by_cases e : n = m + 1
    · rw [e]
    · rw [← ih (by omega)]
      have := moreN_length l m
      simp only [moreN, List.getD_eq_getElem?_getD]
      rw [List.getElem?_append_left (by omega)]
/-- The whole of them, as each is told by those ahead of it. -/
def spreadN (l : List Nat) : List Nat := moreN l 48
theorem spreadN_length {l : List Nat} (hl : l.length = 16) : (spreadN l).length = 64 := by rw [spreadN, moreN_length, hl]
theorem spreadN_lt {l : List Nat} (h : ∀ x ∈ l, x < 4294967296) : ∀ x ∈ spreadN l, x < 4294967296 := moreN_lt h _
theorem spreadN_first {l : List Nat} (hl : l.length = 16) (t : Nat) (ht : t < 16) : (spreadN l).getD t 0 = l.getD t 0 := moreN_getD l 0 48 t hl (by omega) (by omega)
theorem spreadN_next {l : List Nat} (hl : l.length = 16) (t : Nat) (h1 : 16 ≤ t) (h2 : t < 64) : (spreadN l).getD t 0 = nextN (spreadN l) t := by
  obtain ⟨n, rfl⟩ : ∃ n, t = 16 + n := ⟨t - 16, by omega⟩
  have e : ∀ i, i < 16 + n → (spreadN l).getD i 0 = (moreN l n).getD i 0 := fun i hi => moreN_getD l n 48 i hl hi (by omega)
  have hlen := moreN_length l n
  rw [show (spreadN l).getD (16 + n) 0 = (moreN l (n + 1)).getD (16 + n) 0 from moreN_getD l (n + 1) 48 (16 + n) hl (by omega) (by omega)]
  unfold nextN
  rw [e _ (by omega), e _ (by omega), e _ (by omega), e _ (by omega)]
  simp only [moreN, List.getD_eq_getElem?_getD]
  rw [List.getElem?_append_right (by omega), show 16 + n - (moreN l n).length = 0 by omega]
  simp [nextN, List.getD_eq_getElem?_getD]
theorem spreadN_zero : spreadN (List.replicate 16 0) = List.replicate 64 0 := by decide

/-- What a block makes of eight words. -/
def blockN (ws s : List Nat) : List Nat := addL s (roundsN (spreadN ws) (stOf s) 64).list
theorem blockN_length (ws s : List Nat) : (blockN ws s).length = 8 := addL_length _ _
theorem blockN_lt (ws s : List Nat) : ∀ x ∈ blockN ws s, x < 4294967296 := addL_lt _ _

end Go.Proofs.YtdjdanpicbaieaaGreatDoor

namespace Go.Proofs.YtdjdanpicbaieaaGreatDoor
open Go.RowKit
set_option maxRecDepth 100000

theorem turned_right (x : Nat) (k : Int) (m : Nat) (w : World) (hx : x < 4294967296) (hm : countN k = m) :
    Calls Tryz.prog 159 #[.int .u32 x, .int .i64 k] w fun e w' => e = .returned (.int .u32 ((turnN x m : Nat) : Int)) ∧ w' = w := by
  subst hm
  exact turned_same x k w hx

theorem greatMix1_same (x : Nat) (w : World) (hx : x < 4294967296) :
    Calls Tryz.prog 148 #[.int .u32 x] w fun e w' => e = .returned (.int .u32 ((greatN x 6 11 25 : Nat) : Int)) ∧ w' = w := by
  have c1 := fun w => turned_right x (-6) 26 w hx rfl
  have c2 := fun w => turned_right x (-11) 21 w hx rfl
  have c3 := fun w => turned_right x (-25) 7 w hx rfl
  have l1 := turn_lt (m := 26) hx (by decide)
  have l2 := turn_lt (m := 21) hx (by decide)
  have l3 := turn_lt (m := 7) hx (by decide)
  simp only [greatN, Nat.reduceSub]
  generalize turnN x 26 = r1 at c1 l1 ⊢
  generalize turnN x 21 = r2 at c2 l2 ⊢
  generalize turnN x 7 = r3 at c3 l3 ⊢
  have ho := u32_xor3 r1 r2 r3 l1 l2 l3
  go_enter Tryz.func148, Tryz.ntmps148
  go_wp2_with (fail)
  refine (c1 _).mono ?_
  rintro e w1 ⟨rfl, rfl⟩
  go_wp2_with (fail)
  refine (c2 _).mono ?_
  rintro e w1 ⟨rfl, rfl⟩
  go_wp2_with (fail)
  refine (c3 _).mono ?_
  rintro e w1 ⟨rfl, rfl⟩
  go_wp2
  go_ret
  exact ⟨rfl, rfl⟩

theorem greatMix0_same (x : Nat) (w : World) (hx : x < 4294967296) :
    Calls Tryz.prog 150 #[.int .u32 x] w fun e w' => e = .returned (.int .u32 ((greatN x 2 13 22 : Nat) : Int)) ∧ w' = w := by
  have c1 := fun w => turned_right x (-2) 30 w hx rfl
  have c2 := fun w => turned_right x (-13) 19 w hx rfl
  have c3 := fun w => turned_right x (-22) 10 w hx rfl
  have l1 := turn_lt (m := 30) hx (by decide)
  have l2 := turn_lt (m := 19) hx (by decide)
  have l3 := turn_lt (m := 10) hx (by decide)
  simp only [greatN, Nat.reduceSub]
  generalize turnN x 30 = r1 at c1 l1 ⊢
  generalize turnN x 19 = r2 at c2 l2 ⊢
  generalize turnN x 10 = r3 at c3 l3 ⊢
  have ho := u32_xor3 r1 r2 r3 l1 l2 l3
  go_enter Tryz.func150, Tryz.ntmps150
  go_wp2_with (fail)
  refine (c1 _).mono ?_
  rintro e w1 ⟨rfl, rfl⟩
  go_wp2_with (fail)
  refine (c2 _).mono ?_
  rintro e w1 ⟨rfl, rfl⟩
  go_wp2_with (fail)
  refine (c3 _).mono ?_
  rintro e w1 ⟨rfl, rfl⟩
  go_wp2
  go_ret
  exact ⟨rfl, rfl⟩

theorem smallMix1_same (x : Nat) (w : World) (hx : x < 4294967296) :
    Calls Tryz.prog 146 #[.int .u32 x] w fun e w' => e = .returned (.int .u32 ((smallN x 17 19 10 : Nat) : Int)) ∧ w' = w := by
  have c1 := fun w => turned_right x (-17) 15 w hx rfl
  have c2 := fun w => turned_right x (-19) 13 w hx rfl
  have l1 := turn_lt (m := 15) hx (by decide)
  have l2 := turn_lt (m := 13) hx (by decide)
  simp only [smallN, Nat.reduceSub, Nat.reducePow]
  generalize turnN x 15 = r1 at c1 l1 ⊢
  generalize turnN x 13 = r2 at c2 l2 ⊢
  have ho := u32_xor3 r1 r2 (x / 1024) l1 l2 (by omega)
  simp only [Int.natCast_ediv, Int.cast_ofNat_Int] at ho
  go_enter Tryz.func146, Tryz.ntmps146
  go_wp2_with (fail)
  refine (c1 _).mono ?_
  rintro e w1 ⟨rfl, rfl⟩
  go_wp2_with (fail)
  refine (c2 _).mono ?_
  rintro e w1 ⟨rfl, rfl⟩
  go_wp2
  go_ret
  exact ⟨rfl, rfl⟩

theorem smallMix0_same (x : Nat) (w : World) (hx : x < 4294967296) :
    Calls Tryz.prog 147 #[.int .u32 x] w fun e w' => e = .returned (.int .u32 ((smallN x 7 18 3 : Nat) : Int)) ∧ w' = w := by
  have c1 := fun w => turned_right x (-7) 25 w hx rfl
  have c2 := fun w => turned_right x (-18) 14 w hx rfl
  have l1 := turn_lt (m := 25) hx (by decide)
  have l2 := turn_lt (m := 14) hx (by decide)
  simp only [smallN, Nat.reduceSub, Nat.reducePow]
  generalize turnN x 25 = r1 at c1 l1 ⊢
  generalize turnN x 14 = r2 at c2 l2 ⊢
  have ho := u32_xor3 r1 r2 (x / 8) l1 l2 (by omega)
  simp only [Int.natCast_ediv, Int.cast_ofNat_Int] at ho
  go_enter Tryz.func147, Tryz.ntmps147
  go_wp2_with (fail)
  refine (c1 _).mono ?_
  rintro e w1 ⟨rfl, rfl⟩
  go_wp2_with (fail)
  refine (c2 _).mono ?_
  rintro e w1 ⟨rfl, rfl⟩
  go_wp2
  go_ret
  exact ⟨rfl, rfl⟩

theorem majority_same (a b c : Nat) (w : World) (ha : a < 4294967296) (hb : b < 4294967296) (hc : c < 4294967296) :
    Calls Tryz.prog 151 #[.int .u32 a, .int .u32 b, .int .u32 c] w fun e w' => e = .returned (.int .u32 ((majN a b c : Nat) : Int)) ∧ w' = w := by
  have ho := u32_maj ha hb hc
  generalize majN a b c = r at ho ⊢
  go_enter Tryz.func151, Tryz.ntmps151
  go_wp2
  go_ret
  exact ⟨rfl, rfl⟩

theorem choice_same (a b c : Nat) (w : World) (ha : a < 4294967296) (hb : b < 4294967296) (hc : c < 4294967296) :
    Calls Tryz.prog 149 #[.int .u32 a, .int .u32 b, .int .u32 c] w fun e w' => e = .returned (.int .u32 ((chN a b c : Nat) : Int)) ∧ w' = w := by
  have ho := u32_ch ha hb hc
  generalize chN a b c = r at ho ⊢
  go_enter Tryz.func149, Tryz.ntmps149
  go_wp2
  go_ret
  exact ⟨rfl, rfl⟩

end Go.Proofs.YtdjdanpicbaieaaGreatDoor

namespace Go.Proofs.YtdjdanpicbaieaaGreatDoor
open Go.RowKit
set_option maxRecDepth 100000

theorem specTurn_drew (x : Nat) (k : Int) (m : Nat) (w : World) (hx : x < 4294967296) (hm0 : countN k = m) :
    Calls Tryz.prog 157 #[.int .i64 x, .int .i64 k] w fun e w' => e = .returned (.int .i64 ((turnN x m : Nat) : Int)) ∧ ∃ n, w' = w.drewN n := by
  have he : (x : Int) % 4294967296 = (x : Int) := by omega
  have hm := (i64_mask31 k).trans (countN_eq k).symm
  have hlt := countN_lt k
  subst hm0
  generalize countN k = m at hm hlt ⊢
  have ho := turn_i64 hx hlt
  have hs := shl_small hx hlt
  generalize turnN x m = r at ho ⊢
  have c1 := fun w => specWord_same (x : Int) w
  rw [he] at c1
  clear he
  go_enter Tryz.func157, Tryz.ntmps157
  go_wp2_with (fail)
  refine (c1 _).mono ?_
  rintro e w1 ⟨rfl, rfl⟩
  clear c1
  go_wp2_with (fail)
  go_quiet ((go_at_call 127; exact Calls.quiet_of_same (specWord_same _ _)))
  go_wp2
  go_ret
  rw [ho]
  exact ⟨rfl, _, rfl⟩

theorem l3Mix_s1 (x : Nat) (w : World) (hx : x < 4294967296) :
    Calls Tryz.prog 128 #[.int .i64 x, .int .i64 17, .int .i64 19, .int .i64 10, .bool true] w fun e w' => e = .returned (.int .i64 ((smallN x 17 19 10 : Nat) : Int)) ∧ ∃ n, w' = w.drewN n := by
  have c0 := fun w => specTurn_drew x 22 22 w hx rfl
  have c1 := fun w => specTurn_drew x 15 15 w hx rfl
  have c2 := fun w => specTurn_drew x 13 13 w hx rfl
  have l0 := turn_lt (m := 22) hx (by decide)
  have l1 := turn_lt (m := 15) hx (by decide)
  have l2 := turn_lt (m := 13) hx (by decide)
  simp only [smallN, Nat.reduceSub, Nat.reducePow]
  generalize turnN x 22 = r0 at c0 l0
  generalize turnN x 15 = r1 at c1 l1 ⊢
  generalize turnN x 13 = r2 at c2 l2 ⊢
  have ho := i64_xor3 r1 r2 (x / 1024) l1 l2 (by omega)
  simp only [Int.natCast_ediv, Int.cast_ofNat_Int] at ho
  have he : (x : Int) % 4294967296 = (x : Int) := by omega
  have cw := fun w => specWord_same (x : Int) w
  rw [he] at cw
  clear he
  go_enter Tryz.func128, Tryz.ntmps128
  go_wp2_with (fail)
  refine (c0 _).mono ?_
  rintro e w1 ⟨rfl, n1, rfl⟩
  go_wp2_with (fail)
  refine (cw _).mono ?_
  rintro e w1 ⟨rfl, rfl⟩
  go_wp2_with (fail)
  refine (c1 _).mono ?_
  rintro e w1 ⟨rfl, n2, rfl⟩
  go_wp2_with (fail)
  refine (c2 _).mono ?_
  rintro e w1 ⟨rfl, n3, rfl⟩
  go_wp2
  go_ret
  exact ⟨rfl, _, rfl⟩

theorem l3Mix_s0 (x : Nat) (w : World) (hx : x < 4294967296) :
    Calls Tryz.prog 128 #[.int .i64 x, .int .i64 7, .int .i64 18, .int .i64 3, .bool true] w fun e w' => e = .returned (.int .i64 ((smallN x 7 18 3 : Nat) : Int)) ∧ ∃ n, w' = w.drewN n := by
  have c0 := fun w => specTurn_drew x 29 29 w hx rfl
  have c1 := fun w => specTurn_drew x 25 25 w hx rfl
  have c2 := fun w => specTurn_drew x 14 14 w hx rfl
  have l0 := turn_lt (m := 29) hx (by decide)
  have l1 := turn_lt (m := 25) hx (by decide)
  have l2 := turn_lt (m := 14) hx (by decide)
  simp only [smallN, Nat.reduceSub, Nat.reducePow]
  generalize turnN x 29 = r0 at c0 l0
  generalize turnN x 25 = r1 at c1 l1 ⊢
  generalize turnN x 14 = r2 at c2 l2 ⊢
  have ho := i64_xor3 r1 r2 (x / 8) l1 l2 (by omega)
  simp only [Int.natCast_ediv, Int.cast_ofNat_Int] at ho
  have he : (x : Int) % 4294967296 = (x : Int) := by omega
  have cw := fun w => specWord_same (x : Int) w
  rw [he] at cw
  clear he
  go_enter Tryz.func128, Tryz.ntmps128
  go_wp2_with (fail)
  refine (c0 _).mono ?_
  rintro e w1 ⟨rfl, n1, rfl⟩
  go_wp2_with (fail)
  refine (cw _).mono ?_
  rintro e w1 ⟨rfl, rfl⟩
  go_wp2_with (fail)
  refine (c1 _).mono ?_
  rintro e w1 ⟨rfl, n2, rfl⟩
  go_wp2_with (fail)
  refine (c2 _).mono ?_
  rintro e w1 ⟨rfl, n3, rfl⟩
  go_wp2
  go_ret
  exact ⟨rfl, _, rfl⟩

theorem l3Mix_S1 (x : Nat) (w : World) (hx : x < 4294967296) :
    Calls Tryz.prog 128 #[.int .i64 x, .int .i64 6, .int .i64 11, .int .i64 25, .bool false] w fun e w' => e = .returned (.int .i64 ((greatN x 6 11 25 : Nat) : Int)) ∧ ∃ n, w' = w.drewN n := by
  have c0 := fun w => specTurn_drew x 7 7 w hx rfl
  have c1 := fun w => specTurn_drew x 26 26 w hx rfl
  have c2 := fun w => specTurn_drew x 21 21 w hx rfl
  have l0 := turn_lt (m := 7) hx (by decide)
  have l1 := turn_lt (m := 26) hx (by decide)
  have l2 := turn_lt (m := 21) hx (by decide)
  simp only [greatN, Nat.reduceSub]
  generalize turnN x 7 = r0 at c0 l0 ⊢
  generalize turnN x 26 = r1 at c1 l1 ⊢
  generalize turnN x 21 = r2 at c2 l2 ⊢
  have ho := i64_xor3 r1 r2 r0 l1 l2 l0
  go_enter Tryz.func128, Tryz.ntmps128
  go_wp2_with (fail)
  refine (c0 _).mono ?_
  rintro e w1 ⟨rfl, n1, rfl⟩
  go_wp2_with (fail)
  refine (c1 _).mono ?_
  rintro e w1 ⟨rfl, n2, rfl⟩
  go_wp2_with (fail)
  refine (c2 _).mono ?_
  rintro e w1 ⟨rfl, n3, rfl⟩
  go_wp2
  go_ret
  exact ⟨rfl, _, rfl⟩

theorem l3Mix_S0 (x : Nat) (w : World) (hx : x < 4294967296) :
    Calls Tryz.prog 128 #[.int .i64 x, .int .i64 2, .int .i64 13, .int .i64 22, .bool false] w fun e w' => e = .returned (.int .i64 ((greatN x 2 13 22 : Nat) : Int)) ∧ ∃ n, w' = w.drewN n := by
  have c0 := fun w => specTurn_drew x 10 10 w hx rfl
  have c1 := fun w => specTurn_drew x 30 30 w hx rfl
  have c2 := fun w => specTurn_drew x 19 19 w hx rfl
  have l0 := turn_lt (m := 10) hx (by decide)
  have l1 := turn_lt (m := 30) hx (by decide)
  have l2 := turn_lt (m := 19) hx (by decide)
  simp only [greatN, Nat.reduceSub]
  generalize turnN x 10 = r0 at c0 l0 ⊢
  generalize turnN x 30 = r1 at c1 l1 ⊢
  generalize turnN x 19 = r2 at c2 l2 ⊢
  have ho := i64_xor3 r1 r2 r0 l1 l2 l0
  go_enter Tryz.func128, Tryz.ntmps128
  go_wp2_with (fail)
  refine (c0 _).mono ?_
  rintro e w1 ⟨rfl, n1, rfl⟩
  go_wp2_with (fail)
  refine (c1 _).mono ?_
  rintro e w1 ⟨rfl, n2, rfl⟩
  go_wp2_with (fail)
  refine (c2 _).mono ?_
  rintro e w1 ⟨rfl, n3, rfl⟩
  go_wp2
  go_ret
  exact ⟨rfl, _, rfl⟩

end Go.Proofs.YtdjdanpicbaieaaGreatDoor

namespace Go.Proofs.YtdjdanpicbaieaaGreatDoor
open Go.RowKit
set_option maxRecDepth 100000

/-- Reversed from both ends, k times. -/
def revK (xs : List Int) (n k : Nat) : List Int := (List.range n).map fun (i : Nat) => if i < k ∨ n ≤ i + k then xs.getD (n - 1 - i) 0 else xs.getD i 0
theorem revK_length (xs : List Int) (n k : Nat) : (revK xs n k).length = n := by simp [revK]
theorem revK_zero (xs : List Int) (n : Nat) (hx : xs.length = n) : revK xs n 0 = xs := by
  apply List.ext_getElem
  · simp [revK, hx]
  · intro i h1 h2
    simp [revK] at h1 ⊢
    rw [if_neg (by omega)]
    simp [List.getElem?_eq_getElem h2]
theorem revK_at (xs : List Int) (n k i : Nat) (hi : i < n) : (revK xs n k)[i]? = some (if i < k ∨ n ≤ i + k then xs.getD (n - 1 - i) 0 else xs.getD i 0) := by
  simp [revK, hi]
theorem revK_end (xs : List Int) (n k : Nat) (hx : xs.length = n) (h : n ≤ 2 * k + 1) : revK xs n k = xs.reverse := by
  apply List.ext_getElem
  · simp [revK, hx]
  · intro i h1 h2
    simp [revK] at h1
    simp at h2
    rw [List.getElem_reverse]
    simp only [revK, List.getElem_map, List.getElem_range, List.getD_eq_getElem?_getD]
    by_cases hc : i < k ∨ n ≤ i + k
    · rw [if_pos hc, List.getElem?_eq_getElem (by omega)]
      simp [hx]
    · rw [if_neg hc]
      have e : xs.length - 1 - i = i := by omega
      rw [List.getElem?_eq_getElem (by omega)]
      simp [e]
theorem revK_step (xs : List Int) (n k j : Nat) (hj : j + k + 1 = n) (hkj : k < j) :
    (((revK xs n k).map (Value.int .u8)).set k (.int .u8 (xs.getD j 0))).set j (.int .u8 (xs.getD k 0)) = (revK xs n (k + 1)).map (Value.int .u8) := by
  apply List.ext_getElem?
  intro i
  by_cases hi : i < n
  · rw [List.getElem?_map, revK_at xs n (k + 1) i hi]
    by_cases e1 : i = j
    · subst e1
      rw [List.getElem?_set_self (by simp [revK_length]; omega), if_pos (by omega)]
      simp [show n - 1 - i = k by omega]
    · rw [List.getElem?_set_ne (by omega)]
      by_cases e2 : i = k
      · subst e2
        rw [List.getElem?_set_self (by simp [revK_length]; omega), if_pos (by omega)]
        simp [show n - 1 - i = j by omega]
      · rw [List.getElem?_set_ne (by omega), List.getElem?_map, revK_at xs n k i hi]
        by_cases hc : i < k ∨ n ≤ i + k
        · rw [if_pos hc, if_pos (by omega)]
        · rw [if_neg hc, if_neg (by omega)]
  · rw [List.getElem?_eq_none (by simp [revK_length]; omega), List.getElem?_eq_none (by simp [revK_length]; omega)]

set_option maxHeartbeats 2000000 in
theorem reverse_any {ty : Nat} (lo hi : Nat) (p : Option Addr) (n c : Nat) (xs : List Int) (w : World) (hn : n ≤ 1099511627776) (h : Own ty w lo hi (.slice p n c) n xs) :
    Calls Tryz.prog 86 #[.slice p n c] w fun e w' => e = .returned (.tuple #[]) ∧ Own ty w' lo hi (.slice p n c) n xs.reverse ∧ w.grownBy w' (Value.ownBlock (.slice p n c)) := by
  have hx := h.len
  obtain ⟨hown0, hhi⟩ := h
  rw [← revK_zero xs n hx] at hown0
  go_enter Tryz.func86, Tryz.ntmps86
  go_wp2
  go_loopw [2, 3] (fun i q wr => ∃ k : Nat, 2 * k ≤ n + 1 ∧ i = .int .i64 k ∧ q = .int .i64 ((n : Int) - 1 - k) ∧ wr.ownsRow lo ty 1 (.slice p n c) n ((revK xs n k).map (Value.int .u8)) ∧ w.grownBy wr (Value.ownBlock (.slice p n c)))
    (fun i _ _ => n + 1 - (intOf i).toNat)
  case atStart => exact ⟨0, by omega, rfl, by go_num, hown0, World.grownBy.refl _ _⟩
  case round =>
    clear hown0
    obtain ⟨k, hk, rfl, rfl, hown, hgr⟩ := hrel
    by_cases hlt : 2 * k + 1 < n
    · obtain ⟨j, hj⟩ : ∃ j : Nat, j + k + 1 = n := ⟨n - 1 - k, by omega⟩
      have hij : ((n : Int) - 1 - (k : Int)) = (j : Int) := by omega
      have hkj : k < j := by omega
      rw [hij]
      clear hij
      obtain ⟨g, rfl⟩ := owns_at hown (by omega)
      have c1 : wr.cell? ⟨g, k, none⟩ = some (.int .u8 (xs.getD k 0)) := by
        rw [hown.cellAt k (by omega), List.getElem?_map, revK_at xs n k k (by omega), if_neg (by omega)]; rfl
      have c2 : wr.cell? ⟨g, j, none⟩ = some (.int .u8 (xs.getD j 0)) := by
        rw [hown.cellAt j (by omega), List.getElem?_map, revK_at xs n k j (by omega), if_neg (by omega)]; rfl
      have f1 := hown.frozenAt k
      have f2 := hown.frozenAt j
      have st1 := hown.stored k (.int .u8 (xs.getD j 0))
      have st2 := st1.1.stored j (.int .u8 (xs.getD k 0))
      rw [revK_step xs n k j hj hkj] at st2
      have hgr2 := grown_trans (grown_trans hgr st1.2) st2.2
      obtain ⟨u, hu⟩ : ∃ u, u = xs.getD k 0 := ⟨_, rfl⟩
      obtain ⟨v, hv⟩ : ∃ v, v = xs.getD j 0 := ⟨_, rfl⟩
      rw [← hu] at c1 st2 hgr2
      rw [← hv] at c2 st2 hgr2
      clear st1 hu hv hown hgr
      go_wp2
      go_region
      all_goals
        go_wp2
        go_roundw
        case rel => exact ⟨k + 1, by omega, by go_num, by go_num, st2.1, ⟨hgr2.os, hgr2.tape, hgr2.output, hgr2.size, hgr2.block⟩⟩
        case measure => simp [intOf]; omega
    · rw [revK_end xs n k hx (by omega)] at hown
      have c1 : ¬ (k : Int) < (n : Int) - 1 - (k : Int) := by omega
      go_wp2
      go_end0
      exact ⟨rfl, ⟨hown, hhi⟩, hgr⟩

end Go.Proofs.YtdjdanpicbaieaaGreatDoor

namespace Go.Proofs.YtdjdanpicbaieaaGreatDoor
open Go.RowKit

/-- Four bytes, the high ones first. -/
def four (x0 x1 x2 x3 : Nat) : Nat := ((x0 * 256 + x1) * 256 + x2) * 256 + x3
def fours (x0 x1 x2 x3 : Nat) : Nat → Nat
  | 0 => 0
  | 1 => x0
  | 2 => x0 * 256 + x1
  | 3 => (x0 * 256 + x1) * 256 + x2
  | _ => four x0 x1 x2 x3

theorem or_byte {q x : Nat} (hq : q < 16777216) (hx : x < 256) : bits .or .u32 ((q : Int) * 256) (x : Int) = ((q * 256 + x : Nat) : Int) := by
  have e : (q : Int) * 256 = ((q * 256 : Nat) : Int) := by omega
  rw [e, u32_or _ _ (by omega) (by omega)]
  have := Nat.two_pow_add_eq_or_of_lt (i := 8) hx q
  rw [Nat.mul_comm q]
  show ((2 ^ 8 * q ||| x : Nat) : Int) = _
  rw [← this]

set_option maxRecDepth 100000 in
set_option maxHeartbeats 1000000 in
theorem readGreat_any (w : World) (x0 x1 x2 x3 : Nat) (h0 : x0 < 256) (h1 : x1 < 256) (h2 : x2 < 256) (h3 : x3 < 256) :
    Calls Tryz.prog 158 #[.agg #[.int .u8 x0, .int .u8 x1, .int .u8 x2, .int .u8 x3], .bool true] w fun e w' => e = .returned (.int .i64 (four x0 x1 x2 x3 : Nat)) ∧ Below w.heap.size w w' := by
  have i0 : ∀ w : World, (Instr.index 155 (.agg #[.int .u8 x0, .int .u8 x1, .int .u8 x2, .int .u8 x3]) (.int .i64 0)).run Tryz.prog w = .ok (.int .u8 x0) w := fun _ => by kernel_rfl
  have i1 : ∀ w : World, (Instr.index 155 (.agg #[.int .u8 x0, .int .u8 x1, .int .u8 x2, .int .u8 x3]) (.int .i64 1)).run Tryz.prog w = .ok (.int .u8 x1) w := fun _ => by kernel_rfl
  have i2 : ∀ w : World, (Instr.index 155 (.agg #[.int .u8 x0, .int .u8 x1, .int .u8 x2, .int .u8 x3]) (.int .i64 2)).run Tryz.prog w = .ok (.int .u8 x2) w := fun _ => by kernel_rfl
  have i3 : ∀ w : World, (Instr.index 155 (.agg #[.int .u8 x0, .int .u8 x1, .int .u8 x2, .int .u8 x3]) (.int .i64 3)).run Tryz.prog w = .ok (.int .u8 x3) w := fun _ => by kernel_rfl
  go_enter Tryz.func158, Tryz.ntmps158
  go_wp2_with (fail)
  go_loop [5, 13] (fun q i => ∃ (k r : Nat), k ≤ 4 ∧ i = .int .i64 k ∧ q = .int .u32 r ∧ r = fours x0 x1 x2 x3 k) (fun _ i => 4 - (intOf i).toNat)
  case atStart => exact ⟨0, 0, by omega, rfl, rfl, rfl⟩
  case round =>
    obtain ⟨k, r, hk, rfl, rfl, hr⟩ := hrel
    have hk5 : k = 0 ∨ k = 1 ∨ k = 2 ∨ k = 3 ∨ k = 4 := by omega
    rcases hk5 with rfl | rfl | rfl | rfl | rfl
    · have hb : r < 16777216 := by simp only [fours] at hr; omega
      have ho := or_byte hb h0
      have HN : Hid (r * 256 + x0 = fours x0 x1 x2 x3 1) := by simp only [Hid, fours] at hr ⊢; omega
      clear hr
      go_wp2
      go_round
      case rel => exact ⟨1, _, by omega, rfl, by simp, HN.out⟩
      case measure => simp [intOf]
    · have hb : r < 16777216 := by simp only [fours] at hr; omega
      have ho := or_byte hb h1
      have HN : Hid (r * 256 + x1 = fours x0 x1 x2 x3 2) := by simp only [Hid, fours] at hr ⊢; omega
      clear hr
      go_wp2
      go_round
      case rel => exact ⟨2, _, by omega, rfl, by simp, HN.out⟩
      case measure => simp [intOf]
    · have hb : r < 16777216 := by simp only [fours] at hr; omega
      have ho := or_byte hb h2
      have HN : Hid (r * 256 + x2 = fours x0 x1 x2 x3 3) := by simp only [Hid, fours] at hr ⊢; omega
      clear hr
      go_wp2
      go_round
      case rel => exact ⟨3, _, by omega, rfl, by simp, HN.out⟩
      case measure => simp [intOf]
    · have hb : r < 16777216 := by simp only [fours] at hr; omega
      have ho := or_byte hb h3
      have HN : Hid (r * 256 + x3 = fours x0 x1 x2 x3 4) := by simp only [Hid, fours, four] at hr ⊢; omega
      clear hr
      go_wp2
      go_round
      case rel => exact ⟨4, _, by omega, rfl, by simp, HN.out⟩
      case measure => simp [intOf]
    · have hb : r < 4294967296 := by simp only [fours, four] at hr; omega
      have HN : Hid (r = four x0 x1 x2 x3) := hr
      clear hr
      go_wp2
      go_ret
      rw [HN.out]
      exact ⟨rfl, (Below.refl _ _).alloc (Nat.le_refl _) _⟩

theorem owns_four (w : World) (ty : Nat) (x0 x1 x2 x3 : Int) :
    Own ty (w.alloc (.cells #[.int .u8 x0, .int .u8 x1, .int .u8 x2, .int .u8 x3] ty)) w.heap.size (w.heap.size + 1) (.slice (some ⟨w.heap.size, 0, none⟩) 4 4) 4 [x0, x1, x2, x3] := by
  refine ⟨⟨rfl, .inr ⟨w.heap.size, 4, _, rfl, Nat.le_refl _, heap_alloc_new w _, Nat.le_refl _, by unfold maxLen; omega, rfl, rfl⟩⟩, ?_⟩
  intro k hk
  simp [Value.ownBlock] at hk
  omega

set_option maxRecDepth 100000 in
set_option maxHeartbeats 1000000 in
theorem readLittle_any (w : World) (x0 x1 x2 x3 : Nat) (h0 : x0 < 256) (h1 : x1 < 256) (h2 : x2 < 256) (h3 : x3 < 256) :
    Calls Tryz.prog 158 #[.agg #[.int .u8 x0, .int .u8 x1, .int .u8 x2, .int .u8 x3], .bool false] w fun e w' => e = .returned (.int .i64 (four x3 x2 x1 x0 : Nat)) ∧ Below w.heap.size w w' := by
  have i0 : ∀ w : World, (Instr.index 155 (.agg #[.int .u8 x3, .int .u8 x2, .int .u8 x1, .int .u8 x0]) (.int .i64 0)).run Tryz.prog w = .ok (.int .u8 x3) w := fun _ => by kernel_rfl
  have i1 : ∀ w : World, (Instr.index 155 (.agg #[.int .u8 x3, .int .u8 x2, .int .u8 x1, .int .u8 x0]) (.int .i64 1)).run Tryz.prog w = .ok (.int .u8 x2) w := fun _ => by kernel_rfl
  have i2 : ∀ w : World, (Instr.index 155 (.agg #[.int .u8 x3, .int .u8 x2, .int .u8 x1, .int .u8 x0]) (.int .i64 2)).run Tryz.prog w = .ok (.int .u8 x1) w := fun _ => by kernel_rfl
  have i3 : ∀ w : World, (Instr.index 155 (.agg #[.int .u8 x3, .int .u8 x2, .int .u8 x1, .int .u8 x0]) (.int .i64 3)).run Tryz.prog w = .ok (.int .u8 x0) w := fun _ => by kernel_rfl
  go_enter Tryz.func158, Tryz.ntmps158
  go_wp2_with (fail)
  have hO := owns_four w 155 x0 x1 x2 x3
  refine (reverse_any _ _ _ 4 4 _ _ (by omega) hO).mono ?_
  rintro e w1 ⟨rfl, ho, hg⟩
  have hb1 : Below w.heap.size w w1 := ((Below.refl _ _).alloc (Nat.le_refl _) _).grown hg (by simp) (fun k hk => (hO.1.lt k hk).1)
  have c0 : w1.cell? ⟨w.heap.size, 0, none⟩ = some (.int .u8 x3) := ho.1.cellAt 0 (by omega)
  have c1 : w1.cell? ⟨w.heap.size, 1, none⟩ = some (.int .u8 x2) := ho.1.cellAt 1 (by omega)
  have c2 : w1.cell? ⟨w.heap.size, 2, none⟩ = some (.int .u8 x1) := ho.1.cellAt 2 (by omega)
  have c3 : w1.cell? ⟨w.heap.size, 3, none⟩ = some (.int .u8 x0) := ho.1.cellAt 3 (by omega)
  clear hO ho hg
  go_wp2_with (fail)
  go_loop [5, 13] (fun q i => ∃ (k r : Nat), k ≤ 4 ∧ i = .int .i64 k ∧ q = .int .u32 r ∧ r = fours x3 x2 x1 x0 k) (fun _ i => 4 - (intOf i).toNat)
  case atStart => exact ⟨0, 0, by omega, rfl, rfl, rfl⟩
  case round =>
    obtain ⟨k, r, hk, rfl, rfl, hr⟩ := hrel
    have hk5 : k = 0 ∨ k = 1 ∨ k = 2 ∨ k = 3 ∨ k = 4 := by omega
    rcases hk5 with rfl | rfl | rfl | rfl | rfl
    · have hb : r < 16777216 := by simp only [fours] at hr; omega
      have ho := or_byte hb h3
      have HN : Hid (r * 256 + x3 = fours x3 x2 x1 x0 1) := by simp only [Hid, fours] at hr ⊢; omega
      clear hr
      go_wp2
      go_round
      case rel => exact ⟨1, _, by omega, rfl, by simp, HN.out⟩
      case measure => simp [intOf]
    · have hb : r < 16777216 := by simp only [fours] at hr; omega
      have ho := or_byte hb h2
      have HN : Hid (r * 256 + x2 = fours x3 x2 x1 x0 2) := by simp only [Hid, fours] at hr ⊢; omega
      clear hr
      go_wp2
      go_round
      case rel => exact ⟨2, _, by omega, rfl, by simp, HN.out⟩
      case measure => simp [intOf]
    · have hb : r < 16777216 := by simp only [fours] at hr; omega
      have ho := or_byte hb h1
      have HN : Hid (r * 256 + x1 = fours x3 x2 x1 x0 3) := by simp only [Hid, fours] at hr ⊢; omega
      clear hr
      go_wp2
      go_round
      case rel => exact ⟨3, _, by omega, rfl, by simp, HN.out⟩
      case measure => simp [intOf]
    · have hb : r < 16777216 := by simp only [fours] at hr; omega
      have ho := or_byte hb h0
      have HN : Hid (r * 256 + x0 = fours x3 x2 x1 x0 4) := by simp only [Hid, fours, four] at hr ⊢; omega
      clear hr
      go_wp2
      go_round
      case rel => exact ⟨4, _, by omega, rfl, by simp, HN.out⟩
      case measure => simp [intOf]
    · have hb : r < 4294967296 := by simp only [fours, four] at hr; omega
      have HN : Hid (r = four x3 x2 x1 x0) := hr
      clear hr
      go_wp2
      go_ret
      rw [HN.out]
      exact ⟨rfl, hb1⟩

end Go.Proofs.YtdjdanpicbaieaaGreatDoor

namespace Go.Proofs.YtdjdanpicbaieaaGreatDoor
open Go.RowKit
set_option maxRecDepth 100000

theorem infoInt : (Tryz.prog.info? 3).map (fun i => (i.zero, i.size, i.bytes)) = some (some (.int .i64 0), 1, 8) := by kernel_rfl

end Go.Proofs.YtdjdanpicbaieaaGreatDoor

namespace Go.Proofs.YtdjdanpicbaieaaGreatDoor
open Go.RowKit
set_option maxRecDepth 100000

theorem append_keeps {P : Program} (w : World) (t ty e : TypeId) (i : TypeInfo) (z : Value) (base : Nat) (ht : P.underlying t = some (.slice e)) (hi : P.info? e = some i) (hz : i.zero = some z) (hsize : i.size = 1) (hzs : z.cells.size = 1)
    (g0 n cap0 : Nat) (xs : List Value) (hown : w.ownsRow base e 1 (.slice (some ⟨g0, 0, none⟩) n cap0) n xs)
    (ad : Addr) (m c : Nat) (news : List Value) (hl : news.length = m) (hnews : ∀ j u, news[j]? = some u → w.cell? (ad.add j) = some u) (h1 : ∀ u ∈ news, u.oneCell' = true)
    (h63 : n + m ≤ maxLen) (hbytes : (n + m) * i.bytes ≤ 140737488355328) (hbase : base ≤ w.heap.size) :
    ∃ g cap w', (Builtin.append_ #[t, t] ty #[.slice (some ⟨g0, 0, none⟩) n cap0, .slice (some ad) m c]).run P w = .ok (.slice (some ⟨g, 0, none⟩) (n + m) cap) w' ∧
      w'.ownsRow base e 1 (.slice (some ⟨g, 0, none⟩) (n + m) cap) (n + m) (xs ++ news) ∧ w.grownBy w' (some g0) ∧ ∀ j, j < n → w'.cell? ⟨g0, j, none⟩ = w.cell? ⟨g0, j, none⟩ := by
  have hg0 : g0 < w.heap.size := (hown.lt g0 rfl).2
  have hxl : xs.length = n := by simpa using hown.1
  have hsmall : n + m ≤ 9223372036854775807 := by simp only [maxLen] at h63; omega
  obtain ⟨v', w', hr, h2, h3, h4, h5⟩ := run_append_own_at (P := P) w base t ty e i z 1 i.bytes ht hi hz hsize rfl hzs (by decide) _ n xs hown ad m c news (by simp [hl]) hnews h1 h63 hbytes hbase
  rcases h2.2 with ⟨hv, h0⟩ | ⟨g, cap, cur, rfl, hbg, hg, hrest⟩
  · exact absurd (h4.1 hv).1 (by simp)
  · refine ⟨g, cap, w', hr, h2, h3, fun j hj => ?_⟩
    by_cases e0 : g = g0
    · subst e0
      rw [h2.cellAt j (by omega), hown.cellAt j (by omega), List.getElem?_append_left (by omega)]
    · rcases hown.2 with ⟨hv, _⟩ | ⟨g1, cap1, cur1, hv1, hb1, hg1, hnc, hcm, hcs, htake⟩
      · cases hv
      · simp only [Value.slice.injEq, Option.some.injEq, Addr.mk.injEq, and_true, true_and] at hv1
        obtain ⟨rfl, rfl⟩ := hv1
        by_cases hroom : n + m ≤ cap0
        · have hr2 := run_append_room (P := P) w t ty e i ht hi g0 n cap0 cur1 hg1 ad m c news (by rw [hsize]; omega) hnews h1 hroom (by rw [hsize, hcs]; omega)
          rw [hr] at hr2
          simp only [Result.ok.injEq, Value.slice.injEq, Option.some.injEq, Addr.mk.injEq, and_true] at hr2
          exact absurd hr2.1.1 e0
        · have holds : ∀ j u, xs[j]? = some u → w.cell? ((⟨g0, 0, none⟩ : Addr).add j) = some u := hown.cells (g := g0) rfl
          have hr2 := run_append_grow (P := P) w t ty e i z ht hi hz ⟨g0, 0, none⟩ n cap0 xs (by rw [hsize]; omega) holds ad m c news (by rw [hsize]; omega) hnews (by omega) (by omega) (growslice_fits (by omega) hbytes)
          rw [hr] at hr2
          simp only [Result.ok.injEq] at hr2
          rw [hr2.2, World.cell?_alloc_lt _ _ _ (by simpa using hg0)]
          simp

theorem step_pushKeep {P : Program} {e : TypeId} {i : TypeInfo} {base n : Nat} {wr : World} {xs : List Int} {ops : Array Oper} {o : Oper} {a : Act} {K : Act → World → Prop} {Q : Exit → Act → World → Prop} {E : Prop} (hi : P.info? e = some i) (hz : i.zero = some (.int .i64 0)) (hsize : i.size = 1) (hby : i.bytes = 8)
    (s y : Operand) (t : TypeId) (ht : P.underlying t = some (.slice e)) (x : Int) (g0 cap0 B : Nat) (hB : wr.heap[B]? = some (.cells #[.int .i64 x] e (0, 0))) (hown : wr.ownsRow base e 1 (.slice (some ⟨g0, 0, none⟩) n cap0) n (xs.map (Value.int .i64))) (hn : n ≤ 1099511627776) (hbase : base ≤ wr.heap.size)
    (hgd : o.guard = none) (ho : o.op = .call { callee := .builtin .append, args := #[s, y], argTypes := #[t, t] }) (hs : a.eval s = .slice (some ⟨g0, 0, none⟩) n cap0) (hy : a.eval y = .slice (some ⟨B, 0, none⟩) 1 1)
    (h : ∀ g cap w', w'.ownsRow base e 1 (.slice (some ⟨g, 0, none⟩) (n + 1) cap) (n + 1) ((xs ++ [x]).map (Value.int .i64)) → Below base wr w' → (∀ j, j < n → w'.cell? ⟨g0, j, none⟩ = wr.cell? ⟨g0, j, none⟩) → K (a.put o.dst (.slice (some ⟨g, 0, none⟩) (n + 1) cap)) w') :
    if Region.wanted o (yielded ops a.tmps) = true then Oper.wp P o a wr K Q else E := by
  have hw : Region.wanted o (yielded ops a.tmps) = true := by simp [Region.wanted, hgd]
  rw [if_pos hw]
  obtain ⟨g, cap, w', hr, h2, h3, h4⟩ := append_keeps (P := P) wr t o.type e i _ base ht hi hz hsize rfl g0 n cap0 _ hown ⟨B, 0, none⟩ 1 1 [.int .i64 x] rfl (World.news_of_block (cs := #[.int .i64 x]) hB) (fun u hu => by simp at hu; subst hu; rfl) (pushs_fitI hn (by decide)).1 (by rw [hby]; exact (pushs_fitI hn (by decide)).2) hbase
  unfold Oper.wp execOp
  simp only [ho, resolve, invoke, builtin, Sem.run_bind, Sem.run_pure, Result.andThen_ok, List.map_toArray, List.map_cons, List.map_nil, hs, hy, hr]
  exact h g cap w' (by simpa using h2) ((Below.refl _ _).grown h3 hbase fun k hk => by cases hk; exact (hown.lt g0 rfl).1) h4

end Go.Proofs.YtdjdanpicbaieaaGreatDoor

namespace Go.Proofs.YtdjdanpicbaieaaGreatDoor
open Go.RowKit
set_option maxRecDepth 100000

theorem i64_andB (a b : Int) (h1 : 0 ≤ a) (h2 : a ≤ 9223372036854775807) (h3 : 0 ≤ b) (h4 : b ≤ 9223372036854775807) : bits .and .i64 a b = ((a.toNat &&& b.toNat : Nat) : Int) := by
  have ea : (BitVec.ofInt 64 a).toNat = a.toNat := by rw [BitVec.toNat_ofInt]; omega
  have eb : (BitVec.ofInt 64 b).toNat = b.toNat := by rw [BitVec.toNat_ofInt]; omega
  have hle : a.toNat &&& b.toNat ≤ a.toNat := Nat.and_le_left
  have : (BitVec.ofInt 64 a &&& BitVec.ofInt 64 b).toNat = a.toNat &&& b.toNat := by rw [BitVec.toNat_and, ea, eb]
  show IntKind.i64.wrap ((BitVec.ofInt 64 a &&& BitVec.ofInt 64 b).toNat : Int) = _
  rw [this, IntKind.wrap_i64]
  omega

theorem i64_mask255 (a : Int) (h1 : 0 ≤ a) (h2 : a ≤ 9223372036854775807) : bits .and .i64 a 255 = a % 256 := by
  rw [i64_andB a 255 h1 h2 (by decide) (by decide)]
  show (((a.toNat &&& 255 : Nat)) : Int) = a % 256
  rw [nat_mask8]
  omega

/-- n as so many bytes, the low ones first. -/
def littleL (n : Int) (k : Nat) : List Int := (List.range k).map fun (i : Nat) => n / (256 ^ i : Nat) % 256
theorem littleL_length (n : Int) (k : Nat) : (littleL n k).length = k := by simp [littleL]
theorem littleL_step (n : Int) (k : Nat) (q u : Int) (hq : q = n / (256 ^ k : Nat)) (hu : u = q % 256) : littleL n k ++ [u] = littleL n (k + 1) := by
  subst hq hu
  simp [littleL, List.range_succ]
theorem littleL_next (n : Int) (k : Nat) : n / ((256 ^ k : Nat) : Int) / 256 = n / ((256 ^ (k + 1) : Nat) : Int) := by
  rw [Int.ediv_ediv_of_nonneg (Int.natCast_nonneg _), Nat.pow_succ]
  simp
theorem littleL_getD (n : Int) (m k : Nat) (h : k < m) : (littleL n m).getD k 0 = n / ((256 ^ k : Nat) : Int) % 256 := by simp [littleL, h]

theorem two_eight (k : Nat) : (2 : Int) ^ (8 * k) = ((256 ^ k : Nat) : Int) := by
  have e : (2 ^ (8 * k) : Nat) = 256 ^ k := by rw [Nat.pow_mul]
  rw [← e, Int.natCast_pow]
  rfl

def fitB (n many : Int) : Bool := decide (0 ≤ n ∧ 1 ≤ many ∧ many ≤ 8)
def fitN (n many : Int) : Nat := if fitB n many = true then many.toNat else 0
def fitL (n many : Int) : List Int := littleL n (fitN n many)
theorem fit_no {n many : Int} (h : ¬ (0 ≤ n ∧ 1 ≤ many ∧ many ≤ 8)) : fitN n many = 0 ∧ fitL n many = [] := by
  have : fitN n many = 0 := by simp only [fitN, fitB, decide_eq_true_eq]; rw [if_neg h]
  exact ⟨this, by simp [fitL, this, littleL]⟩
theorem fit_yes {n many : Int} (h : 0 ≤ n ∧ 1 ≤ many ∧ many ≤ 8) : fitN n many = many.toNat := by
  simp only [fitN, fitB, decide_eq_true_eq]; rw [if_pos h]
theorem fitN_le (n many : Int) : fitN n many ≤ 8 := by
  unfold fitN fitB; split <;> simp_all <;> omega

set_option maxHeartbeats 1000000 in
theorem specLittle_no (n many : Int) (w : World) (h : ¬ (0 ≤ n ∧ 1 ≤ many ∧ many ≤ 8)) :
    Calls Tryz.prog 56 #[.int .i64 n, .int .i64 many] w fun e w' => ∃ p c, e = .returned (.slice p 0 c) ∧ Own 5 w' w.heap.size w'.heap.size (.slice p 0 c) 0 [] ∧ Below w.heap.size w w' := by
  by_cases h0 : n < 0
  · clear h
    go_enter Tryz.func56, Tryz.ntmps56
    go_wp2
    go_ret
    exact ⟨_, _, rfl, .of (World.ownsRow_made _ #[] 0 (Nat.le_refl _) (by unfold maxLen; omega) rfl), (Below.refl _ _).alloc (Nat.le_refl _) _⟩
  · by_cases h1 : 1 ≤ many
    · have h2 : ¬ many ≤ 8 := fun h3 => h ⟨by omega, h1, h3⟩
      clear h
      go_enter Tryz.func56, Tryz.ntmps56
      go_wp2
      go_ret
      exact ⟨_, _, rfl, .of (World.ownsRow_made _ #[] 0 (Nat.le_refl _) (by unfold maxLen; omega) rfl), (Below.refl _ _).alloc (Nat.le_refl _) _⟩
    · clear h
      go_enter Tryz.func56, Tryz.ntmps56
      go_wp2
      go_ret
      exact ⟨_, _, rfl, .of (World.ownsRow_made _ #[] 0 (Nat.le_refl _) (by unfold maxLen; omega) rfl), (Below.refl _ _).alloc (Nat.le_refl _) _⟩

set_option maxHeartbeats 1000000 in
theorem specLittle_yes (n : Int) (m : Nat) (w : World) (h0 : 0 ≤ n) (h63 : n ≤ 9223372036854775807) (h1 : 1 ≤ m) (h2 : m ≤ 8) :
    Calls Tryz.prog 56 #[.int .i64 n, .int .i64 m] w fun e w' => ∃ p c, e = .returned (.slice p m c) ∧ Own 5 w' w.heap.size w'.heap.size (.slice p m c) m (littleL n m) ∧ Below w.heap.size w w' := by
  obtain ⟨i0, hi, hz0, hz1, hz2⟩ := info_parts infoByte
  have c0 : ¬ n < 0 := by omega
  have c1 : (1 : Int) ≤ (m : Int) := by omega
  have c2 : (m : Int) ≤ 8 := by omega
  go_enter Tryz.func56, Tryz.ntmps56
  go_wp2
  go_loopw [0, 5, 6] (fun q v i wr => ∃ (k : Nat) (r : Int), k ≤ m ∧ i = .int .i64 k ∧ q = .int .i64 r ∧ 0 ≤ r ∧ r ≤ 9223372036854775807 ∧ Hid (r = n / ((256 ^ k : Nat) : Int)) ∧ wr.ownsRow w.heap.size 5 1 v k ((littleL n k).map (Value.int .u8)) ∧ Below w.heap.size w wr)
    (fun _ _ i _ => m - (intOf i).toNat)
  case atStart => exact ⟨0, n, Nat.zero_le _, rfl, rfl, h0, h63, by simp [Hid], World.ownsRow_made w #[] 0 (Nat.le_refl _) (by unfold maxLen; omega) rfl, (Below.refl _ _).alloc (Nat.le_refl _) _⟩
  case round =>
    obtain ⟨k, r, hk, rfl, rfl, hr0, hr1, hr, hown, hbel⟩ := hrel
    have hsz := hbel.size
    by_cases hlt : k < m
    · have hm := i64_mask255 r hr0 hr1
      have HN : Hid (littleL n k ++ [r % 256] = littleL n (k + 1)) := littleL_step n k r _ hr.out rfl
      have hr' : Hid (r / 256 = n / ((256 ^ (k + 1) : Nat) : Int)) := by rw [hr.out]; exact littleL_next n k
      go_wp2_with (at_builtin; refine list_push hi hz0 hz1 hz2 (.tmp 21) (.tmp 25) 22 Tryz.underlying22 _ hown (by omega) hsz (by rfl) (by rfl) (by rfl) (by rfl) ?_; intro g cap w1 ho1 hb1; rw [HN.out] at ho1)
      go_roundw
      case rel => exact ⟨k + 1, r / 256, by omega, by go_num, rfl, by omega, by omega, hr', ho1, hbel.trans hb1⟩
      case measure => simp [intOf]; omega
    · have hkn : k = m := by omega
      subst hkn
      clear hr
      obtain ⟨p', c', hv⟩ := owns_form hown
      subst hv
      go_wp2
      go_ret
      exact ⟨_, _, rfl, .of hown, hbel⟩

set_option maxHeartbeats 1000000 in
theorem implLittle_no (n many : Int) (w : World) (h : ¬ (0 ≤ n ∧ 1 ≤ many ∧ many ≤ 8)) :
    Calls Tryz.prog 85 #[.int .i64 n, .int .i64 many] w fun e w' => ∃ p c, e = .returned (.slice p 0 c) ∧ Own 5 w' w.heap.size w'.heap.size (.slice p 0 c) 0 [] ∧ Below w.heap.size w w' := by
  by_cases h0 : n < 0
  · clear h
    go_enter Tryz.func85, Tryz.ntmps85
    go_wp2
    go_ret
    exact ⟨_, _, rfl, .of (World.ownsRow_nil _ _ _ _), Below.refl _ _⟩
  · by_cases h1 : many < 1
    · clear h
      go_enter Tryz.func85, Tryz.ntmps85
      go_wp2
      go_ret
      exact ⟨_, _, rfl, .of (World.ownsRow_nil _ _ _ _), Below.refl _ _⟩
    · have h2 : 8 < many := by
        rcases Int.lt_or_le 8 many with h2 | h2
        · exact h2
        · exact absurd ⟨by omega, by omega, h2⟩ h
      clear h
      go_enter Tryz.func85, Tryz.ntmps85
      go_wp2
      go_ret
      exact ⟨_, _, rfl, .of (World.ownsRow_nil _ _ _ _), Below.refl _ _⟩

set_option maxHeartbeats 1000000 in
theorem implLittle_yes (n : Int) (m : Nat) (w : World) (h0 : 0 ≤ n) (h63 : n ≤ 9223372036854775807) (h1 : 1 ≤ m) (h2 : m ≤ 8) :
    Calls Tryz.prog 85 #[.int .i64 n, .int .i64 m] w fun e w' => ∃ p c, e = .returned (.slice p m c) ∧ Own 5 w' w.heap.size w'.heap.size (.slice p m c) m (littleL n m) ∧ Below w.heap.size w w' := by
  obtain ⟨i0, hi, hz0, hz1, hz2⟩ := info_parts infoByte
  have c0 : ¬ n < 0 := by omega
  have c1 : ¬ (m : Int) < 1 := by omega
  have c2 : ¬ 8 < (m : Int) := by omega
  go_enter Tryz.func85, Tryz.ntmps85
  go_wp2_with (at_make; refine wpList_make_full _ rfl _ _ 22 rfl w.heap.size 5 i0 (.int .u8 0) 1 Tryz.underlying22 hi hz0 hz1 _ _ _ _ m rfl rfl rfl rfl (by rw [hz2]; omega) (by unfold maxLen; omega) (Nat.le_refl _) ?_)
  intro w1 hown hgrow
  rw [fill_start (littleL n m) m] at hown
  have hbel : Below w.heap.size w w1 := (Below.refl _ _).grown hgrow (Nat.le_refl _) (fun _ h => by cases h)
  clear hgrow
  go_wp2
  go_loopw [21] (fun i wr => ∃ k : Nat, k ≤ m ∧ i = .int .i64 k ∧ wr.ownsRow w.heap.size 5 1 (.slice (some ⟨w.heap.size, 0, none⟩) m m) m (((littleL n m).take k ++ List.replicate (m - k) 0).map (Value.int .u8)) ∧ Below w.heap.size w wr)
    (fun i _ => m - (intOf i).toNat)
  case atStart => exact ⟨0, Nat.zero_le _, rfl, hown, hbel⟩
  case round =>
    clear hown hbel
    obtain ⟨k, hk, rfl, hown, hbel⟩ := hrel
    by_cases hlt : k < m
    · have hl := littleL_length n m
      have hold : wr.cell? ⟨w.heap.size, k, none⟩ = some (.int .u8 0) := by
        rw [hown.cellAt k (by omega)]; exact fill_old _ m k hlt hl
      have hfz := hown.frozenAt k
      have hst := hown.stored k (.int .u8 (n / 2 ^ (8 * k) % 256))
      rw [fill_step (littleL n m) m k _ (by rw [littleL_getD n m k hlt, two_eight]) hlt hl] at hst
      have hbel' := hbel.setCell (p := ⟨w.heap.size, k, none⟩) (Nat.le_refl _) (.int .u8 (n / 2 ^ (8 * k) % 256))
      clear hl
      go_wp2
      go_roundw
      case rel => exact ⟨k + 1, by omega, by go_num, hst.1, hbel'⟩
      case measure => simp [intOf]; omega
    · have hkn : k = m := by omega
      subst hkn
      rw [fill_end _ _ (littleL_length n k)] at hown
      go_wp2
      go_ret
      exact ⟨_, _, rfl, .of hown, hbel⟩

theorem specLittle_any (n many : Int) (w : World) (h63 : n ≤ 9223372036854775807) :
    Calls Tryz.prog 56 #[.int .i64 n, .int .i64 many] w fun e w' => ∃ p c, e = .returned (.slice p (fitN n many) c) ∧ Own 5 w' w.heap.size w'.heap.size (.slice p (fitN n many) c) (fitN n many) (fitL n many) ∧ Below w.heap.size w w' := by
  by_cases h : 0 ≤ n ∧ 1 ≤ many ∧ many ≤ 8
  · have e : many = ((many.toNat : Nat) : Int) := by omega
    unfold fitL
    rw [fit_yes h]
    rw [e]
    exact specLittle_yes n many.toNat w h.1 h63 (by omega) (by omega)
  · rw [(fit_no h).1, (fit_no h).2]
    exact specLittle_no n many w h

theorem implLittle_any (n many : Int) (w : World) (h63 : n ≤ 9223372036854775807) :
    Calls Tryz.prog 85 #[.int .i64 n, .int .i64 many] w fun e w' => ∃ p c, e = .returned (.slice p (fitN n many) c) ∧ Own 5 w' w.heap.size w'.heap.size (.slice p (fitN n many) c) (fitN n many) (fitL n many) ∧ Below w.heap.size w w' := by
  by_cases h : 0 ≤ n ∧ 1 ≤ many ∧ many ≤ 8
  · have e : many = ((many.toNat : Nat) : Int) := by omega
    unfold fitL
    rw [fit_yes h]
    rw [e]
    exact implLittle_yes n many.toNat w h.1 h63 (by omega) (by omega)
  · rw [(fit_no h).1, (fit_no h).2]
    exact implLittle_no n many w h

end Go.Proofs.YtdjdanpicbaieaaGreatDoor

namespace Go.Proofs.YtdjdanpicbaieaaGreatDoor
open Go.RowKit
set_option maxRecDepth 100000

theorem revL_step (xs : List Int) (n k : Nat) (u : Int) (hx : xs.length = n) (hk : k < n) (hu : u = xs.getD (n - 1 - k) 0) : xs.reverse.take k ++ [u] = xs.reverse.take (k + 1) := by
  subst hu
  rw [List.take_succ_eq_append_getElem (by simp; omega), List.getElem_reverse]
  simp [List.getElem?_eq_getElem (show n - 1 - k < xs.length by omega), hx]

set_option maxHeartbeats 2000000 in
theorem specGreat_any (n many : Int) (w : World) (h63 : n ≤ 9223372036854775807) :
    Calls Tryz.prog 35 #[.int .i64 n, .int .i64 many] w fun e w' => ∃ p c, e = .returned (.slice p (fitN n many) c) ∧ Own 5 w' w.heap.size w'.heap.size (.slice p (fitN n many) c) (fitN n many) (fitL n many).reverse ∧ Below w.heap.size w w' := by
  obtain ⟨i0, hi, hz0, hz1, hz2⟩ := info_parts infoByte
  have hle := fitN_le n many
  obtain ⟨N, hN⟩ : ∃ N, N = fitN n many := ⟨_, rfl⟩
  obtain ⟨L, hL⟩ : ∃ L, L = fitL n many := ⟨_, rfl⟩
  have C := fun w => specLittle_any n many w h63
  rw [← hN] at hle ⊢
  rw [← hL]
  simp only [← hN, ← hL] at C
  clear hN hL
  go_enter Tryz.func35, Tryz.ntmps35
  go_wp2_with (fail)
  refine (C _).mono ?_
  rintro e w1 ⟨p1, c1, rfl, r1, b1⟩
  have hz1' := b1.size
  have hx := r1.len
  have hin := r1.bytes
  go_wp2
  go_loopw [6, 7] (fun v i wr => ∃ k : Nat, k ≤ N ∧ i = .int .i64 ((N : Int) - 1 - k) ∧ wr.ownsRow w1.heap.size 5 1 v k ((L.reverse.take k).map (Value.int .u8)) ∧ Below w1.heap.size w1 wr)
    (fun _ i _ => (intOf i + 1).toNat)
  case atStart => exact ⟨0, Nat.zero_le _, by go_num, World.ownsRow_made w1 #[] 0 (Nat.le_refl _) (by unfold maxLen; omega) rfl, (Below.refl _ _).alloc (Nat.le_refl _) _⟩
  case round =>
    obtain ⟨k, hk, rfl, hown, hbel⟩ := hrel
    have hsz := hbel.size
    by_cases hlt : k < N
    · obtain ⟨j, hj⟩ : ∃ j : Nat, j + k + 1 = N := ⟨N - 1 - k, by omega⟩
      have hij : ((N : Int) - 1 - (k : Int)) = (j : Int) := by omega
      rw [hij]
      clear hij
      obtain ⟨b, o, rfl, hc⟩ := hin (by omega)
      obtain ⟨u, hu⟩ : ∃ u, u = L.getD j 0 := ⟨_, rfl⟩
      have hcx : wr.cell? ⟨b, o + j, none⟩ = some (.int .u8 u) := by
        rw [hbel.cell (p := ⟨b, o + j, none⟩) (World.block_lt_of_cell? w1 ⟨b, o + j, none⟩ (hc j (by omega))), hu]
        exact hc j (by omega)
      have HN : Hid (L.reverse.take k ++ [u] = L.reverse.take (k + 1)) := revL_step L N k u hx hlt (by rw [hu, show N - 1 - k = j by omega])
      clear hc hin hu hx
      go_wp2_with (at_builtin; refine list_push hi hz0 hz1 hz2 (.tmp 19) (.tmp 24) 22 Tryz.underlying22 _ hown (by omega) (by omega) (by rfl) (by rfl) (by rfl) (by rfl) ?_; intro g cap w2 ho1 hb1; rw [HN.out] at ho1)
      go_roundw
      case rel => exact ⟨k + 1, by omega, by go_num, ho1, hbel.trans hb1⟩
      case measure => simp [intOf]
    · obtain rfl : k = N := by omega
      have c0 : ¬ (0 : Int) ≤ (k : Int) - 1 - (k : Int) := by omega
      rw [List.take_of_length_le (by simp; omega)] at hown
      obtain ⟨p', c', hv⟩ := owns_form hown
      subst hv
      go_wp2
      go_ret
      exact ⟨_, _, rfl, .of (owns_mono hown hz1'), below_on b1 hbel⟩

set_option maxHeartbeats 2000000 in
theorem implGreat_any (n many : Int) (w : World) (h63 : n ≤ 9223372036854775807) :
    Calls Tryz.prog 53 #[.int .i64 n, .int .i64 many] w fun e w' => ∃ p c, e = .returned (.slice p (fitN n many) c) ∧ Own 5 w' w.heap.size w'.heap.size (.slice p (fitN n many) c) (fitN n many) (fitL n many).reverse ∧ Below w.heap.size w w' := by
  have hle := fitN_le n many
  go_enter Tryz.func53, Tryz.ntmps53
  go_wp2_with (fail)
  refine (implLittle_any n many _ h63).mono ?_
  rintro e w1 ⟨p1, c1, rfl, r1, b1⟩
  go_wp2_with (fail)
  refine (reverse_any _ _ p1 (fitN n many) c1 (fitL n many) _ (by omega) r1).mono ?_
  rintro e w2 ⟨rfl, r2, g2⟩
  go_wp2_with (fail)
  go_ret
  exact ⟨_, _, rfl, .of r2.1, b1.grown g2 b1.size fun k hk => (r1.1.lt k hk).1⟩

end Go.Proofs.YtdjdanpicbaieaaGreatDoor

namespace Go.Proofs.YtdjdanpicbaieaaGreatDoor
open Go.RowKit
set_option maxRecDepth 100000

/-- A number's word as four bytes. -/
def fourL (great : Bool) (n : Int) : List Int := if great = true then (littleL (n % 4294967296) 4).reverse else littleL (n % 4294967296) 4
theorem fourL_length (great : Bool) (n : Int) : (fourL great n).length = 4 := by unfold fourL; split <;> simp [littleL_length]
def bytesL (great : Bool) (xs : List Int) : List Int := xs.flatMap (fourL great)
theorem bytesL_length (great : Bool) (xs : List Int) : (bytesL great xs).length = 4 * xs.length := by
  induction xs with
  | nil => rfl
  | cons x xs ih => simp only [bytesL, List.flatMap_cons, List.length_append, fourL_length, List.length_cons] at ih ⊢; omega
theorem bytesL_step (great : Bool) (xs : List Int) (k : Nat) (hk : k < xs.length) : bytesL great (xs.take k) ++ fourL great (xs.getD k 0) = bytesL great (xs.take (k + 1)) := by
  rw [List.take_succ_eq_append_getElem hk]
  simp only [bytesL, List.flatMap_append, List.flatMap_cons, List.flatMap_nil, List.append_nil, List.getD_eq_getElem?_getD, List.getElem?_eq_getElem hk, Option.getD_some]

theorem implLittle4 (n : Int) (w : World) :
    Calls Tryz.prog 85 #[.int .i64 (n % 4294967296), .int .i64 4] w fun e w' => ∃ p c, e = .returned (.slice p 4 c) ∧ Own 5 w' w.heap.size w'.heap.size (.slice p 4 c) 4 (fourL false n) ∧ Below w.heap.size w w' :=
  implLittle_yes (n % 4294967296) 4 w (by omega) (by omega) (by omega) (by omega)
theorem specLittle4 (n : Int) (w : World) :
    Calls Tryz.prog 56 #[.int .i64 (n % 4294967296), .int .i64 4] w fun e w' => ∃ p c, e = .returned (.slice p 4 c) ∧ Own 5 w' w.heap.size w'.heap.size (.slice p 4 c) 4 (fourL false n) ∧ Below w.heap.size w w' :=
  specLittle_yes (n % 4294967296) 4 w (by omega) (by omega) (by omega) (by omega)
theorem fit4 (n : Int) : fitN (n % 4294967296) 4 = 4 ∧ fitL (n % 4294967296) 4 = littleL (n % 4294967296) 4 := by
  have h : fitN (n % 4294967296) 4 = 4 := fit_yes ⟨by omega, by omega, by omega⟩
  exact ⟨h, by unfold fitL; rw [h]⟩
theorem implGreat4 (n : Int) (w : World) :
    Calls Tryz.prog 53 #[.int .i64 (n % 4294967296), .int .i64 4] w fun e w' => ∃ p c, e = .returned (.slice p 4 c) ∧ Own 5 w' w.heap.size w'.heap.size (.slice p 4 c) 4 (fourL true n) ∧ Below w.heap.size w w' := by
  have h := implGreat_any (n % 4294967296) 4 w (by omega)
  rw [(fit4 n).1, (fit4 n).2] at h
  exact h
theorem specGreat4 (n : Int) (w : World) :
    Calls Tryz.prog 35 #[.int .i64 (n % 4294967296), .int .i64 4] w fun e w' => ∃ p c, e = .returned (.slice p 4 c) ∧ Own 5 w' w.heap.size w'.heap.size (.slice p 4 c) 4 (fourL true n) ∧ Below w.heap.size w w' := by
  have h := specGreat_any (n % 4294967296) 4 w (by omega)
  rw [(fit4 n).1, (fit4 n).2] at h
  exact h

set_option maxHeartbeats 2000000 in
theorem implBytesLittle_any (p : Option Addr) (n c : Nat) (xs : List Int) (w : World) (hn : n ≤ 1073741824) (hx : xs.length = n) (h : IntsIn w p n xs) :
    Calls Tryz.prog 118 #[.slice p n c, .bool false] w fun e w' => ∃ p' c', e = .returned (.slice p' (4 * n) c') ∧ Own 5 w' w.heap.size w'.heap.size (.slice p' (4 * n) c') (4 * n) (bytesL false xs) ∧ Below w.heap.size w w' := by
  obtain ⟨i0, hi, hz0, hz1, hz2⟩ := info_parts infoByte
  go_enter Tryz.func118, Tryz.ntmps118
  go_wp2_with (at_make; refine wpList_make_own _ rfl _ _ 22 rfl w.heap.size 5 i0 (.int .u8 0) 1 Tryz.underlying22 hi hz0 hz1 _ _ _ (4 * n) rfl rfl (by simp) (by rw [hz2]; omega) (by unfold maxLen; omega) (Nat.le_refl _) ?_)
  intro w1 hown hgrow
  have hbel : Below w.heap.size w w1 := (Below.refl _ _).grown hgrow (Nat.le_refl _) (fun _ h => by cases h)
  clear hgrow
  go_wp2
  go_loopw [6, 16] (fun v i wr => ∃ k : Nat, k ≤ n ∧ i = .int .i64 k ∧ wr.ownsRow w.heap.size 5 1 v (4 * k) ((bytesL false (xs.take k)).map (Value.int .u8)) ∧ Below w.heap.size w wr)
    (fun _ i _ => n - (intOf i).toNat)
  case atStart => exact ⟨0, Nat.zero_le _, rfl, by simpa [bytesL] using hown, hbel⟩
  case round =>
    clear hown hbel
    obtain ⟨k, hk, rfl, hown, hbel⟩ := hrel
    by_cases hlt : k < n
    · obtain ⟨b, o, rfl, hcell⟩ := h (by omega)
      have HN : Hid (bytesL false (xs.take k) ++ fourL false (xs.getD k 0) = bytesL false (xs.take (k + 1))) := bytesL_step _ _ _ (by omega)
      have hc := hcell k hlt
      have c0 : wr.cell? ⟨b, o + k, none⟩ = some (.int .i64 (xs.getD k 0)) := by
        rw [hbel.cell (p := ⟨b, o + k, none⟩) (World.block_lt_of_cell? w ⟨b, o + k, none⟩ hc)]
        exact hc
      clear hc hcell h
      generalize xs.getD k 0 = u at HN c0
      go_wp2_with (fail)
      refine (implWord_same u _).mono ?_
      rintro e w2 ⟨rfl, rfl⟩
      go_wp2_with (fail)
      refine (implLittle4 u _).mono ?_
      rintro e w2 ⟨q, d, rfl, r2, b2⟩
      replace hown := owns_below hown b2
      replace hbel := below_on hbel b2
      have hsz := hbel.size
      have hl4 := fourL_length false u
      have hin := r2.bytes
      clear r2 b2 c0
      generalize fourL false u = ys at HN hl4 hin
      go_wp2_with (at_builtin; refine list_spread hi hz0 hz1 hz2 (.tmp 20) (.tmp 24) 22 Tryz.underlying22 hown hin hl4 (by omega) (by omega) (by omega) hsz (by rfl) (by rfl) (by rfl) (by rfl) ?_; intro g cap w3 ho3 _ hb3; rw [HN.out] at ho3)
      go_roundw
      case rel => exact ⟨k + 1, by omega, by go_num, ho3, hbel.trans hb3⟩
      case measure => simp [intOf]; omega
    · have hkn : k = n := by omega
      subst hkn
      obtain ⟨p', c', hv⟩ := owns_form hown
      subst hv
      rw [List.take_of_length_le (by omega)] at hown
      clear h
      go_wp2
      go_ret
      exact ⟨_, _, rfl, .of hown, hbel⟩

set_option maxHeartbeats 2000000 in
theorem implBytesGreat_any (p : Option Addr) (n c : Nat) (xs : List Int) (w : World) (hn : n ≤ 1073741824) (hx : xs.length = n) (h : IntsIn w p n xs) :
    Calls Tryz.prog 118 #[.slice p n c, .bool true] w fun e w' => ∃ p' c', e = .returned (.slice p' (4 * n) c') ∧ Own 5 w' w.heap.size w'.heap.size (.slice p' (4 * n) c') (4 * n) (bytesL true xs) ∧ Below w.heap.size w w' := by
  obtain ⟨i0, hi, hz0, hz1, hz2⟩ := info_parts infoByte
  go_enter Tryz.func118, Tryz.ntmps118
  go_wp2_with (at_make; refine wpList_make_own _ rfl _ _ 22 rfl w.heap.size 5 i0 (.int .u8 0) 1 Tryz.underlying22 hi hz0 hz1 _ _ _ (4 * n) rfl rfl (by simp) (by rw [hz2]; omega) (by unfold maxLen; omega) (Nat.le_refl _) ?_)
  intro w1 hown hgrow
  have hbel : Below w.heap.size w w1 := (Below.refl _ _).grown hgrow (Nat.le_refl _) (fun _ h => by cases h)
  clear hgrow
  go_wp2
  go_loopw [6, 16] (fun v i wr => ∃ k : Nat, k ≤ n ∧ i = .int .i64 k ∧ wr.ownsRow w.heap.size 5 1 v (4 * k) ((bytesL true (xs.take k)).map (Value.int .u8)) ∧ Below w.heap.size w wr)
    (fun _ i _ => n - (intOf i).toNat)
  case atStart => exact ⟨0, Nat.zero_le _, rfl, by simpa [bytesL] using hown, hbel⟩
  case round =>
    clear hown hbel
    obtain ⟨k, hk, rfl, hown, hbel⟩ := hrel
    by_cases hlt : k < n
    · obtain ⟨b, o, rfl, hcell⟩ := h (by omega)
      have HN : Hid (bytesL true (xs.take k) ++ fourL true (xs.getD k 0) = bytesL true (xs.take (k + 1))) := bytesL_step _ _ _ (by omega)
      have hc := hcell k hlt
      have c0 : wr.cell? ⟨b, o + k, none⟩ = some (.int .i64 (xs.getD k 0)) := by
        rw [hbel.cell (p := ⟨b, o + k, none⟩) (World.block_lt_of_cell? w ⟨b, o + k, none⟩ hc)]
        exact hc
      clear hc hcell h
      generalize xs.getD k 0 = u at HN c0
      go_wp2_with (fail)
      refine (implWord_same u _).mono ?_
      rintro e w2 ⟨rfl, rfl⟩
      go_wp2_with (fail)
      refine (implGreat4 u _).mono ?_
      rintro e w2 ⟨q, d, rfl, r2, b2⟩
      replace hown := owns_below hown b2
      replace hbel := below_on hbel b2
      have hsz := hbel.size
      have hl4 := fourL_length true u
      have hin := r2.bytes
      clear r2 b2 c0
      generalize fourL true u = ys at HN hl4 hin
      go_wp2_with (at_builtin; refine list_spread hi hz0 hz1 hz2 (.tmp 20) (.tmp 24) 22 Tryz.underlying22 hown hin hl4 (by omega) (by omega) (by omega) hsz (by rfl) (by rfl) (by rfl) (by rfl) ?_; intro g cap w3 ho3 _ hb3; rw [HN.out] at ho3)
      go_roundw
      case rel => exact ⟨k + 1, by omega, by go_num, ho3, hbel.trans hb3⟩
      case measure => simp [intOf]; omega
    · have hkn : k = n := by omega
      subst hkn
      obtain ⟨p', c', hv⟩ := owns_form hown
      subst hv
      rw [List.take_of_length_le (by omega)] at hown
      clear h
      go_wp2
      go_ret
      exact ⟨_, _, rfl, .of hown, hbel⟩

set_option maxHeartbeats 2000000 in
theorem specBytesLittle_any (p : Option Addr) (n c : Nat) (xs : List Int) (w : World) (hn : n ≤ 1073741824) (hx : xs.length = n) (h : IntsIn w p n xs) :
    Calls Tryz.prog 93 #[.slice p n c, .bool false] w fun e w' => ∃ p' c', e = .returned (.slice p' (4 * n) c') ∧ Own 5 w' w.heap.size w'.heap.size (.slice p' (4 * n) c') (4 * n) (bytesL false xs) ∧ Below w.heap.size w w' := by
  obtain ⟨i0, hi, hz0, hz1, hz2⟩ := info_parts infoByte
  go_enter Tryz.func93, Tryz.ntmps93
  go_wp2
  go_loopw [5, 6] (fun v i wr => ∃ k : Nat, k ≤ n ∧ i = .int .i64 k ∧ wr.ownsRow w.heap.size 5 1 v (4 * k) ((bytesL false (xs.take k)).map (Value.int .u8)) ∧ Below w.heap.size w wr)
    (fun _ i _ => n - (intOf i).toNat)
  case atStart => exact ⟨0, Nat.zero_le _, rfl, World.ownsRow_made w #[] 0 (Nat.le_refl _) (by unfold maxLen; omega) rfl, (Below.refl _ _).alloc (Nat.le_refl _) _⟩
  case round =>
    obtain ⟨k, hk, rfl, hown, hbel⟩ := hrel
    by_cases hlt : k < n
    · obtain ⟨b, o, rfl, hcell⟩ := h (by omega)
      have HN : Hid (bytesL false (xs.take k) ++ fourL false (xs.getD k 0) = bytesL false (xs.take (k + 1))) := bytesL_step _ _ _ (by omega)
      have hc := hcell k hlt
      have c0 : wr.cell? ⟨b, o + k, none⟩ = some (.int .i64 (xs.getD k 0)) := by
        rw [hbel.cell (p := ⟨b, o + k, none⟩) (World.block_lt_of_cell? w ⟨b, o + k, none⟩ hc)]
        exact hc
      clear hc hcell h
      generalize xs.getD k 0 = u at HN c0
      go_wp2_with (fail)
      refine (specWord_same u _).mono ?_
      rintro e w2 ⟨rfl, rfl⟩
      go_wp2_with (fail)
      refine (specLittle4 u _).mono ?_
      rintro e w2 ⟨q, d, rfl, r2, b2⟩
      replace hown := owns_below hown b2
      replace hbel := below_on hbel b2
      have hsz := hbel.size
      have hl4 := fourL_length false u
      have hin := r2.bytes
      clear r2 b2 c0
      generalize fourL false u = ys at HN hl4 hin
      go_wp2_with (at_builtin; refine list_spread hi hz0 hz1 hz2 (.tmp 23) (.tmp 29) 22 Tryz.underlying22 hown hin hl4 (by omega) (by omega) (by omega) hsz (by rfl) (by rfl) (by rfl) (by rfl) ?_; intro g cap w3 ho3 _ hb3; rw [HN.out] at ho3)
      go_roundw
      case rel => exact ⟨k + 1, by omega, by go_num, ho3, hbel.trans hb3⟩
      case measure => simp [intOf]; omega
    · have hkn : k = n := by omega
      subst hkn
      obtain ⟨p', c', hv⟩ := owns_form hown
      subst hv
      rw [List.take_of_length_le (by omega)] at hown
      clear h
      go_wp2
      go_ret
      exact ⟨_, _, rfl, .of hown, hbel⟩

set_option maxHeartbeats 2000000 in
theorem specBytesGreat_any (p : Option Addr) (n c : Nat) (xs : List Int) (w : World) (hn : n ≤ 1073741824) (hx : xs.length = n) (h : IntsIn w p n xs) :
    Calls Tryz.prog 93 #[.slice p n c, .bool true] w fun e w' => ∃ p' c', e = .returned (.slice p' (4 * n) c') ∧ Own 5 w' w.heap.size w'.heap.size (.slice p' (4 * n) c') (4 * n) (bytesL true xs) ∧ Below w.heap.size w w' := by
  obtain ⟨i0, hi, hz0, hz1, hz2⟩ := info_parts infoByte
  go_enter Tryz.func93, Tryz.ntmps93
  go_wp2
  go_loopw [5, 6] (fun v i wr => ∃ k : Nat, k ≤ n ∧ i = .int .i64 k ∧ wr.ownsRow w.heap.size 5 1 v (4 * k) ((bytesL true (xs.take k)).map (Value.int .u8)) ∧ Below w.heap.size w wr)
    (fun _ i _ => n - (intOf i).toNat)
  case atStart => exact ⟨0, Nat.zero_le _, rfl, World.ownsRow_made w #[] 0 (Nat.le_refl _) (by unfold maxLen; omega) rfl, (Below.refl _ _).alloc (Nat.le_refl _) _⟩
  case round =>
    obtain ⟨k, hk, rfl, hown, hbel⟩ := hrel
    by_cases hlt : k < n
    · obtain ⟨b, o, rfl, hcell⟩ := h (by omega)
      have HN : Hid (bytesL true (xs.take k) ++ fourL true (xs.getD k 0) = bytesL true (xs.take (k + 1))) := bytesL_step _ _ _ (by omega)
      have hc := hcell k hlt
      have c0 : wr.cell? ⟨b, o + k, none⟩ = some (.int .i64 (xs.getD k 0)) := by
        rw [hbel.cell (p := ⟨b, o + k, none⟩) (World.block_lt_of_cell? w ⟨b, o + k, none⟩ hc)]
        exact hc
      clear hc hcell h
      generalize xs.getD k 0 = u at HN c0
      go_wp2_with (fail)
      refine (specWord_same u _).mono ?_
      rintro e w2 ⟨rfl, rfl⟩
      go_wp2_with (fail)
      refine (specGreat4 u _).mono ?_
      rintro e w2 ⟨q, d, rfl, r2, b2⟩
      replace hown := owns_below hown b2
      replace hbel := below_on hbel b2
      have hsz := hbel.size
      have hl4 := fourL_length true u
      have hin := r2.bytes
      clear r2 b2 c0
      generalize fourL true u = ys at HN hl4 hin
      go_wp2_with (at_builtin; refine list_spread hi hz0 hz1 hz2 (.tmp 15) (.tmp 21) 22 Tryz.underlying22 hown hin hl4 (by omega) (by omega) (by omega) hsz (by rfl) (by rfl) (by rfl) (by rfl) ?_; intro g cap w3 ho3 _ hb3; rw [HN.out] at ho3)
      go_roundw
      case rel => exact ⟨k + 1, by omega, by go_num, ho3, hbel.trans hb3⟩
      case measure => simp [intOf]; omega
    · have hkn : k = n := by omega
      subst hkn
      obtain ⟨p', c', hv⟩ := owns_form hown
      subst hv
      rw [List.take_of_length_le (by omega)] at hown
      clear h
      go_wp2
      go_ret
      exact ⟨_, _, rfl, .of hown, hbel⟩

theorem implWordBytes_any (p : Option Addr) (n c : Nat) (great : Bool) (xs : List Int) (w : World) (hn : n ≤ 1073741824) (hx : xs.length = n) (h : IntsIn w p n xs) :
    Calls Tryz.prog 118 #[.slice p n c, .bool great] w fun e w' => ∃ p' c', e = .returned (.slice p' (4 * n) c') ∧ Own 5 w' w.heap.size w'.heap.size (.slice p' (4 * n) c') (4 * n) (bytesL great xs) ∧ Below w.heap.size w w' := by
  cases great
  · exact implBytesLittle_any p n c xs w hn hx h
  · exact implBytesGreat_any p n c xs w hn hx h

theorem specWordBytes_any (p : Option Addr) (n c : Nat) (great : Bool) (xs : List Int) (w : World) (hn : n ≤ 1073741824) (hx : xs.length = n) (h : IntsIn w p n xs) :
    Calls Tryz.prog 93 #[.slice p n c, .bool great] w fun e w' => ∃ p' c', e = .returned (.slice p' (4 * n) c') ∧ Own 5 w' w.heap.size w'.heap.size (.slice p' (4 * n) c') (4 * n) (bytesL great xs) ∧ Below w.heap.size w w' := by
  cases great
  · exact specBytesLittle_any p n c xs w hn hx h
  · exact specBytesGreat_any p n c xs w hn hx h

end Go.Proofs.YtdjdanpicbaieaaGreatDoor

namespace Go.Proofs.YtdjdanpicbaieaaGreatDoor
open Go.RowKit
set_option maxRecDepth 100000

def startN : List Nat := [0x6a09e667, 0xbb67ae85, 0x3c6ef372, 0xa54ff53a, 0x510e527f, 0x9b05688c, 0x1f83d9ab, 0x5be0cd19]
def startL : List Int := startN.map fun (n : Nat) => (n : Int)

theorem owns_start (w : World) (ty : Nat) :
    OwnI ty (w.alloc (.cells #[.int .i64 0x6a09e667, .int .i64 0xbb67ae85, .int .i64 0x3c6ef372, .int .i64 0xa54ff53a, .int .i64 0x510e527f, .int .i64 0x9b05688c, .int .i64 0x1f83d9ab, .int .i64 0x5be0cd19] ty)) w.heap.size (w.heap.size + 1) (.slice (some ⟨w.heap.size, 0, none⟩) 8 8) 8 startL := by
  refine ⟨⟨rfl, .inr ⟨w.heap.size, 8, _, rfl, Nat.le_refl _, heap_alloc_new w _, Nat.le_refl _, by unfold maxLen; omega, rfl, rfl⟩⟩, ?_⟩
  intro k hk
  simp [Value.ownBlock] at hk
  omega

theorem specStart_any (w : World) :
    Calls Tryz.prog 91 #[] w fun e w' => ∃ p c, e = .returned (.slice p 8 c) ∧ OwnI 3 w' w.heap.size w'.heap.size (.slice p 8 c) 8 startL ∧ Below w.heap.size w w' := by
  go_enter Tryz.func91, Tryz.ntmps91
  go_wp2
  go_ret
  exact ⟨_, _, rfl, .of (owns_start w 3).1, (Below.refl _ _).alloc (Nat.le_refl _) _⟩

theorem implStart_any (w : World) :
    Calls Tryz.prog 78 #[] w fun e w' => ∃ p c, e = .returned (.slice p 8 c) ∧ OwnI 3 w' w.heap.size w'.heap.size (.slice p 8 c) 8 startL ∧ Below w.heap.size w w' := by
  go_enter Tryz.func78, Tryz.ntmps78
  go_wp2
  go_ret
  exact ⟨_, _, rfl, .of (owns_start w 3).1, (Below.refl _ _).alloc (Nat.le_refl _) _⟩

end Go.Proofs.YtdjdanpicbaieaaGreatDoor

namespace Go.Proofs.YtdjdanpicbaieaaGreatDoor
open Go.RowKit
set_option maxRecDepth 100000

/-- The bytes of both, as many as the shorter one has, one or the other, not both. -/
def xorL (xs ys : List Int) : List Int := List.zipWith (fun u v => bits BinOp.xor IntKind.u8 u v) xs ys

theorem xorL_length (xs ys : List Int) : (xorL xs ys).length = min xs.length ys.length := by simp [xorL]

theorem xorL_step {xs ys : List Int} {n m k : Nat} {u v : Int} (hx : xs.length = n) (hy : ys.length = m) (hk : k < n) (hk' : k < m) (hu : u = xs.getD k 0) (hv : v = ys.getD k 0) :
    xorL (xs.take k) (ys.take k) ++ [bits BinOp.xor IntKind.u8 u v] = xorL (xs.take (k + 1)) (ys.take (k + 1)) := by
  subst hu hv
  unfold xorL
  rw [List.take_succ_eq_append_getElem (by omega), List.take_succ_eq_append_getElem (by omega), List.zipWith_append (by simp; omega)]
  simp [List.getElem?_eq_getElem (show k < xs.length by omega), List.getElem?_eq_getElem (show k < ys.length by omega)]

theorem xorL_all {xs ys : List Int} {n m k : Nat} (hx : xs.length = n) (hy : ys.length = m) (h : k = min n m) : xorL (xs.take k) (ys.take k) = xorL xs ys := by
  subst hx hy h
  unfold xorL
  apply List.ext_getElem
  · simp
  · intro i h1 h2; simp

theorem xorL_getD {xs ys : List Int} {n m k : Nat} {u v : Int} (hx : xs.length = n) (hy : ys.length = m) (hk : k < n) (hk' : k < m) (hu : u = xs.getD k 0) (hv : v = ys.getD k 0) :
    bits BinOp.xor IntKind.u8 u v = (xorL xs ys).getD k 0 := by
  subst hu hv hx hy
  simp [xorL, List.getElem?_eq_getElem hk, List.getElem?_eq_getElem hk', List.getElem?_zipWith]

set_option maxHeartbeats 1000000 in
theorem implXor_le (p q : Option Addr) (n m c d : Nat) (xs ys : List Int) (w : World) (hn : n ≤ 1048576) (hm : m ≤ 1048576) (hx : xs.length = n) (hy : ys.length = m) (h : BytesIn w p n xs) (h' : BytesIn w q m ys) (hmin : n ≤ m) :
    Calls Tryz.prog 116 #[.slice p n c, .slice q m d] w fun e w' => ∃ v, e = .returned v ∧ w'.ownsRow w.heap.size 5 1 v n ((xorL xs ys).map (Value.int .u8)) ∧ Below w.heap.size w w' := by
  obtain ⟨i0, hi, hz0, hz1, hz2⟩ := info_parts infoByte
  have hl : (xorL xs ys).length = n := by rw [xorL_length, hx, hy]; omega
  go_enter Tryz.func116, Tryz.ntmps116
  go_wp2_with (at_make; refine wpList_make_full _ rfl _ _ 22 rfl w.heap.size 5 i0 (.int .u8 0) 1 Tryz.underlying22 hi hz0 hz1 _ _ _ _ n rfl rfl rfl rfl ?b2 ?b3 ?b4 ?_)
  case b2 => rw [hz2]; omega
  case b3 => unfold maxLen; omega
  case b4 => exact Nat.le_refl _
  intro w1 hown hgrow
  rw [fill_start (xorL xs ys) n] at hown
  have hbel : Below w.heap.size w w1 := (Below.refl _ _).grown hgrow (Nat.le_refl _) (fun _ h => by cases h)
  clear hgrow
  go_wp2
  go_loopw [15] (fun i wr => ∃ k : Nat, k ≤ n ∧ i = .int .i64 k ∧ wr.ownsRow w.heap.size 5 1 (.slice (some ⟨w.heap.size, 0, none⟩) n n) n (((xorL xs ys).take k ++ List.replicate (n - k) 0).map (Value.int .u8)) ∧ Below w.heap.size w wr)
    (fun i _ => n - (intOf i).toNat)
  case atStart => exact ⟨0, Nat.zero_le _, rfl, hown, hbel⟩
  case round =>
    clear hown hbel
    obtain ⟨k, hk, rfl, hown, hbel⟩ := hrel
    by_cases hlt : k < n
    · have hlx : k < n := by omega
      have hly : k < m := by omega
      obtain ⟨b, o, rfl, hc⟩ := h (by omega)
      obtain ⟨b', o', rfl, hc'⟩ := h' (by omega)
      have hcx : wr.cell? ⟨b, o + k, none⟩ = some (.int .u8 (xs.getD k 0)) := by
        rw [hbel.cell (p := ⟨b, o + k, none⟩) (World.block_lt_of_cell? w ⟨b, o + k, none⟩ (hc k hlx))]
        exact hc k hlx
      have hcy : wr.cell? ⟨b', o' + k, none⟩ = some (.int .u8 (ys.getD k 0)) := by
        rw [hbel.cell (p := ⟨b', o' + k, none⟩) (World.block_lt_of_cell? w ⟨b', o' + k, none⟩ (hc' k hly))]
        exact hc' k hly
      obtain ⟨u, hu⟩ : ∃ u, u = xs.getD k 0 := ⟨_, rfl⟩
      obtain ⟨v, hv⟩ : ∃ v, v = ys.getD k 0 := ⟨_, rfl⟩
      rw [← hu] at hcx
      rw [← hv] at hcy
      have hold : wr.cell? ⟨w.heap.size, k, none⟩ = some (.int .u8 0) := by
        rw [hown.cellAt k (by omega)]; exact fill_old _ n k hlt hl
      have hfz := hown.frozenAt k
      have hst := hown.stored k (.int .u8 (bits BinOp.xor IntKind.u8 u v))
      rw [fill_step (xorL xs ys) n k _ (xorL_getD hx hy hlx hly hu hv) hlt hl] at hst
      have hbel' := hbel.setCell (p := ⟨w.heap.size, k, none⟩) (Nat.le_refl _) (.int .u8 (bits BinOp.xor IntKind.u8 u v))
      clear hc hc' h h' hu hv
      go_wp2
      go_region
      all_goals
        go_wp2
        go_roundw
        case rel => exact ⟨k + 1, by omega, by go_num, hst.1, hbel'.drew⟩
        case measure => simp [intOf]; omega
    · have hkn : k = n := by omega
      subst hkn
      go_wp2
      go_ret
      rw [fill_end _ _ hl] at hown
      exact ⟨_, rfl, hown, hbel⟩

set_option maxHeartbeats 1000000 in
theorem implXor_gt (p q : Option Addr) (n m c d : Nat) (xs ys : List Int) (w : World) (hn : n ≤ 1048576) (hm : m ≤ 1048576) (hx : xs.length = n) (hy : ys.length = m) (h : BytesIn w p n xs) (h' : BytesIn w q m ys) (hmin : m < n) :
    Calls Tryz.prog 116 #[.slice p n c, .slice q m d] w fun e w' => ∃ v, e = .returned v ∧ w'.ownsRow w.heap.size 5 1 v m ((xorL xs ys).map (Value.int .u8)) ∧ Below w.heap.size w w' := by
  obtain ⟨i0, hi, hz0, hz1, hz2⟩ := info_parts infoByte
  have hl : (xorL xs ys).length = m := by rw [xorL_length, hx, hy]; omega
  go_enter Tryz.func116, Tryz.ntmps116
  go_wp2_with (at_make; refine wpList_make_full _ rfl _ _ 22 rfl w.heap.size 5 i0 (.int .u8 0) 1 Tryz.underlying22 hi hz0 hz1 _ _ _ _ m rfl rfl rfl rfl ?b2 ?b3 ?b4 ?_)
  case b2 => rw [hz2]; omega
  case b3 => unfold maxLen; omega
  case b4 => exact Nat.le_refl _
  intro w1 hown hgrow
  rw [fill_start (xorL xs ys) m] at hown
  have hbel : Below w.heap.size w w1 := (Below.refl _ _).grown hgrow (Nat.le_refl _) (fun _ h => by cases h)
  clear hgrow
  go_wp2
  go_loopw [15] (fun i wr => ∃ k : Nat, k ≤ m ∧ i = .int .i64 k ∧ wr.ownsRow w.heap.size 5 1 (.slice (some ⟨w.heap.size, 0, none⟩) m m) m (((xorL xs ys).take k ++ List.replicate (m - k) 0).map (Value.int .u8)) ∧ Below w.heap.size w wr)
    (fun i _ => m - (intOf i).toNat)
  case atStart => exact ⟨0, Nat.zero_le _, rfl, hown, hbel⟩
  case round =>
    clear hown hbel
    obtain ⟨k, hk, rfl, hown, hbel⟩ := hrel
    by_cases hlt : k < m
    · have hlx : k < n := by omega
      have hly : k < m := by omega
      obtain ⟨b, o, rfl, hc⟩ := h (by omega)
      obtain ⟨b', o', rfl, hc'⟩ := h' (by omega)
      have hcx : wr.cell? ⟨b, o + k, none⟩ = some (.int .u8 (xs.getD k 0)) := by
        rw [hbel.cell (p := ⟨b, o + k, none⟩) (World.block_lt_of_cell? w ⟨b, o + k, none⟩ (hc k hlx))]
        exact hc k hlx
      have hcy : wr.cell? ⟨b', o' + k, none⟩ = some (.int .u8 (ys.getD k 0)) := by
        rw [hbel.cell (p := ⟨b', o' + k, none⟩) (World.block_lt_of_cell? w ⟨b', o' + k, none⟩ (hc' k hly))]
        exact hc' k hly
      obtain ⟨u, hu⟩ : ∃ u, u = xs.getD k 0 := ⟨_, rfl⟩
      obtain ⟨v, hv⟩ : ∃ v, v = ys.getD k 0 := ⟨_, rfl⟩
      rw [← hu] at hcx
      rw [← hv] at hcy
      have hold : wr.cell? ⟨w.heap.size, k, none⟩ = some (.int .u8 0) := by
        rw [hown.cellAt k (by omega)]; exact fill_old _ m k hlt hl
      have hfz := hown.frozenAt k
      have hst := hown.stored k (.int .u8 (bits BinOp.xor IntKind.u8 u v))
      rw [fill_step (xorL xs ys) m k _ (xorL_getD hx hy hlx hly hu hv) hlt hl] at hst
      have hbel' := hbel.setCell (p := ⟨w.heap.size, k, none⟩) (Nat.le_refl _) (.int .u8 (bits BinOp.xor IntKind.u8 u v))
      clear hc hc' h h' hu hv
      go_wp2
      go_region
      all_goals
        go_wp2
        go_roundw
        case rel => exact ⟨k + 1, by omega, by go_num, hst.1, hbel'.drew⟩
        case measure => simp [intOf]; omega
    · have hkn : k = m := by omega
      subst hkn
      go_wp2
      go_ret
      rw [fill_end _ _ hl] at hown
      exact ⟨_, rfl, hown, hbel⟩

theorem implXor_any (p q : Option Addr) (n m c d : Nat) (xs ys : List Int) (w : World) (hn : n ≤ 1048576) (hm : m ≤ 1048576) (hx : xs.length = n) (hy : ys.length = m) (h : BytesIn w p n xs) (h' : BytesIn w q m ys) :
    Calls Tryz.prog 116 #[.slice p n c, .slice q m d] w fun e w' => ∃ v, e = .returned v ∧ w'.ownsRow w.heap.size 5 1 v (min n m) ((xorL xs ys).map (Value.int .u8)) ∧ Below w.heap.size w w' := by
  by_cases hle : n ≤ m
  · rw [show min n m = n by omega]
    exact implXor_le p q n m c d xs ys w hn hm hx hy h h' hle
  · rw [show min n m = m by omega]
    exact implXor_gt p q n m c d xs ys w hn hm hx hy h h' (by omega)

theorem implXor_own (p q : Option Addr) (n m c d : Nat) (xs ys : List Int) (w : World) (hn : n ≤ 1048576) (hm : m ≤ 1048576) (hx : xs.length = n) (hy : ys.length = m) (h : BytesIn w p n xs) (h' : BytesIn w q m ys) :
    Calls Tryz.prog 116 #[.slice p n c, .slice q m d] w fun e w' => ∃ p' c', e = .returned (.slice p' (min n m) c') ∧ Own 5 w' w.heap.size w'.heap.size (.slice p' (min n m) c') (min n m) (xorL xs ys) ∧ Below w.heap.size w w' := by
  refine (implXor_any p q n m c d xs ys w hn hm hx hy h h').mono fun e w' ⟨v, h1, h2, h3⟩ => ?_
  obtain ⟨p', c', rfl⟩ := owns_form h2
  exact ⟨p', c', h1, .of h2, h3⟩

end Go.Proofs.YtdjdanpicbaieaaGreatDoor

namespace Go.Proofs.YtdjdanpicbaieaaGreatDoor
set_option maxRecDepth 100000

def fldP : Int := 57896044618658097711785492504343953926634992332820282019728792003956564819949
/-- The number of which these are the parts, little. -/
def valZ (f : Nat → Int) : Nat → Int
  | 0 => 0
  | n + 1 => valZ f n + f n * 65536 ^ n
theorem valZ_congr {f g : Nat → Int} : ∀ {n : Nat}, (∀ i, i < n → f i = g i) → valZ f n = valZ g n
  | 0, _ => rfl
  | n + 1, h => by rw [valZ, valZ, valZ_congr (fun i hi => h i (by omega)), h n (by omega)]
theorem valZ_add (f g : Nat → Int) : ∀ n, valZ (fun i => f i + g i) n = valZ f n + valZ g n
  | 0 => rfl
  | n + 1 => by simp only [valZ]; rw [valZ_add f g n, Int.add_mul]; omega
theorem valZ_sub (f g : Nat → Int) : ∀ n, valZ (fun i => f i - g i) n = valZ f n - valZ g n
  | 0 => rfl
  | n + 1 => by simp only [valZ]; rw [valZ_sub f g n, Int.sub_mul]; omega
theorem valZ_mul (f : Nat → Int) (k : Int) : ∀ n, valZ (fun i => k * f i) n = k * valZ f n
  | 0 => by simp [valZ]
  | n + 1 => by simp only [valZ]; rw [valZ_mul f k n, Int.mul_add, Int.mul_assoc]
theorem valZ_zero : ∀ n, valZ (fun _ => 0) n = 0
  | 0 => rfl
  | n + 1 => by rw [valZ, valZ_zero n]; simp
theorem valZ_split (f : Nat → Int) (a : Nat) : ∀ b, valZ f (a + b) = valZ f a + 65536 ^ a * valZ (fun i => f (a + i)) b
  | 0 => by simp [valZ]
  | b + 1 => by
    rw [← Nat.add_assoc, valZ, valZ_split f a b, valZ, Int.mul_add, Int.pow_add]
    have : f (a + b) * (65536 ^ a * 65536 ^ b) = 65536 ^ a * (f (a + b) * 65536 ^ b) := by rw [← Int.mul_assoc, Int.mul_comm (f (a + b)), Int.mul_assoc]
    omega
theorem powZ_pos : ∀ n : Nat, (0 : Int) < 65536 ^ n
  | 0 => by decide
  | n + 1 => by rw [Int.pow_succ]; have := powZ_pos n; omega
theorem valZ_range {f : Nat → Int} : ∀ {n : Nat}, (∀ i, i < n → 0 ≤ f i ∧ f i < 65536) → 0 ≤ valZ f n ∧ valZ f n < 65536 ^ n
  | 0, _ => by simp [valZ]
  | n + 1, h => by
    have h1 := valZ_range (n := n) (fun i hi => h i (by omega))
    have h2 := h n (by omega)
    have hp := powZ_pos n
    have h3 : f n * 65536 ^ n ≤ 65535 * 65536 ^ n := Int.mul_le_mul_of_nonneg_right (by omega) (by omega)
    have h4 : 0 ≤ f n * 65536 ^ n := Int.mul_nonneg h2.1 (by omega)
    rw [valZ, Int.pow_succ]
    omega

/-! ### what is carried -/
def carZ (f : Nat → Int) : Nat → Int
  | 0 => 0
  | k + 1 => (f k + carZ f k) / 65536
def digZ (f : Nat → Int) (k : Nat) : Int := (f k + carZ f k) % 65536
theorem digZ_range (f : Nat → Int) (k : Nat) : 0 ≤ digZ f k ∧ digZ f k < 65536 := by unfold digZ; omega
theorem val_carZ (f : Nat → Int) : ∀ n, valZ (digZ f) n + 65536 ^ n * carZ f n = valZ f n
  | 0 => by simp [valZ, carZ]
  | n + 1 => by
    have ih := val_carZ f n
    have hd : digZ f n + 65536 * carZ f (n + 1) = carZ f n + f n := by
      simp only [digZ, carZ]
      omega
    have e1 : (65536 : Int) ^ (n + 1) * carZ f (n + 1) = 65536 ^ n * (65536 * carZ f (n + 1)) := by rw [Int.pow_succ, Int.mul_assoc]
    have e2 : digZ f n * 65536 ^ n = 65536 ^ n * digZ f n := Int.mul_comm _ _
    have e3 : (65536 : Int) ^ n * digZ f n + 65536 ^ n * (65536 * carZ f (n + 1)) = 65536 ^ n * (carZ f n + f n) := by rw [← Int.mul_add, hd]
    rw [Int.mul_add] at e3
    have e4 : f n * 65536 ^ n = 65536 ^ n * f n := Int.mul_comm _ _
    simp only [valZ]
    omega
/-- The parts behind a carrying. -/
def cryZ (f : Nat → Int) (i : Nat) : Int := if i = 0 then digZ f 0 + 38 * carZ f 16 else digZ f i
def likeP (a b : Int) : Prop := ∃ k, a = b + k * fldP
theorem likeP.refl (a : Int) : likeP a a := ⟨0, by omega⟩
theorem likeP.symm {a b : Int} : likeP a b → likeP b a := fun ⟨k, h⟩ => ⟨-k, by rw [h, Int.neg_mul]; omega⟩
theorem likeP.trans {a b c : Int} : likeP a b → likeP b c → likeP a c := fun ⟨k, h⟩ ⟨l, h'⟩ => ⟨k + l, by rw [h, h', Int.add_mul]; omega⟩
theorem likeP.add {a b c d : Int} : likeP a b → likeP c d → likeP (a + c) (b + d) := fun ⟨k, h⟩ ⟨l, h'⟩ => ⟨k + l, by rw [h, h', Int.add_mul]; omega⟩
theorem likeP.sub {a b c d : Int} : likeP a b → likeP c d → likeP (a - c) (b - d) := fun ⟨k, h⟩ ⟨l, h'⟩ => ⟨k - l, by rw [h, h', Int.sub_mul]; omega⟩
theorem likeP.mulR {a b : Int} (c : Int) : likeP a b → likeP (a * c) (b * c) := fun ⟨k, h⟩ => ⟨k * c, by rw [h, Int.add_mul, Int.mul_assoc k fldP c, Int.mul_comm fldP c, ← Int.mul_assoc]⟩
theorem likeP.mulL {a b : Int} (c : Int) (h : likeP a b) : likeP (c * a) (c * b) := by rw [Int.mul_comm c a, Int.mul_comm c b]; exact h.mulR c
theorem likeP.mul {a b c d : Int} (h : likeP a b) (h' : likeP c d) : likeP (a * c) (b * d) := (h.mulR c).trans (h'.mulL b)
theorem likeP_256 : likeP (65536 ^ 16) 38 := ⟨2, by decide⟩
theorem likeP.mod {a b : Int} : likeP a b → a % fldP = b % fldP := fun ⟨k, h⟩ => by rw [h, Int.add_mul_emod_self_right]
theorem likeP_of_mod {a b : Int} (h : a % fldP = b % fldP) : likeP a b := ⟨a / fldP - b / fldP, by
  have h1 := Int.mul_ediv_add_emod a fldP
  have h2 := Int.mul_ediv_add_emod b fldP
  rw [Int.sub_mul, Int.mul_comm (a / fldP), Int.mul_comm (b / fldP)]
  omega⟩
theorem likeP_mod (a : Int) : likeP (a % fldP) a := likeP_of_mod (Int.emod_emod_of_dvd a (Int.dvd_refl fldP))
theorem val_cry (f : Nat → Int) : valZ (cryZ f) 16 = valZ (digZ f) 16 + 38 * carZ f 16 := by
  have e1 := valZ_split (cryZ f) 1 15
  have e2 := valZ_split (digZ f) 1 15
  have e3 : valZ (fun i => cryZ f (1 + i)) 15 = valZ (fun i => digZ f (1 + i)) 15 := valZ_congr fun i _ => by rw [cryZ, if_neg (by omega)]
  have e4 : valZ (cryZ f) 1 = digZ f 0 + 38 * carZ f 16 := by simp [valZ, cryZ]
  have e5 : valZ (digZ f) 1 = digZ f 0 := by simp [valZ]
  rw [e3, e4] at e1
  rw [e5] at e2
  show valZ (cryZ f) (1 + 15) = valZ (digZ f) (1 + 15) + 38 * carZ f 16
  rw [e1, e2]
  omega
theorem like_cry (f : Nat → Int) : likeP (valZ (cryZ f) 16) (valZ f 16) := by
  have h := val_carZ f 16
  rw [val_cry, ← h]
  exact (likeP.refl _).add (likeP_256.symm.mulR _)
theorem carZ_le {f : Nat → Int} {M : Int} (h1 : ∀ i, -(65535 * M) ≤ f i) (h2 : ∀ i, f i ≤ 65535 * M) (h0 : 0 ≤ M) : ∀ k, -M - 1 ≤ carZ f k ∧ carZ f k ≤ M
  | 0 => by simp [carZ]; omega
  | k + 1 => by
    have ih := carZ_le h1 h2 h0 k
    have a := h1 k
    have b := h2 k
    rw [carZ]
    omega
theorem cryZ_tail (f : Nat → Int) (i : Nat) (hi : i ≠ 0) : 0 ≤ cryZ f i ∧ cryZ f i < 65536 := by rw [cryZ, if_neg hi]; exact digZ_range f i

/-! ### carried three times -/
/-- All but the lowest part are of 16 bits. -/
def tailZ (f : Nat → Int) : Prop := ∀ i, i ≠ 0 → 0 ≤ f i ∧ f i < 65536
theorem cry_tail (f : Nat → Int) : tailZ (cryZ f) := fun i hi => cryZ_tail f i hi
theorem car_tail {f : Nat → Int} (ht : tailZ f) {K : Int} (h1 : -(65536 * K) ≤ f 0) (h2 : f 0 < 65536 * K) (hK : 1 ≤ K) (hK2 : K ≤ 4294836224) : ∀ k, 1 ≤ k → -K ≤ carZ f k ∧ carZ f k ≤ K ∧ (2 ≤ k → -65535 ≤ carZ f k ∧ carZ f k ≤ 65536) ∧ (3 ≤ k → -1 ≤ carZ f k ∧ carZ f k ≤ 1)
  | 0, h => by omega
  | 1, _ => by
    have e : carZ f 1 = f 0 / 65536 := by simp [carZ]
    rw [e]
    omega
  | k + 2, _ => by
    have ih := car_tail ht h1 h2 hK hK2 (k + 1) (by omega)
    have ha := ht (k + 1) (by omega)
    have e : carZ f (k + 2) = (f (k + 1) + carZ f (k + 1)) / 65536 := rfl
    rw [e]
    omega
theorem cry_head {f : Nat → Int} {M : Int} (h1 : ∀ i, -(65535 * M) ≤ f i) (h2 : ∀ i, f i ≤ 65535 * M) (h0 : 0 ≤ M) : -(38 * (M + 1)) ≤ cryZ f 0 ∧ cryZ f 0 < 65536 + 38 * M := by
  have hc := carZ_le h1 h2 h0 16
  have hd := digZ_range f 0
  rw [cryZ, if_pos rfl]
  omega
theorem cry_second {f : Nat → Int} (ht : tailZ f) {K : Int} (h1 : -(65536 * K) ≤ f 0) (h2 : f 0 < 65536 * K) (hK : 1 ≤ K) (hK2 : K ≤ 4294836224) : -38 ≤ cryZ f 0 ∧ cryZ f 0 ≤ 65573 := by
  have hc := (car_tail ht h1 h2 hK hK2 16 (by omega)).2.2.2 (by omega)
  have hd := digZ_range f 0
  rw [cryZ, if_pos rfl]
  omega
theorem cry_third {f : Nat → Int} (ht : tailZ f) (h1 : -38 ≤ f 0) (h2 : f 0 ≤ 65573) : ∀ i, 0 ≤ cryZ f i ∧ cryZ f i < 65536 := by
  intro i
  by_cases hi : i = 0
  · subst hi
    have hc := (car_tail ht (K := 2) (by omega) (by omega) (by omega) (by omega) 16 (by omega)).2.2.2 (by omega)
    have hv := val_carZ f 16
    have hr := valZ_range (f := digZ f) (n := 16) (fun i _ => digZ_range f i)
    have e1 := valZ_split f 1 15
    have e2 : valZ f 1 = f 0 := by simp [valZ]
    have ht' := valZ_range (f := fun i => f (1 + i)) (n := 15) (fun i _ => ht (1 + i) (by omega))
    have e3 : valZ f 16 = f 0 + 65536 * valZ (fun i => f (1 + i)) 15 := by
      rw [e2] at e1
      simpa using e1
    have e4 : (65536 : Int) ^ 16 = 65536 * 65536 ^ 15 := by decide
    have hd : digZ f 0 = f 0 % 65536 := by simp [digZ, carZ]
    rw [e3] at hv
    rw [cryZ, if_pos rfl, hd]
    generalize valZ (fun i => f (1 + i)) 15 = T at hv ht'
    generalize valZ (digZ f) 16 = D at hv hr
    generalize carZ f 16 = q at hc hv
    rw [e4] at hv hr
    generalize (65536 : Int) ^ 15 = B at hv hr ht'
    have hq : q = -1 ∨ q = 0 ∨ q = 1 := by omega
    rcases hq with rfl | rfl | rfl <;> omega
  · exact cryZ_tail f i hi
/-- Three carryings of parts that are not too great: parts of 16 bits. -/
theorem cry_thrice {f : Nat → Int} (h1 : ∀ i, -140737488355328 ≤ f i) (h2 : ∀ i, f i ≤ 140737488355328) : ∀ i, 0 ≤ cryZ (cryZ (cryZ f)) i ∧ cryZ (cryZ (cryZ f)) i < 65536 := by
  have a := cry_head (f := f) (M := 2147516417) (fun i => by have := h1 i; omega) (fun i => by have := h2 i; omega) (by omega)
  have b := cry_second (cry_tail f) (K := 2000000) (by omega) (by omega) (by omega) (by omega)
  exact cry_third (cry_tail _) b.1 b.2
/-- Two carryings: parts of 16 bits but the lowest, which is nearly so. -/
theorem cry_twice {f : Nat → Int} (h1 : ∀ i, -140737488355328 ≤ f i) (h2 : ∀ i, f i ≤ 140737488355328) : tailZ (cryZ (cryZ f)) ∧ -38 ≤ cryZ (cryZ f) 0 ∧ cryZ (cryZ f) 0 ≤ 65573 := by
  have a := cry_head (f := f) (M := 2147516417) (fun i => by have := h1 i; omega) (fun i => by have := h2 i; omega) (by omega)
  exact ⟨cry_tail _, cry_second (cry_tail f) (K := 2000000) (by omega) (by omega) (by omega) (by omega)⟩

/-! ### p taken away where it can be -/
def prtZ (i : Nat) : Int := if i = 0 then 65517 else if i = 15 then 32767 else 65535
theorem val_prt : valZ prtZ 16 = fldP := by decide
def dffZ (t : Nat → Int) (i : Nat) : Int := t i - prtZ i
def topZ (t : Nat → Int) : Int := dffZ t 15 + carZ (dffZ t) 15
def lssZ (t : Nat → Int) (i : Nat) : Int := if topZ t < 0 then t i else if i = 15 then topZ t else digZ (dffZ t) i
theorem dff_car {t : Nat → Int} (ht : ∀ i, 0 ≤ t i ∧ t i < 65536) : ∀ k, -1 ≤ carZ (dffZ t) k ∧ carZ (dffZ t) k ≤ 0
  | 0 => by simp [carZ]
  | k + 1 => by
    have ih := dff_car ht k
    have h := ht k
    have hp : 32767 ≤ prtZ k ∧ prtZ k ≤ 65535 := by
      unfold prtZ
      split
      · omega
      · split <;> omega
    have hk : carZ (dffZ t) (k + 1) = (dffZ t k + carZ (dffZ t) k) / 65536 := rfl
    have hd : dffZ t k = t k - prtZ k := rfl
    rw [hk, hd]
    omega
theorem val_dff (t : Nat → Int) : valZ (digZ (dffZ t)) 15 + topZ t * 65536 ^ 15 = valZ t 16 - fldP := by
  have h := val_carZ (dffZ t) 15
  have e : valZ (dffZ t) 16 = valZ t 16 - valZ prtZ 16 := valZ_sub t prtZ 16
  have e2 : valZ (dffZ t) 16 = valZ (dffZ t) 15 + dffZ t 15 * 65536 ^ 15 := rfl
  rw [val_prt] at e
  have e3 : topZ t * 65536 ^ 15 = dffZ t 15 * 65536 ^ 15 + 65536 ^ 15 * carZ (dffZ t) 15 := by rw [topZ, Int.add_mul, Int.mul_comm (carZ _ _)]
  omega
theorem lss_range {t : Nat → Int} (ht : ∀ i, 0 ≤ t i ∧ t i < 65536) : ∀ i, 0 ≤ lssZ t i ∧ lssZ t i < 65536 := by
  intro i
  have hc := dff_car ht 15
  have h15 := ht 15
  have hp : prtZ 15 = 32767 := by decide
  have hd : dffZ t 15 = t 15 - prtZ 15 := rfl
  unfold lssZ
  split
  · exact ht i
  · split
    · unfold topZ at *
      omega
    · exact digZ_range _ _
theorem val_lss {t : Nat → Int} : valZ (lssZ t) 16 = if fldP ≤ valZ t 16 then valZ t 16 - fldP else valZ t 16 := by
  have hv := val_dff t
  have hr := valZ_range (f := digZ (dffZ t)) (n := 15) (fun i _ => digZ_range _ i)
  by_cases hb : topZ t < 0
  · have e : lssZ t = t := by funext i; rw [lssZ, if_pos hb]
    have hlt : topZ t * 65536 ^ 15 ≤ -1 * 65536 ^ 15 := Int.mul_le_mul_of_nonneg_right (by omega) (by decide)
    rw [e, if_neg (by omega)]
  · have hge : 0 ≤ topZ t * 65536 ^ 15 := Int.mul_nonneg (by omega) (by decide)
    have e : valZ (lssZ t) 16 = valZ (lssZ t) 15 + lssZ t 15 * 65536 ^ 15 := rfl
    have e2 : valZ (lssZ t) 15 = valZ (digZ (dffZ t)) 15 := valZ_congr fun i hi => by rw [lssZ, if_neg hb, if_neg (by omega)]
    have e3 : lssZ t 15 = topZ t := by rw [lssZ, if_neg hb, if_pos rfl]
    rw [e, e2, e3, hv, if_pos (by omega)]
/-- The parts of what is left. -/
def redZ (f : Nat → Int) : Nat → Int := lssZ (lssZ (cryZ (cryZ (cryZ f))))
theorem red_range {f : Nat → Int} (h1 : ∀ i, -140737488355328 ≤ f i) (h2 : ∀ i, f i ≤ 140737488355328) : ∀ i, 0 ≤ redZ f i ∧ redZ f i < 65536 := lss_range (lss_range (cry_thrice h1 h2))
theorem val_red {f : Nat → Int} (h1 : ∀ i, -140737488355328 ≤ f i) (h2 : ∀ i, f i ≤ 140737488355328) : valZ (redZ f) 16 = valZ f 16 % fldP := by
  have hl : likeP (valZ (cryZ (cryZ (cryZ f))) 16) (valZ f 16) := (like_cry _).trans ((like_cry _).trans (like_cry _))
  have hr := valZ_range (f := cryZ (cryZ (cryZ f))) (n := 16) (fun i _ => cry_thrice h1 h2 i)
  rw [← hl.mod]
  generalize hV : valZ (cryZ (cryZ (cryZ f))) 16 = V at hr
  have hP : (65536 : Int) ^ 16 = 2 * fldP + 38 := by decide
  have h38 : (38 : Int) < fldP := by decide
  have hpos : 0 < fldP := by decide
  have key : ∀ W, W = V → V % fldP = if fldP ≤ (if fldP ≤ W then W - fldP else W) then (if fldP ≤ W then W - fldP else W) - fldP else (if fldP ≤ W then W - fldP else W) := by
    rintro W rfl
    by_cases c1 : fldP ≤ W
    · rw [if_pos c1]
      by_cases c2 : fldP ≤ W - fldP
      · rw [if_pos c2]
        have : W = (W - fldP - fldP) + 2 * fldP := by omega
        rw [this, Int.add_mul_emod_self_right, Int.emod_eq_of_lt (by omega) (by omega)]
        omega
      · rw [if_neg c2]
        have : W = (W - fldP) + 1 * fldP := by omega
        rw [this, Int.add_mul_emod_self_right, Int.emod_eq_of_lt (by omega) (by omega)]
        omega
    · rw [if_neg c1, if_neg c1, Int.emod_eq_of_lt (by omega) (by omega)]
  rw [key V rfl, redZ, val_lss, val_lss, hV]

end Go.Proofs.YtdjdanpicbaieaaGreatDoor

namespace Go.Proofs.YtdjdanpicbaieaaGreatDoor
set_option maxRecDepth 100000

/-- What row i brings to part k, of which the first j are done. -/
def rowZ (a b : Nat → Int) (i j k : Nat) : Int := if i ≤ k ∧ k - i < j then a i * b (k - i) else 0
/-- What the first i rows bring to part k. -/
def rwsZ (a b : Nat → Int) : Nat → Nat → Int
  | 0, _ => 0
  | i + 1, k => rwsZ a b i k + rowZ a b i 16 k
theorem val_row (a b : Nat → Int) (i : Nat) (hi : i < 16) : valZ (rowZ a b i 16) 31 = a i * 65536 ^ i * valZ b 16 := by
  have e1 := valZ_split (rowZ a b i 16) i (31 - i)
  rw [show i + (31 - i) = 31 by omega] at e1
  have e2 := valZ_split (fun k => rowZ a b i 16 (i + k)) 16 (15 - i)
  rw [show 16 + (15 - i) = 31 - i by omega] at e2
  have z1 : valZ (rowZ a b i 16) i = 0 := by
    rw [valZ_congr (g := fun _ => 0) (fun k hk => by rw [rowZ, if_neg (by omega)]), valZ_zero]
  have z2 : valZ (fun k => rowZ a b i 16 (i + (16 + k))) (15 - i) = 0 := by
    rw [valZ_congr (g := fun _ => 0) (fun k hk => by rw [rowZ, if_neg (by omega)]), valZ_zero]
  have z3 : valZ (fun k => rowZ a b i 16 (i + k)) 16 = a i * valZ b 16 := by
    rw [← valZ_mul]
    refine valZ_congr fun k hk => ?_
    rw [rowZ, if_pos (by omega), show i + k - i = k by omega]
  rw [e1, z1, e2, z2, z3, Int.mul_zero, Int.add_zero, Int.zero_add, ← Int.mul_assoc, Int.mul_comm (65536 ^ i) (a i)]
theorem val_rws (a b : Nat → Int) : ∀ i, i ≤ 16 → valZ (rwsZ a b i) 31 = valZ a i * valZ b 16
  | 0, _ => by
    rw [show rwsZ a b 0 = fun _ => 0 from rfl, valZ_zero, valZ, Int.zero_mul]
  | i + 1, hi => by
    rw [show rwsZ a b (i + 1) = fun k => rwsZ a b i k + rowZ a b i 16 k from rfl, valZ_add, val_rws a b i (by omega), val_row a b i (by omega)]
    show _ = (valZ a i + a i * 65536 ^ i) * valZ b 16
    rw [Int.add_mul]
/-- 31 parts made 16. -/
def fldZ (t : Nat → Int) (i : Nat) : Int := if i < 15 then t i + 38 * t (i + 16) else t i
theorem like_fld (t : Nat → Int) : likeP (valZ (fldZ t) 16) (valZ t 31) := by
  have e1 := valZ_split t 16 15
  have e2 : valZ (fldZ t) 16 = valZ t 16 + 38 * valZ (fun i => t (16 + i)) 15 := by
    have h1 : valZ (fldZ t) 16 = valZ (fldZ t) 15 + fldZ t 15 * 65536 ^ 15 := rfl
    have h2 : valZ t 16 = valZ t 15 + t 15 * 65536 ^ 15 := rfl
    have h3 : valZ (fldZ t) 15 = valZ (fun i => t i + 38 * t (16 + i)) 15 := valZ_congr fun i hi => by rw [fldZ, if_pos hi, Nat.add_comm]
    have h4 : fldZ t 15 = t 15 := by rw [fldZ, if_neg (by omega)]
    rw [h1, h2, h3, h4, valZ_add, valZ_mul]
    omega
  rw [e2, show valZ t 31 = _ from e1]
  exact (likeP.refl _).add (likeP_256.symm.mulR _)
def mulZ (a b : Nat → Int) : Nat → Int := cryZ (cryZ (fldZ (rwsZ a b 16)))
theorem like_mul (a b : Nat → Int) : likeP (valZ (mulZ a b) 16) (valZ a 16 * valZ b 16) := by
  have h := val_rws a b 16 (by omega)
  rw [← h]
  exact (like_cry _).trans ((like_cry _).trans (like_fld _))
/-- Parts that are not too great to be multiplied. -/
def okZ (f : Nat → Int) : Prop := ∀ i, -262144 ≤ f i ∧ f i ≤ 262144
theorem prod_le {x y : Int} (hx : -262144 ≤ x ∧ x ≤ 262144) (hy : -262144 ≤ y ∧ y ≤ 262144) : -68719476736 ≤ x * y ∧ x * y ≤ 68719476736 := by
  have h1 : x.natAbs ≤ 262144 := by omega
  have h2 : y.natAbs ≤ 262144 := by omega
  have h3 : (x * y).natAbs ≤ 68719476736 := by
    rw [Int.natAbs_mul]
    exact Nat.mul_le_mul h1 h2
  omega
theorem rowZ_le {a b : Nat → Int} (ha : okZ a) (hb : okZ b) (i j k : Nat) : -68719476736 ≤ rowZ a b i j k ∧ rowZ a b i j k ≤ 68719476736 := by
  unfold rowZ
  split
  · exact prod_le (ha _) (hb _)
  · omega
theorem rwsZ_le {a b : Nat → Int} (ha : okZ a) (hb : okZ b) (k : Nat) : ∀ i : Nat, -(68719476736 * (i : Int)) ≤ rwsZ a b i k ∧ rwsZ a b i k ≤ 68719476736 * (i : Int)
  | 0 => by simp [rwsZ]
  | i + 1 => by
    have h1 := rwsZ_le ha hb k i
    have h2 := rowZ_le ha hb i 16 k
    rw [rwsZ]
    omega
theorem fldZ_le {a b : Nat → Int} (ha : okZ a) (hb : okZ b) (k : Nat) : -140737488355328 ≤ fldZ (rwsZ a b 16) k ∧ fldZ (rwsZ a b 16) k ≤ 140737488355328 := by
  have h1 := rwsZ_le ha hb k 16
  have h2 := rwsZ_le ha hb (k + 16) 16
  unfold fldZ
  split <;> omega
theorem mulZ_ok {a b : Nat → Int} (ha : okZ a) (hb : okZ b) : okZ (mulZ a b) := fun i => by
  have h := cry_twice (f := fldZ (rwsZ a b 16)) (fun i => (fldZ_le ha hb i).1) (fun i => (fldZ_le ha hb i).2)
  by_cases hi : i = 0
  · subst hi
    have h1 : mulZ a b 0 = cryZ (cryZ (fldZ (rwsZ a b 16))) 0 := rfl
    omega
  · have h1 := h.1 i hi
    have h2 : mulZ a b i = cryZ (cryZ (fldZ (rwsZ a b 16))) i := rfl
    omega

/-! ### a number to the power p less 2 -/
def invZ (a : Nat → Int) : Nat → Nat → Int
  | 0 => a
  | k + 1 => if k = 251 ∨ k = 249 then mulZ (invZ a k) (invZ a k) else mulZ (mulZ (invZ a k) (invZ a k)) a
def invE : Nat → Nat
  | 0 => 1
  | k + 1 => if k = 251 ∨ k = 249 then 2 * invE k else 2 * invE k + 1
theorem invZ_ok {a : Nat → Int} (ha : okZ a) : ∀ k, okZ (invZ a k)
  | 0 => ha
  | k + 1 => by
    have ih := invZ_ok ha k
    rw [invZ]
    split
    · exact mulZ_ok ih ih
    · exact mulZ_ok (mulZ_ok ih ih) ha
theorem like_inv (a : Nat → Int) : ∀ k, likeP (valZ (invZ a k) 16) (valZ a 16 ^ invE k)
  | 0 => by rw [invE, Int.pow_one]; exact likeP.refl _
  | k + 1 => by
    have ih := like_inv a k
    have hs := (like_mul (invZ a k) (invZ a k)).trans (ih.mul ih)
    rw [← Int.pow_add, ← Nat.two_mul] at hs
    rw [invZ, invE]
    split
    · exact hs
    · rw [Int.pow_succ]
      exact (like_mul _ _).trans (hs.mulR _)
theorem invE_last : (invE 254 : Int) = fldP - 2 := by decide +kernel

/-! ### the bytes -/
theorem part_of {t : Nat → Int} {n : Nat} (ht : ∀ i, i < n → 0 ≤ t i ∧ t i < 65536) {i : Nat} (hi : i < n) : valZ t n / 65536 ^ i % 65536 = t i := by
  have e1 := valZ_split t i (n - i)
  rw [show i + (n - i) = n by omega] at e1
  have h1 := valZ_range (f := t) (n := i) (fun j hj => ht j (by omega))
  have e2 := valZ_split (fun j => t (i + j)) 1 (n - i - 1)
  rw [show 1 + (n - i - 1) = n - i by omega] at e2
  have e3 : valZ (fun j => t (i + j)) 1 = t i := by simp [valZ]
  have hp := powZ_pos i
  rw [e1, Int.add_mul_ediv_left _ _ (by omega), Int.ediv_eq_zero_of_lt h1.1 h1.2, Int.zero_add, e2, e3, Int.pow_one, Int.add_mul_emod_self_left, Int.emod_eq_of_lt (ht i hi).1 (ht i hi).2]
/-- The bytes of 16 parts. -/
def prtB (t : Nat → Int) (n : Nat) : List Int := (List.range n).flatMap fun i => [t i % 256, t i / 256 % 256]
/-- The 32 bytes of a number. -/
def numB (z : Int) : List Int := (List.range 16).flatMap fun i => [z / 65536 ^ i % 65536 % 256, z / 65536 ^ i % 65536 / 256 % 256]
theorem prtB_step (t : Nat → Int) (n : Nat) : prtB t n ++ [t n % 256, t n / 256 % 256] = prtB t (n + 1) := by
  simp [prtB, List.range_succ]
theorem prtB_length (t : Nat → Int) (n : Nat) : (prtB t n).length = 2 * n := by
  induction n with
  | zero => rfl
  | succ n ih => rw [← prtB_step, List.length_append, ih]; rfl
theorem red_bytes {f : Nat → Int} (h1 : ∀ i, -140737488355328 ≤ f i) (h2 : ∀ i, f i ≤ 140737488355328) : prtB (redZ f) 16 = numB (valZ f 16 % fldP) := by
  have hr := red_range h1 h2
  rw [← val_red h1 h2]
  unfold prtB numB
  have key : ∀ l : List Nat, (∀ i ∈ l, i < 16) → l.flatMap (fun i => [redZ f i % 256, redZ f i / 256 % 256]) = l.flatMap (fun i => [valZ (redZ f) 16 / 65536 ^ i % 65536 % 256, valZ (redZ f) 16 / 65536 ^ i % 65536 / 256 % 256]) := by
    intro l hl
    induction l with
    | nil => rfl
    | cons a l ih =>
      rw [List.flatMap_cons, List.flatMap_cons, ih (fun i hi => hl i (List.mem_cons_of_mem _ hi)), part_of (fun i _ => hr i) (hl a (List.mem_cons_self ..))]
  exact key (List.range 16) (fun i hi => List.mem_range.1 hi)

end Go.Proofs.YtdjdanpicbaieaaGreatDoor

namespace Go.Proofs.YtdjdanpicbaieaaGreatDoor
set_option maxRecDepth 100000

def IsPrime (n : Nat) : Prop := 2 ≤ n ∧ ∀ d, d ∣ n → d = 1 ∨ d = n
theorem prime_factor : ∀ n : Nat, 2 ≤ n → ∃ q, IsPrime q ∧ q ∣ n := by
  intro n
  induction n using Nat.strongRecOn with
  | _ n ih =>
    intro hn
    by_cases h : ∀ d, d ∣ n → d = 1 ∨ d = n
    · exact ⟨n, ⟨hn, h⟩, Nat.dvd_refl n⟩
    · obtain ⟨d, hd⟩ := Classical.not_forall.1 h
      obtain ⟨h1, h2⟩ := Classical.not_imp.1 hd
      have hd1 : d ≠ 1 := fun e => h2 (.inl e)
      have hdn : d ≠ n := fun e => h2 (.inr e)
      have hle := Nat.le_of_dvd (by omega) h1
      have h0 : d ≠ 0 := fun e => by subst e; have := Nat.zero_dvd.1 h1; omega
      obtain ⟨q, hq, hqd⟩ := ih d (by omega) (by omega)
      exact ⟨q, hq, Nat.dvd_trans hqd h1⟩
theorem prime_mul {q a b : Nat} (hq : IsPrime q) (h : q ∣ a * b) : q ∣ a ∨ q ∣ b := by
  rcases hq.2 (Nat.gcd q a) (Nat.gcd_dvd_left q a) with h1 | h1
  · exact .inr (Nat.Coprime.dvd_of_dvd_mul_left h1 h)
  · exact .inl (h1 ▸ Nat.gcd_dvd_right q a)
def prodL : List Nat → Nat
  | [] => 1
  | a :: l => a * prodL l
theorem prime_in {q : Nat} (hq : IsPrime q) : ∀ {l : List Nat}, (∀ f ∈ l, IsPrime f) → q ∣ prodL l → q ∈ l
  | [], _, h => by
    have := Nat.le_of_dvd (by decide) h
    have := hq.1
    simp only [prodL] at *
    omega
  | a :: l, hl, h => by
    rcases prime_mul hq h with h1 | h1
    · rcases (hl a (List.mem_cons_self ..)).2 q h1 with e | e
      · have := hq.1; omega
      · rw [e]; exact List.mem_cons_self ..
    · exact List.mem_cons_of_mem _ (prime_in hq (fun f hf => hl f (List.mem_cons_of_mem _ hf)) h1)
theorem nodup_le : ∀ (n : Nat) (l : List Nat), l.Nodup → (∀ x ∈ l, x < n) → l.length ≤ n
  | 0, l, _, h => by
    cases l with
    | nil => simp
    | cons a l => exact absurd (h a (List.mem_cons_self ..)) (by omega)
  | n + 1, l, hn, h => by
    by_cases hm : n ∈ l
    · have h1 := nodup_le n (l.erase n) (hn.erase n) (fun x hx => by
        have hx' := h x (List.mem_of_mem_erase hx)
        have hne : x ≠ n := fun e => by subst e; exact hn.not_mem_erase hx
        omega)
      rw [List.length_erase_of_mem hm] at h1
      omega
    · have h1 := nodup_le n l hn (fun x hx => by
        have hx' := h x hx
        have hne : x ≠ n := fun e => hm (e ▸ hx)
        omega)
      omega
section
variable {N g : Nat}
theorem pow_mod_mul (a b : Nat) : g ^ (a + b) % N = (g ^ a % N) * (g ^ b % N) % N := by rw [Nat.pow_add, Nat.mul_mod]
theorem pow_one_mul {m : Nat} (h1 : 1 < N) (h : g ^ m % N = 1) : ∀ c, g ^ (m * c) % N = 1
  | 0 => by simpa using Nat.mod_eq_of_lt h1
  | c + 1 => by rw [Nat.mul_succ, pow_mod_mul, pow_one_mul h1 h c, h, Nat.one_mul, Nat.mod_eq_of_lt h1]
/-- All that is not nought is a power of g. -/
theorem pratt_all {l : List Nat} (hN : 2 ≤ N) (hg : g ^ (N - 1) % N = 1) (hl : prodL l = N - 1) (hp : ∀ f ∈ l, IsPrime f) (hf : ∀ f ∈ l, g ^ ((N - 1) / f) % N ≠ 1) : ∀ z, 0 < z → z < N → ∃ k, g ^ k % N = z := by
  have h1 : 1 < N := by omega
  -- no smaller power is 1
  have least : ∀ d, 0 < d → d < N - 1 → g ^ d % N ≠ 1 := by
    intro d
    induction d using Nat.strongRecOn with
    | _ d ih =>
      intro hd0 hd1 hd
      by_cases hm : d ∣ N - 1
      · obtain ⟨c, hc⟩ := hm
        have hc2 : 2 ≤ c := by
          rcases Nat.lt_or_ge c 2 with h | h
          · have : c = 0 ∨ c = 1 := by omega
            rcases this with rfl | rfl
            · omega
            · omega
          · exact h
        obtain ⟨q, hq, hqc⟩ := prime_factor c hc2
        have hqm : q ∈ l := prime_in hq hp (by rw [hl, hc]; exact Nat.dvd_mul_left_of_dvd hqc d)
        obtain ⟨c', hc'⟩ := hqc
        refine hf q hqm ?_
        have hq0 : 0 < q := by have := hq.1; omega
        have e : (N - 1) / q = d * c' := by
          rw [hc, hc', ← Nat.mul_assoc, Nat.mul_comm d q, Nat.mul_assoc]
          exact Nat.mul_div_cancel_left _ hq0
        rw [e]
        exact pow_one_mul h1 hd c'
      · have hr : 0 < (N - 1) % d := Nat.pos_of_ne_zero fun e => hm (Nat.dvd_of_mod_eq_zero e)
        have hr2 : (N - 1) % d < d := Nat.mod_lt _ hd0
        refine ih _ hr2 hr (by omega) ?_
        have e : N - 1 = d * ((N - 1) / d) + (N - 1) % d := (Nat.div_add_mod (N - 1) d).symm
        rw [e, pow_mod_mul, pow_one_mul h1 hd, Nat.one_mul, Nat.mod_mod] at hg
        exact hg
  -- the powers are unlike
  have unlike : ∀ i j, i < j → j < N - 1 → g ^ i % N ≠ g ^ j % N := by
    intro i j hij hj he
    refine least (j - i) (by omega) (by omega) ?_
    have e1 : g ^ (j - i) % N = g ^ (N - 1 - i + j) % N := by
      rw [show N - 1 - i + j = (N - 1) + (j - i) by omega, pow_mod_mul, hg, Nat.one_mul, Nat.mod_mod]
    have e2 : g ^ (N - 1 - i + j) % N = g ^ (N - 1 - i + i) % N := by rw [pow_mod_mul, pow_mod_mul (a := N - 1 - i) (b := i), he]
    rw [e1, e2, show N - 1 - i + i = N - 1 by omega, hg]
  -- none is nought
  have pos : ∀ k, k < N - 1 → 0 < g ^ k % N := by
    intro k hk
    refine Nat.pos_of_ne_zero fun e => ?_
    have : g ^ (k + (N - 1 - k)) % N = 0 := by rw [pow_mod_mul, e, Nat.zero_mul, Nat.zero_mod]
    rw [show k + (N - 1 - k) = N - 1 by omega, hg] at this
    cases this
  intro z hz0 hzN
  refine Classical.byContradiction fun hno => ?_
  have hz : ∀ k, g ^ k % N ≠ z := fun k hk => hno ⟨k, hk⟩
  have hpw : (List.range (N - 1)).Pairwise (fun i j => g ^ i % N - 1 ≠ g ^ j % N - 1) := by
    refine List.Pairwise.imp_of_mem (R := fun i j => i < j) ?_ List.pairwise_lt_range
    intro i j hi hj hij he
    have hi' := List.mem_range.1 hi
    have hj' := List.mem_range.1 hj
    have p1 := pos i hi'
    have p2 := pos j hj'
    exact unlike i j hij hj' (by omega)
  have hnd : ((List.range (N - 1)).map fun k => g ^ k % N - 1).Nodup := List.pairwise_map.2 hpw
  have hmem : z - 1 ∉ (List.range (N - 1)).map fun k => g ^ k % N - 1 := by
    intro hm
    obtain ⟨k, hk, he⟩ := List.mem_map.1 hm
    have p1 := pos k (List.mem_range.1 hk)
    exact hz k (by omega)
  have hle := nodup_le (N - 1) ((z - 1) :: (List.range (N - 1)).map fun k => g ^ k % N - 1) (List.nodup_cons.2 ⟨hmem, hnd⟩) (by
    intro x hx
    rcases List.mem_cons.1 hx with rfl | hx
    · omega
    · obtain ⟨k, hk, rfl⟩ := List.mem_map.1 hx
      have p1 := pos k (List.mem_range.1 hk)
      have p2 : g ^ k % N < N := Nat.mod_lt _ (by omega)
      omega)
  simp only [List.length_cons, List.length_map, List.length_range] at hle
  omega
theorem pratt_fermat {l : List Nat} (hN : 2 ≤ N) (hg : g ^ (N - 1) % N = 1) (hl : prodL l = N - 1) (hp : ∀ f ∈ l, IsPrime f) (hf : ∀ f ∈ l, g ^ ((N - 1) / f) % N ≠ 1) : ∀ z, z % N ≠ 0 → z ^ (N - 1) % N = 1 := by
  intro z hz
  obtain ⟨k, hk⟩ := pratt_all hN hg hl hp hf (z % N) (Nat.pos_of_ne_zero hz) (Nat.mod_lt _ (by omega))
  rw [Nat.pow_mod, ← hk, ← Nat.pow_mod, ← Nat.pow_mul, Nat.mul_comm k]
  exact pow_one_mul (by omega) hg k
theorem pratt_prime {l : List Nat} (hN : 2 ≤ N) (hg : g ^ (N - 1) % N = 1) (hl : prodL l = N - 1) (hp : ∀ f ∈ l, IsPrime f) (hf : ∀ f ∈ l, g ^ ((N - 1) / f) % N ≠ 1) : IsPrime N := by
  refine ⟨hN, fun d hd => ?_⟩
  have h0 : d ≠ 0 := fun e => by subst e; have := Nat.zero_dvd.1 hd; omega
  have hle := Nat.le_of_dvd (by omega) hd
  by_cases hdN : d = N
  · exact .inr hdN
  · have h1 := pratt_fermat hN hg hl hp hf d (by rw [Nat.mod_eq_of_lt (by omega)]; exact h0)
    refine .inl ?_
    -- d divides its power and N, so it divides 1
    have hdp : d ∣ d ^ (N - 1) := by
      have : N - 1 = (N - 2) + 1 := by omega
      rw [this, Nat.pow_succ]
      exact Nat.dvd_mul_left d _
    have h2 : d ∣ d ^ (N - 1) % N := (Nat.dvd_mod_iff hd).2 hdp
    rw [h1] at h2
    exact Nat.dvd_one.1 h2
end

/-- A power by N, bit by bit. -/
def powM (N : Nat) : Nat → Nat → Nat → Nat → Nat
  | 0, _, _, acc => acc
  | f + 1, e, b, acc => powM N f (e / 2) (b * b % N) (if e % 2 = 1 then acc * b % N else acc)
theorem powM_is (N : Nat) : ∀ f e b acc, e < 2 ^ f → powM N f e b acc % N = acc * b ^ e % N
  | 0, e, b, acc, h => by
    have : e = 0 := by simpa using h
    subst this
    simp [powM]
  | f + 1, e, b, acc, h => by
    have h2 : e / 2 < 2 ^ f := by rw [Nat.pow_succ] at h; omega
    have hb : (b * b % N) ^ (e / 2) % N = b ^ (2 * (e / 2)) % N := by rw [← Nat.pow_mod, Nat.pow_mul, Nat.pow_two]
    rw [powM, powM_is N f (e / 2) _ _ h2, Nat.mul_mod, hb]
    split
    · rename_i ho
      have he : e = 2 * (e / 2) + 1 := by omega
      conv => rhs; rw [he, Nat.pow_succ]
      rw [Nat.mod_mod, ← Nat.mul_mod, Nat.mul_comm (b ^ (2 * (e / 2))) b, Nat.mul_assoc]
    · have he : e = 2 * (e / 2) := by omega
      conv => rhs; rw [he]
      rw [← Nat.mul_mod]
theorem powM_one {N f e b : Nat} (h : e < 2 ^ f) : b ^ e % N = powM N f e b 1 % N := by rw [powM_is N f e b 1 h, Nat.one_mul]
/-- Pratt's test, for one number: g's power is 1, and no power by a factor is. -/
def prattB (N g f : Nat) (l : List Nat) : Bool := prodL l == N - 1 && powM N f (N - 1) g 1 % N == 1 && l.all (fun q => powM N f ((N - 1) / q) g 1 % N != 1) && decide (N ≤ 2 ^ f) && decide (2 ≤ N)
theorem prattB_prime {N g f : Nat} {l : List Nat} (h : prattB N g f l = true) (hp : ∀ q ∈ l, IsPrime q) : IsPrime N ∧ ∀ z, z % N ≠ 0 → z ^ (N - 1) % N = 1 := by
  simp only [prattB, Bool.and_eq_true, beq_iff_eq, decide_eq_true_eq, List.all_eq_true, bne_iff_ne] at h
  obtain ⟨⟨⟨⟨h1, h2⟩, h3⟩, h4⟩, h5⟩ := h
  have hg : g ^ (N - 1) % N = 1 := by rw [powM_one (f := f) (by omega)]; exact h2
  have hf : ∀ q ∈ l, g ^ ((N - 1) / q) % N ≠ 1 := fun q hq => by
    have hle : (N - 1) / q ≤ N - 1 := Nat.div_le_self _ _
    rw [powM_one (f := f) (by omega)]
    exact h3 q hq
  exact ⟨pratt_prime h5 hg h1 hp hf, pratt_fermat h5 hg h1 hp hf⟩

-- THE NUMBERS
/-- No number from 2 to k - 1 divides n. -/
def trialB (n k : Nat) : Bool := decide (2 ≤ n) && decide (n < k * k) && (List.range k).all fun d => decide (d < 2) || decide (n ≤ d) || n % d != 0
theorem trial_prime {n k : Nat} (h : trialB n k = true) : IsPrime n := by
  simp only [trialB, Bool.and_eq_true, decide_eq_true_eq, List.all_eq_true, List.mem_range, Bool.or_eq_true, bne_iff_ne] at h
  obtain ⟨⟨h2, hk⟩, hall⟩ := h
  refine ⟨h2, fun d hd => ?_⟩
  obtain ⟨c, rfl⟩ := hd
  by_cases hd1 : d = 1
  · exact .inl hd1
  by_cases hc1 : c = 1
  · subst hc1; exact .inr (by simp)
  exfalso
  have hd0 : d ≠ 0 := fun e => by subst e; simp at h2
  have hc0 : c ≠ 0 := fun e => by subst e; simp at h2
  have hlt : d < k ∨ c < k := by
    rcases Nat.lt_or_ge d k with h | h
    · exact .inl h
    · rcases Nat.lt_or_ge c k with h' | h'
      · exact .inr h'
      · exact absurd hk (Nat.not_lt.2 (Nat.mul_le_mul h h'))
  have big1 : d < d * c := by
    have : d * 1 < d * c := Nat.mul_lt_mul_of_pos_left (by omega) (by omega)
    omega
  have big2 : c < d * c := by
    have : 1 * c < d * c := Nat.mul_lt_mul_of_pos_right (by omega) (by omega)
    omega
  rcases hlt with h | h
  · rcases hall d h with (h' | h') | h'
    · omega
    · omega
    · exact h' (Nat.mul_mod_right d c)
  · rcases hall c h with (h' | h') | h'
    · omega
    · omega
    · exact h' (Nat.mul_mod_left d c)
theorem prime_2 : IsPrime 2 := trial_prime (k := 2) (by decide +kernel)
theorem prime_3 : IsPrime 3 := trial_prime (k := 2) (by decide +kernel)
theorem prime_5 : IsPrime 5 := trial_prime (k := 3) (by decide +kernel)
theorem prime_7 : IsPrime 7 := trial_prime (k := 3) (by decide +kernel)
theorem prime_13 : IsPrime 13 := trial_prime (k := 4) (by decide +kernel)
theorem prime_19 : IsPrime 19 := trial_prime (k := 5) (by decide +kernel)
theorem prime_31 : IsPrime 31 := trial_prime (k := 6) (by decide +kernel)
theorem prime_43 : IsPrime 43 := trial_prime (k := 7) (by decide +kernel)
theorem prime_47 : IsPrime 47 := trial_prime (k := 7) (by decide +kernel)
theorem prime_103 : IsPrime 103 := trial_prime (k := 11) (by decide +kernel)
theorem prime_107 : IsPrime 107 := trial_prime (k := 11) (by decide +kernel)
theorem prime_127 : IsPrime 127 := trial_prime (k := 12) (by decide +kernel)
theorem prime_223 : IsPrime 223 := trial_prime (k := 15) (by decide +kernel)
theorem prime_353 : IsPrime 353 := trial_prime (k := 19) (by decide +kernel)
theorem prime_991 : IsPrime 991 := trial_prime (k := 32) (by decide +kernel)
theorem prime_2437 : IsPrime 2437 := trial_prime (k := 50) (by decide +kernel)
theorem prime_3727 : IsPrime 3727 := trial_prime (k := 62) (by decide +kernel)
theorem prime_4153 : IsPrime 4153 := trial_prime (k := 65) (by decide +kernel)
theorem prime_57467 : IsPrime 57467 := trial_prime (k := 240) (by decide +kernel)
theorem prime_65147 : IsPrime 65147 := trial_prime (k := 256) (by decide +kernel)
theorem prime_75707 : IsPrime 75707 := trial_prime (k := 276) (by decide +kernel)
theorem prime_132049 : IsPrime 132049 := trial_prime (k := 364) (by decide +kernel)
theorem prime_430751 : IsPrime 430751 := trial_prime (k := 657) (by decide +kernel)
theorem prime_569003 : IsPrime 569003 := trial_prime (k := 755) (by decide +kernel)
theorem prime_1923133 : IsPrime 1923133 :=
  prattB_prime (g := 2) (f := 21) (l := [2, 2, 3, 43, 3727]) (by decide +kernel) (by
    intro q hq
    simp only [List.mem_cons, List.not_mem_nil, or_false] at hq
    rcases hq with rfl | rfl | rfl | rfl | rfl
    · exact prime_2
    · exact prime_2
    · exact prime_3
    · exact prime_43
    · exact prime_3727) |>.1
theorem prime_8574133 : IsPrime 8574133 :=
  prattB_prime (g := 2) (f := 24) (l := [2, 2, 3, 7, 103, 991]) (by decide +kernel) (by
    intro q hq
    simp only [List.mem_cons, List.not_mem_nil, or_false] at hq
    rcases hq with rfl | rfl | rfl | rfl | rfl | rfl
    · exact prime_2
    · exact prime_2
    · exact prime_3
    · exact prime_7
    · exact prime_103
    · exact prime_991) |>.1
theorem prime_2773320623 : IsPrime 2773320623 :=
  prattB_prime (g := 5) (f := 32) (l := [2, 2437, 569003]) (by decide +kernel) (by
    intro q hq
    simp only [List.mem_cons, List.not_mem_nil, or_false] at hq
    rcases hq with rfl | rfl | rfl
    · exact prime_2
    · exact prime_2437
    · exact prime_569003) |>.1
theorem prime_72106336199 : IsPrime 72106336199 :=
  prattB_prime (g := 7) (f := 37) (l := [2, 13, 2773320623]) (by decide +kernel) (by
    intro q hq
    simp only [List.mem_cons, List.not_mem_nil, or_false] at hq
    rcases hq with rfl | rfl | rfl
    · exact prime_2
    · exact prime_13
    · exact prime_2773320623) |>.1
theorem prime_n16 : IsPrime 1919519569386763 :=
  prattB_prime (g := 2) (f := 51) (l := [2, 3, 7, 19, 47, 47, 127, 8574133]) (by decide +kernel) (by
    intro q hq
    simp only [List.mem_cons, List.not_mem_nil, or_false] at hq
    rcases hq with rfl | rfl | rfl | rfl | rfl | rfl | rfl | rfl
    · exact prime_2
    · exact prime_3
    · exact prime_7
    · exact prime_19
    · exact prime_47
    · exact prime_47
    · exact prime_127
    · exact prime_8574133) |>.1
theorem prime_n17 : IsPrime 31757755568855353 :=
  prattB_prime (g := 10) (f := 55) (l := [2, 2, 2, 3, 31, 107, 223, 4153, 430751]) (by decide +kernel) (by
    intro q hq
    simp only [List.mem_cons, List.not_mem_nil, or_false] at hq
    rcases hq with rfl | rfl | rfl | rfl | rfl | rfl | rfl | rfl | rfl
    · exact prime_2
    · exact prime_2
    · exact prime_2
    · exact prime_3
    · exact prime_31
    · exact prime_107
    · exact prime_223
    · exact prime_4153
    · exact prime_430751) |>.1
theorem prime_n35 : IsPrime 75445702479781427272750846543864801 :=
  prattB_prime (g := 7) (f := 116) (l := [2, 2, 2, 2, 2, 3, 3, 5, 5, 75707, 72106336199, 1919519569386763]) (by decide +kernel) (by
    intro q hq
    simp only [List.mem_cons, List.not_mem_nil, or_false] at hq
    rcases hq with rfl | rfl | rfl | rfl | rfl | rfl | rfl | rfl | rfl | rfl | rfl | rfl
    · exact prime_2
    · exact prime_2
    · exact prime_2
    · exact prime_2
    · exact prime_2
    · exact prime_3
    · exact prime_3
    · exact prime_5
    · exact prime_5
    · exact prime_75707
    · exact prime_72106336199
    · exact prime_n16) |>.1
theorem prime_n71 : IsPrime 74058212732561358302231226437062788676166966415465897661863160754340907 :=
  prattB_prime (g := 2) (f := 236) (l := [2, 3, 353, 57467, 132049, 1923133, 31757755568855353, 75445702479781427272750846543864801]) (by decide +kernel) (by
    intro q hq
    simp only [List.mem_cons, List.not_mem_nil, or_false] at hq
    rcases hq with rfl | rfl | rfl | rfl | rfl | rfl | rfl | rfl
    · exact prime_2
    · exact prime_3
    · exact prime_353
    · exact prime_57467
    · exact prime_132049
    · exact prime_1923133
    · exact prime_n17
    · exact prime_n35) |>.1
theorem prime_n77 : IsPrime 57896044618658097711785492504343953926634992332820282019728792003956564819949 ∧ ∀ z, z % 57896044618658097711785492504343953926634992332820282019728792003956564819949 ≠ 0 → z ^ (57896044618658097711785492504343953926634992332820282019728792003956564819949 - 1) % 57896044618658097711785492504343953926634992332820282019728792003956564819949 = 1 :=
  prattB_prime (g := 2) (f := 255) (l := [2, 2, 3, 65147, 74058212732561358302231226437062788676166966415465897661863160754340907]) (by decide +kernel) (by
    intro q hq
    simp only [List.mem_cons, List.not_mem_nil, or_false] at hq
    rcases hq with rfl | rfl | rfl | rfl | rfl
    · exact prime_2
    · exact prime_2
    · exact prime_3
    · exact prime_65147
    · exact prime_n71)

end Go.Proofs.YtdjdanpicbaieaaGreatDoor

namespace Go.Proofs.YtdjdanpicbaieaaGreatDoor
open Go.RowKit
set_option maxRecDepth 100000

theorem and15 (u : Int) (h : 0 ≤ u) (h' : u < 256) : bits BinOp.and IntKind.u8 u 15 = u % 16 := by
  have all : ∀ n : Fin 256, bits BinOp.and IntKind.u8 ((n.val : Nat) : Int) 15 = ((n.val : Nat) : Int) % 16 := by decide +kernel
  have := all ⟨u.toNat, by omega⟩
  simp only [Int.toNat_of_nonneg h] at this
  exact this

/-- The sign of 16 of a number below 16. -/
def sg (i : Int) : Int := (([48, 49, 50, 51, 52, 53, 54, 55, 56, 57, 97, 98, 99, 100, 101, 102] : List UInt8).getD i.toNat 0).toNat

theorem sg_at (i : Int) (_h0 : 0 ≤ i) (_h1 : i < 16) (pf : i.toNat < (ByteArray.mk #[48, 49, 50, 51, 52, 53, 54, 55, 56, 57, 97, 98, 99, 100, 101, 102]).size) :
    (((ByteArray.mk #[48, 49, 50, 51, 52, 53, 54, 55, 56, 57, 97, 98, 99, 100, 101, 102])[i.toNat]'pf).toNat : Int) = sg i := by
  unfold sg
  rw [List.getD_eq_getElem?_getD, List.getElem?_eq_getElem (by simp; omega)]
  rfl

/-- The signs of bytes. -/
def hexL (xs : List Int) : List Int := xs.flatMap fun u => [sg (u / 16), sg (bits BinOp.and IntKind.u8 u 15)]

theorem hexL_step {xs : List Int} {n k : Nat} {u : Int} (hx : xs.length = n) (hk : k < n) (hu : u = xs.getD k 0) :
    hexL (xs.take k) ++ [sg (u / 16), sg (bits BinOp.and IntKind.u8 u 15)] = hexL (xs.take (k + 1)) := by
  subst hu
  unfold hexL
  rw [List.take_succ_eq_append_getElem (by omega), List.flatMap_append]
  simp [List.getElem?_eq_getElem (show k < xs.length by omega)]

set_option maxHeartbeats 1000000 in
theorem implHex_any (p : Option Addr) (n c : Nat) (xs : List Int) (w : World) (hn : n ≤ 1048576) (hx : xs.length = n) (h : BytesIn w p n xs) (hr : ∀ x ∈ xs, 0 ≤ x ∧ x < 256) :
    Calls Tryz.prog 29 #[.slice p n c] w fun e w' => e = .returned (.string (strOfNums (hexL xs))) ∧ Below w.heap.size w w' := by
  obtain ⟨i0, hi, hz0, hz1, hz2⟩ := info_parts infoByte
  go_enter Tryz.func29, Tryz.ntmps29
  go_wp2_with (at_make; refine wpList_make_own _ rfl _ _ 22 rfl w.heap.size 5 i0 (.int .u8 0) 1 Tryz.underlying22 hi hz0 hz1 _ _ _ (2 * n) rfl rfl ?b1 ?b2 ?b3 ?b4 ?_)
  case b1 => omega
  case b2 => rw [hz2]; omega
  case b3 => unfold maxLen; omega
  case b4 => exact Nat.le_refl _
  intro w1 hown hgrow
  have hbel : Below w.heap.size w w1 := (Below.refl _ _).grown hgrow (Nat.le_refl _) (fun _ h => by cases h)
  clear hgrow
  go_wp2
  go_loopw [3, 12] (fun v i wr => ∃ k : Nat, k ≤ n ∧ i = .int .i64 k ∧ wr.ownsRow w.heap.size 5 1 v (2 * k) ((hexL (xs.take k)).map (Value.int .u8)) ∧ Below w.heap.size w wr)
    (fun _ i _ => n - (intOf i).toNat)
  case atStart => exact ⟨0, Nat.zero_le _, rfl, by simpa [hexL] using hown, hbel⟩
  case round =>
    clear hown hbel
    obtain ⟨k, hk, rfl, hown, hbel⟩ := hrel
    have hsz := hbel.size
    by_cases hlt : k < n
    · obtain ⟨b, o, rfl, hc⟩ := h (by omega)
      obtain ⟨u, hu⟩ : ∃ u, u = xs.getD k 0 := ⟨_, rfl⟩
      have hcx : wr.cell? ⟨b, o + k, none⟩ = some (.int .u8 u) := by
        rw [hbel.cell (p := ⟨b, o + k, none⟩) (World.block_lt_of_cell? w ⟨b, o + k, none⟩ (hc k hlt)), hu]
        exact hc k hlt
      have hu0 : 0 ≤ u ∧ u < 256 := by
        rw [hu]; apply hr
        simp [List.getElem?_eq_getElem (show k < xs.length by omega)]
      obtain ⟨hu1, hu2⟩ := hu0
      have q1 : 0 ≤ u / 16 := by omega
      have q2 : u / 16 < 16 := by omega
      have q3 : 0 ≤ bits BinOp.and IntKind.u8 u 15 := by rw [and15 u hu1 hu2]; omega
      have q4 : bits BinOp.and IntKind.u8 u 15 < 16 := by rw [and15 u hu1 hu2]; omega
      have e1 := sg_at (u / 16) q1 q2
      have e2 := sg_at (bits BinOp.and IntKind.u8 u 15) q3 q4
      have HN : Hid (hexL (xs.take k) ++ [sg (u / 16), sg (bits BinOp.and IntKind.u8 u 15)] = hexL (xs.take (k + 1))) := hexL_step hx hlt hu
      clear hc h hu
      go_wp2
      go_region_law (refine step_pushs hi hz0 hz1 hz2 (.tmp 16) (.tmp 23) 22 Tryz.underlying22 _ [sg (u / 16), sg (bits BinOp.and IntKind.u8 u 15)] (by rfl) (by simp) (by simp) hown (by omega) hsz (by rfl) (by rfl) (by rfl) (by rfl) ?_; intro g cap w1 ho1 hb1; rw [HN.out] at ho1)
      all_goals
        go_wp2
        go_roundw
        case rel => exact ⟨k + 1, by omega, by go_num, ho1, hbel.trans hb1⟩
        case measure => simp [intOf]; omega
    · have hkn : k = n := by omega
      subst hkn
      rw [List.take_of_length_le (by omega)] at hown
      obtain ⟨p', c', hv⟩ := owns_form hown
      subst hv
      have g := text_of (P := Tryz.prog) (owns_in hown) (owns_len hown) c' 22 5 9 Tryz.underlying22 Tryz.underlying5 Tryz.underlying9
      go_wp2
      go_ret
      exact ⟨rfl, hbel⟩

set_option maxHeartbeats 2000000 in
theorem specHex_any (p : Option Addr) (n c : Nat) (xs : List Int) (w : World) (hn : n ≤ 1048576) (hx : xs.length = n) (h : BytesIn w p n xs) (hr : ∀ x ∈ xs, 0 ≤ x ∧ x < 256) :
    Calls Tryz.prog 37 #[.slice p n c] w fun e w' => e = .returned (.string (strOfNums (hexL xs))) ∧ Below w.heap.size w w' := by
  obtain ⟨i0, hi, hz0, hz1, hz2⟩ := info_parts infoByte
  go_enter Tryz.func37, Tryz.ntmps37
  go_wp2
  go_loopw [4, 5] (fun v i wr => ∃ k : Nat, k ≤ n ∧ i = .int .i64 k ∧ wr.ownsRow w.heap.size 5 1 v (2 * k) ((hexL (xs.take k)).map (Value.int .u8)) ∧ Below w.heap.size w wr)
    (fun _ i _ => n - (intOf i).toNat)
  case atStart => exact ⟨0, Nat.zero_le _, rfl, World.ownsRow_made w #[] 0 (Nat.le_refl _) (by unfold maxLen; omega) rfl, (Below.refl _ _).alloc (Nat.le_refl _) _⟩
  case round =>
    obtain ⟨k, hk, rfl, hown, hbel⟩ := hrel
    have hsz := hbel.size
    by_cases hlt : k < n
    · obtain ⟨b, o, rfl, hc⟩ := h (by omega)
      obtain ⟨u, hu⟩ : ∃ u, u = xs.getD k 0 := ⟨_, rfl⟩
      have hcx : wr.cell? ⟨b, o + k, none⟩ = some (.int .u8 u) := by
        rw [hbel.cell (p := ⟨b, o + k, none⟩) (World.block_lt_of_cell? w ⟨b, o + k, none⟩ (hc k hlt)), hu]
        exact hc k hlt
      have hu0 : 0 ≤ u ∧ u < 256 := by
        rw [hu]; apply hr
        simp [List.getElem?_eq_getElem (show k < xs.length by omega)]
      obtain ⟨hu1, hu2⟩ := hu0
      have q1 : 0 ≤ u / 16 := by omega
      have q2 : u / 16 < 16 := by omega
      have q3 : 0 ≤ bits BinOp.and IntKind.u8 u 15 := by rw [and15 u hu1 hu2]; omega
      have q4 : bits BinOp.and IntKind.u8 u 15 < 16 := by rw [and15 u hu1 hu2]; omega
      have e1 := sg_at (u / 16) q1 q2
      have e2 := sg_at (bits BinOp.and IntKind.u8 u 15) q3 q4
      have HN : Hid (hexL (xs.take k) ++ [sg (u / 16), sg (bits BinOp.and IntKind.u8 u 15)] = hexL (xs.take (k + 1))) := hexL_step hx hlt hu
      clear hc h hu
      go_wp2
      go_region_law (refine step_pushs hi hz0 hz1 hz2 (.tmp 13) (.tmp 28) 22 Tryz.underlying22 _ [sg (u / 16), sg (bits BinOp.and IntKind.u8 u 15)] (by rfl) (by simp) (by simp) hown (by omega) hsz (by rfl) (by rfl) (by rfl) (by rfl) ?_; intro g cap w1 ho1 hb1; rw [HN.out] at ho1)
      all_goals
        go_wp2
        go_roundw
        case rel => exact ⟨k + 1, by omega, by go_num, ho1, hbel.trans hb1⟩
        case measure => simp [intOf]; omega
    · have hkn : k = n := by omega
      subst hkn
      rw [List.take_of_length_le (by omega)] at hown
      obtain ⟨p', c', hv⟩ := owns_form hown
      subst hv
      have g := text_of (P := Tryz.prog) (owns_in hown) (owns_len hown) c' 22 5 9 Tryz.underlying22 Tryz.underlying5 Tryz.underlying9
      go_wp2
      go_ret
      exact ⟨rfl, hbel⟩

end Go.Proofs.YtdjdanpicbaieaaGreatDoor

namespace Go.Proofs.YtdjdanpicbaieaaGreatDoor
open Go.RowKit
set_option maxRecDepth 100000

/-- eqByteS: are the two lists one? -/
theorem eq_len (p q : Option Addr) (n m c d : Nat) (w : World) (hne : n ≠ m) :
    Calls Tryz.prog 21 #[.slice p n c, .slice q m d] w fun e w' => e = .returned (.bool false) ∧ Below w.heap.size w w' := by
  have hd : ((n : Int) != (m : Int)) = true := by simp; omega
  go_enter Tryz.func21, Tryz.ntmps21
  go_wp2
  go_ret
  exact ⟨rfl, Below.refl _ _⟩

set_option maxHeartbeats 1000000 in
theorem eq_same (p q : Option Addr) (n c d : Nat) (xs ys : List Int) (w : World) (hn : n ≤ 9223372036854775807) (hx : xs.length = n) (hy : ys.length = n) (h : BytesIn w p n xs) (h' : BytesIn w q n ys) :
    Calls Tryz.prog 21 #[.slice p n c, .slice q n d] w fun e w' => e = .returned (.bool (decide (xs = ys))) ∧ Below w.heap.size w w' := by
  have hd : ((n : Int) != (n : Int)) = false := by simp
  go_enter Tryz.func21, Tryz.ntmps21
  go_wp2
  go_loopw [5] (fun i wr => ∃ k : Nat, k ≤ n ∧ i = .int .i64 k ∧ Hid (xs.take k = ys.take k) ∧ ∃ m, wr = w.drewN m) (fun i _ => n - (intOf i).toNat)
  case atStart => exact ⟨0, Nat.zero_le _, rfl, by simp [Hid], 0, rfl⟩
  case round =>
    obtain ⟨k, hk, rfl, hsame, m, rfl⟩ := hrel
    by_cases hlt : k < n
    · obtain ⟨b, o, rfl, hc⟩ := h (by omega)
      obtain ⟨b', o', rfl, hc'⟩ := h' (by omega)
      have h1 := hc k hlt
      have h2 := hc' k hlt
      obtain ⟨u, hu⟩ : ∃ u, u = xs.getD k 0 := ⟨_, rfl⟩
      obtain ⟨v, hv⟩ : ∃ v, v = ys.getD k 0 := ⟨_, rfl⟩
      rw [← hu] at h1
      rw [← hv] at h2
      clear hc hc' h h'
      by_cases huv : u = v
      · subst huv
        have hd2 : (u != u) = false := by simp
        have hmore : Hid (xs.take (k + 1) = ys.take (k + 1)) := take_more hx hy hlt hsame (by rw [← hu, ← hv])
        clear hu hv hsame
        go_wp2
        go_quiet (fail)
        go_wp2
        go_roundw
        case rel => exact ⟨k + 1, by omega, by go_num, hmore, _, rfl⟩
        case measure => simp [intOf]; omega
      · have hd2 : (u != v) = true := by simpa using huv
        have hne : Hid (decide (xs = ys) = false) := by have := take_less (k := k) (xs := xs) (ys := ys) (by rw [← hu, ← hv]; exact huv); simpa [Hid] using this
        clear hu hv hsame huv
        go_wp2
        go_quiet (fail)
        go_wp2
        go_ret
        rw [hne.out, World.drewN_drewN]
        exact ⟨rfl, below_drewN (Below.refl _ _) _⟩
    · have hkn : k = n := by omega
      subst hkn
      have hall : Hid (decide (xs = ys) = true) := by simpa [Hid] using take_all hx hy hsame
      clear hsame
      go_wp2
      go_ret
      rw [hall.out]
      exact ⟨rfl, below_drewN (Below.refl _ _) _⟩

theorem eqByteS_any (p q : Option Addr) (n m c d : Nat) (xs ys : List Int) (w : World) (hn : n ≤ 9223372036854775807) (hx : xs.length = n) (hy : ys.length = m) (h : BytesIn w p n xs) (h' : BytesIn w q m ys) :
    Calls Tryz.prog 21 #[.slice p n c, .slice q m d] w fun e w' => e = .returned (.bool (decide (xs = ys))) ∧ Below w.heap.size w w' := by
  by_cases hnm : n = m
  · subst hnm
    exact eq_same p q n c d xs ys w hn hx hy h h'
  · have : decide (xs = ys) = false := by
      simp only [decide_eq_false_iff_not]
      intro e
      subst e
      omega
    rw [this]
    exact eq_len p q n m c d w hnm

end Go.Proofs.YtdjdanpicbaieaaGreatDoor

namespace Go.Proofs.YtdjdanpicbaieaaGreatDoor
open Go.RowKit
set_option maxRecDepth 100000

set_option maxHeartbeats 1000000 in
theorem toByteS_any (p : Option Addr) (n c : Nat) (xs : List Int) (w : World) (hn : n ≤ 1048576) (hx : xs.length = n) (h : BytesIn w p n xs) :
    Calls Tryz.prog 20 #[.slice p n c] w fun e w' => e = .returned (.slice (some ⟨w.heap.size, 0, none⟩) n n) ∧
      w'.ownsRow w.heap.size 5 1 (.slice (some ⟨w.heap.size, 0, none⟩) n n) n (xs.map (Value.int .u8)) ∧ Below w.heap.size w w' := by
  obtain ⟨i0, hi, hz0, hz1, hz2⟩ := info_parts infoByte
  go_enter Tryz.func20, Tryz.ntmps20
  go_wp2_with (at_make; refine wpList_make_full _ rfl _ _ 22 rfl w.heap.size 5 i0 (.int .u8 0) 1 Tryz.underlying22 hi hz0 hz1 _ _ _ _ n rfl rfl rfl rfl ?b2 ?b3 ?b4 ?_)
  case b2 => rw [hz2]; omega
  case b3 => unfold maxLen; omega
  case b4 => exact Nat.le_refl _
  intro w1 hown hgrow
  rw [fill_start xs n] at hown
  have hbel : Below w.heap.size w w1 := (Below.refl _ _).grown hgrow (Nat.le_refl _) (fun _ h => by cases h)
  clear hgrow
  go_wp2
  go_loopw [4] (fun i wr => ∃ k : Nat, k ≤ n ∧ i = .int .i64 k ∧ wr.ownsRow w.heap.size 5 1 (.slice (some ⟨w.heap.size, 0, none⟩) n n) n ((xs.take k ++ List.replicate (n - k) 0).map (Value.int .u8)) ∧ Below w.heap.size w wr)
    (fun i _ => n - (intOf i).toNat)
  case atStart => exact ⟨0, Nat.zero_le _, rfl, hown, hbel⟩
  case round =>
    clear hown hbel
    obtain ⟨k, hk, rfl, hown, hbel⟩ := hrel
    by_cases hlt : k < n
    · obtain ⟨b, o, rfl, hc⟩ := h (by omega)
      obtain ⟨u, hu⟩ : ∃ u, u = xs.getD k 0 := ⟨_, rfl⟩
      have hcx : wr.cell? ⟨b, o + k, none⟩ = some (.int .u8 u) := by
        rw [hbel.cell (p := ⟨b, o + k, none⟩) (World.block_lt_of_cell? w ⟨b, o + k, none⟩ (hc k hlt)), hu]
        exact hc k hlt
      have hold : wr.cell? ⟨w.heap.size, k, none⟩ = some (.int .u8 0) := by
        rw [hown.cellAt k (by omega)]; exact fill_old xs n k hlt hx
      have hfz := hown.frozenAt k
      have hst := hown.stored k (.int .u8 u)
      rw [fill_step xs n k u hu hlt hx] at hst
      have hbel' := hbel.setCell (p := ⟨w.heap.size, k, none⟩) (Nat.le_refl _) (.int .u8 u)
      clear hc h hu
      go_wp2
      go_roundw
      case rel => exact ⟨k + 1, by omega, by go_num, hst.1, hbel'⟩
      case measure => simp [intOf]; omega
    · have hkn : k = n := by omega
      subst hkn
      go_wp2
      go_ret
      rw [fill_end xs k hx] at hown
      exact ⟨rfl, hown, hbel⟩

theorem toByteS_own (p : Option Addr) (n c : Nat) (xs : List Int) (w : World) (hn : n ≤ 1048576) (hx : xs.length = n) (h : BytesIn w p n xs) :
    Calls Tryz.prog 20 #[.slice p n c] w fun e w' => ∃ p' c', e = .returned (.slice p' n c') ∧ Own 5 w' w.heap.size w'.heap.size (.slice p' n c') n xs ∧ Below w.heap.size w w' :=
  (toByteS_any p n c xs w hn hx h).mono fun _ _ ⟨h1, h2, h3⟩ => ⟨_, _, h1, .of h2, h3⟩

end Go.Proofs.YtdjdanpicbaieaaGreatDoor

namespace Go.Proofs.YtdjdanpicbaieaaGreatDoor
open Go.RowKit

/-- A cursor in block a, over the bytes xs at p. -/
def Cur (w : World) (a : Nat) (p : Option Addr) (n c : Nat) (xs : List Int) : Prop :=
  ∃ i h : Int, w.heap[a]? = some (.cells #[.slice p n c, .int .i64 i, .int .i64 h] 64 (0, 0)) ∧ 0 ≤ i ∧ i ≤ n ∧ n ≤ 1048576 ∧ xs.length = n ∧ BytesIn w p n xs ∧ ∀ x ∈ xs, 0 ≤ x ∧ x < 256

theorem Cur.not_in {w : World} {a : Nat} {p : Option Addr} {n c : Nat} {b o : Nat} {k : Nat} {u : Int} {i h : Int} (ha : w.heap[a]? = some (.cells #[.slice p n c, .int .i64 i, .int .i64 h] 64 (0, 0))) (hc : w.cell? ⟨b, o + k, none⟩ = some (.int .u8 u)) : b ≠ a := by
  intro e
  subst e
  rw [cell_of_row w b (o + k) _ _ _ ha] at hc
  match o + k, hc with
  | 0, hc => simp at hc
  | 1, hc => simp at hc
  | 2, hc => simp at hc
  | j + 3, hc => simp at hc

theorem in_grown {w w' : World} {p : Option Addr} {n : Nat} {xs : List Int} {a : Nat} (h : BytesIn w p n xs) (hg : w.grownBy w' (some a)) (hne : ∀ b o, p = some ⟨b, o, none⟩ → 0 < n → b ≠ a) : BytesIn w' p n xs := by
  intro hn
  obtain ⟨b, o, rfl, hc⟩ := h hn
  refine ⟨b, o, rfl, fun i hi => ?_⟩
  exact hg.cell (hc i hi) (by have := hne b o rfl hn; simp; exact this)

theorem and255 (y : Int) : 0 ≤ bits .and .i64 y 255 ∧ bits .and .i64 y 255 ≤ 255 := by
  have e : (BitVec.ofInt 64 y &&& BitVec.ofInt 64 255).toNat ≤ 255 := by
    rw [BitVec.toNat_and]
    exact Nat.le_trans Nat.and_le_right (by decide)
  have : bits .and .i64 y 255 = IntKind.i64.wrap ((BitVec.ofInt 64 y &&& BitVec.ofInt 64 255).toNat : Int) := rfl
  rw [this, IntKind.wrap_i64]
  omega

theorem cells_cur {w : World} {a : Nat} {v0 v1 v2 : Value} (ha : w.heap[a]? = some (.cells #[v0, v1, v2] 64 (0, 0))) :
    w.cell? ⟨a, 0, none⟩ = some v0 ∧ w.cell? ⟨a, 1, none⟩ = some v1 ∧ w.cell? ⟨a, 2, none⟩ = some v2 ∧ w.frozen? ⟨a, 1, none⟩ = false ∧ w.frozen? ⟨a, 2, none⟩ = false := by
  refine ⟨?_, ?_, ?_, frozen_of_row _ _ _ _ _ ha, frozen_of_row _ _ _ _ _ ha⟩ <;> rw [cell_of_row _ _ _ _ _ _ ha] <;> rfl

theorem set2_cur {w : World} {a : Nat} {v0 v1 v2 : Value} (ha : w.heap[a]? = some (.cells #[v0, v1, v2] 64 (0, 0))) (u : Value) :
    (w.setCell ⟨a, 2, none⟩ u).heap[a]? = some (.cells #[v0, v1, u] 64 (0, 0)) ∧ w.grownBy (w.setCell ⟨a, 2, none⟩ u) (some a) :=
  ⟨heap_setCell_same w a 2 _ _ u ha, ⟨rfl, rfl, rfl, by simp, fun k _ hk => heap_setCell_other w ⟨a, 2, none⟩ k u (fun e => hk (by simp [e]))⟩⟩
theorem set1_cur {w : World} {a : Nat} {v0 v1 v2 : Value} (ha : w.heap[a]? = some (.cells #[v0, v1, v2] 64 (0, 0))) (u : Value) :
    (w.setCell ⟨a, 1, none⟩ u).heap[a]? = some (.cells #[v0, u, v2] 64 (0, 0)) ∧ w.grownBy (w.setCell ⟨a, 1, none⟩ u) (some a) :=
  ⟨heap_setCell_same w a 1 _ _ u ha, ⟨rfl, rfl, rfl, by simp, fun k _ hk => heap_setCell_other w ⟨a, 1, none⟩ k u (fun e => hk (by simp [e]))⟩⟩

set_option maxHeartbeats 2000000 in
theorem l1Byte_any (a : Nat) (p : Option Addr) (n c : Nat) (xs : List Int) (w : World) (hcur : Cur w a p n c xs) :
    Calls Tryz.prog 69 #[.pointer (some ⟨a, 0, none⟩)] w fun e w' => ∃ x : Int, e = .returned (.int .i64 x) ∧ 0 ≤ x ∧ x ≤ 255 ∧ Cur w' a p n c xs ∧ w.grownBy w' (some a) := by
  obtain ⟨i, h, ha, hi0, hin, hn, hx, hb, hr⟩ := hcur
  obtain ⟨c0, c1, c2, f1, f2⟩ := cells_cur ha
  go_enter Tryz.func69, Tryz.ntmps69
  go_wp2
  generalize wrap64 (wrap64 (h * 6364136223846793005) + 1442695040888963407) = H
  have s2 := set2_cur ha (.int .i64 H)
  generalize w.setCell ⟨a, 2, none⟩ (.int .i64 H) = W at s2 ⊢
  obtain ⟨ha1, g1⟩ := s2
  have hb1 : BytesIn W p n xs := in_grown hb g1 fun b o e hn => by
    obtain ⟨b', o', e', hc⟩ := hb hn
    rw [e] at e'
    obtain ⟨rfl, rfl⟩ : b = b' ∧ o = o' := by simpa using e'
    exact Cur.not_in ha (hc 0 hn)
  clear c0 c1 c2 f1 f2 hb ha
  obtain ⟨c0, c1, c2, f1, f2⟩ := cells_cur ha1
  go_quiet (fail)
  generalize hX : bits BinOp.and IntKind.i64 (bits BinOp.xor IntKind.i64 (H / 8589934592) (H / 35184372088832)) 255 = X
  have hX1 := and255 (bits BinOp.xor IntKind.i64 (H / 8589934592) (H / 35184372088832))
  rw [hX] at hX1
  clear hX
  obtain ⟨x0, x1⟩ := hX1
  by_cases hlt : i < (n : Int)
  · obtain ⟨k, hk⟩ : ∃ k : Nat, i = (k : Int) := ⟨i.toNat, by omega⟩
    subst hk
    obtain ⟨b, o, rfl, hc⟩ := hb1 (by omega)
    have hck := hc k (by omega)
    obtain ⟨u, hu⟩ : ∃ u, u = xs.getD k 0 := ⟨_, rfl⟩
    rw [← hu] at hck
    have hu0 : 0 ≤ u ∧ u < 256 := by
      rw [hu]; apply hr
      simp [List.getElem?_eq_getElem (show k < xs.length by omega)]
    obtain ⟨u0, u1⟩ := hu0
    have hy := and255 (X + u)
    have s1 := set1_cur ha1 (.int .i64 ((k : Int) + 1))
    have hin2 : BytesIn W (some ⟨b, o, none⟩) n xs := hb1
    have hnot := Cur.not_in ha1 hck
    clear hc hu hb1
    go_wp2
    go_quiet (fail)
    go_wp2
    go_quiet (fail)
    go_wp2
    go_ret
    refine ⟨_, rfl, hy.1, hy.2, ⟨(k : Int) + 1, H, s1.1, by omega, by omega, hn, hx, ?_, hr⟩, ?_⟩
    · exact in_grown (w' := W.setCell ⟨a, 1, none⟩ (.int .i64 ((k : Int) + 1))) hin2 s1.2 fun b' o' e _ => by
        obtain ⟨rfl, rfl⟩ : b = b' ∧ o = o' := by simpa using e
        exact hnot
    · exact grown_trans g1 ⟨s1.2.os, s1.2.tape, s1.2.output, s1.2.size, s1.2.block⟩
  · go_wp2
    go_quiet (fail)
    go_wp2
    go_ret
    exact ⟨_, rfl, x0, x1, ⟨i, H, ha1, hi0, hin, hn, hx, hb1, hr⟩, ⟨g1.os, g1.tape, g1.output, g1.size, g1.block⟩⟩

set_option maxHeartbeats 2000000 in
theorem l1Below_any (a : Nat) (p : Option Addr) (n c : Nat) (xs : List Int) (m : Int) (w : World) (hm : 1 ≤ m) (hm2 : m ≤ 256) (hcur : Cur w a p n c xs) :
    Calls Tryz.prog 43 #[.pointer (some ⟨a, 0, none⟩), .int .i64 m] w fun e w' => ∃ x : Int, e = .returned (.int .i64 x) ∧ 0 ≤ x ∧ x < m ∧ Cur w' a p n c xs ∧ w.grownBy w' (some a) := by
  have c1 : ¬ m ≤ 0 := by omega
  go_enter Tryz.func43, Tryz.ntmps43
  go_wp2_with (fail)
  refine (l1Byte_any a p n c xs _ hcur).mono ?_
  rintro e w1 ⟨x, rfl, hx0, hx1, hc1, g1⟩
  have hz : (m == 0) = false := by simp; omega
  go_wp2_with (fail)
  go_ret
  exact ⟨_, rfl, Int.emod_nonneg _ (by omega), Int.emod_lt_of_pos _ (by omega), hc1, g1⟩

set_option maxHeartbeats 2000000 in
set_option maxRecDepth 100000 in
theorem l1New_any (p : Option Addr) (n c : Nat) (xs : List Int) (w : World) (hn : n ≤ 1048576) (hx : xs.length = n) (hb : BytesIn w p n xs) (hr : ∀ x ∈ xs, 0 ≤ x ∧ x < 256) :
    Calls Tryz.prog 25 #[.slice p n c] w fun e w' => ∃ a : Nat, e = .returned (.pointer (some ⟨a, 0, none⟩)) ∧ w.heap.size ≤ a ∧ a < w'.heap.size ∧ Cur w' a p n c xs ∧ Below w.heap.size w w' := by
  go_enter Tryz.func25, Tryz.ntmps25
  go_wp2
  go_loop [3, 4] (fun q i => ∃ k : Nat, k ≤ n ∧ i = .int .i64 k ∧ q = .int .i64 (intOf q)) (fun _ i => n - (intOf i).toNat)
  case atStart => exact ⟨0, Nat.zero_le _, rfl, rfl⟩
  case round =>
    obtain ⟨k, hk, rfl, hq⟩ := hrel
    obtain ⟨h, rfl⟩ : ∃ h, u3 = .int .i64 h := ⟨_, hq⟩
    clear hq
    by_cases hlt : k < n
    · by_cases h4 : k < 4000
      · obtain ⟨b, o, rfl, hc⟩ := hb (by omega)
        have hck := hc k hlt
        obtain ⟨u, hu⟩ : ∃ u, u = xs.getD k 0 := ⟨_, rfl⟩
        rw [← hu] at hck
        clear hc hu
        go_wp2
        go_round
        case rel => exact ⟨k + 1, by omega, by go_num, by unfold intOf; rfl⟩
        case measure => simp [intOf]; omega
      · have h4' : ¬ (k : Int) < 4000 := by omega
        go_wp2
        go_ret
        exact ⟨w.heap.size, rfl, Nat.le_refl _, by simp, ⟨0, h, heap_alloc_new w _, Int.le_refl _, by omega, hn, hx, in_below hb ((Below.refl _ _).alloc (Nat.le_refl _) _), hr⟩, (Below.refl _ _).alloc (Nat.le_refl _) _⟩
    · go_wp2
      go_ret
      exact ⟨w.heap.size, rfl, Nat.le_refl _, by simp, ⟨0, h, heap_alloc_new w _, Int.le_refl _, by omega, hn, hx, in_below hb ((Below.refl _ _).alloc (Nat.le_refl _) _), hr⟩, (Below.refl _ _).alloc (Nat.le_refl _) _⟩

end Go.Proofs.YtdjdanpicbaieaaGreatDoor

namespace Go.Proofs.YtdjdanpicbaieaaGreatDoor
open Go.RowKit
set_option maxRecDepth 100000

theorem Cur.lt {w : World} {a : Nat} {p : Option Addr} {n c : Nat} {xs : List Int} (h : Cur w a p n c xs) : a < w.heap.size := by
  obtain ⟨i, k, ha, _⟩ := h
  exact (Array.getElem?_eq_some_iff.1 ha).1
theorem Cur.code_lt {w : World} {a : Nat} {p : Option Addr} {n c : Nat} {xs : List Int} (h : Cur w a p n c xs) : ∀ b o, p = some ⟨b, o, none⟩ → 0 < n → b < w.heap.size := by
  obtain ⟨i, k, ha, _, _, _, _, hb, _⟩ := h
  intro b o e hn
  obtain ⟨b', o', e', hc⟩ := hb hn
  rw [e] at e'
  obtain ⟨rfl, rfl⟩ : b = b' ∧ o = o' := by simpa using e'
  exact World.block_lt_of_cell? w ⟨b, o + 0, none⟩ (hc 0 hn)
theorem Cur.below {w1 w2 : World} {B a : Nat} {p : Option Addr} {n c : Nat} {xs : List Int} (h : Cur w1 a p n c xs) (hb : Below B w1 w2) (ha : a < B) (hp : ∀ b o, p = some ⟨b, o, none⟩ → 0 < n → b < B) : Cur w2 a p n c xs := by
  obtain ⟨i, k, h1, h2, h3, h4, h5, h6, h7⟩ := h
  refine ⟨i, k, by rw [hb.block a ha]; exact h1, h2, h3, h4, h5, ?_, h7⟩
  intro hn
  obtain ⟨b, o, rfl, hc⟩ := h6 hn
  refine ⟨b, o, rfl, fun j hj => ?_⟩
  rw [hb.cell (p := ⟨b, o + j, none⟩) (hp b o rfl hn)]
  exact hc j hj

/-- A row that lies behind the cursor stays as it was while the cursor is moved on. -/
theorem owns_cur {w w' : World} {a base e size : Nat} {v : Value} {n : Nat} {xs : List Value} (h : w.ownsRow base e size v n xs) (hg : w.grownBy w' (some a)) (ha : a < base) : w'.ownsRow base e size v n xs := by
  refine h.kept hg ?_
  rcases hv : v.ownBlock with _ | k
  · exact .inl rfl
  · right
    have := (h.lt k hv).1
    simp
    omega

theorem grown_below {w w2 w3 : World} {row : Option Nat} (h : w.grownBy w2 row) (hb : Below w.heap.size w2 w3) : w.grownBy w3 row :=
  ⟨hb.os.trans h.os, hb.tape.trans h.tape, hb.output.trans h.output, Nat.le_trans h.size hb.size, fun k hk hr => (hb.block k hk).trans (h.block k hk hr)⟩

theorem below_cur {w w1 w2 : World} {a : Nat} (h : Below w.heap.size w w1) (hg : w1.grownBy w2 (some a)) (ha : w.heap.size ≤ a) : Below w.heap.size w w2 :=
  h.grown hg h.size fun k hk => by simp at hk; omega

theorem Own.mono {e : Nat} {w : World} {lo lo' hi hi' : Nat} {v : Value} {n : Nat} {xs : List Int} (h : Own e w lo hi v n xs) (hl : lo' ≤ lo) (hh : hi ≤ hi') : Own e w lo' hi' v n xs :=
  ⟨owns_mono h.1 hl, fun k hk => Nat.lt_of_lt_of_le (h.2 k hk) hh⟩

/-- A row behind the cursor, while the cursor is moved on. -/
theorem Own.cur {e : Nat} {w w' : World} {a lo hi : Nat} {v : Value} {n : Nat} {xs : List Int} (h : Own e w lo hi v n xs) (hg : w.grownBy w' (some a)) (ha : a < lo) : Own e w' lo hi v n xs := ⟨owns_cur h.1 hg ha, h.2⟩

theorem l1PickInt_any (a : Nat) (p : Option Addr) (n c : Nat) (xs : List Int) (g L : Nat) (zs : List Int) (w : World) (hL : 1 ≤ L) (hL2 : L ≤ 256) (hz : zs.length = L) (hcells : ∀ i, i < L → w.cell? ⟨g, i, none⟩ = some (.int .i64 (zs.getD i 0))) (hg : g ≠ a) (hcur : Cur w a p n c xs) :
    Calls Tryz.prog 26 #[.pointer (some ⟨a, 0, none⟩), .slice (some ⟨g, 0, none⟩) L L] w fun e w' => ∃ z ∈ zs, e = .returned (.int .i64 z) ∧ Cur w' a p n c xs ∧ w.grownBy w' (some a) := by
  go_enter Tryz.func26, Tryz.ntmps26
  go_wp2_with (fail)
  refine (l1Below_any a p n c xs (L : Int) _ (by omega) (by omega) hcur).mono ?_
  rintro e w1 ⟨x, rfl, hx0, hx1, hc1, g1⟩
  obtain ⟨k, hk⟩ : ∃ k : Nat, x = (k : Int) := ⟨x.toNat, by omega⟩
  subst hk
  have hck : w1.cell? ⟨g, k, none⟩ = some (.int .i64 (zs.getD k 0)) := g1.cell (hcells k (by omega)) (by simpa using hg)
  obtain ⟨u, hu⟩ : ∃ u, u = zs.getD k 0 := ⟨_, rfl⟩
  rw [← hu] at hck
  have hmem : Hid (u ∈ zs) := by
    show u ∈ zs
    rw [hu]
    simp [List.getElem?_eq_getElem (show k < zs.length by omega)]
  clear hu
  go_wp2_with (fail)
  go_ret
  exact ⟨u, hmem.out, rfl, hc1, g1⟩

/-- The cells of a list that is written out. -/
theorem lit_ints (w : World) (zs : List Int) (t : TypeId) : ∀ i, i < zs.length → (w.alloc (.cells (zs.map (Value.int .i64)).toArray t)).cell? ⟨w.heap.size, i, none⟩ = some (.int .i64 (zs.getD i 0)) := by
  intro i hi
  rw [cell_of_row _ _ _ _ _ _ (heap_alloc_new w _)]
  simp [List.getElem?_eq_getElem hi]
theorem lit_strs (w : World) (ts : List ByteArray) (t : TypeId) : ∀ i, i < ts.length → (w.alloc (.cells (ts.map Value.string).toArray t)).cell? ⟨w.heap.size, i, none⟩ = some (.string (ts.getD i ByteArray.empty)) := by
  intro i hi
  rw [cell_of_row _ _ _ _ _ _ (heap_alloc_new w _)]
  simp [List.getElem?_eq_getElem hi]

end Go.Proofs.YtdjdanpicbaieaaGreatDoor

namespace Go.Proofs.YtdjdanpicbaieaaGreatDoor
open Go.RowKit
set_option maxRecDepth 100000

theorem zeros_made (z : Nat) : (madeCells #[Value.int .u8 0] z).toList = (List.replicate z (0 : Int)).map (Value.int .u8) := by
  rw [toList_madeCells_one]
  simp
theorem grown_none {a b c : World} {r : Option Nat} (h : a.grownBy b r) (k : b.grownBy c none) : a.grownBy c r :=
  grown_trans h ⟨k.os, k.tape, k.output, k.size, fun i hi _ => k.block i hi (by simp)⟩

theorem zeros_own {w w2 w3 : World} {a : Nat} {p : Option Addr} {n c : Nat} {xs : List Int} {z : Nat} (h1 : w.grownBy w2 (some a)) (h2 : Cur w2 a p n c xs) (h3 : w3.ownsRow w.heap.size 5 1 (.slice (some ⟨w2.heap.size, 0, none⟩) z z) z (madeCells #[Value.int .u8 0] (z * 1)).toList) (h4 : w2.grownBy w3 none) :
    Own 5 w3 w.heap.size w3.heap.size (.slice (some ⟨w2.heap.size, 0, none⟩) z z) z (List.replicate z 0) ∧ (∀ y ∈ List.replicate z (0 : Int), 0 ≤ y ∧ y < 256) ∧ Cur w3 a p n c xs ∧ w.grownBy w3 (some a) := by
  rw [Nat.mul_one, zeros_made] at h3
  refine ⟨.of h3, fun y hy => ?_, h2.below ((Below.refl w2.heap.size w2).grown h4 (Nat.le_refl _) (fun _ h => by cases h)) h2.lt h2.code_lt, grown_none h1 h4⟩
  have := List.eq_of_mem_replicate hy
  omega

set_option maxHeartbeats 2000000 in
theorem l1DrawJust_is (a : Nat) (p : Option Addr) (n c : Nat) (xs : List Int) (K : Nat) (w : World) (hK : K ≤ 100000) (hcur : Cur w a p n c xs) :
    Calls Tryz.prog 67 #[.pointer (some ⟨a, 0, none⟩), .int .i64 K] w fun e w' => ∃ g k c' ys, e = .returned (.slice (some ⟨g, 0, none⟩) k c') ∧ k = K ∧ Own 5 w' w.heap.size w'.heap.size (.slice (some ⟨g, 0, none⟩) k c') k ys ∧ (∀ y ∈ ys, 0 ≤ y ∧ y < 256) ∧ Cur w' a p n c xs ∧ w.grownBy w' (some a) := by
  obtain ⟨i0, hi, hz0, hz1, hz2⟩ := info_parts infoByte
  have ha := hcur.lt
  have hcl := hcur.code_lt
  go_enter Tryz.func67, Tryz.ntmps67
  go_wp2_with (fail)
  have hb0 : Below w.heap.size w (w.alloc (.cells #[] 5)) := (Below.refl _ _).alloc (Nat.le_refl _) _
  have o1 : (w.alloc (.cells #[] 5)).ownsRow w.heap.size 5 1 (.slice (some ⟨w.heap.size, 0, none⟩) 0 0) 0 (([] : List Int).map (Value.int .u8)) := World.ownsRow_made w #[] 0 (Nat.le_refl _) (by unfold maxLen; omega) rfl
  have hc1 := hcur.below hb0 ha hcl
  have gg : w.grownBy (w.alloc (.cells #[] 5)) (some a) := World.grownBy_alloc w _ _
  go_loopw [5, 6] (fun v i wr => ∃ (k : Nat) (ys : List Int), k ≤ K ∧ i = .int .i64 k ∧ Hid (∃ g cap, v = .slice (some ⟨g, 0, none⟩) k cap) ∧ wr.ownsRow w.heap.size 5 1 v k (ys.map (Value.int .u8)) ∧ Hid (∀ y ∈ ys, 0 ≤ y ∧ y < 256) ∧ Cur wr a p n c xs ∧ w.grownBy wr (some a))
    (fun _ i _ => K - (intOf i).toNat)
  case atStart => exact ⟨0, [], Nat.zero_le _, rfl, ⟨_, _, rfl⟩, o1, (fun y hy => by cases hy), hc1, gg⟩
  case round =>
    clear o1 gg hc1 hb0
    obtain ⟨k, ys, hk, rfl, hform, hown, hys, hc, hgr⟩ := hrel
    have hsz := hgr.size
    by_cases hlt : k < K
    · go_wp2_with (fail)
      refine (l1Below_any a p n c xs 256 _ (by omega) (by omega) hc).mono ?_
      rintro e w2 ⟨y, rfl, hy0, hy1, hc2, g2⟩
      have o2 := owns_cur hown g2 ha
      have gg := grown_trans hgr g2
      have hsz2 := gg.size
      have hys2 : Hid (∀ z ∈ ys ++ [y], 0 ≤ z ∧ z < 256) := by
        intro z hz
        rcases List.mem_append.1 hz with h | h
        · exact hys.out z h
        · simp at h; subst h; exact ⟨hy0, hy1⟩
      clear hown hc hgr hys hform
      go_wp2_with (at_builtin; refine list_pushK hi hz0 hz1 hz2 (.tmp 13) (.tmp 17) 22 Tryz.underlying22 _ o2 (by omega) hsz2 (by rfl) (by rfl) (by rfl) (by rfl) ?_; intro g cap w3 ho3 hb3 hkk)
      go_roundw
      case rel => exact ⟨k + 1, ys ++ [y], by omega, by go_num, ⟨_, _, rfl⟩, ho3, hys2, hc2.below hb3 ha hcl, grown_below gg hb3⟩
      case measure => simp [intOf]; omega
    · obtain ⟨g, c', hv⟩ := hform.out
      clear hform
      subst hv
      go_wp2
      go_ret
      exact ⟨g, k, c', ys, rfl, by omega, .of hown, hys.out, hc, hgr⟩

theorem l1DrawJust_any (a : Nat) (p : Option Addr) (n c : Nat) (xs : List Int) (K : Nat) (w : World) (hK : K ≤ 1000) (hcur : Cur w a p n c xs) :
    Calls Tryz.prog 67 #[.pointer (some ⟨a, 0, none⟩), .int .i64 K] w fun e w' => ∃ g k c' ys, e = .returned (.slice (some ⟨g, 0, none⟩) k c') ∧ k ≤ 1000 ∧ Own 5 w' w.heap.size w'.heap.size (.slice (some ⟨g, 0, none⟩) k c') k ys ∧ (∀ y ∈ ys, 0 ≤ y ∧ y < 256) ∧ Cur w' a p n c xs ∧ w.grownBy w' (some a) :=
  (l1DrawJust_is a p n c xs K w (by omega) hcur).mono fun _ _ ⟨g, k, c', ys, h1, h2, h3⟩ => ⟨g, k, c', ys, h1, by omega, h3⟩

theorem l1Max63 (w : World) : Calls Tryz.prog 68 #[.int .i64 63, .int .i64 0] w fun e w' => e = .returned (.int .i64 63) ∧ w' = w := by
  go_enter Tryz.func68, Tryz.ntmps68
  go_wp2
  go_ret
  exact ⟨rfl, rfl⟩

set_option maxHeartbeats 2000000 in
theorem l1DrawNear64 (a : Nat) (p : Option Addr) (n c : Nat) (xs : List Int) (w : World) (hcur : Cur w a p n c xs) :
    Calls Tryz.prog 42 #[.pointer (some ⟨a, 0, none⟩), .int .i64 64] w fun e w' => ∃ g k c' ys, e = .returned (.slice (some ⟨g, 0, none⟩) k c') ∧ k ≤ 1000 ∧ Own 5 w' w.heap.size w'.heap.size (.slice (some ⟨g, 0, none⟩) k c') k ys ∧ (∀ y ∈ ys, 0 ≤ y ∧ y < 256) ∧ Cur w' a p n c xs ∧ w.grownBy w' (some a) := by
  have C65 := fun w h => l1DrawJust_any a p n c xs 65 w (by omega) h
  have C63 := fun w h => l1DrawJust_any a p n c xs 63 w (by omega) h
  have C64 := fun w h => l1DrawJust_any a p n c xs 64 w (by omega) h
  go_enter Tryz.func42, Tryz.ntmps42
  go_wp2_with (fail)
  refine (l1Below_any a p n c xs 16 _ (by omega) (by omega) hcur).mono ?_
  rintro e w1 ⟨x, rfl, hx0, hx1, hc1, g1⟩
  by_cases h0 : x = 0
  · subst h0
    go_wp2_with (fail)
    refine (C65 _ hc1).mono ?_
    rintro e w2 ⟨g, k, c', ys, rfl, hk, o2, hys, hc2, g2⟩
    go_wp2_with (fail)
    go_ret
    exact ⟨g, k, c', ys, rfl, hk, o2.mono g1.size (Nat.le_refl _), hys, hc2, grown_trans g1 g2⟩
  · by_cases h1 : x = 1
    · subst h1
      go_wp2_with (fail)
      refine (l1Max63 _).mono ?_
      rintro e w1 ⟨rfl, rfl⟩
      go_wp2_with (fail)
      refine (C63 _ hc1).mono ?_
      rintro e w2 ⟨g, k, c', ys, rfl, hk, o2, hys, hc2, g2⟩
      go_wp2_with (fail)
      go_ret
      exact ⟨g, k, c', ys, rfl, hk, o2.mono g1.size (Nat.le_refl _), hys, hc2, grown_trans g1 g2⟩
    · by_cases h2 : x = 2
      · subst h2
        go_wp2
        go_ret
        exact ⟨_, 0, _, [], rfl, by omega, .of (World.ownsRow_made w1 #[] 0 g1.size (by unfold maxLen; omega) rfl), (fun y hy => by cases hy), hc1.below ((Below.refl w1.heap.size w1).alloc (Nat.le_refl _) _) hc1.lt hc1.code_lt, grown_trans g1 (World.grownBy_alloc w1 _ _)⟩
      · have d0 : (x == 0) = false := by simpa using h0
        have d1 : (x == 1) = false := by simpa using h1
        have d2 : (x == 2) = false := by simpa using h2
        go_wp2_with (fail)
        refine (C64 _ hc1).mono ?_
        rintro e w2 ⟨g, k, c', ys, rfl, hk, o2, hys, hc2, g2⟩
        go_wp2_with (fail)
        go_ret
        exact ⟨g, k, c', ys, rfl, hk, o2.mono g1.size (Nat.le_refl _), hys, hc2, grown_trans g1 g2⟩

end Go.Proofs.YtdjdanpicbaieaaGreatDoor

namespace Go.Proofs.YtdjdanpicbaieaaGreatDoor
open Go.RowKit
set_option maxRecDepth 100000

theorem l1Max_zero (K : Nat) (w : World) : Calls Tryz.prog 68 #[.int .i64 (K : Int), .int .i64 0] w fun e w' => e = .returned (.int .i64 (K : Int)) ∧ w' = w := by
  by_cases h : (0 : Int) < (K : Int)
  · go_enter Tryz.func68, Tryz.ntmps68
    go_wp2
    go_ret
    exact ⟨rfl, rfl⟩
  · obtain rfl : K = 0 := by omega
    go_enter Tryz.func68, Tryz.ntmps68
    go_wp2
    go_ret
    exact ⟨rfl, rfl⟩

set_option maxHeartbeats 2000000 in
theorem l1DrawNear_any (a : Nat) (p : Option Addr) (n c : Nat) (xs : List Int) (K : Nat) (w : World) (hK1 : 1 ≤ K) (hK2 : K ≤ 500) (hcur : Cur w a p n c xs) :
    Calls Tryz.prog 42 #[.pointer (some ⟨a, 0, none⟩), .int .i64 (K : Int)] w fun e w' => ∃ g k c' ys, e = .returned (.slice (some ⟨g, 0, none⟩) k c') ∧ k ≤ 1000 ∧ Own 5 w' w.heap.size w'.heap.size (.slice (some ⟨g, 0, none⟩) k c') k ys ∧ (∀ y ∈ ys, 0 ≤ y ∧ y < 256) ∧ Cur w' a p n c xs ∧ w.grownBy w' (some a) := by
  obtain ⟨U, hU⟩ : ∃ U : Nat, U = K + 1 := ⟨_, rfl⟩
  obtain ⟨D, hD⟩ : ∃ D : Nat, D = K - 1 := ⟨_, rfl⟩
  have eU : (K : Int) + 1 = (U : Int) := by omega
  have eD : (K : Int) - 1 = (D : Int) := by omega
  have CU := fun w h => l1DrawJust_any a p n c xs U w (by omega) h
  have CD := fun w h => l1DrawJust_any a p n c xs D w (by omega) h
  have CK := fun w h => l1DrawJust_any a p n c xs K w (by omega) h
  clear hU hD
  go_enter Tryz.func42, Tryz.ntmps42
  go_wp2_with (fail)
  refine (l1Below_any a p n c xs 16 _ (by omega) (by omega) hcur).mono ?_
  rintro e w1 ⟨x, rfl, hx0, hx1, hc1, g1⟩
  by_cases h0 : x = 0
  · subst h0
    go_wp2_with (fail)
    refine (CU _ hc1).mono ?_
    rintro e w2 ⟨g, k, c', ys, rfl, hk, o2, hys, hc2, g2⟩
    go_wp2_with (fail)
    go_ret
    exact ⟨g, k, c', ys, rfl, hk, o2.mono g1.size (Nat.le_refl _), hys, hc2, grown_trans g1 g2⟩
  · by_cases h1 : x = 1
    · subst h1
      go_wp2_with (fail)
      refine (l1Max_zero D _).mono ?_
      rintro e w1 ⟨rfl, rfl⟩
      go_wp2_with (fail)
      refine (CD _ hc1).mono ?_
      rintro e w2 ⟨g, k, c', ys, rfl, hk, o2, hys, hc2, g2⟩
      go_wp2_with (fail)
      go_ret
      exact ⟨g, k, c', ys, rfl, hk, o2.mono g1.size (Nat.le_refl _), hys, hc2, grown_trans g1 g2⟩
    · by_cases h2 : x = 2
      · subst h2
        go_wp2
        go_ret
        exact ⟨_, 0, _, [], rfl, by omega, .of (World.ownsRow_made w1 #[] 0 g1.size (by unfold maxLen; omega) rfl), (fun y hy => by cases hy), hc1.below ((Below.refl w1.heap.size w1).alloc (Nat.le_refl _) _) hc1.lt hc1.code_lt, grown_trans g1 (World.grownBy_alloc w1 _ _)⟩
      · have d0 : (x == 0) = false := by simpa using h0
        have d1 : (x == 1) = false := by simpa using h1
        have d2 : (x == 2) = false := by simpa using h2
        go_wp2_with (fail)
        refine (CK _ hc1).mono ?_
        rintro e w2 ⟨g, k, c', ys, rfl, hk, o2, hys, hc2, g2⟩
        go_wp2_with (fail)
        go_ret
        exact ⟨g, k, c', ys, rfl, hk, o2.mono g1.size (Nat.le_refl _), hys, hc2, grown_trans g1 g2⟩

/-- The first k all 255, the others nought. -/
def fulls (k : Nat) : List Int := List.replicate k 255 ++ List.replicate (32 - k) 0
theorem fulls_set (k : Nat) (h : k < 32) : ((fulls k).map (Value.int .u8)).set k (.int .u8 255) = (fulls (k + 1)).map (Value.int .u8) := by
  rw [← List.map_set]
  congr 1
  unfold fulls
  rw [List.set_append_right _ _ (by simp), List.length_replicate, Nat.sub_self, show 32 - k = (32 - (k + 1)) + 1 by omega, List.replicate_succ, List.set_cons_zero, List.replicate_succ', List.append_assoc]
  rfl
theorem fulls_get (k : Nat) (h : k < 32) : ((fulls k).map (Value.int .u8))[k]? = some (.int .u8 0) := by
  unfold fulls
  rw [List.map_append, List.getElem?_append_right (by simp)]
  simp [show 0 < 32 - k by omega]
theorem fulls_byte (k : Nat) : ∀ y ∈ fulls k, 0 ≤ y ∧ y < 256 := by
  intro y hy
  simp only [fulls, List.mem_append, List.mem_replicate] at hy
  omega

end Go.Proofs.YtdjdanpicbaieaaGreatDoor

namespace Go.Proofs.YtdjdanpicbaieaaGreatDoor
open Go.RowKit
set_option maxRecDepth 100000

set_option maxHeartbeats 2000000 in
theorem l12Draw_any (p : Option Addr) (n c : Nat) (xs : List Int) (w : World) (hn : n ≤ 1048576) (hx : xs.length = n) (hb : BytesIn w p n xs) (hr : ∀ x ∈ xs, 0 ≤ x ∧ x < 256) :
    Calls Tryz.prog 24 #[.slice p n c] w fun e w' => ∃ g k c' ys ep, e = .returned (.tuple #[.slice (some ⟨g, 0, none⟩) k c', .int .i64 ep]) ∧ (k ≤ 1000 ∧ (∀ y ∈ ys, 0 ≤ y ∧ y < 256) ∧ -1 ≤ ep ∧ ep ≤ 41) ∧ Own 5 w' w.heap.size w'.heap.size (.slice (some ⟨g, 0, none⟩) k c') k ys ∧ Below w.heap.size w w' := by
  go_enter Tryz.func24, Tryz.ntmps24
  go_wp2_with (fail)
  refine (l1New_any p n c xs _ hn hx hb hr).mono ?_
  rintro e w1 ⟨a, rfl, ha, ha1, hc1, b1⟩
  have CN := l1DrawNear_any a p n c xs 32 w1 (by omega) (by omega) hc1
  go_wp2_with (fail)
  refine CN.mono ?_
  rintro e w2 ⟨g, k, c', ys, rfl, hk, ho, hys, hc2, g2⟩
  have bel2 := below_cur b1 g2 ha
  have hb0 : Below w2.heap.size w2 (w2.alloc (.cells #[.int .i64 0, .int .i64 1, .int .i64 5, .int .i64 40, .int .i64 41, .int .i64 (-1)] 3)) := (Below.refl _ _).alloc (Nat.le_refl _) _
  have hlt1 := hc1.lt
  have hlt2 := hc2.lt
  have hoo := (Own.of ho.1).on hb0
  go_wp2_with (fail)
  refine (l1PickInt_any a p n c xs w2.heap.size 6 [0, 1, 5, 40, 41, -1] _ (by omega) (by omega) rfl (lit_ints w2 [0, 1, 5, 40, 41, -1] 3) (by omega) (hc2.below hb0 hlt2 hc2.code_lt)).mono ?_
  rintro e w3 ⟨z, hz, rfl, hc3, g3⟩
  have lz : -1 ≤ z ∧ z ≤ 41 := by
    simp only [List.mem_cons, List.not_mem_nil, or_false] at hz
    omega
  have bel3 := below_cur (below_on bel2 hb0) g3 ha
  have o3 := owns_cur hoo.1 g3 (by omega)
  go_wp2_with (fail)
  go_ret2
  exact ⟨g, k, c', ys, z, rfl, ⟨hk, hys, lz⟩, .of (owns_mono o3 b1.size), bel3⟩

set_option maxHeartbeats 2000000 in
theorem dSecretOf (p : Option Addr) (n c : Nat) (xs : List Int) (w : World) (hn : n ≤ 1048576) (hx : xs.length = n) (hb : BytesIn w p n xs) (hr : ∀ x ∈ xs, 0 ≤ x ∧ x < 256) :
    Calls Tryz.prog 6 #[.slice p n c] w fun e w' => ∃ g k c' ys ep, e = .returned (.tuple #[.slice (some ⟨g, 0, none⟩) k c', .int .i64 ep]) ∧ (k ≤ 1000 ∧ (∀ y ∈ ys, 0 ≤ y ∧ y < 256) ∧ -1 ≤ ep ∧ ep ≤ 41) ∧ Own 5 w' w.heap.size w'.heap.size (.slice (some ⟨g, 0, none⟩) k c') k ys ∧ Below w.heap.size w w' := by
  go_enter Tryz.func6, Tryz.ntmps6
  go_wp2_with (fail)
  refine (l12Draw_any p n c xs _ hn hx hb hr).mono ?_
  rintro e w1 ⟨g, k, c', ys, ep, rfl, hk, ho, b1⟩
  go_wp2_with (fail)
  go_ret2
  exact ⟨g, k, c', ys, ep, rfl, hk, ho, b1⟩

set_option maxHeartbeats 2000000 in
theorem dPublicOf (p : Option Addr) (n c : Nat) (xs : List Int) (w : World) (hn : n ≤ 1048576) (hx : xs.length = n) (hb : BytesIn w p n xs) (hr : ∀ x ∈ xs, 0 ≤ x ∧ x < 256) :
    Calls Tryz.prog 7 #[.slice p n c] w fun e w' => ∃ g k c' ys ep, e = .returned (.tuple #[.slice (some ⟨g, 0, none⟩) k c', .int .i64 ep]) ∧ (k ≤ 1000 ∧ (∀ y ∈ ys, 0 ≤ y ∧ y < 256) ∧ -1 ≤ ep ∧ ep ≤ 41) ∧ Own 5 w' w.heap.size w'.heap.size (.slice (some ⟨g, 0, none⟩) k c') k ys ∧ Below w.heap.size w w' := by
  go_enter Tryz.func7, Tryz.ntmps7
  go_wp2_with (fail)
  refine (l12Draw_any p n c xs _ hn hx hb hr).mono ?_
  rintro e w1 ⟨g, k, c', ys, ep, rfl, hk, ho, b1⟩
  go_wp2_with (fail)
  go_ret2
  exact ⟨g, k, c', ys, ep, rfl, hk, ho, b1⟩

set_option maxHeartbeats 2000000 in
theorem dRouteOf (p : Option Addr) (n c : Nat) (xs : List Int) (w : World) (hn : n ≤ 1048576) (hx : xs.length = n) (hb : BytesIn w p n xs) (hr : ∀ x ∈ xs, 0 ≤ x ∧ x < 256) :
    Calls Tryz.prog 8 #[.slice p n c] w fun e w' => ∃ g k c' ys ep, e = .returned (.tuple #[.slice (some ⟨g, 0, none⟩) k c', .int .i64 ep]) ∧ (k ≤ 1000 ∧ (∀ y ∈ ys, 0 ≤ y ∧ y < 256) ∧ -1 ≤ ep ∧ ep ≤ 41) ∧ Own 5 w' w.heap.size w'.heap.size (.slice (some ⟨g, 0, none⟩) k c') k ys ∧ Below w.heap.size w w' := by
  go_enter Tryz.func8, Tryz.ntmps8
  go_wp2_with (fail)
  refine (l12Draw_any p n c xs _ hn hx hb hr).mono ?_
  rintro e w1 ⟨g, k, c', ys, ep, rfl, hk, ho, b1⟩
  go_wp2_with (fail)
  go_ret2
  exact ⟨g, k, c', ys, ep, rfl, hk, ho, b1⟩

set_option maxHeartbeats 2000000 in
theorem dCurrent (p : Option Addr) (n c : Nat) (xs : List Int) (w : World) (hn : n ≤ 1048576) (hx : xs.length = n) (hb : BytesIn w p n xs) (hr : ∀ x ∈ xs, 0 ≤ x ∧ x < 256) :
    Calls Tryz.prog 9 #[.slice p n c] w fun e w' => ∃ a b : Int, e = .returned (.tuple #[.int .i64 a, .int .i64 b]) ∧ Below w.heap.size w w' := by
  go_enter Tryz.func9, Tryz.ntmps9
  go_wp2_with (fail)
  refine (l1New_any p n c xs _ hn hx hb hr).mono ?_
  rintro e w1 ⟨a, rfl, ha, ha1, hc1, b1⟩
  have hb0 : Below w1.heap.size w1 (w1.alloc (.cells #[.int .i64 0, .int .i64 1, .int .i64 5, .int .i64 40, .int .i64 41, .int .i64 (-1)] 3)) := (Below.refl _ _).alloc (Nat.le_refl _) _
  have hlt1 := hc1.lt
  go_wp2_with (fail)
  refine (l1PickInt_any a p n c xs w1.heap.size 6 [0, 1, 5, 40, 41, -1] _ (by omega) (by omega) rfl (lit_ints w1 [0, 1, 5, 40, 41, -1] 3) (by omega) (hc1.below hb0 hlt1 hc1.code_lt)).mono ?_
  rintro e w2 ⟨z, hz, rfl, hc2, g2⟩
  have bel2 := below_cur (below_on b1 hb0) g2 ha
  have hb1 : Below w2.heap.size w2 (w2.alloc (.cells #[.int .i64 0, .int .i64 1, .int .i64 4, .int .i64 5, .int .i64 6, .int .i64 39, .int .i64 40, .int .i64 (-1)] 3)) := (Below.refl _ _).alloc (Nat.le_refl _) _
  have hlt2 := hc2.lt
  go_wp2_with (fail)
  refine (l1PickInt_any a p n c xs w2.heap.size 8 [0, 1, 4, 5, 6, 39, 40, -1] _ (by omega) (by omega) rfl (lit_ints w2 [0, 1, 4, 5, 6, 39, 40, -1] 3) (by omega) (hc2.below hb1 hlt2 hc2.code_lt)).mono ?_
  rintro e w3 ⟨y, hy, rfl, hc3, g3⟩
  have bel3 := below_cur (below_on bel2 hb1) g3 ha
  go_wp2_with (fail)
  go_ret2
  exact ⟨z, y, rfl, bel3⟩

end Go.Proofs.YtdjdanpicbaieaaGreatDoor

namespace Go.Proofs.YtdjdanpicbaieaaGreatDoor
open Go.RowKit
set_option maxRecDepth 100000

theorem implSame_any (p q : Option Addr) (n m c d : Nat) (xs ys : List Int) (w : World) (hx : xs.length = n) (hy : ys.length = m) (h : BytesIn w p n xs) (h' : BytesIn w q m ys) :
    Calls Tryz.prog 12 #[.slice p n c, .slice q m d] w fun e w' => e = .returned (.bool ((strOfNums xs).toList == (strOfNums ys).toList)) ∧ Below w.heap.size w w' := by
  have g := text_of (P := Tryz.prog) h hx c 22 5 9 Tryz.underlying22 Tryz.underlying5 Tryz.underlying9
  have g' := text_of (P := Tryz.prog) h' hy d 22 5 9 Tryz.underlying22 Tryz.underlying5 Tryz.underlying9
  go_enter Tryz.func12, Tryz.ntmps12
  go_wp2
  go_ret
  exact ⟨rfl, Below.refl _ _⟩

end Go.Proofs.YtdjdanpicbaieaaGreatDoor

namespace Go.Proofs.YtdjdanpicbaieaaGreatDoor
open Go.RowKit
set_option maxRecDepth 100000

theorem big_small (p : Option Addr) (n c : Nat) (w : World) (hn : n ≤ 1048576) : Calls Tryz.prog 5 #[.slice p n c] w fun e w' => e = .returned (.bool false) ∧ Below w.heap.size w w' := by
  have hd : decide ((1048576 : Int) < (n : Int)) = false := by simp; omega
  go_enter Tryz.func5, Tryz.ntmps5
  go_wp2
  go_ret
  refine ⟨?_, Below.refl _ _⟩
  first | rfl | (congr 2)

theorem big_great (p : Option Addr) (n c : Nat) (w : World) (hn : ¬ n ≤ 1048576) : Calls Tryz.prog 5 #[.slice p n c] w fun e w' => e = .returned (.bool true) ∧ Below w.heap.size w w' := by
  have hd : (1048576 : Int) < (n : Int) := by omega
  go_enter Tryz.func5, Tryz.ntmps5
  go_wp2
  go_ret
  exact ⟨by simp, Below.refl _ _⟩

theorem in_prefix {w : World} {p : Option Addr} {n m : Nat} {xs : List Int} (h : BytesIn w p n xs) (hm : m ≤ n) : BytesIn w p m (xs.take m) := by
  intro h0
  obtain ⟨b, o, rfl, hc⟩ := h (by omega)
  refine ⟨b, o, rfl, fun i hi => ?_⟩
  rw [hc i (by omega)]
  simp [hi]

end Go.Proofs.YtdjdanpicbaieaaGreatDoor
