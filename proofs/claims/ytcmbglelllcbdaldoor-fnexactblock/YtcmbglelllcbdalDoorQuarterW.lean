/-
  What the program's quarter answers: the four words behind a quarter round. Condition: words.
-/
import Derived.Test.YtcmbglelllcbdalDoorQuarterMath
import Derived.Test.YtcmbglelllcbdalDoorTurn
namespace Go.Proofs.YtcmbglelllcbdalDoor
open Go.RowKit

theorem turned_by (x : Nat) (k : Int) (m : Nat) (w : World) (hx : x < 4294967296) (hm : countN k = m) :
    Calls Tryd.prog 65 #[.int .u32 x, .int .i64 k] w fun e w' => e = .returned (.int .u32 ((turnN x m : Nat) : Int)) ∧ w' = w := by
  subst hm
  exact turned_same x k w hx
theorem u32_sum (a b : Nat) : IntKind.u32.wrap ((a : Int) + (b : Int)) = (((a + b) % 4294967296 : Nat) : Int) := by
  rw [IntKind.wrap_u32]
  omega
theorem u32_summ (a b : Nat) : ((a : Int) + (b : Int)) % 4294967296 = (((a + b) % 4294967296 : Nat) : Int) := by omega
theorem u32_xor2 (a b : Nat) (ha : a < 4294967296) (hb : b < 4294967296) : bits .xor .u32 (a : Int) (b : Int) = ((a ^^^ b : Nat) : Int) := by
  have e : bits .xor .u32 (a : Int) (b : Int) = IntKind.u32.wrap ((BitVec.ofInt 32 (a : Int) ^^^ BitVec.ofInt 32 (b : Int)).toNat : Int) := rfl
  have e1 : (BitVec.ofInt 32 (a : Int)).toNat = a := by rw [BitVec.toNat_ofInt]; omega
  have e2 : (BitVec.ofInt 32 (b : Int)).toNat = b := by rw [BitVec.toNat_ofInt]; omega
  have hlt : a ^^^ b < 4294967296 := Nat.xor_lt_two_pow (n := 32) ha hb
  rw [e, BitVec.toNat_xor, e1, e2, IntKind.wrap_u32]
  omega
theorem xor_lt32 {a b : Nat} (ha : a < 4294967296) (hb : b < 4294967296) : a ^^^ b < 4294967296 := Nat.xor_lt_two_pow (n := 32) ha hb
theorem mod_lt32 (a : Nat) : a % 4294967296 < 4294967296 := Nat.mod_lt _ (by decide)

set_option maxRecDepth 100000 in
set_option maxHeartbeats 2400000 in
theorem quarter_same (a b c d : Nat) (w : World) (hb : b < 4294967296) (hd : d < 4294967296) :
    Calls Tryd.prog 52 #[.int .u32 (a : Int), .int .u32 (b : Int), .int .u32 (c : Int), .int .u32 (d : Int)] w fun e w' => e = .returned (.tuple #[.int .u32 ((quarterN a b c d).1 : Int), .int .u32 ((quarterN a b c d).2.1 : Int), .int .u32 ((quarterN a b c d).2.2.1 : Int), .int .u32 ((quarterN a b c d).2.2.2 : Int)]) ∧ w' = w := by
  simp only [quarterN]
  have s1 := u32_sum a b
  have m1 := u32_summ a b
  have l1 := mod_lt32 (a + b)
  generalize (a + b) % 4294967296 = a1 at s1 m1 l1 ⊢
  have x1 := u32_xor2 d a1 hd l1
  have lx1 := xor_lt32 hd l1
  generalize d ^^^ a1 = y1 at x1 lx1 ⊢
  have c1 := fun w => turned_by y1 16 16 w lx1 rfl
  have lt1 := turn_lt (m := 16) lx1 (by decide)
  generalize turnN y1 16 = d1 at c1 lt1 ⊢
  have s2 := u32_sum c d1
  have m2 := u32_summ c d1
  have l2 := mod_lt32 (c + d1)
  generalize (c + d1) % 4294967296 = c2 at s2 m2 l2 ⊢
  have x2 := u32_xor2 b c2 hb l2
  have lx2 := xor_lt32 hb l2
  generalize b ^^^ c2 = y2 at x2 lx2 ⊢
  have k2 := fun w => turned_by y2 12 12 w lx2 rfl
  have lt2 := turn_lt (m := 12) lx2 (by decide)
  generalize turnN y2 12 = b1 at k2 lt2 ⊢
  have s3 := u32_sum a1 b1
  have m3 := u32_summ a1 b1
  have l3 := mod_lt32 (a1 + b1)
  generalize (a1 + b1) % 4294967296 = a2 at s3 m3 l3 ⊢
  have x3 := u32_xor2 d1 a2 lt1 l3
  have lx3 := xor_lt32 lt1 l3
  generalize d1 ^^^ a2 = y3 at x3 lx3 ⊢
  have k3 := fun w => turned_by y3 8 8 w lx3 rfl
  have lt3 := turn_lt (m := 8) lx3 (by decide)
  generalize turnN y3 8 = d2 at k3 lt3 ⊢
  have s4 := u32_sum c2 d2
  have m4 := u32_summ c2 d2
  have l4 := mod_lt32 (c2 + d2)
  generalize (c2 + d2) % 4294967296 = c3 at s4 m4 l4 ⊢
  have x4 := u32_xor2 b1 c3 lt2 l4
  have lx4 := xor_lt32 lt2 l4
  generalize b1 ^^^ c3 = y4 at x4 lx4 ⊢
  have k4 := fun w => turned_by y4 7 7 w lx4 rfl
  generalize turnN y4 7 = b2 at k4 ⊢
  clear lt1 lt2 lt3 l1 l2 l3 l4 lx1 lx2 lx3 lx4 hb hd
  go_enter Tryd.func52, Tryd.ntmps52
  go_wp2_with (fail)
  refine (c1 _).mono ?_
  rintro e w1 ⟨rfl, rfl⟩
  go_wp2_with (fail)
  refine (k2 _).mono ?_
  rintro e w1 ⟨rfl, rfl⟩
  go_wp2_with (fail)
  refine (k3 _).mono ?_
  rintro e w1 ⟨rfl, rfl⟩
  go_wp2_with (fail)
  refine (k4 _).mono ?_
  rintro e w1 ⟨rfl, rfl⟩
  go_wp2
  (try simp only [Exit.inBlock, Exit.then])
  refine bodyPost_ret (v := .tuple #[.int .u32 (a2 : Int), .int .u32 (b2 : Int), .int .u32 (c3 : Int), .int .u32 (d2 : Int)]) ?_ rfl ⟨rfl, rfl⟩
  simp [results, asAddr]

end Go.Proofs.YtcmbglelllcbdalDoor
