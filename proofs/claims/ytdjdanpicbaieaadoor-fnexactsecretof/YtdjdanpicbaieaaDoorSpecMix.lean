/-
  What the specification's Turn and l3Mix answer at a word, in each of the four ways in which they are called: they only read; condition: a word.
-/
import Derived.Test.YtdjdanpicbaieaaDoorTurn
import Derived.Test.YtdjdanpicbaieaaDoorHashMath
namespace Go.Proofs.YtdjdanpicbaieaaDoor
open Go.RowKit

theorem specTurn_drew (x : Nat) (k : Int) (m : Nat) (w : World) (hx : x < 4294967296) (hm0 : countN k = m) :
    Calls Tryd.prog 117 #[.int .i64 x, .int .i64 k] w fun e w' => e = .returned (.int .i64 ((turnN x m : Nat) : Int)) ∧ ∃ n, w' = w.drewN n := by
  have he : (x : Int) % 4294967296 = (x : Int) := by omega
  have hm := (i64_mask31 k).trans (countN_eq k).symm
  have hlt := countN_lt k
  subst hm0
  generalize countN k = m at hm hlt ⊢
  have ho := turn_i64 hx hlt
  have hs := shl_small hx hlt
  generalize turnN x m = r at ho ⊢
  have c1 := fun w => specWord_same (x : Int) w
  rw [he] at c1
  clear he
  go_enter Tryd.func117, Tryd.ntmps117
  go_wp2_with (fail)
  refine (c1 _).mono ?_
  rintro e w1 ⟨rfl, rfl⟩
  clear c1
  go_wp2_with (fail)
  go_quiet ((go_at_call 98; exact Calls.quiet_of_same (specWord_same _ _)))
  go_wp2
  go_ret
  rw [ho]
  exact ⟨rfl, _, rfl⟩

theorem l3Mix_s1 (x : Nat) (w : World) (hx : x < 4294967296) :
    Calls Tryd.prog 99 #[.int .i64 x, .int .i64 17, .int .i64 19, .int .i64 10, .bool true] w fun e w' => e = .returned (.int .i64 ((smallN x 17 19 10 : Nat) : Int)) ∧ ∃ n, w' = w.drewN n := by
  have c0 := fun w => specTurn_drew x 22 22 w hx rfl
  have c1 := fun w => specTurn_drew x 15 15 w hx rfl
  have c2 := fun w => specTurn_drew x 13 13 w hx rfl
  have l0 := turn_lt (m := 22) hx (by decide)
  have l1 := turn_lt (m := 15) hx (by decide)
  have l2 := turn_lt (m := 13) hx (by decide)
  simp only [smallN, Nat.reduceSub, Nat.reducePow]
  generalize turnN x 22 = r0 at c0 l0
  generalize turnN x 15 = r1 at c1 l1 ⊢
  generalize turnN x 13 = r2 at c2 l2 ⊢
  have ho := i64_xor3 r1 r2 (x / 1024) l1 l2 (by omega)
  simp only [Int.natCast_ediv, Int.cast_ofNat_Int] at ho
  have he : (x : Int) % 4294967296 = (x : Int) := by omega
  have cw := fun w => specWord_same (x : Int) w
  rw [he] at cw
  clear he
  go_enter Tryd.func99, Tryd.ntmps99
  go_wp2_with (fail)
  refine (c0 _).mono ?_
  rintro e w1 ⟨rfl, n1, rfl⟩
  go_wp2_with (fail)
  refine (cw _).mono ?_
  rintro e w1 ⟨rfl, rfl⟩
  go_wp2_with (fail)
  refine (c1 _).mono ?_
  rintro e w1 ⟨rfl, n2, rfl⟩
  go_wp2_with (fail)
  refine (c2 _).mono ?_
  rintro e w1 ⟨rfl, n3, rfl⟩
  go_wp2
  go_ret
  exact ⟨rfl, _, rfl⟩

theorem l3Mix_s0 (x : Nat) (w : World) (hx : x < 4294967296) :
    Calls Tryd.prog 99 #[.int .i64 x, .int .i64 7, .int .i64 18, .int .i64 3, .bool true] w fun e w' => e = .returned (.int .i64 ((smallN x 7 18 3 : Nat) : Int)) ∧ ∃ n, w' = w.drewN n := by
  have c0 := fun w => specTurn_drew x 29 29 w hx rfl
  have c1 := fun w => specTurn_drew x 25 25 w hx rfl
  have c2 := fun w => specTurn_drew x 14 14 w hx rfl
  have l0 := turn_lt (m := 29) hx (by decide)
  have l1 := turn_lt (m := 25) hx (by decide)
  have l2 := turn_lt (m := 14) hx (by decide)
  simp only [smallN, Nat.reduceSub, Nat.reducePow]
  generalize turnN x 29 = r0 at c0 l0
  generalize turnN x 25 = r1 at c1 l1 ⊢
  generalize turnN x 14 = r2 at c2 l2 ⊢
  have ho := i64_xor3 r1 r2 (x / 8) l1 l2 (by omega)
  simp only [Int.natCast_ediv, Int.cast_ofNat_Int] at ho
  have he : (x : Int) % 4294967296 = (x : Int) := by omega
  have cw := fun w => specWord_same (x : Int) w
  rw [he] at cw
  clear he
  go_enter Tryd.func99, Tryd.ntmps99
  go_wp2_with (fail)
  refine (c0 _).mono ?_
  rintro e w1 ⟨rfl, n1, rfl⟩
  go_wp2_with (fail)
  refine (cw _).mono ?_
  rintro e w1 ⟨rfl, rfl⟩
  go_wp2_with (fail)
  refine (c1 _).mono ?_
  rintro e w1 ⟨rfl, n2, rfl⟩
  go_wp2_with (fail)
  refine (c2 _).mono ?_
  rintro e w1 ⟨rfl, n3, rfl⟩
  go_wp2
  go_ret
  exact ⟨rfl, _, rfl⟩

theorem l3Mix_S1 (x : Nat) (w : World) (hx : x < 4294967296) :
    Calls Tryd.prog 99 #[.int .i64 x, .int .i64 6, .int .i64 11, .int .i64 25, .bool false] w fun e w' => e = .returned (.int .i64 ((greatN x 6 11 25 : Nat) : Int)) ∧ ∃ n, w' = w.drewN n := by
  have c0 := fun w => specTurn_drew x 7 7 w hx rfl
  have c1 := fun w => specTurn_drew x 26 26 w hx rfl
  have c2 := fun w => specTurn_drew x 21 21 w hx rfl
  have l0 := turn_lt (m := 7) hx (by decide)
  have l1 := turn_lt (m := 26) hx (by decide)
  have l2 := turn_lt (m := 21) hx (by decide)
  simp only [greatN, Nat.reduceSub]
  generalize turnN x 7 = r0 at c0 l0 ⊢
  generalize turnN x 26 = r1 at c1 l1 ⊢
  generalize turnN x 21 = r2 at c2 l2 ⊢
  have ho := i64_xor3 r1 r2 r0 l1 l2 l0
  go_enter Tryd.func99, Tryd.ntmps99
  go_wp2_with (fail)
  refine (c0 _).mono ?_
  rintro e w1 ⟨rfl, n1, rfl⟩
  go_wp2_with (fail)
  refine (c1 _).mono ?_
  rintro e w1 ⟨rfl, n2, rfl⟩
  go_wp2_with (fail)
  refine (c2 _).mono ?_
  rintro e w1 ⟨rfl, n3, rfl⟩
  go_wp2
  go_ret
  exact ⟨rfl, _, rfl⟩

theorem l3Mix_S0 (x : Nat) (w : World) (hx : x < 4294967296) :
    Calls Tryd.prog 99 #[.int .i64 x, .int .i64 2, .int .i64 13, .int .i64 22, .bool false] w fun e w' => e = .returned (.int .i64 ((greatN x 2 13 22 : Nat) : Int)) ∧ ∃ n, w' = w.drewN n := by
  have c0 := fun w => specTurn_drew x 10 10 w hx rfl
  have c1 := fun w => specTurn_drew x 30 30 w hx rfl
  have c2 := fun w => specTurn_drew x 19 19 w hx rfl
  have l0 := turn_lt (m := 10) hx (by decide)
  have l1 := turn_lt (m := 30) hx (by decide)
  have l2 := turn_lt (m := 19) hx (by decide)
  simp only [greatN, Nat.reduceSub]
  generalize turnN x 10 = r0 at c0 l0 ⊢
  generalize turnN x 30 = r1 at c1 l1 ⊢
  generalize turnN x 19 = r2 at c2 l2 ⊢
  have ho := i64_xor3 r1 r2 r0 l1 l2 l0
  go_enter Tryd.func99, Tryd.ntmps99
  go_wp2_with (fail)
  refine (c0 _).mono ?_
  rintro e w1 ⟨rfl, n1, rfl⟩
  go_wp2_with (fail)
  refine (c1 _).mono ?_
  rintro e w1 ⟨rfl, n2, rfl⟩
  go_wp2_with (fail)
  refine (c2 _).mono ?_
  rintro e w1 ⟨rfl, n3, rfl⟩
  go_wp2
  go_ret
  exact ⟨rfl, _, rfl⟩

end Go.Proofs.YtdjdanpicbaieaaDoor
