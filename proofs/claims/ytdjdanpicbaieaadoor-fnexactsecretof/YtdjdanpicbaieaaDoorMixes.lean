/-
  What the mixes, the choice and the majority of words answer, and the specification's l3Mix; condition: words.
-/
import Derived.Test.YtdjdanpicbaieaaDoorTurn
import Derived.Test.YtdjdanpicbaieaaDoorHashMath
namespace Go.Proofs.YtdjdanpicbaieaaDoor
open Go.RowKit

theorem turned_right (x : Nat) (k : Int) (m : Nat) (w : World) (hx : x < 4294967296) (hm : countN k = m) :
    Calls Tryd.prog 129 #[.int .u32 x, .int .i64 k] w fun e w' => e = .returned (.int .u32 ((turnN x m : Nat) : Int)) ∧ w' = w := by
  subst hm
  exact turned_same x k w hx

theorem greatMix1_same (x : Nat) (w : World) (hx : x < 4294967296) :
    Calls Tryd.prog 121 #[.int .u32 x] w fun e w' => e = .returned (.int .u32 ((greatN x 6 11 25 : Nat) : Int)) ∧ w' = w := by
  have c1 := fun w => turned_right x (-6) 26 w hx rfl
  have c2 := fun w => turned_right x (-11) 21 w hx rfl
  have c3 := fun w => turned_right x (-25) 7 w hx rfl
  have l1 := turn_lt (m := 26) hx (by decide)
  have l2 := turn_lt (m := 21) hx (by decide)
  have l3 := turn_lt (m := 7) hx (by decide)
  simp only [greatN, Nat.reduceSub]
  generalize turnN x 26 = r1 at c1 l1 ⊢
  generalize turnN x 21 = r2 at c2 l2 ⊢
  generalize turnN x 7 = r3 at c3 l3 ⊢
  have ho := u32_xor3 r1 r2 r3 l1 l2 l3
  go_enter Tryd.func121, Tryd.ntmps121
  go_wp2_with (fail)
  refine (c1 _).mono ?_
  rintro e w1 ⟨rfl, rfl⟩
  go_wp2_with (fail)
  refine (c2 _).mono ?_
  rintro e w1 ⟨rfl, rfl⟩
  go_wp2_with (fail)
  refine (c3 _).mono ?_
  rintro e w1 ⟨rfl, rfl⟩
  go_wp2
  go_ret
  exact ⟨rfl, rfl⟩

theorem greatMix0_same (x : Nat) (w : World) (hx : x < 4294967296) :
    Calls Tryd.prog 123 #[.int .u32 x] w fun e w' => e = .returned (.int .u32 ((greatN x 2 13 22 : Nat) : Int)) ∧ w' = w := by
  have c1 := fun w => turned_right x (-2) 30 w hx rfl
  have c2 := fun w => turned_right x (-13) 19 w hx rfl
  have c3 := fun w => turned_right x (-22) 10 w hx rfl
  have l1 := turn_lt (m := 30) hx (by decide)
  have l2 := turn_lt (m := 19) hx (by decide)
  have l3 := turn_lt (m := 10) hx (by decide)
  simp only [greatN, Nat.reduceSub]
  generalize turnN x 30 = r1 at c1 l1 ⊢
  generalize turnN x 19 = r2 at c2 l2 ⊢
  generalize turnN x 10 = r3 at c3 l3 ⊢
  have ho := u32_xor3 r1 r2 r3 l1 l2 l3
  go_enter Tryd.func123, Tryd.ntmps123
  go_wp2_with (fail)
  refine (c1 _).mono ?_
  rintro e w1 ⟨rfl, rfl⟩
  go_wp2_with (fail)
  refine (c2 _).mono ?_
  rintro e w1 ⟨rfl, rfl⟩
  go_wp2_with (fail)
  refine (c3 _).mono ?_
  rintro e w1 ⟨rfl, rfl⟩
  go_wp2
  go_ret
  exact ⟨rfl, rfl⟩

theorem smallMix1_same (x : Nat) (w : World) (hx : x < 4294967296) :
    Calls Tryd.prog 119 #[.int .u32 x] w fun e w' => e = .returned (.int .u32 ((smallN x 17 19 10 : Nat) : Int)) ∧ w' = w := by
  have c1 := fun w => turned_right x (-17) 15 w hx rfl
  have c2 := fun w => turned_right x (-19) 13 w hx rfl
  have l1 := turn_lt (m := 15) hx (by decide)
  have l2 := turn_lt (m := 13) hx (by decide)
  simp only [smallN, Nat.reduceSub, Nat.reducePow]
  generalize turnN x 15 = r1 at c1 l1 ⊢
  generalize turnN x 13 = r2 at c2 l2 ⊢
  have ho := u32_xor3 r1 r2 (x / 1024) l1 l2 (by omega)
  simp only [Int.natCast_ediv, Int.cast_ofNat_Int] at ho
  go_enter Tryd.func119, Tryd.ntmps119
  go_wp2_with (fail)
  refine (c1 _).mono ?_
  rintro e w1 ⟨rfl, rfl⟩
  go_wp2_with (fail)
  refine (c2 _).mono ?_
  rintro e w1 ⟨rfl, rfl⟩
  go_wp2
  go_ret
  exact ⟨rfl, rfl⟩

theorem smallMix0_same (x : Nat) (w : World) (hx : x < 4294967296) :
    Calls Tryd.prog 120 #[.int .u32 x] w fun e w' => e = .returned (.int .u32 ((smallN x 7 18 3 : Nat) : Int)) ∧ w' = w := by
  have c1 := fun w => turned_right x (-7) 25 w hx rfl
  have c2 := fun w => turned_right x (-18) 14 w hx rfl
  have l1 := turn_lt (m := 25) hx (by decide)
  have l2 := turn_lt (m := 14) hx (by decide)
  simp only [smallN, Nat.reduceSub, Nat.reducePow]
  generalize turnN x 25 = r1 at c1 l1 ⊢
  generalize turnN x 14 = r2 at c2 l2 ⊢
  have ho := u32_xor3 r1 r2 (x / 8) l1 l2 (by omega)
  simp only [Int.natCast_ediv, Int.cast_ofNat_Int] at ho
  go_enter Tryd.func120, Tryd.ntmps120
  go_wp2_with (fail)
  refine (c1 _).mono ?_
  rintro e w1 ⟨rfl, rfl⟩
  go_wp2_with (fail)
  refine (c2 _).mono ?_
  rintro e w1 ⟨rfl, rfl⟩
  go_wp2
  go_ret
  exact ⟨rfl, rfl⟩

theorem majority_same (a b c : Nat) (w : World) (ha : a < 4294967296) (hb : b < 4294967296) (hc : c < 4294967296) :
    Calls Tryd.prog 124 #[.int .u32 a, .int .u32 b, .int .u32 c] w fun e w' => e = .returned (.int .u32 ((majN a b c : Nat) : Int)) ∧ w' = w := by
  have ho := u32_maj ha hb hc
  generalize majN a b c = r at ho ⊢
  go_enter Tryd.func124, Tryd.ntmps124
  go_wp2
  go_ret
  exact ⟨rfl, rfl⟩

theorem choice_same (a b c : Nat) (w : World) (ha : a < 4294967296) (hb : b < 4294967296) (hc : c < 4294967296) :
    Calls Tryd.prog 122 #[.int .u32 a, .int .u32 b, .int .u32 c] w fun e w' => e = .returned (.int .u32 ((chN a b c : Nat) : Int)) ∧ w' = w := by
  have ho := u32_ch ha hb hc
  generalize chN a b c = r at ho ⊢
  go_enter Tryd.func122, Tryd.ntmps122
  go_wp2
  go_ret
  exact ⟨rfl, rfl⟩

end Go.Proofs.YtdjdanpicbaieaaDoor
