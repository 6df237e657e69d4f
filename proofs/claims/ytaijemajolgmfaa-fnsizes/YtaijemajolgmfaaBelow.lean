/-
  What l1Below answers for a number that may be great.
-/
import Derived.Test.YtaijemajolgmfaaDraws
namespace Go.Proofs.Ytaijemajolgmfaa
open Go.RowKit

set_option maxHeartbeats 2000000 in
theorem l1BelowG_any (a : Nat) (p : Option Addr) (n c : Nat) (xs : List Int) (m : Int) (w : World) (hm : 1 ≤ m) (hm2 : m ≤ 1099511627776) (hcur : Cur w a p n c xs) :
    Calls Try.prog 36 #[.pointer (some ⟨a, 0, none⟩), .int .i64 m] w fun e w' => ∃ x : Int, e = .returned (.int .i64 x) ∧ 0 ≤ x ∧ x < m ∧ Cur w' a p n c xs ∧ w.grownBy w' (some a) := by
  by_cases h : m ≤ 256
  · exact l1Below_any a p n c xs m w hm h hcur
  · have c1 : ¬ m ≤ 0 := by omega
    go_enter Try.func36, Try.ntmps36
    go_wp2_with (fail)
    refine (l1Byte_any a p n c xs _ hcur).mono ?_
    rintro e w1 ⟨x, rfl, hx0, hx1, hc1, g1⟩
    go_wp2_with (fail)
    refine (l1Byte_any a p n c xs _ hc1).mono ?_
    rintro e w2 ⟨y, rfl, hy0, hy1, hc2, g2⟩
    go_wp2_with (fail)
    refine (l1Byte_any a p n c xs _ hc2).mono ?_
    rintro e w3 ⟨z, rfl, hz0, hz1, hc3, g3⟩
    go_wp2_with (fail)
    refine (l1Byte_any a p n c xs _ hc3).mono ?_
    rintro e w4 ⟨t, rfl, ht0, ht1, hc4, g4⟩
    have hz : (m == 0) = false := by simp; omega
    obtain ⟨x1, ex1⟩ : ∃ x1, x * 16777216 = x1 := ⟨_, rfl⟩
    obtain ⟨y1, ey1⟩ : ∃ y1, y * 65536 = y1 := ⟨_, rfl⟩
    obtain ⟨z1, ez1⟩ : ∃ z1, z * 256 = z1 := ⟨_, rfl⟩
    obtain ⟨s1, es1⟩ : ∃ s1, x1 + y1 = s1 := ⟨_, rfl⟩
    obtain ⟨s2, es2⟩ : ∃ s2, s1 + z1 = s2 := ⟨_, rfl⟩
    obtain ⟨s3, es3⟩ : ∃ s3, s2 + t = s3 := ⟨_, rfl⟩
    have l1 : 0 ≤ x1 ∧ x1 < 4294967296 := by omega
    have l2 : 0 ≤ y1 ∧ y1 < 4294967296 := by omega
    have l3 : 0 ≤ z1 ∧ z1 < 4294967296 := by omega
    have l4 : 0 ≤ s1 ∧ s1 < 8589934592 := by omega
    have l5 : 0 ≤ s2 ∧ s2 < 17179869184 := by omega
    have l6 : 0 ≤ s3 ∧ s3 < 34359738368 := by omega
    go_wp2_with (fail)
    go_ret
    exact ⟨_, rfl, Int.emod_nonneg _ (by omega), Int.emod_lt_of_pos _ (by omega), hc4, grown_trans (grown_trans (grown_trans g1 g2) g3) g4⟩

end Go.Proofs.Ytaijemajolgmfaa
