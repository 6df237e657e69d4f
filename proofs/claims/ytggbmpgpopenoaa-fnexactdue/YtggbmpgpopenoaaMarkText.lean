/-
  The laws' own mark as a text. Condition: a number above 0 that is not great.
-/
import Derived.Test.YtggbmpgpopenoaaItemsEq
namespace Go.Proofs.Ytggbmpgpopenoaa
open Go.RowKit
set_option maxRecDepth 100000

/-- The digits of a number, ahead of a text. -/
def mtD (k : Nat) (out : ByteArray) : ByteArray := if _h : k = 0 then out else mtD (k / 10) (strOfNums [((48 + k % 10 : Nat) : Int)] ++ out)
termination_by k
decreasing_by omega
def mtS (k : Nat) : ByteArray := ({ data := #[109] } : ByteArray) ++ mtD k { data := #[] }
theorem mtD_zero (out : ByteArray) : mtD 0 out = out := by rw [mtD]; simp
theorem mtD_pos (k : Nat) (out : ByteArray) (h : 0 < k) : mtD k out = mtD (k / 10) (strOfNums [((48 + k % 10 : Nat) : Int)] ++ out) := by
  rw [mtD, dif_neg (by omega)]

set_option maxHeartbeats 4000000 in
theorem markText_any (K : Nat) (w : World) (h0 : 0 < K) (h1 : K ≤ 100000000) :
    Calls Try.prog 65 #[.int .i64 (K : Int)] w fun e w' => e = .returned (.string (mtS K)) ∧ Below w.heap.size w w' := by
  obtain ⟨T, hT⟩ : ∃ T, T = mtD K { data := #[] } := ⟨_, rfl⟩
  have hS : Hid (mtS K = ({ data := #[109] } : ByteArray) ++ T) := by rw [Hid, hT]; rfl
  replace hT : Hid (T = mtD K { data := #[] }) := hT
  go_enter Try.func65, Try.ntmps65
  go_wp2_with (fail)
  go_loopw [0, 3] (fun i a wr => ∃ (k : Nat) (out : ByteArray), i = .int .i64 k ∧ a = .string out ∧ Hid (mtD k out = T ∧ k * 10 ^ out.size ≤ K) ∧ out.size ≤ 9 ∧ k ≤ K ∧ Below w.heap.size w wr) (fun i _ _ => (intOf i).toNat)
  case atStart => exact ⟨K, _, rfl, rfl, ⟨hT.out.symm, Nat.le_of_eq (Nat.mul_one K)⟩, Nat.zero_le _, Nat.le_refl _, Below.refl _ _⟩
  case round =>
    obtain ⟨k, out, rfl, rfl, hm, hsz, hkK, hbel⟩ := hrel
    by_cases hk : k = 0
    · subst hk
      have e : out = T := by have := hm.out.1; rwa [mtD_zero] at this
      subst e
      clear hm hT
      go_wp2_with (fail)
      go_ret
      exact ⟨by rw [hS.out]; rfl, hbel⟩
    · have hpos : (0 : Int) < (k : Int) := by omega
      have h8 : out.size ≤ 8 := by
        rcases Nat.lt_or_ge out.size 9 with h | h
        · omega
        · have h2 := hm.out.2
          have h3 : 10 ^ 9 ≤ 10 ^ out.size := Nat.pow_le_pow_right (by decide) h
          have h4 : 1 * 10 ^ out.size ≤ k * 10 ^ out.size := Nat.mul_le_mul_right _ (by omega)
          omega
      have e48 : ((48 + k % 10 : Nat) : Int) = 48 + (k : Int) % 10 := by omega
      obtain ⟨u, hu⟩ : ∃ u : Int, u = 48 + (k : Int) % 10 := ⟨_, rfl⟩
      obtain ⟨w1, hw1⟩ : ∃ w1, w1 = wr.alloc (.cells #[.int .u8 (48 + (k : Int) % 10)] 5) := ⟨_, rfl⟩
      have b1 : Below wr.heap.size wr w1 := by rw [hw1]; exact made_below _ _ (Below.refl _ _)
      have C1 : Cells w1 wr.heap.size #[.int .u8 u] := by rw [hw1, hu]; exact Cells.made _ _ _
      have hcv := text_of (P := Try.prog) (w := w1) (p := some ⟨wr.heap.size, 0, none⟩) (n := 1) (xs := [u]) (fun _ => ⟨wr.heap.size, 0, rfl, fun i hi => by obtain rfl : i = 0 := by omega
                                                                                                                                                             exact (C1.2 0).1⟩) rfl 1 22 5 9 Try.underlying22 Try.underlying5 Try.underlying9
      obtain ⟨S1, hS1⟩ : ∃ S1, S1 = strOfNums [u] := ⟨_, rfl⟩
      have hs1 : S1.size = 1 := by rw [hS1]; rfl
      rw [← hS1] at hcv
      have hnew : Hid (mtD (k / 10) (S1 ++ out) = T ∧ (k / 10) * 10 ^ (S1 ++ out).size ≤ K) := by
        have h1 := hm.out.1
        rw [mtD_pos k out (by omega), e48, ← hu, ← hS1] at h1
        refine ⟨h1, ?_⟩
        have h2 := hm.out.2
        rw [ByteArray.size_append, hs1, Nat.add_comm 1, Nat.pow_succ, ← Nat.mul_assoc, Nat.mul_right_comm]
        exact Nat.le_trans (Nat.mul_le_mul_right _ (Nat.div_mul_le_self k 10)) h2
      have hsz2 : (S1 ++ out).size ≤ 9 := by rw [ByteArray.size_append, hs1]; omega
      have hbel1 := below_on hbel b1
      obtain ⟨k2, hk2⟩ : ∃ k2, k2 = k / 10 := ⟨_, rfl⟩
      rw [← hk2] at hnew
      have hk10 : (k : Int) / 10 = (k2 : Int) := by omega
      have hk11 : Int.tdiv (k : Int) 10 = (k2 : Int) := by rw [Int.tdiv_eq_ediv_of_nonneg (by omega)]; exact hk10
      have hk2l : k2 < k := by omega
      have hk2K : k2 ≤ K := by omega
      replace hw1 : Hid (wr.alloc (.cells #[.int .u8 (48 + (k : Int) % 10)] 5) = w1) := hw1.symm
      clear hS1 hm e48 hu C1 b1 hbel hT hk2
      go_wp2_with (rw [hw1.out])
      go_roundw
      case rel => exact ⟨k2, _, rfl, rfl, hnew, hsz2, hk2K, hbel1⟩
      case measure => simp [intOf]; omega

end Go.Proofs.Ytggbmpgpopenoaa
