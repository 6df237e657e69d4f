/-
  Bits of a key and of a point that do not count; what is clamped twice. Plain laws.
-/
import Derived.Test.YtghoibggmddkmacPointI
import Derived.Test.YtghoibggmddkmacImplOf
namespace Go.Proofs.Ytghoibggmddkmac
open Go.RowKit

theorem clamp_again {ks : List Int} (h : ks.length = 32) : clampL (clampL ks) = clampL ks := by
  unfold clampL
  have h0 : ((ks.set 0 (ks.getD 0 0 / 8 * 8)).set 31 (ks.getD 31 0 % 64 + 64)).getD 0 0 = ks.getD 0 0 / 8 * 8 := by
    rw [List.getD_eq_getElem?_getD, List.getElem?_set_ne (by decide), List.getElem?_set_self (by omega)]; rfl
  have h31 : ((ks.set 0 (ks.getD 0 0 / 8 * 8)).set 31 (ks.getD 31 0 % 64 + 64)).getD 31 0 = ks.getD 31 0 % 64 + 64 := by
    rw [List.getD_eq_getElem?_getD, List.getElem?_set_self (by simp [h])]; rfl
  rw [h0, h31]
  have e1 : ks.getD 0 0 / 8 * 8 / 8 * 8 = ks.getD 0 0 / 8 * 8 := by omega
  have e2 : (ks.getD 31 0 % 64 + 64) % 64 + 64 = ks.getD 31 0 % 64 + 64 := by omega
  rw [e1, e2]
  apply List.ext_getElem?
  intro j
  by_cases hj : j = 31
  · subst hj
    rw [List.getElem?_set_self (by simp [h]), List.getElem?_set_self (by simp [h])]
  · rw [List.getElem?_set_ne (Ne.symm hj)]
    by_cases hj0 : j = 0
    · subst hj0
      rw [List.getElem?_set_self (by simp [h]), List.getElem?_set_ne (by decide), List.getElem?_set_self (by omega)]
    · rw [List.getElem?_set_ne (Ne.symm hj0)]
theorem clampR_again {ks : List Int} {n : Nat} (h : ks.length = n) : clampR (clampR ks n) (oneN n) = clampR ks n := by
  unfold clampR oneN
  by_cases hn : n = 32
  · rw [if_pos hn, if_pos hn, if_pos rfl]
    exact clamp_again (by omega)
  · rw [if_neg hn, if_neg hn, if_neg (by decide)]
theorem oneN_twice (k : Nat) : oneN (oneN k) = oneN k := by unfold oneN; split <;> rfl
theorem xor128 {x : Int} (h0 : 0 ≤ x) (h1 : x < 256) : bits .xor .u8 x 128 % 128 = x % 128 := byte_all (f := fun x => bits .xor .u8 x 128 % 128) (g := fun x => x % 128) (by kernel_rfl) h0 h1
theorem xor128_byte {x : Int} (h0 : 0 ≤ x) (h1 : x < 256) : 0 ≤ bits .xor .u8 x 128 ∧ bits .xor .u8 x 128 < 256 := by
  have h := byte_all (f := fun x => if 0 ≤ bits .xor .u8 x 128 ∧ bits .xor .u8 x 128 < 256 then 1 else 0) (g := fun _ => 1) (by kernel_rfl) h0 h1
  by_cases k : 0 ≤ bits .xor .u8 x 128 ∧ bits .xor .u8 x 128 < 256
  · exact k
  · simp only [if_neg k] at h
    exact absurd h (by decide)
/-- The highest bit of a point does not count. -/
theorem numF_top {us : List Int} (hl : us.length = 32) {v : Int} (hv : v % 128 = us.getD 31 0 % 128) : numF (us.set 31 v) = numF us := by
  unfold numF
  apply valZ_congr
  intro i hi
  have hp : ∀ j, j ≠ 31 → (us.set 31 v).getD j 0 = us.getD j 0 := fun j hj => by rw [List.getD_eq_getElem?_getD, List.getElem?_set_ne (Ne.symm hj), ← List.getD_eq_getElem?_getD]
  have h31 : (us.set 31 v).getD 31 0 = v := by rw [List.getD_eq_getElem?_getD, List.getElem?_set_self (by omega)]; rfl
  unfold ofZ
  by_cases h15 : i = 15
  · rw [if_pos h15, if_pos h15]
    unfold pairZ
    rw [hp (2 * 15) (by decide), show 2 * 15 + 1 = 31 from rfl, h31]
    omega
  · rw [if_neg h15, if_neg h15]
    unfold pairZ
    rw [hp (2 * i) (by omega), hp (2 * i + 1) (by omega)]
theorem ptZ_free {ks us : List Int} (hk : ks.length = 32) (hl : us.length = 32) {v : Int} (hv : v % 128 = us.getD 31 0 % 128) : ptZ (clampL ks) (us.set 31 v) = ptZ ks us := by
  unfold ptZ
  rw [clamp_again hk, numF_top hl hv]

end Go.Proofs.Ytghoibggmddkmac
