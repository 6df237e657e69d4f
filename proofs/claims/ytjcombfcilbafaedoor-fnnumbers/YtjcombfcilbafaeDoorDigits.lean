/-
  What spec.Digits answers at every int: its decimal numeral; no condition.
-/
import Derived.Test.YtjcombfcilbafaeDoorInfo
import Derived.Lib.ItoaNum
import Derived.Lib.ItoaMem
namespace Go.Proofs.YtjcombfcilbafaeDoor
open Go.RowKit

theorem conv1 (w : World) (X : Int) : (convert 22 9 (.slice (some ⟨w.heap.size, 0, none⟩) 1 1)).run Tryd.prog (w.alloc (.cells #[.int .u8 X] 5)) = .ok (.string (strOfNums [X])) (w.alloc (.cells #[.int .u8 X] 5)) := by
  refine text_of (xs := [X]) (fun _ => ⟨w.heap.size, 0, rfl, fun i hi => ?_⟩) rfl 1 22 5 9 Tryd.underlying22 Tryd.underlying5 Tryd.underlying9
  obtain rfl : i = 0 := by simp at hi; omega
  rw [cell_of_row _ _ _ _ _ _ (heap_alloc_new w _)]
  rfl
theorem size1 (X : Int) : (strOfNums [X]).size = 1 := strOfNums_size [X]

theorem str_eq {O : ByteArray} {l : List UInt8} (h : O.data.toList = l) : O = ⟨l.toArray⟩ := by
  cases O; subst h; simp
theorem pow_step {u v k : Nat} (h : v * 10 ^ k ≤ u) : v / 10 * 10 ^ (k + 1) ≤ u := by
  refine Nat.le_trans ?_ h
  rw [Nat.pow_succ, Nat.mul_comm (10 ^ k) 10, ← Nat.mul_assoc]
  exact Nat.mul_le_mul_right _ (by omega)
theorem pow_less {u v k : Nat} (h : v * 10 ^ k ≤ u) (hk : k ≤ 20) (hv : v ≠ 0) (hu : u < 10 ^ 20) : k < 20 := by
  rcases Nat.lt_or_ge k 20 with h' | h'
  · exact h'
  · exfalso
    obtain rfl : k = 20 := by omega
    have : v * 10 ^ 20 ≥ 1 * 10 ^ 20 := Nat.mul_le_mul_right _ (by omega)
    omega

theorem told_data (X : Int) (O : ByteArray) : (strOfNums [X] ++ O).data.toList = UInt8.ofNat X.toNat :: O.data.toList := by
  simp [strOfNums]

theorem told_step {u v : Nat} {l : List UInt8} (h : (if v = 0 then l else Lib.decDigits v ++ l) = Lib.decDigits u) (hv : v ≠ 0) :
    (if v / 10 = 0 then UInt8.ofNat (48 + v % 10) :: l else Lib.decDigits (v / 10) ++ (UInt8.ofNat (48 + v % 10) :: l)) = Lib.decDigits u := by
  rw [if_neg hv] at h
  rw [← h]
  by_cases h10 : v < 10
  · rw [if_pos (by omega), Lib.decDigits, dif_pos h10, show v % 10 = v by omega]
    rfl
  · rw [if_neg (by omega)]
    conv => rhs; rw [Lib.decDigits, dif_neg h10]
    simp

set_option maxHeartbeats 2000000 in
theorem specDigits_pos (u : Nat) (w : World) (h1 : 1 ≤ u) (h2 : u ≤ 9223372036854775807) :
    Calls Tryd.prog 12 #[.int .i64 u] w fun e w' => e = .returned (.string ⟨(Lib.decDigits u).toArray⟩) ∧ Below w.heap.size w w' := by
  have c0 : ((u : Int) == 0) = false := by simp; omega
  have c1 : ¬ (u : Int) < 0 := by omega
  go_enter Tryd.func12, Tryd.ntmps12
  go_wp2
  go_loopw [0, 4] (fun q t wr => ∃ (v k : Nat) (O : ByteArray), v ≤ u ∧ q = .int .i64 v ∧ t = .string O ∧ O.size ≤ k ∧ v * 10 ^ k ≤ u ∧ k ≤ 20 ∧ Hid ((if v = 0 then O.data.toList else Lib.decDigits v ++ O.data.toList) = Lib.decDigits u) ∧ Below w.heap.size w wr)
    (fun q _ _ => (intOf q).toNat)
  case atStart => exact ⟨u, 0, ByteArray.empty, Nat.le_refl _, rfl, rfl, by decide, by omega, by omega, by rw [if_neg (by omega)]; simp [Hid], Below.refl _ _⟩
  case round =>
    obtain ⟨v, k, O, hv, rfl, rfl, hO, hvk, hk, htold, hbel⟩ := hrel
    have hsz := hbel.size
    by_cases hz : v = 0
    · subst hz
      have d0 : (((0 : Nat) : Int) != 0) = false := by simp
      have hO2 : Hid (O = ⟨(Lib.decDigits u).toArray⟩) := str_eq (by have := htold.out; simpa using this)
      clear htold
      go_wp2
      go_ret
      rw [hO2.out]
      exact ⟨rfl, hbel⟩
    · have d0 : ((v : Int) != 0) = true := by simp; omega
      have g := fun X => conv1 wr X
      have hs1 := size1
      have hk19 := pow_less hvk hk hz (by omega)
      have hnext : Hid ((if v / 10 = 0 then (strOfNums [48 + (v : Int) % 10] ++ O).data.toList else Lib.decDigits (v / 10) ++ (strOfNums [48 + (v : Int) % 10] ++ O).data.toList) = Lib.decDigits u) := by
        have := told_step htold.out hz
        rw [told_data, show (48 + (v : Int) % 10).toNat = 48 + v % 10 by omega]
        exact this
      have hsize : (strOfNums [48 + (v : Int) % 10] ++ O).size ≤ k + 1 := by rw [ByteArray.size_append, size1]; omega
      have hpow := pow_step hvk
      clear htold hvk
      go_wp2
      go_roundw
      case rel => exact ⟨v / 10, k + 1, _, by omega, by go_num, rfl, hsize, hpow, by omega, hnext, hbel.alloc hsz _⟩
      case measure => simp [intOf]; omega

set_option maxHeartbeats 2000000 in
theorem specDigits_neg (u : Nat) (w : World) (h1 : 1 ≤ u) (h2 : u ≤ 9223372036854775808) :
    Calls Tryd.prog 12 #[.int .i64 (-(u : Int))] w fun e w' => e = .returned (.string ⟨(45 :: Lib.decDigits u).toArray⟩) ∧ Below w.heap.size w w' := by
  have c0 : (-(u : Int) == 0) = false := by simp; omega
  have c1 : -(u : Int) < 0 := by omega
  go_enter Tryd.func12, Tryd.ntmps12
  go_wp2
  go_loopw [0, 4] (fun q t wr => ∃ (v k : Nat) (O : ByteArray), v ≤ u ∧ q = .int .i64 (-(v : Int)) ∧ t = .string O ∧ O.size ≤ k ∧ v * 10 ^ k ≤ u ∧ k ≤ 20 ∧ Hid ((if v = 0 then O.data.toList else Lib.decDigits v ++ O.data.toList) = Lib.decDigits u) ∧ Below w.heap.size w wr)
    (fun q _ _ => (-(intOf q)).toNat)
  case atStart => exact ⟨u, 0, ByteArray.empty, Nat.le_refl _, rfl, rfl, by decide, by omega, by omega, by rw [if_neg (by omega)]; simp [Hid], Below.refl _ _⟩
  case round =>
    obtain ⟨v, k, O, hv, rfl, rfl, hO, hvk, hk, htold, hbel⟩ := hrel
    have hsz := hbel.size
    by_cases hz : v = 0
    · subst hz
      have d0 : (-((0 : Nat) : Int) != 0) = false := by simp
      have hO2 : Hid (O = ⟨(Lib.decDigits u).toArray⟩) := str_eq (by have := htold.out; simpa using this)
      clear htold
      go_wp2
      go_ret
      rw [hO2.out]
      refine ⟨?_, hbel⟩
      congr 2
    · have d0 : (-(v : Int) != 0) = true := by simp; omega
      have g := fun X => conv1 wr X
      have hs1 := size1
      have hk19 := pow_less hvk hk hz (by omega)
      have hnext : Hid ((if v / 10 = 0 then (strOfNums [48 + (v : Int) % 10] ++ O).data.toList else Lib.decDigits (v / 10) ++ (strOfNums [48 + (v : Int) % 10] ++ O).data.toList) = Lib.decDigits u) := by
        have := told_step htold.out hz
        rw [told_data, show (48 + (v : Int) % 10).toNat = 48 + v % 10 by omega]
        exact this
      have hsize : (strOfNums [48 + (v : Int) % 10] ++ O).size ≤ k + 1 := by rw [ByteArray.size_append, size1]; omega
      have hpow := pow_step hvk
      clear htold hvk
      by_cases hd : v % 10 = 0
      · have hm : (v : Int) % 10 = 0 := by omega
        rw [hm] at hnext hsize
        go_wp2
        go_roundw
        case rel => exact ⟨v / 10, k + 1, _, by omega, by go_num, rfl, hsize, hpow, by omega, hnext, hbel.alloc hsz _⟩
        case measure => simp [intOf]; omega
      · go_wp2
        go_roundw
        case rel => exact ⟨v / 10, k + 1, _, by omega, by go_num, rfl, hsize, hpow, by omega, hnext, hbel.alloc hsz _⟩
        case measure => simp [intOf]; omega

theorem specDigits_zero (w : World) : Calls Tryd.prog 12 #[.int .i64 0] w fun e w' => e = .returned (.string ⟨(Lib.decDigits 0).toArray⟩) ∧ Below w.heap.size w w' := by
  go_enter Tryd.func12, Tryd.ntmps12
  go_wp2
  go_ret
  refine ⟨?_, Below.refl _ _⟩
  rw [Lib.decDigits, dif_pos (by omega)]
  rfl

theorem specDigits_any (n : Int) (w : World) (h0 : -9223372036854775808 ≤ n) (h1 : n ≤ 9223372036854775807) :
    Calls Tryd.prog 12 #[.int .i64 n] w fun e w' => e = .returned (.string ⟨(Lib.itoa n).toArray⟩) ∧ Below w.heap.size w w' := by
  by_cases hneg : n < 0
  · obtain ⟨u, rfl⟩ : ∃ u : Nat, n = -(u : Int) := ⟨n.natAbs, by omega⟩
    rw [Lib.itoa_neg u (by omega)]
    exact specDigits_neg u w (by omega) (by omega)
  · obtain ⟨u, rfl⟩ : ∃ u : Nat, n = u := ⟨n.toNat, by omega⟩
    rw [Lib.itoa_nonneg]
    by_cases hz : u = 0
    · subst hz
      exact specDigits_zero w
    · exact specDigits_pos u w (by omega) (by omega)

end Go.Proofs.YtjcombfcilbafaeDoor
