/-
  FieldOf and FieldInv at 32 bytes, by numbers; what the laws of the field ask of numbers. Conditions: bytes.
-/
import Derived.Test.YtoolfgbghhbjmacFieldW
import Derived.Test.YtoolfgbghhbjmacImplOf
import Derived.Test.YtoolfgbghhbjmacImplInv
import Derived.Lib.Bytes
namespace Go.Proofs.Ytoolfgbghhbjmac
open Go.RowKit

theorem oneN_32 : oneN 32 = 32 := rfl
theorem oneL_32 (z : Int) : oneL z 32 = numB (z % fldP) := rfl
theorem wOf (p : Option Addr) (c : Nat) (z : Int) (ks : List Int) (w : World) (hz : numF ks % fldP = z) (h : BytesIn w p 32 ks) (hb1 : ∀ x ∈ ks, 0 ≤ x ∧ x < 256) (hc : 32 ≤ c) :
    Calls Try.prog 17 #[.slice p 32 c] w fun e w' => ∃ p' c', e = .returned (.slice p' 32 c') ∧ Own 5 w' w.heap.size w'.heap.size (.slice p' 32 c') 32 (numB z) ∧ Below w.heap.size w w' := by
  have h := implFieldOf_any p 32 c ks w h hb1 hc
  rw [oneN_32, oneL_32, hz] at h
  exact h

theorem wInv (p : Option Addr) (c : Nat) (z : Int) (ks : List Int) (w : World) (hz : numF ks ^ (fldP - 2).toNat % fldP = z) (h : BytesIn w p 32 ks) (hb1 : ∀ x ∈ ks, 0 ≤ x ∧ x < 256) (hc : 32 ≤ c) :
    Calls Try.prog 19 #[.slice p 32 c] w fun e w' => ∃ p' c', e = .returned (.slice p' 32 c') ∧ Own 5 w' w.heap.size w'.heap.size (.slice p' 32 c') 32 (numB z) ∧ Below w.heap.size w w' := by
  have h := implFieldInv_any p 32 c ks w h hb1 hc
  rw [oneN_32, oneL_32, hz] at h
  exact h

theorem oneN_again (k : Nat) : oneN (oneN k) = oneN k := by unfold oneN; split <;> rfl
theorem oneL_again (z : Int) (k : Nat) : oneL (numF (oneL z k)) (oneN k) = oneL z k := by
  unfold oneN oneL
  by_cases h : k = 32
  · rw [if_pos h, if_pos h, if_pos rfl, numF_left, mod_left]
  · rw [if_neg h, if_neg h, if_neg (by decide)]
theorem bytesOf_inj : ∀ {xs ys : List Int}, (∀ x ∈ xs, 0 ≤ x ∧ x < 256) → (∀ x ∈ ys, 0 ≤ x ∧ x < 256) → xs.map (fun n => UInt8.ofNat n.toNat) = ys.map (fun n => UInt8.ofNat n.toNat) → xs = ys
  | [], [], _, _, _ => rfl
  | [], y :: ys, _, _, h => by simp at h
  | x :: xs, [], _, _, h => by simp at h
  | x :: xs, y :: ys, hx, hy, h => by
    simp only [List.map_cons, List.cons.injEq] at h
    have h1 := hx x (by simp)
    have h2 := hy y (by simp)
    have e := congrArg UInt8.toNat h.1
    simp only [UInt8.toNat_ofNat'] at e
    have : x = y := by omega
    rw [this, bytesOf_inj (fun z hz => hx z (by simp [hz])) (fun z hz => hy z (by simp [hz])) h.2]
theorem same_not {u v : Int} (hu0 : 0 ≤ u) (hu : u < fldP) (hv0 : 0 ≤ v) (hv : v < fldP) (h : u ≠ v) : ((strOfNums (numB u)).toList == (strOfNums (numB v)).toList) = false := by
  rw [Lib.strOfNums_toList, Lib.strOfNums_toList]
  apply Bool.eq_false_iff.2
  intro he
  have e := bytesOf_inj (numB_byte u) (numB_byte v) (eq_of_beq he)
  apply h
  rw [← numF_numB hu0 hu, ← numF_numB hv0 hv, e]

end Go.Proofs.Ytoolfgbghhbjmac
