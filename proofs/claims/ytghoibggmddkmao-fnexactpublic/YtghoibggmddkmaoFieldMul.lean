/-
  Two numbers of 16 parts multiplied, and a number to a power: plain laws of whole numbers.
-/
import Derived.Test.YtghoibggmddkmaoFieldMath
namespace Go.Proofs.Ytghoibggmddkmao

/-- What row i brings to part k, of which the first j are done. -/
def rowZ (a b : Nat → Int) (i j k : Nat) : Int := if i ≤ k ∧ k - i < j then a i * b (k - i) else 0
/-- What the first i rows bring to part k. -/
def rwsZ (a b : Nat → Int) : Nat → Nat → Int
  | 0, _ => 0
  | i + 1, k => rwsZ a b i k + rowZ a b i 16 k
theorem val_row (a b : Nat → Int) (i : Nat) (hi : i < 16) : valZ (rowZ a b i 16) 31 = a i * 65536 ^ i * valZ b 16 := by
  have e1 := valZ_split (rowZ a b i 16) i (31 - i)
  rw [show i + (31 - i) = 31 by omega] at e1
  have e2 := valZ_split (fun k => rowZ a b i 16 (i + k)) 16 (15 - i)
  rw [show 16 + (15 - i) = 31 - i by omega] at e2
  have z1 : valZ (rowZ a b i 16) i = 0 := by
    rw [valZ_congr (g := fun _ => 0) (fun k hk => by rw [rowZ, if_neg (by omega)]), valZ_zero]
  have z2 : valZ (fun k => rowZ a b i 16 (i + (16 + k))) (15 - i) = 0 := by
    rw [valZ_congr (g := fun _ => 0) (fun k hk => by rw [rowZ, if_neg (by omega)]), valZ_zero]
  have z3 : valZ (fun k => rowZ a b i 16 (i + k)) 16 = a i * valZ b 16 := by
    rw [← valZ_mul]
    refine valZ_congr fun k hk => ?_
    rw [rowZ, if_pos (by omega), show i + k - i = k by omega]
  rw [e1, z1, e2, z2, z3, Int.mul_zero, Int.add_zero, Int.zero_add, ← Int.mul_assoc, Int.mul_comm (65536 ^ i) (a i)]
theorem val_rws (a b : Nat → Int) : ∀ i, i ≤ 16 → valZ (rwsZ a b i) 31 = valZ a i * valZ b 16
  | 0, _ => by
    rw [show rwsZ a b 0 = fun _ => 0 from rfl, valZ_zero, valZ, Int.zero_mul]
  | i + 1, hi => by
    rw [show rwsZ a b (i + 1) = fun k => rwsZ a b i k + rowZ a b i 16 k from rfl, valZ_add, val_rws a b i (by omega), val_row a b i (by omega)]
    show _ = (valZ a i + a i * 65536 ^ i) * valZ b 16
    rw [Int.add_mul]
/-- 31 parts made 16. -/
def fldZ (t : Nat → Int) (i : Nat) : Int := if i < 15 then t i + 38 * t (i + 16) else t i
theorem like_fld (t : Nat → Int) : likeP (valZ (fldZ t) 16) (valZ t 31) := by
  have e1 := valZ_split t 16 15
  have e2 : valZ (fldZ t) 16 = valZ t 16 + 38 * valZ (fun i => t (16 + i)) 15 := by
    have h1 : valZ (fldZ t) 16 = valZ (fldZ t) 15 + fldZ t 15 * 65536 ^ 15 := rfl
    have h2 : valZ t 16 = valZ t 15 + t 15 * 65536 ^ 15 := rfl
    have h3 : valZ (fldZ t) 15 = valZ (fun i => t i + 38 * t (16 + i)) 15 := valZ_congr fun i hi => by rw [fldZ, if_pos hi, Nat.add_comm]
    have h4 : fldZ t 15 = t 15 := by rw [fldZ, if_neg (by omega)]
    rw [h1, h2, h3, h4, valZ_add, valZ_mul]
    omega
  rw [e2, show valZ t 31 = _ from e1]
  exact (likeP.refl _).add (likeP_256.symm.mulR _)
def mulZ (a b : Nat → Int) : Nat → Int := cryZ (cryZ (fldZ (rwsZ a b 16)))
theorem like_mul (a b : Nat → Int) : likeP (valZ (mulZ a b) 16) (valZ a 16 * valZ b 16) := by
  have h := val_rws a b 16 (by omega)
  rw [← h]
  exact (like_cry _).trans ((like_cry _).trans (like_fld _))
/-- Parts that are not too great to be multiplied. -/
def okZ (f : Nat → Int) : Prop := ∀ i, -262144 ≤ f i ∧ f i ≤ 262144
theorem prod_le {x y : Int} (hx : -262144 ≤ x ∧ x ≤ 262144) (hy : -262144 ≤ y ∧ y ≤ 262144) : -68719476736 ≤ x * y ∧ x * y ≤ 68719476736 := by
  have h1 : x.natAbs ≤ 262144 := by omega
  have h2 : y.natAbs ≤ 262144 := by omega
  have h3 : (x * y).natAbs ≤ 68719476736 := by
    rw [Int.natAbs_mul]
    exact Nat.mul_le_mul h1 h2
  omega
theorem rowZ_le {a b : Nat → Int} (ha : okZ a) (hb : okZ b) (i j k : Nat) : -68719476736 ≤ rowZ a b i j k ∧ rowZ a b i j k ≤ 68719476736 := by
  unfold rowZ
  split
  · exact prod_le (ha _) (hb _)
  · omega
theorem rwsZ_le {a b : Nat → Int} (ha : okZ a) (hb : okZ b) (k : Nat) : ∀ i : Nat, -(68719476736 * (i : Int)) ≤ rwsZ a b i k ∧ rwsZ a b i k ≤ 68719476736 * (i : Int)
  | 0 => by simp [rwsZ]
  | i + 1 => by
    have h1 := rwsZ_le ha hb k i
    have h2 := rowZ_le ha hb i 16 k
    rw [rwsZ]
    omega
theorem fldZ_le {a b : Nat → Int} (ha : okZ a) (hb : okZ b) (k : Nat) : -140737488355328 ≤ fldZ (rwsZ a b 16) k ∧ fldZ (rwsZ a b 16) k ≤ 140737488355328 := by
  have h1 := rwsZ_le ha hb k 16
  have h2 := rwsZ_le ha hb (k + 16) 16
  unfold fldZ
  split <;> omega
theorem mulZ_ok {a b : Nat → Int} (ha : okZ a) (hb : okZ b) : okZ (mulZ a b) := fun i => by
  have h := cry_twice (f := fldZ (rwsZ a b 16)) (fun i => (fldZ_le ha hb i).1) (fun i => (fldZ_le ha hb i).2)
  by_cases hi : i = 0
  · subst hi
    have h1 : mulZ a b 0 = cryZ (cryZ (fldZ (rwsZ a b 16))) 0 := rfl
    omega
  · have h1 := h.1 i hi
    have h2 : mulZ a b i = cryZ (cryZ (fldZ (rwsZ a b 16))) i := rfl
    omega

/-! ### a number to the power p less 2 -/
def invZ (a : Nat → Int) : Nat → Nat → Int
  | 0 => a
  | k + 1 => if k = 251 ∨ k = 249 then mulZ (invZ a k) (invZ a k) else mulZ (mulZ (invZ a k) (invZ a k)) a
def invE : Nat → Nat
  | 0 => 1
  | k + 1 => if k = 251 ∨ k = 249 then 2 * invE k else 2 * invE k + 1
theorem invZ_ok {a : Nat → Int} (ha : okZ a) : ∀ k, okZ (invZ a k)
  | 0 => ha
  | k + 1 => by
    have ih := invZ_ok ha k
    rw [invZ]
    split
    · exact mulZ_ok ih ih
    · exact mulZ_ok (mulZ_ok ih ih) ha
theorem like_inv (a : Nat → Int) : ∀ k, likeP (valZ (invZ a k) 16) (valZ a 16 ^ invE k)
  | 0 => by rw [invE, Int.pow_one]; exact likeP.refl _
  | k + 1 => by
    have ih := like_inv a k
    have hs := (like_mul (invZ a k) (invZ a k)).trans (ih.mul ih)
    rw [← Int.pow_add, ← Nat.two_mul] at hs
    rw [invZ, invE]
    split
    · exact hs
    · rw [Int.pow_succ]
      exact (like_mul _ _).trans (hs.mulR _)
theorem invE_last : (invE 254 : Int) = fldP - 2 := by decide +kernel

/-! ### the bytes -/
theorem part_of {t : Nat → Int} {n : Nat} (ht : ∀ i, i < n → 0 ≤ t i ∧ t i < 65536) {i : Nat} (hi : i < n) : valZ t n / 65536 ^ i % 65536 = t i := by
  have e1 := valZ_split t i (n - i)
  rw [show i + (n - i) = n by omega] at e1
  have h1 := valZ_range (f := t) (n := i) (fun j hj => ht j (by omega))
  have e2 := valZ_split (fun j => t (i + j)) 1 (n - i - 1)
  rw [show 1 + (n - i - 1) = n - i by omega] at e2
  have e3 : valZ (fun j => t (i + j)) 1 = t i := by simp [valZ]
  have hp := powZ_pos i
  rw [e1, Int.add_mul_ediv_left _ _ (by omega), Int.ediv_eq_zero_of_lt h1.1 h1.2, Int.zero_add, e2, e3, Int.pow_one, Int.add_mul_emod_self_left, Int.emod_eq_of_lt (ht i hi).1 (ht i hi).2]
/-- The bytes of 16 parts. -/
def prtB (t : Nat → Int) (n : Nat) : List Int := (List.range n).flatMap fun i => [t i % 256, t i / 256 % 256]
/-- The 32 bytes of a number. -/
def numB (z : Int) : List Int := (List.range 16).flatMap fun i => [z / 65536 ^ i % 65536 % 256, z / 65536 ^ i % 65536 / 256 % 256]
theorem prtB_step (t : Nat → Int) (n : Nat) : prtB t n ++ [t n % 256, t n / 256 % 256] = prtB t (n + 1) := by
  simp [prtB, List.range_succ]
theorem prtB_length (t : Nat → Int) (n : Nat) : (prtB t n).length = 2 * n := by
  induction n with
  | zero => rfl
  | succ n ih => rw [← prtB_step, List.length_append, ih]; rfl
theorem red_bytes {f : Nat → Int} (h1 : ∀ i, -140737488355328 ≤ f i) (h2 : ∀ i, f i ≤ 140737488355328) : prtB (redZ f) 16 = numB (valZ f 16 % fldP) := by
  have hr := red_range h1 h2
  rw [← val_red h1 h2]
  unfold prtB numB
  have key : ∀ l : List Nat, (∀ i ∈ l, i < 16) → l.flatMap (fun i => [redZ f i % 256, redZ f i / 256 % 256]) = l.flatMap (fun i => [valZ (redZ f) 16 / 65536 ^ i % 65536 % 256, valZ (redZ f) 16 / 65536 ^ i % 65536 / 256 % 256]) := by
    intro l hl
    induction l with
    | nil => rfl
    | cons a l ih =>
      rw [List.flatMap_cons, List.flatMap_cons, ih (fun i hi => hl i (List.mem_cons_of_mem _ hi)), part_of (fun i _ => hr i) (hl a (List.mem_cons_self ..))]
  exact key (List.range 16) (fun i hi => List.mem_range.1 hi)

end Go.Proofs.Ytghoibggmddkmao
