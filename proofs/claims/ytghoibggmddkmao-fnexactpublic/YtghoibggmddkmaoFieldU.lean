/-
  Numbers of four parts of 64 bits, and sums told part by part with what goes over: plain laws of whole numbers.
-/
import Derived.Test.YtghoibggmddkmaoFieldFacts
namespace Go.Proofs.Ytghoibggmddkmao

/-- 2 to the 64th. -/
def bU : Int := 18446744073709551616
theorem bU_pos : 0 < bU := by decide
def valU (f : Nat → Int) : Nat → Int
  | 0 => 0
  | n + 1 => valU f n + f n * bU ^ n
theorem valU_congr {f g : Nat → Int} : ∀ {n : Nat}, (∀ i, i < n → f i = g i) → valU f n = valU g n
  | 0, _ => rfl
  | n + 1, h => by rw [valU, valU, valU_congr (fun i hi => h i (by omega)), h n (by omega)]
theorem valU_add (f g : Nat → Int) : ∀ n, valU (fun i => f i + g i) n = valU f n + valU g n
  | 0 => rfl
  | n + 1 => by simp only [valU]; rw [valU_add f g n, Int.add_mul]; omega
theorem valU_sub (f g : Nat → Int) : ∀ n, valU (fun i => f i - g i) n = valU f n - valU g n
  | 0 => rfl
  | n + 1 => by simp only [valU]; rw [valU_sub f g n, Int.sub_mul]; omega
theorem valU_mul (f : Nat → Int) (k : Int) : ∀ n, valU (fun i => f i * k) n = valU f n * k
  | 0 => by simp [valU]
  | n + 1 => by simp only [valU]; rw [valU_mul f k n, Int.add_mul, Int.mul_right_comm]
theorem valU_split (f : Nat → Int) (a : Nat) : ∀ b, valU f (a + b) = valU f a + bU ^ a * valU (fun i => f (a + i)) b
  | 0 => by simp [valU]
  | b + 1 => by
    rw [← Nat.add_assoc, valU, valU_split f a b, valU, Int.mul_add, Int.pow_add]
    have : f (a + b) * (bU ^ a * bU ^ b) = bU ^ a * (f (a + b) * bU ^ b) := by rw [← Int.mul_assoc, Int.mul_comm (f (a + b)), Int.mul_assoc]
    omega
theorem powU_pos : ∀ n : Nat, (0 : Int) < bU ^ n
  | 0 => by decide
  | n + 1 => by rw [Int.pow_succ]; exact Int.mul_pos (powU_pos n) bU_pos
theorem valU_range {f : Nat → Int} : ∀ {n : Nat}, (∀ i, i < n → 0 ≤ f i ∧ f i < bU) → 0 ≤ valU f n ∧ valU f n < bU ^ n
  | 0, _ => by simp [valU]
  | n + 1, h => by
    have h1 := valU_range (n := n) (fun i hi => h i (by omega))
    have h2 := h n (by omega)
    have hp := powU_pos n
    have h3 : f n * bU ^ n ≤ (bU - 1) * bU ^ n := Int.mul_le_mul_of_nonneg_right (by omega) (by omega)
    have h4 : 0 ≤ f n * bU ^ n := Int.mul_nonneg h2.1 (by omega)
    rw [Int.sub_mul, Int.one_mul, Int.mul_comm bU] at h3
    rw [valU, Int.pow_succ]
    omega

/-! ### what goes over -/
def carU (t : Nat → Int) (c : Int) : Nat → Int
  | 0 => c
  | k + 1 => (t k + carU t c k) / bU
def digU (t : Nat → Int) (c : Int) (k : Nat) : Int := (t k + carU t c k) % bU
theorem modU_range (z : Int) : 0 ≤ z % bU ∧ z % bU < bU := ⟨Int.emod_nonneg _ (by have := bU_pos; omega), Int.emod_lt_of_pos _ bU_pos⟩
theorem digU_range (t : Nat → Int) (c : Int) (k : Nat) : 0 ≤ digU t c k ∧ digU t c k < bU := modU_range _
theorem val_carU (t : Nat → Int) (c : Int) : ∀ n, valU (digU t c) n + bU ^ n * carU t c n = valU t n + c
  | 0 => by simp [valU, carU]
  | n + 1 => by
    have ih := val_carU t c n
    have hd : bU * carU t c (n + 1) + digU t c n = t n + carU t c n := Int.mul_ediv_add_emod _ _
    have e1 : bU ^ (n + 1) * carU t c (n + 1) = bU ^ n * (bU * carU t c (n + 1)) := by rw [Int.pow_succ, Int.mul_assoc]
    have e2 : digU t c n * bU ^ n = bU ^ n * digU t c n := Int.mul_comm _ _
    have e3 : bU ^ n * (bU * carU t c (n + 1)) + bU ^ n * digU t c n = bU ^ n * (t n + carU t c n) := by rw [← Int.mul_add, hd]
    rw [Int.mul_add] at e3
    have e4 : t n * bU ^ n = bU ^ n * t n := Int.mul_comm _ _
    simp only [valU]
    omega
/-- The parts of a number. -/
def numU (z : Int) (i : Nat) : Int := z / bU ^ i % bU
theorem numU_range (z : Int) (i : Nat) : 0 ≤ numU z i ∧ numU z i < bU := modU_range _
theorem low_div {a b q : Int} (ha : 0 ≤ a) (hb : a < b) : (a + b * q) / b = q := by
  rw [Int.add_mul_ediv_left _ _ (by omega), Int.ediv_eq_zero_of_lt ha hb]
  omega
theorem digU_num (t : Nat → Int) (c : Int) {n k : Nat} (h : k < n) : digU t c k = numU (valU t n + c) k := by
  obtain ⟨r, rfl⟩ : ∃ r, n = (k + 1) + r := ⟨n - (k + 1), by omega⟩
  have h1 := valU_split t (k + 1) r
  have h2 := val_carU t c (k + 1)
  have h3 := valU_range (f := digU t c) (n := k) (fun i _ => digU_range t c i)
  rw [valU] at h2
  generalize valU (fun i => t (k + 1 + i)) r = R at h1
  have hs : bU ^ k * bU = bU ^ (k + 1) := (Int.pow_succ bU k).symm
  have e : valU t (k + 1 + r) + c = valU (digU t c) k + bU ^ k * (digU t c k + bU * (carU t c (k + 1) + R)) := by
    rw [Int.mul_add, Int.mul_add bU, Int.mul_add (bU ^ k), ← Int.mul_assoc (bU ^ k), ← Int.mul_assoc (bU ^ k), hs, Int.mul_comm (bU ^ k) (digU t c k)]
    omega
  rw [numU, e, low_div h3.1 h3.2, Int.add_mul_emod_self_left, Int.emod_eq_of_lt (digU_range t c k).1 (digU_range t c k).2]
theorem carU_num (t : Nat → Int) (c : Int) (n : Nat) : carU t c n = (valU t n + c) / bU ^ n := by
  have h3 := valU_range (f := digU t c) (n := n) (fun i _ => digU_range t c i)
  rw [← val_carU, low_div h3.1 h3.2]
theorem val_numU (z : Int) : ∀ n, valU (numU z) n = z % bU ^ n := by
  intro n
  have h := val_carU (fun i => if i = 0 then z else 0) 0 n
  cases n with
  | zero => simp [valU, Int.emod_one]
  | succ n =>
    have hz : valU (fun i => if i = 0 then z else 0) (n + 1) = z := by
      have := valU_split (fun i => if i = 0 then z else 0) 1 n
      rw [Nat.add_comm, this]
      have hr : valU (fun i => if 1 + i = 0 then z else 0) n = 0 := by
        have : ∀ m, valU (fun i => if 1 + i = 0 then z else 0) m = 0 := by
          intro m
          induction m with
          | zero => rfl
          | succ m ih => rw [valU, ih, if_neg (by omega)]; omega
        exact this n
      rw [hr]
      simp [valU]
    rw [hz] at h
    have hd : valU (digU (fun i => if i = 0 then z else 0) 0) (n + 1) = valU (numU z) (n + 1) := valU_congr fun i hi => by
      rw [digU_num _ 0 hi, hz, Int.add_zero]
    have h3 := valU_range (f := numU z) (n := n + 1) (fun i _ => numU_range z i)
    rw [hd, Int.add_zero] at h
    have : z % bU ^ (n + 1) = (valU (numU z) (n + 1) + bU ^ (n + 1) * carU (fun i => if i = 0 then z else 0) 0 (n + 1)) % bU ^ (n + 1) := by rw [h]
    rw [this, Int.add_mul_emod_self_left, Int.emod_eq_of_lt h3.1 h3.2]
theorem numU_like {a b q : Int} {n : Nat} (h : a = b + q * bU ^ n) {k : Nat} (hk : k < n) : numU a k = numU b k := by
  obtain ⟨r, rfl⟩ : ∃ r, n = k + (r + 1) := ⟨n - (k + 1), by omega⟩
  have e : a = b + bU ^ k * (q * bU ^ r * bU) := by
    rw [h, Int.pow_add, Int.pow_succ, ← Int.mul_assoc q, Int.mul_comm q, Int.mul_assoc, Int.mul_assoc]
  rw [numU, numU, e, Int.add_mul_ediv_left _ _ (by have := powU_pos k; omega), Int.add_mul_emod_self_right]
theorem numU_mod (z : Int) {n k : Nat} (hk : k < n) : numU (z % bU ^ n) k = numU z k := by
  have := Int.mul_ediv_add_emod z (bU ^ n)
  refine (numU_like (a := z) (b := z % bU ^ n) (q := z / bU ^ n) (n := n) ?_ hk).symm
  rw [Int.mul_comm (z / bU ^ n)]
  omega
theorem carU_le {t : Nat → Int} {c : Int} (ht : ∀ k, 0 ≤ t k ∧ t k ≤ bU * (bU - 1)) (hc : 0 ≤ c ∧ c < bU) : ∀ k, 0 ≤ carU t c k ∧ carU t c k < bU
  | 0 => hc
  | k + 1 => by
    have ih := carU_le ht hc k
    have h := ht k
    rw [Int.mul_sub, Int.mul_one] at h
    refine ⟨Int.ediv_nonneg (by omega) (by have := bU_pos; omega), Int.ediv_lt_of_lt_mul bU_pos (by omega)⟩
theorem termU {x y z : Int} (hx : 0 ≤ x ∧ x < bU) (hy : 0 ≤ y ∧ y < bU) (hz : 0 ≤ z ∧ z < bU) : 0 ≤ x + y * z ∧ x + y * z ≤ bU * (bU - 1) := by
  have h1 : 0 ≤ y * z := Int.mul_nonneg hy.1 hz.1
  have h2 : y * z ≤ (bU - 1) * (bU - 1) := Int.mul_le_mul (by omega) (by omega) hz.1 (by have := bU_pos; omega)
  have h3 : (bU - 1) * (bU - 1) = bU * (bU - 1) - (bU - 1) := by rw [Int.sub_mul, Int.one_mul]
  omega

/-! ### four parts -/
theorem b4U : bU ^ 4 = 2 * fldP + 38 := by decide
theorem val_four {z : Int} (h0 : 0 ≤ z) (h1 : z < bU ^ 4) : valU (numU z) 4 = z := by rw [val_numU, Int.emod_eq_of_lt h0 h1]
/-- What is told of a sum: n and what is missing to m, and 1. -/
def lessT (x y : Int) (k : Nat) : Int := numU x k + (bU - 1 - numU y k)
theorem val_ones : valU (fun _ => bU - 1) 4 = bU ^ 4 - 1 := by decide
theorem val_lessT {x y : Int} (hx0 : 0 ≤ x) (hx : x < bU ^ 4) (hy0 : 0 ≤ y) (hy : y < bU ^ 4) : valU (lessT x y) 4 = x + (bU ^ 4 - 1 - y) := by
  have h1 := valU_add (numU x) (fun k => bU - 1 - numU y k) 4
  have h2 := valU_sub (fun _ => bU - 1) (numU y) 4
  rw [val_four hx0 hx] at h1
  rw [val_four hy0 hy, val_ones] at h2
  rw [h2] at h1
  exact h1
theorem dig_less {x y : Int} (hx0 : 0 ≤ x) (hx : x < bU ^ 4) (hy0 : 0 ≤ y) (hy : y < bU ^ 4) {k : Nat} (hk : k < 4) : digU (lessT x y) 1 k = numU ((x - y) % bU ^ 4) k := by
  rw [digU_num _ _ hk, val_lessT hx0 hx hy0 hy, numU_mod _ hk]
  exact numU_like (q := 1) (by omega) hk
theorem car_less {x y : Int} (hx0 : 0 ≤ x) (hx : x < bU ^ 4) (hy0 : 0 ≤ y) (hy : y < bU ^ 4) : carU (lessT x y) 1 4 = if y ≤ x then 1 else 0 := by
  rw [carU_num, val_lessT hx0 hx hy0 hy]
  have h4 : (0 : Int) < bU ^ 4 := powU_pos 4
  generalize bU ^ 4 = W at *
  split
  · rw [show x + (W - 1 - y) + 1 = (x - y) + W * 1 by omega, low_div (by omega) (by omega)]
  · exact Int.ediv_eq_zero_of_lt (by omega) (by omega)
theorem lessT_le (x y : Int) (k : Nat) : 0 ≤ lessT x y k ∧ lessT x y k ≤ bU * (bU - 1) := by
  have h := termU (x := numU x k) (y := bU - 1 - numU y k) (z := 1) (numU_range x k) (by have := numU_range y k; omega) (by decide)
  rw [Int.mul_one] at h
  exact h
def plusT (x y : Int) (k : Nat) : Int := numU x k + numU y k
theorem plusT_le (x y : Int) (k : Nat) : 0 ≤ plusT x y k ∧ plusT x y k ≤ bU * (bU - 1) := by
  have h := termU (x := numU x k) (y := numU y k) (z := 1) (numU_range x k) (numU_range y k) (by decide)
  rw [Int.mul_one] at h
  exact h
theorem dig_plus {x y : Int} (hx0 : 0 ≤ x) (hx : x < bU ^ 4) (hy0 : 0 ≤ y) (hy : y < bU ^ 4) {k : Nat} (hk : k < 4) : digU (plusT x y) 0 k = numU (x + y) k := by
  have h1 := valU_add (numU x) (numU y) 4
  rw [val_four hx0 hx, val_four hy0 hy] at h1
  rw [digU_num _ _ hk]
  show numU (valU (fun i => numU x i + numU y i) 4 + 0) k = _
  rw [h1, Int.add_zero]
/-- What goes over is put on 38 times. -/
def overT (x y : Int) (k : Nat) : Int := numU x k + numU y k * 38
theorem overT_le (x y : Int) (k : Nat) : 0 ≤ overT x y k ∧ overT x y k ≤ bU * (bU - 1) := termU (numU_range x k) (numU_range y k) (by decide)
theorem val_overT {x y : Int} (hx0 : 0 ≤ x) (hx : x < bU ^ 4) (hy0 : 0 ≤ y) (hy : y < bU ^ 4) : valU (overT x y) 4 = x + y * 38 := by
  have h1 := valU_add (numU x) (fun i => numU y i * 38) 4
  have h2 := valU_mul (numU y) 38 4
  rw [val_four hx0 hx] at h1
  rw [val_four hy0 hy] at h2
  rw [h2] at h1
  exact h1
theorem dig_over {x y : Int} (hx0 : 0 ≤ x) (hx : x < bU ^ 4) (hy0 : 0 ≤ y) (hy : y < bU ^ 4) {k : Nat} (hk : k < 4) : digU (overT x y) 0 k = numU ((x + y * 38) % bU ^ 4) k := by
  rw [digU_num _ _ hk, val_overT hx0 hx hy0 hy, Int.add_zero, numU_mod _ hk]
theorem car_over {x y : Int} (hx0 : 0 ≤ x) (hx : x < bU ^ 4) (hy0 : 0 ≤ y) (hy : y < bU ^ 4) : carU (overT x y) 0 4 = (x + y * 38) / bU ^ 4 := by
  rw [carU_num, val_overT hx0 hx hy0 hy, Int.add_zero]
/-- A number of one part. -/
theorem num_one {c : Int} (h0 : 0 ≤ c) (h1 : c < bU) (k : Nat) : numU c k = if k = 0 then c else 0 := by
  split
  · rename_i h; subst h
    rw [numU, Int.pow_zero, Int.ediv_one, Int.emod_eq_of_lt h0 h1]
  · rename_i h
    obtain ⟨j, rfl⟩ : ∃ j, k = j + 1 := ⟨k - 1, by omega⟩
    have hp := powU_pos j
    have : c < bU ^ (j + 1) := by
      rw [Int.pow_succ]
      have : 1 * bU ≤ bU ^ j * bU := Int.mul_le_mul_of_nonneg_right (by omega) (by have := bU_pos; omega)
      omega
    rw [numU, Int.ediv_eq_zero_of_lt h0 this]
    rfl
theorem num_nought (k : Nat) : numU 0 k = 0 := by rw [numU, Int.zero_ediv]; rfl
theorem num_inj {a b : Int} (ha0 : 0 ≤ a) (ha : a < bU ^ 4) (hb0 : 0 ≤ b) (hb : b < bU ^ 4) (h : ∀ k, k < 4 → numU a k = numU b k) : a = b := by
  rw [← val_four ha0 ha, ← val_four hb0 hb]
  exact valU_congr h

end Go.Proofs.Ytghoibggmddkmao
