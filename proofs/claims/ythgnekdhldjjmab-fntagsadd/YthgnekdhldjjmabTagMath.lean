/-
  Numbers of 17 bytes, and what is left of them by 2 to the 130th less 5: plain laws of natural numbers for a tag.
-/
import Derived.Test.YthgnekdhldjjmabInfoI
namespace Go.Proofs.Ythgnekdhldjjmab

/-- The number of which these are the bytes (or greater digits), little. -/
def valN (f : Nat → Nat) : Nat → Nat
  | 0 => 0
  | n + 1 => valN f n + f n * 256 ^ n
def gN (L : List Nat) (i : Nat) : Nat := L.getD i 0
def tagP : Nat := 1361129467683753853853498429727072845819
theorem valN_congr {f g : Nat → Nat} : ∀ {n : Nat}, (∀ i, i < n → f i = g i) → valN f n = valN g n
  | 0, _ => rfl
  | n + 1, h => by rw [valN, valN, valN_congr (fun i hi => h i (by omega)), h n (by omega)]
theorem valN_lt {f : Nat → Nat} : ∀ {n : Nat}, (∀ i, i < n → f i < 256) → valN f n < 256 ^ n
  | 0, _ => by simp [valN]
  | n + 1, h => by
    have h1 := valN_lt (n := n) (fun i hi => h i (by omega))
    have h2 : f n * 256 ^ n ≤ 255 * 256 ^ n := Nat.mul_le_mul_right _ (by have := h n (by omega); omega)
    rw [valN, Nat.pow_succ]
    omega
theorem valN_add (f g : Nat → Nat) : ∀ n, valN (fun i => f i + g i) n = valN f n + valN g n
  | 0 => rfl
  | n + 1 => by simp only [valN]; rw [valN_add f g n, Nat.add_mul]; omega
theorem valN_mul (f : Nat → Nat) (k : Nat) : ∀ n, valN (fun i => k * f i) n = k * valN f n
  | 0 => rfl
  | n + 1 => by simp only [valN]; rw [valN_mul f k n, Nat.mul_add, Nat.mul_assoc]
/-- The first a digits, and those behind them. -/
theorem valN_split (f : Nat → Nat) (a : Nat) : ∀ b, valN f (a + b) = valN f a + 256 ^ a * valN (fun i => f (a + i)) b
  | 0 => by simp [valN]
  | b + 1 => by
    rw [← Nat.add_assoc, valN, valN_split f a b, valN, Nat.mul_add, Nat.pow_add]
    have : f (a + b) * (256 ^ a * 256 ^ b) = 256 ^ a * (f (a + b) * 256 ^ b) := by rw [← Nat.mul_assoc, Nat.mul_comm (f (a + b)), Nat.mul_assoc]
    omega

/-! ### what is carried -/
/-- What is carried behind the first k of the digits f, u at first. -/
def carN (f : Nat → Nat) (u : Nat) : Nat → Nat
  | 0 => u
  | k + 1 => (carN f u k + f k) / 256
/-- The digit k behind the carrying. -/
def digN (f : Nat → Nat) (u : Nat) (k : Nat) : Nat := (carN f u k + f k) % 256
theorem digN_lt (f : Nat → Nat) (u k : Nat) : digN f u k < 256 := Nat.mod_lt _ (by decide)
theorem val_carry (f : Nat → Nat) (u : Nat) : ∀ n, valN (digN f u) n + 256 ^ n * carN f u n = u + valN f n
  | 0 => by simp [valN, carN]
  | n + 1 => by
    have ih := val_carry f u n
    have hd : digN f u n + 256 * carN f u (n + 1) = carN f u n + f n := by
      simp only [digN, carN]
      omega
    have e1 : 256 ^ (n + 1) * carN f u (n + 1) = 256 ^ n * (256 * carN f u (n + 1)) := by rw [Nat.pow_succ, Nat.mul_assoc]
    have e2 : digN f u n * 256 ^ n = 256 ^ n * digN f u n := Nat.mul_comm _ _
    have e3 : 256 ^ n * digN f u n + 256 ^ n * (256 * carN f u (n + 1)) = 256 ^ n * (carN f u n + f n) := by rw [← Nat.mul_add, hd]
    rw [Nat.mul_add] at e3
    have e4 : f n * 256 ^ n = 256 ^ n * f n := Nat.mul_comm _ _
    simp only [valN]
    omega

/-! ### alike by p -/
def alike (a b : Nat) : Prop := a % tagP = b % tagP
theorem alike.refl (a : Nat) : alike a a := rfl
theorem alike.symm {a b : Nat} (h : alike a b) : alike b a := Eq.symm h
theorem alike.trans {a b c : Nat} (h : alike a b) (h' : alike b c) : alike a c := Eq.trans h h'
theorem alike.add {a b c d : Nat} (h : alike a b) (h' : alike c d) : alike (a + c) (b + d) := by
  unfold alike at *
  rw [Nat.add_mod, h, h', ← Nat.add_mod]
theorem alike.mul {a b c d : Nat} (h : alike a b) (h' : alike c d) : alike (a * c) (b * d) := by
  unfold alike at *
  rw [Nat.mul_mod, h, h', ← Nat.mul_mod]
theorem alike.mulL {a b : Nat} (k : Nat) (h : alike a b) : alike (k * a) (k * b) := (alike.refl k).mul h
theorem alike_pow : alike (256 ^ 17) 320 := by
  unfold alike tagP
  decide
theorem alike_130 : alike (4 * 256 ^ 16) 5 := by
  unfold alike tagP
  decide
theorem alike_mod (a : Nat) : alike (a % tagP) a := Nat.mod_mod _ _

/-! ### a number times r -/
/-- What digit j of h brings to digit i. -/
def coefN (h r : Nat → Nat) (i j : Nat) : Nat := if j ≤ i then h j * r (i - j) else 320 * h j * r (i + 17 - j)
/-- What the first j digits of h bring to digit i. -/
def rowN (h r : Nat → Nat) (i : Nat) : Nat → Nat
  | 0 => 0
  | j + 1 => rowN h r i j + coefN h r i j
theorem turn_row (h r : Nat → Nat) (j : Nat) (hj : j ≤ 17) : alike (valN (fun i => coefN h r i j) 17) (h j * 256 ^ j * valN r 17) := by
  have e1 : valN (fun i => coefN h r i j) 17 = valN (fun i => coefN h r i j) j + 256 ^ j * valN (fun i => coefN h r (j + i) j) (17 - j) := by
    have := valN_split (fun i => coefN h r i j) j (17 - j)
    rwa [show j + (17 - j) = 17 by omega] at this
  have e2 : valN (fun i => coefN h r i j) j = 320 * (h j * valN (fun i => r (17 - j + i)) j) := by
    rw [← valN_mul, ← valN_mul]
    refine valN_congr fun i hi => ?_
    rw [coefN, if_neg (by omega), show i + 17 - j = 17 - j + i by omega, Nat.mul_assoc]
  have e3 : valN (fun i => coefN h r (j + i) j) (17 - j) = h j * valN r (17 - j) := by
    rw [← valN_mul]
    refine valN_congr fun i hi => ?_
    rw [coefN, if_pos (by omega), show j + i - j = i by omega]
  have e4 : valN r 17 = valN r (17 - j) + 256 ^ (17 - j) * valN (fun i => r (17 - j + i)) j := by
    have := valN_split r (17 - j) j
    rwa [show 17 - j + j = 17 by omega] at this
  have hp : 256 ^ j * 256 ^ (17 - j) = 256 ^ 17 := by rw [← Nat.pow_add, show j + (17 - j) = 17 by omega]
  rw [e1, e2, e3, e4]
  generalize valN (fun i => r (17 - j + i)) j = X
  generalize valN r (17 - j) = Y
  have e5 : h j * 256 ^ j * (Y + 256 ^ (17 - j) * X) = 256 ^ 17 * (h j * X) + 256 ^ j * (h j * Y) := by
    rw [← hp, Nat.mul_add, Nat.add_comm]
    congr 1
    · rw [Nat.mul_assoc, ← Nat.mul_assoc (256 ^ j) (256 ^ (17 - j)) X, Nat.mul_left_comm, ← Nat.mul_assoc]
    · rw [Nat.mul_assoc, Nat.mul_left_comm]
  rw [e5]
  exact (alike_pow.symm.mul (alike.refl _)).add (alike.refl _)
theorem val_rows (h r : Nat → Nat) : ∀ j, j ≤ 17 → alike (valN (fun i => rowN h r i j) 17) (valN h j * valN r 17)
  | 0, _ => by
    have e : valN (fun i => rowN h r i 0) 17 = 0 := by
      have := valN_mul (fun _ => 0) 0 17
      simpa [rowN] using this
    rw [e]
    simp [valN, alike]
  | j + 1, hj => by
    have e : valN (fun i => rowN h r i (j + 1)) 17 = valN (fun i => rowN h r i j) 17 + valN (fun i => coefN h r i j) 17 := by
      rw [← valN_add]
      rfl
    rw [e]
    show alike _ ((valN h j + h j * 256 ^ j) * valN r 17)
    rw [Nat.add_mul]
    exact (val_rows h r j (by omega)).add (turn_row h r j (by omega))
theorem val_times (h r : Nat → Nat) : alike (valN (fun i => rowN h r i 17) 17) (valN h 17 * valN r 17) := val_rows h r 17 (by omega)
theorem rowN_le {h r : Nat → Nat} (hh : ∀ i, h i < 256) (hr : ∀ i, r i < 256) (i : Nat) : ∀ j, rowN h r i j ≤ 20971520 * j
  | 0 => by simp [rowN]
  | j + 1 => by
    have h1 := rowN_le hh hr i j
    have hc : coefN h r i j ≤ 20971520 := by
      unfold coefN
      split
      · have := Nat.mul_le_mul (Nat.le_of_lt (hh j)) (Nat.le_of_lt (hr (i - j)))
        omega
      · have := Nat.mul_le_mul (Nat.mul_le_mul_left 320 (Nat.le_of_lt (hh j))) (Nat.le_of_lt (hr (i + 17 - j)))
        omega
    rw [rowN]
    omega

/-! ### a number made small again -/
/-- What is carried out of the first 16 digits, with the 17th. -/
def topN (x : Nat → Nat) : Nat := carN x 0 16 + x 16
/-- What is put to the lowest digit: five times what lies at and above 2 to the 130th. -/
def lowN (x : Nat → Nat) : Nat := 5 * (topN x / 4)
/-- The digits behind. -/
def lessN (x : Nat → Nat) (i : Nat) : Nat := if i < 16 then digN (digN x 0) (lowN x) i else topN x % 4 + carN (digN x 0) (lowN x) 16
theorem val_less (x : Nat → Nat) : alike (valN (lessN x) 17) (valN x 17) := by
  have h1 := val_carry x 0 16
  have h2 := val_carry (digN x 0) (lowN x) 16
  have e1 : valN (lessN x) 17 = valN (digN (digN x 0) (lowN x)) 16 + (topN x % 4 + carN (digN x 0) (lowN x) 16) * 256 ^ 16 := by
    show valN (lessN x) 16 + lessN x 16 * 256 ^ 16 = _
    rw [valN_congr (g := digN (digN x 0) (lowN x)) (fun i hi => by rw [lessN, if_pos hi])]
    rfl
  have e2 : valN x 17 = valN x 16 + x 16 * 256 ^ 16 := rfl
  have e3 : valN (lessN x) 17 = lowN x + valN (digN x 0) 16 + topN x % 4 * 256 ^ 16 := by rw [e1, Nat.add_mul]; omega
  have e4 : valN x 17 = valN (digN x 0) 16 + topN x % 4 * 256 ^ 16 + topN x / 4 * (4 * 256 ^ 16) := by
    rw [e2]
    have ht : topN x * 256 ^ 16 = topN x % 4 * 256 ^ 16 + topN x / 4 * (4 * 256 ^ 16) := by
      have := Nat.mod_add_div (topN x) 4
      omega
    have : topN x * 256 ^ 16 = carN x 0 16 * 256 ^ 16 + x 16 * 256 ^ 16 := by rw [topN, Nat.add_mul]
    omega
  rw [e3, e4, Nat.add_assoc, Nat.add_comm (lowN x)]
  refine (alike.refl _).add ?_
  rw [lowN, Nat.mul_comm]
  exact (alike.refl _).mul alike_130.symm
theorem carN_le {f : Nat → Nat} {M : Nat} (hf : ∀ i, f i ≤ 255 * M) {u : Nat} (hu : u ≤ M) : ∀ k, carN f u k ≤ M
  | 0 => hu
  | k + 1 => by
    have h1 := carN_le hf hu k
    have h2 := hf k
    rw [carN]
    omega
/-- What is small behind it. -/
theorem lessN_small {x : Nat → Nat} (hx : ∀ i, x i ≤ 356515840) : (∀ i, i < 16 → lessN x i < 256) ∧ lessN x 16 ≤ 4 ∧ valN (lessN x) 17 < 256 ^ 16 * 4 + 1073741824 := by
  have hc : carN x 0 16 ≤ 1398102 := carN_le (M := 1398102) (fun i => by have := hx i; omega) (by omega) 16
  have ht : topN x ≤ 357913942 := by have := hx 16; unfold topN; omega
  have hl : lowN x ≤ 447392425 := by unfold lowN; omega
  have h2 := val_carry (digN x 0) (lowN x) 16
  have hd := valN_lt (f := digN x 0) (n := 16) (fun i _ => digN_lt _ _ _)
  have hd2 := valN_lt (f := digN (digN x 0) (lowN x)) (n := 16) (fun i _ => digN_lt _ _ _)
  have hc2 : carN (digN x 0) (lowN x) 16 ≤ 1 := by
    have hlt : 256 ^ 16 * carN (digN x 0) (lowN x) 16 < 256 ^ 16 * 2 := by
      have : (447392425 : Nat) < 256 ^ 16 := by decide
      omega
    have := Nat.lt_of_mul_lt_mul_left hlt
    omega
  have e1 : valN (lessN x) 17 = valN (digN (digN x 0) (lowN x)) 16 + (topN x % 4 + carN (digN x 0) (lowN x) 16) * 256 ^ 16 := by
    show valN (lessN x) 16 + lessN x 16 * 256 ^ 16 = _
    rw [valN_congr (g := digN (digN x 0) (lowN x)) (fun i hi => by rw [lessN, if_pos hi])]
    rfl
  refine ⟨fun i hi => by rw [lessN, if_pos hi]; exact digN_lt _ _ _, by rw [lessN, if_neg (by omega)]; omega, ?_⟩
  rw [e1, Nat.add_mul]
  have h4 : topN x % 4 ≤ 3 := by omega
  have h5 : topN x % 4 * 256 ^ 16 ≤ 3 * 256 ^ 16 := Nat.mul_le_mul_right _ h4
  omega

/-! ### the whole -/
/-- h and c together, times r, made small. -/
def sumD (h c : Nat → Nat) (i : Nat) : Nat := digN (fun k => h k + c k) 0 i
def stepD (h c r : Nat → Nat) (i : Nat) : Nat := lessN (fun k => rowN (sumD h c) r k 17) i
/-- What holds of h from block to block. -/
def okD (h : Nat → Nat) : Prop := (∀ i, i < 16 → h i < 256) ∧ h 16 ≤ 4 ∧ valN h 17 < 256 ^ 16 * 4 + 1073741824
theorem stepD_ok (h c : Nat → Nat) {r : Nat → Nat} (hr : ∀ i, r i < 256) : okD (stepD h c r) :=
  lessN_small fun i => by
    have := rowN_le (h := sumD h c) (r := r) (fun i => digN_lt _ _ _) hr i 17
    omega
theorem val_sum {h c : Nat → Nat} (hs : valN h 17 + valN c 17 < 256 ^ 17) : valN (sumD h c) 17 = valN h 17 + valN c 17 := by
  have h1 := val_carry (fun k => h k + c k) 0 17
  rw [valN_add] at h1
  have h0 : carN (fun k => h k + c k) 0 17 = 0 := by
    have hlt : 256 ^ 17 * carN (fun k => h k + c k) 0 17 < 256 ^ 17 * 1 := by omega
    have := Nat.lt_of_mul_lt_mul_left hlt
    omega
  rw [h0] at h1
  show valN (digN (fun k => h k + c k) 0) 17 = _
  omega
theorem val_step {h c r : Nat → Nat} (hs : valN h 17 + valN c 17 < 256 ^ 17) : alike (valN (stepD h c r) 17) ((valN h 17 + valN c 17) * valN r 17) := by
  have h1 := val_less (fun k => rowN (sumD h c) r k 17)
  have h2 := val_times (sumD h c) r
  rw [val_sum hs] at h2
  exact h1.trans h2
/-- p taken away where it can be: h and the number 2 to the 136th less p together. -/
def negD (i : Nat) : Nat := if i = 0 then 5 else if i = 16 then 252 else 0
theorem val_neg : valN negD 17 + tagP = 256 ^ 17 := by decide
def lastD (h : Nat → Nat) (i : Nat) : Nat := if sumD h negD 16 < 128 then sumD h negD i else h i
theorem val_last {h : Nat → Nat} (ho : okD h) : valN (lastD h) 17 = valN h 17 % tagP := by
  obtain ⟨h1, h2, h3⟩ := ho
  have hn := val_neg
  have hc := val_carry (fun k => h k + negD k) 0 17
  rw [valN_add] at hc
  have hl := valN_lt (f := sumD h negD) (n := 17) (fun i _ => digN_lt _ _ _)
  have hl6 := valN_lt (f := sumD h negD) (n := 16) (fun i _ => digN_lt _ _ _)
  have e17 : valN (sumD h negD) 17 = valN (sumD h negD) 16 + sumD h negD 16 * 256 ^ 16 := rfl
  have hP : 256 ^ 16 * 4 = tagP + 5 := by decide
  have hb : (256 : Nat) ^ 17 = 256 * 256 ^ 16 := by decide
  have es : valN (digN (fun k => h k + negD k) 0) 17 = valN (sumD h negD) 17 := rfl
  rw [es] at hc
  by_cases hge : tagP ≤ valN h 17
  · have h0 : carN (fun k => h k + negD k) 0 17 = 1 := by
      have hlt : 256 ^ 17 * carN (fun k => h k + negD k) 0 17 < 256 ^ 17 * 2 := by omega
      have h2' := Nat.lt_of_mul_lt_mul_left hlt
      have hgt : 0 < 256 ^ 17 * carN (fun k => h k + negD k) 0 17 := by omega
      have := Nat.pos_of_mul_pos_left hgt
      omega
    rw [h0] at hc
    have hv : valN (sumD h negD) 17 = valN h 17 - tagP := by omega
    have hsm : sumD h negD 16 < 128 := by
      have hlt : sumD h negD 16 * 256 ^ 16 < 128 * 256 ^ 16 := by omega
      exact Nat.lt_of_mul_lt_mul_right hlt
    have e : lastD h = sumD h negD := by funext i; rw [lastD, if_pos hsm]
    rw [e, hv, Nat.mod_eq_sub_mod hge, Nat.mod_eq_of_lt (by omega)]
  · have h0 : carN (fun k => h k + negD k) 0 17 = 0 := by
      have hlt : 256 ^ 17 * carN (fun k => h k + negD k) 0 17 < 256 ^ 17 * 1 := by omega
      have := Nat.lt_of_mul_lt_mul_left hlt
      omega
    rw [h0] at hc
    have hv : valN (sumD h negD) 17 = valN h 17 + valN negD 17 := by omega
    have hsm : ¬ sumD h negD 16 < 128 := by
      intro hlt
      have : sumD h negD 16 * 256 ^ 16 ≤ 127 * 256 ^ 16 := Nat.mul_le_mul_right _ (by omega)
      omega
    have e : lastD h = h := by funext i; rw [lastD, if_neg hsm]
    rw [e, Nat.mod_eq_of_lt (by omega)]

end Go.Proofs.Ythgnekdhldjjmab
