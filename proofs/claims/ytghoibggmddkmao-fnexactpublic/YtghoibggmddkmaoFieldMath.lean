/-
  Numbers of 16 parts of 16 bits, which may be below 0 or above 16 bits, and what is left of them by 2 to the 255th less 19: plain laws of whole numbers.
-/
import Derived.Test.YtghoibggmddkmaoInfoI
namespace Go.Proofs.Ytghoibggmddkmao

def fldP : Int := 57896044618658097711785492504343953926634992332820282019728792003956564819949
/-- The number of which these are the parts, little. -/
def valZ (f : Nat → Int) : Nat → Int
  | 0 => 0
  | n + 1 => valZ f n + f n * 65536 ^ n
theorem valZ_congr {f g : Nat → Int} : ∀ {n : Nat}, (∀ i, i < n → f i = g i) → valZ f n = valZ g n
  | 0, _ => rfl
  | n + 1, h => by rw [valZ, valZ, valZ_congr (fun i hi => h i (by omega)), h n (by omega)]
theorem valZ_add (f g : Nat → Int) : ∀ n, valZ (fun i => f i + g i) n = valZ f n + valZ g n
  | 0 => rfl
  | n + 1 => by simp only [valZ]; rw [valZ_add f g n, Int.add_mul]; omega
theorem valZ_sub (f g : Nat → Int) : ∀ n, valZ (fun i => f i - g i) n = valZ f n - valZ g n
  | 0 => rfl
  | n + 1 => by simp only [valZ]; rw [valZ_sub f g n, Int.sub_mul]; omega
theorem valZ_mul (f : Nat → Int) (k : Int) : ∀ n, valZ (fun i => k * f i) n = k * valZ f n
  | 0 => by simp [valZ]
  | n + 1 => by simp only [valZ]; rw [valZ_mul f k n, Int.mul_add, Int.mul_assoc]
theorem valZ_zero : ∀ n, valZ (fun _ => 0) n = 0
  | 0 => rfl
  | n + 1 => by rw [valZ, valZ_zero n]; simp
theorem valZ_split (f : Nat → Int) (a : Nat) : ∀ b, valZ f (a + b) = valZ f a + 65536 ^ a * valZ (fun i => f (a + i)) b
  | 0 => by simp [valZ]
  | b + 1 => by
    rw [← Nat.add_assoc, valZ, valZ_split f a b, valZ, Int.mul_add, Int.pow_add]
    have : f (a + b) * (65536 ^ a * 65536 ^ b) = 65536 ^ a * (f (a + b) * 65536 ^ b) := by rw [← Int.mul_assoc, Int.mul_comm (f (a + b)), Int.mul_assoc]
    omega
theorem powZ_pos : ∀ n : Nat, (0 : Int) < 65536 ^ n
  | 0 => by decide
  | n + 1 => by rw [Int.pow_succ]; have := powZ_pos n; omega
theorem valZ_range {f : Nat → Int} : ∀ {n : Nat}, (∀ i, i < n → 0 ≤ f i ∧ f i < 65536) → 0 ≤ valZ f n ∧ valZ f n < 65536 ^ n
  | 0, _ => by simp [valZ]
  | n + 1, h => by
    have h1 := valZ_range (n := n) (fun i hi => h i (by omega))
    have h2 := h n (by omega)
    have hp := powZ_pos n
    have h3 : f n * 65536 ^ n ≤ 65535 * 65536 ^ n := Int.mul_le_mul_of_nonneg_right (by omega) (by omega)
    have h4 : 0 ≤ f n * 65536 ^ n := Int.mul_nonneg h2.1 (by omega)
    rw [valZ, Int.pow_succ]
    omega

/-! ### what is carried -/
def carZ (f : Nat → Int) : Nat → Int
  | 0 => 0
  | k + 1 => (f k + carZ f k) / 65536
def digZ (f : Nat → Int) (k : Nat) : Int := (f k + carZ f k) % 65536
theorem digZ_range (f : Nat → Int) (k : Nat) : 0 ≤ digZ f k ∧ digZ f k < 65536 := by unfold digZ; omega
theorem val_carZ (f : Nat → Int) : ∀ n, valZ (digZ f) n + 65536 ^ n * carZ f n = valZ f n
  | 0 => by simp [valZ, carZ]
  | n + 1 => by
    have ih := val_carZ f n
    have hd : digZ f n + 65536 * carZ f (n + 1) = carZ f n + f n := by
      simp only [digZ, carZ]
      omega
    have e1 : (65536 : Int) ^ (n + 1) * carZ f (n + 1) = 65536 ^ n * (65536 * carZ f (n + 1)) := by rw [Int.pow_succ, Int.mul_assoc]
    have e2 : digZ f n * 65536 ^ n = 65536 ^ n * digZ f n := Int.mul_comm _ _
    have e3 : (65536 : Int) ^ n * digZ f n + 65536 ^ n * (65536 * carZ f (n + 1)) = 65536 ^ n * (carZ f n + f n) := by rw [← Int.mul_add, hd]
    rw [Int.mul_add] at e3
    have e4 : f n * 65536 ^ n = 65536 ^ n * f n := Int.mul_comm _ _
    simp only [valZ]
    omega
/-- The parts behind a carrying. -/
def cryZ (f : Nat → Int) (i : Nat) : Int := if i = 0 then digZ f 0 + 38 * carZ f 16 else digZ f i
def likeP (a b : Int) : Prop := ∃ k, a = b + k * fldP
theorem likeP.refl (a : Int) : likeP a a := ⟨0, by omega⟩
theorem likeP.symm {a b : Int} : likeP a b → likeP b a := fun ⟨k, h⟩ => ⟨-k, by rw [h, Int.neg_mul]; omega⟩
theorem likeP.trans {a b c : Int} : likeP a b → likeP b c → likeP a c := fun ⟨k, h⟩ ⟨l, h'⟩ => ⟨k + l, by rw [h, h', Int.add_mul]; omega⟩
theorem likeP.add {a b c d : Int} : likeP a b → likeP c d → likeP (a + c) (b + d) := fun ⟨k, h⟩ ⟨l, h'⟩ => ⟨k + l, by rw [h, h', Int.add_mul]; omega⟩
theorem likeP.sub {a b c d : Int} : likeP a b → likeP c d → likeP (a - c) (b - d) := fun ⟨k, h⟩ ⟨l, h'⟩ => ⟨k - l, by rw [h, h', Int.sub_mul]; omega⟩
theorem likeP.mulR {a b : Int} (c : Int) : likeP a b → likeP (a * c) (b * c) := fun ⟨k, h⟩ => ⟨k * c, by rw [h, Int.add_mul, Int.mul_assoc k fldP c, Int.mul_comm fldP c, ← Int.mul_assoc]⟩
theorem likeP.mulL {a b : Int} (c : Int) (h : likeP a b) : likeP (c * a) (c * b) := by rw [Int.mul_comm c a, Int.mul_comm c b]; exact h.mulR c
theorem likeP.mul {a b c d : Int} (h : likeP a b) (h' : likeP c d) : likeP (a * c) (b * d) := (h.mulR c).trans (h'.mulL b)
theorem likeP_256 : likeP (65536 ^ 16) 38 := ⟨2, by decide⟩
theorem likeP.mod {a b : Int} : likeP a b → a % fldP = b % fldP := fun ⟨k, h⟩ => by rw [h, Int.add_mul_emod_self_right]
theorem likeP_of_mod {a b : Int} (h : a % fldP = b % fldP) : likeP a b := ⟨a / fldP - b / fldP, by
  have h1 := Int.mul_ediv_add_emod a fldP
  have h2 := Int.mul_ediv_add_emod b fldP
  rw [Int.sub_mul, Int.mul_comm (a / fldP), Int.mul_comm (b / fldP)]
  omega⟩
theorem likeP_mod (a : Int) : likeP (a % fldP) a := likeP_of_mod (Int.emod_emod_of_dvd a (Int.dvd_refl fldP))
theorem val_cry (f : Nat → Int) : valZ (cryZ f) 16 = valZ (digZ f) 16 + 38 * carZ f 16 := by
  have e1 := valZ_split (cryZ f) 1 15
  have e2 := valZ_split (digZ f) 1 15
  have e3 : valZ (fun i => cryZ f (1 + i)) 15 = valZ (fun i => digZ f (1 + i)) 15 := valZ_congr fun i _ => by rw [cryZ, if_neg (by omega)]
  have e4 : valZ (cryZ f) 1 = digZ f 0 + 38 * carZ f 16 := by simp [valZ, cryZ]
  have e5 : valZ (digZ f) 1 = digZ f 0 := by simp [valZ]
  rw [e3, e4] at e1
  rw [e5] at e2
  show valZ (cryZ f) (1 + 15) = valZ (digZ f) (1 + 15) + 38 * carZ f 16
  rw [e1, e2]
  omega
theorem like_cry (f : Nat → Int) : likeP (valZ (cryZ f) 16) (valZ f 16) := by
  have h := val_carZ f 16
  rw [val_cry, ← h]
  exact (likeP.refl _).add (likeP_256.symm.mulR _)
theorem carZ_le {f : Nat → Int} {M : Int} (h1 : ∀ i, -(65535 * M) ≤ f i) (h2 : ∀ i, f i ≤ 65535 * M) (h0 : 0 ≤ M) : ∀ k, -M - 1 ≤ carZ f k ∧ carZ f k ≤ M
  | 0 => by simp [carZ]; omega
  | k + 1 => by
    have ih := carZ_le h1 h2 h0 k
    have a := h1 k
    have b := h2 k
    rw [carZ]
    omega
theorem cryZ_tail (f : Nat → Int) (i : Nat) (hi : i ≠ 0) : 0 ≤ cryZ f i ∧ cryZ f i < 65536 := by rw [cryZ, if_neg hi]; exact digZ_range f i

/-! ### carried three times -/
/-- All but the lowest part are of 16 bits. -/
def tailZ (f : Nat → Int) : Prop := ∀ i, i ≠ 0 → 0 ≤ f i ∧ f i < 65536
theorem cry_tail (f : Nat → Int) : tailZ (cryZ f) := fun i hi => cryZ_tail f i hi
theorem car_tail {f : Nat → Int} (ht : tailZ f) {K : Int} (h1 : -(65536 * K) ≤ f 0) (h2 : f 0 < 65536 * K) (hK : 1 ≤ K) (hK2 : K ≤ 4294836224) : ∀ k, 1 ≤ k → -K ≤ carZ f k ∧ carZ f k ≤ K ∧ (2 ≤ k → -65535 ≤ carZ f k ∧ carZ f k ≤ 65536) ∧ (3 ≤ k → -1 ≤ carZ f k ∧ carZ f k ≤ 1)
  | 0, h => by omega
  | 1, _ => by
    have e : carZ f 1 = f 0 / 65536 := by simp [carZ]
    rw [e]
    omega
  | k + 2, _ => by
    have ih := car_tail ht h1 h2 hK hK2 (k + 1) (by omega)
    have ha := ht (k + 1) (by omega)
    have e : carZ f (k + 2) = (f (k + 1) + carZ f (k + 1)) / 65536 := rfl
    rw [e]
    omega
theorem cry_head {f : Nat → Int} {M : Int} (h1 : ∀ i, -(65535 * M) ≤ f i) (h2 : ∀ i, f i ≤ 65535 * M) (h0 : 0 ≤ M) : -(38 * (M + 1)) ≤ cryZ f 0 ∧ cryZ f 0 < 65536 + 38 * M := by
  have hc := carZ_le h1 h2 h0 16
  have hd := digZ_range f 0
  rw [cryZ, if_pos rfl]
  omega
theorem cry_second {f : Nat → Int} (ht : tailZ f) {K : Int} (h1 : -(65536 * K) ≤ f 0) (h2 : f 0 < 65536 * K) (hK : 1 ≤ K) (hK2 : K ≤ 4294836224) : -38 ≤ cryZ f 0 ∧ cryZ f 0 ≤ 65573 := by
  have hc := (car_tail ht h1 h2 hK hK2 16 (by omega)).2.2.2 (by omega)
  have hd := digZ_range f 0
  rw [cryZ, if_pos rfl]
  omega
theorem cry_third {f : Nat → Int} (ht : tailZ f) (h1 : -38 ≤ f 0) (h2 : f 0 ≤ 65573) : ∀ i, 0 ≤ cryZ f i ∧ cryZ f i < 65536 := by
  intro i
  by_cases hi : i = 0
  · subst hi
    have hc := (car_tail ht (K := 2) (by omega) (by omega) (by omega) (by omega) 16 (by omega)).2.2.2 (by omega)
    have hv := val_carZ f 16
    have hr := valZ_range (f := digZ f) (n := 16) (fun i _ => digZ_range f i)
    have e1 := valZ_split f 1 15
    have e2 : valZ f 1 = f 0 := by simp [valZ]
    have ht' := valZ_range (f := fun i => f (1 + i)) (n := 15) (fun i _ => ht (1 + i) (by omega))
    have e3 : valZ f 16 = f 0 + 65536 * valZ (fun i => f (1 + i)) 15 := by
      rw [e2] at e1
      simpa using e1
    have e4 : (65536 : Int) ^ 16 = 65536 * 65536 ^ 15 := by decide
    have hd : digZ f 0 = f 0 % 65536 := by simp [digZ, carZ]
    rw [e3] at hv
    rw [cryZ, if_pos rfl, hd]
    generalize valZ (fun i => f (1 + i)) 15 = T at hv ht'
    generalize valZ (digZ f) 16 = D at hv hr
    generalize carZ f 16 = q at hc hv
    rw [e4] at hv hr
    generalize (65536 : Int) ^ 15 = B at hv hr ht'
    have hq : q = -1 ∨ q = 0 ∨ q = 1 := by omega
    rcases hq with rfl | rfl | rfl <;> omega
  · exact cryZ_tail f i hi
/-- Three carryings of parts that are not too great: parts of 16 bits. -/
theorem cry_thrice {f : Nat → Int} (h1 : ∀ i, -140737488355328 ≤ f i) (h2 : ∀ i, f i ≤ 140737488355328) : ∀ i, 0 ≤ cryZ (cryZ (cryZ f)) i ∧ cryZ (cryZ (cryZ f)) i < 65536 := by
  have a := cry_head (f := f) (M := 2147516417) (fun i => by have := h1 i; omega) (fun i => by have := h2 i; omega) (by omega)
  have b := cry_second (cry_tail f) (K := 2000000) (by omega) (by omega) (by omega) (by omega)
  exact cry_third (cry_tail _) b.1 b.2
/-- Two carryings: parts of 16 bits but the lowest, which is nearly so. -/
theorem cry_twice {f : Nat → Int} (h1 : ∀ i, -140737488355328 ≤ f i) (h2 : ∀ i, f i ≤ 140737488355328) : tailZ (cryZ (cryZ f)) ∧ -38 ≤ cryZ (cryZ f) 0 ∧ cryZ (cryZ f) 0 ≤ 65573 := by
  have a := cry_head (f := f) (M := 2147516417) (fun i => by have := h1 i; omega) (fun i => by have := h2 i; omega) (by omega)
  exact ⟨cry_tail _, cry_second (cry_tail f) (K := 2000000) (by omega) (by omega) (by omega) (by omega)⟩

/-! ### p taken away where it can be -/
def prtZ (i : Nat) : Int := if i = 0 then 65517 else if i = 15 then 32767 else 65535
theorem val_prt : valZ prtZ 16 = fldP := by decide
def dffZ (t : Nat → Int) (i : Nat) : Int := t i - prtZ i
def topZ (t : Nat → Int) : Int := dffZ t 15 + carZ (dffZ t) 15
def lssZ (t : Nat → Int) (i : Nat) : Int := if topZ t < 0 then t i else if i = 15 then topZ t else digZ (dffZ t) i
theorem dff_car {t : Nat → Int} (ht : ∀ i, 0 ≤ t i ∧ t i < 65536) : ∀ k, -1 ≤ carZ (dffZ t) k ∧ carZ (dffZ t) k ≤ 0
  | 0 => by simp [carZ]
  | k + 1 => by
    have ih := dff_car ht k
    have h := ht k
    have hp : 32767 ≤ prtZ k ∧ prtZ k ≤ 65535 := by
      unfold prtZ
      split
      · omega
      · split <;> omega
    have hk : carZ (dffZ t) (k + 1) = (dffZ t k + carZ (dffZ t) k) / 65536 := rfl
    have hd : dffZ t k = t k - prtZ k := rfl
    rw [hk, hd]
    omega
theorem val_dff (t : Nat → Int) : valZ (digZ (dffZ t)) 15 + topZ t * 65536 ^ 15 = valZ t 16 - fldP := by
  have h := val_carZ (dffZ t) 15
  have e : valZ (dffZ t) 16 = valZ t 16 - valZ prtZ 16 := valZ_sub t prtZ 16
  have e2 : valZ (dffZ t) 16 = valZ (dffZ t) 15 + dffZ t 15 * 65536 ^ 15 := rfl
  rw [val_prt] at e
  have e3 : topZ t * 65536 ^ 15 = dffZ t 15 * 65536 ^ 15 + 65536 ^ 15 * carZ (dffZ t) 15 := by rw [topZ, Int.add_mul, Int.mul_comm (carZ _ _)]
  omega
theorem lss_range {t : Nat → Int} (ht : ∀ i, 0 ≤ t i ∧ t i < 65536) : ∀ i, 0 ≤ lssZ t i ∧ lssZ t i < 65536 := by
  intro i
  have hc := dff_car ht 15
  have h15 := ht 15
  have hp : prtZ 15 = 32767 := by decide
  have hd : dffZ t 15 = t 15 - prtZ 15 := rfl
  unfold lssZ
  split
  · exact ht i
  · split
    · unfold topZ at *
      omega
    · exact digZ_range _ _
theorem val_lss {t : Nat → Int} : valZ (lssZ t) 16 = if fldP ≤ valZ t 16 then valZ t 16 - fldP else valZ t 16 := by
  have hv := val_dff t
  have hr := valZ_range (f := digZ (dffZ t)) (n := 15) (fun i _ => digZ_range _ i)
  by_cases hb : topZ t < 0
  · have e : lssZ t = t := by funext i; rw [lssZ, if_pos hb]
    have hlt : topZ t * 65536 ^ 15 ≤ -1 * 65536 ^ 15 := Int.mul_le_mul_of_nonneg_right (by omega) (by decide)
    rw [e, if_neg (by omega)]
  · have hge : 0 ≤ topZ t * 65536 ^ 15 := Int.mul_nonneg (by omega) (by decide)
    have e : valZ (lssZ t) 16 = valZ (lssZ t) 15 + lssZ t 15 * 65536 ^ 15 := rfl
    have e2 : valZ (lssZ t) 15 = valZ (digZ (dffZ t)) 15 := valZ_congr fun i hi => by rw [lssZ, if_neg hb, if_neg (by omega)]
    have e3 : lssZ t 15 = topZ t := by rw [lssZ, if_neg hb, if_pos rfl]
    rw [e, e2, e3, hv, if_pos (by omega)]
/-- The parts of what is left. -/
def redZ (f : Nat → Int) : Nat → Int := lssZ (lssZ (cryZ (cryZ (cryZ f))))
theorem red_range {f : Nat → Int} (h1 : ∀ i, -140737488355328 ≤ f i) (h2 : ∀ i, f i ≤ 140737488355328) : ∀ i, 0 ≤ redZ f i ∧ redZ f i < 65536 := lss_range (lss_range (cry_thrice h1 h2))
theorem val_red {f : Nat → Int} (h1 : ∀ i, -140737488355328 ≤ f i) (h2 : ∀ i, f i ≤ 140737488355328) : valZ (redZ f) 16 = valZ f 16 % fldP := by
  have hl : likeP (valZ (cryZ (cryZ (cryZ f))) 16) (valZ f 16) := (like_cry _).trans ((like_cry _).trans (like_cry _))
  have hr := valZ_range (f := cryZ (cryZ (cryZ f))) (n := 16) (fun i _ => cry_thrice h1 h2 i)
  rw [← hl.mod]
  generalize hV : valZ (cryZ (cryZ (cryZ f))) 16 = V at hr
  have hP : (65536 : Int) ^ 16 = 2 * fldP + 38 := by decide
  have h38 : (38 : Int) < fldP := by decide
  have hpos : 0 < fldP := by decide
  have key : ∀ W, W = V → V % fldP = if fldP ≤ (if fldP ≤ W then W - fldP else W) then (if fldP ≤ W then W - fldP else W) - fldP else (if fldP ≤ W then W - fldP else W) := by
    rintro W rfl
    by_cases c1 : fldP ≤ W
    · rw [if_pos c1]
      by_cases c2 : fldP ≤ W - fldP
      · rw [if_pos c2]
        have : W = (W - fldP - fldP) + 2 * fldP := by omega
        rw [this, Int.add_mul_emod_self_right, Int.emod_eq_of_lt (by omega) (by omega)]
        omega
      · rw [if_neg c2]
        have : W = (W - fldP) + 1 * fldP := by omega
        rw [this, Int.add_mul_emod_self_right, Int.emod_eq_of_lt (by omega) (by omega)]
        omega
    · rw [if_neg c1, if_neg c1, Int.emod_eq_of_lt (by omega) (by omega)]
  rw [key V rfl, redZ, val_lss, val_lss, hV]

end Go.Proofs.Ytghoibggmddkmao
