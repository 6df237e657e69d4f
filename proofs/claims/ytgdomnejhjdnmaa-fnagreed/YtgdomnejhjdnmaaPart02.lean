/-
  The byte's row of the program's table of types.
  The int's row of the program's table of types.
  Numbers of 16 parts of 16 bits, which may be below 0 or above 16 bits, and what is left of them by 2 to the 255th less 19: plain laws of whole numbers.
  Two numbers of 16 parts multiplied, and a number to a power: plain laws of whole numbers.
  2 to the 255th less 19 is a prime, and so a number's power by it less 1 is 1: by a number whose powers are all of them (Pratt's way). Plain laws of natural numbers.
  What spec.Little and impl.Little answer at every argument; no condition but that n is an int.
  What spec.Same and impl.Same answer, whatever bytes they are given; no condition.
  What the draws' cursor does, whatever bytes it is over: l1New makes one, l1Byte and l1Below give a number in their bounds and move it on; condition: at most 1048576 bytes.
  What the draws of bytes, of one of some texts or numbers, and of yes or no do, whatever cursor they are given; conditions: at most 255 bytes, at most 256 to pick from.
  What the laws' draws of chapter 3 make of any code: some bytes of their own, at most 4001. Condition: the code is of bytes, at most 2^20.
  What the draws of a tag's law answer: a key of 32 bytes or so, and some bytes.
  What the laws' helper big answers of a code's length, and a list's beginning; no condition.
-/
import Derived.Test.YtgdomnejhjdnmaaPart01
import Derived.Test.YtgdomnejhjdnmaaChecked
import Derived.Deep.QuietTactic
import Derived.BigQuiet
namespace Go.Proofs.Ytgdomnejhjdnmaa
open Go.RowKit
set_option maxRecDepth 100000

theorem infoByte : (Try.prog.info? 5).map (fun i => (i.zero, i.size, i.bytes)) = some (some (.int .u8 0), 1, 1) := by kernel_rfl

end Go.Proofs.Ytgdomnejhjdnmaa

namespace Go.Proofs.Ytgdomnejhjdnmaa
open Go.RowKit
set_option maxRecDepth 100000

theorem infoInt : (Try.prog.info? 3).map (fun i => (i.zero, i.size, i.bytes)) = some (some (.int .i64 0), 1, 8) := by kernel_rfl

end Go.Proofs.Ytgdomnejhjdnmaa

namespace Go.Proofs.Ytgdomnejhjdnmaa
set_option maxRecDepth 100000

def fldP : Int := 57896044618658097711785492504343953926634992332820282019728792003956564819949
/-- The number of which these are the parts, little. -/
def valZ (f : Nat → Int) : Nat → Int
  | 0 => 0
  | n + 1 => valZ f n + f n * 65536 ^ n
theorem valZ_congr {f g : Nat → Int} : ∀ {n : Nat}, (∀ i, i < n → f i = g i) → valZ f n = valZ g n
  | 0, _ => rfl
  | n + 1, h => by rw [valZ, valZ, valZ_congr (fun i hi => h i (by omega)), h n (by omega)]
theorem valZ_add (f g : Nat → Int) : ∀ n, valZ (fun i => f i + g i) n = valZ f n + valZ g n
  | 0 => rfl
  | n + 1 => by simp only [valZ]; rw [valZ_add f g n, Int.add_mul]; omega
theorem valZ_sub (f g : Nat → Int) : ∀ n, valZ (fun i => f i - g i) n = valZ f n - valZ g n
  | 0 => rfl
  | n + 1 => by simp only [valZ]; rw [valZ_sub f g n, Int.sub_mul]; omega
theorem valZ_mul (f : Nat → Int) (k : Int) : ∀ n, valZ (fun i => k * f i) n = k * valZ f n
  | 0 => by simp [valZ]
  | n + 1 => by simp only [valZ]; rw [valZ_mul f k n, Int.mul_add, Int.mul_assoc]
theorem valZ_zero : ∀ n, valZ (fun _ => 0) n = 0
  | 0 => rfl
  | n + 1 => by rw [valZ, valZ_zero n]; simp
theorem valZ_split (f : Nat → Int) (a : Nat) : ∀ b, valZ f (a + b) = valZ f a + 65536 ^ a * valZ (fun i => f (a + i)) b
  | 0 => by simp [valZ]
  | b + 1 => by
    rw [← Nat.add_assoc, valZ, valZ_split f a b, valZ, Int.mul_add, Int.pow_add]
    have : f (a + b) * (65536 ^ a * 65536 ^ b) = 65536 ^ a * (f (a + b) * 65536 ^ b) := by rw [← Int.mul_assoc, Int.mul_comm (f (a + b)), Int.mul_assoc]
    omega
theorem powZ_pos : ∀ n : Nat, (0 : Int) < 65536 ^ n
  | 0 => by decide
  | n + 1 => by rw [Int.pow_succ]; have := powZ_pos n; omega
theorem valZ_range {f : Nat → Int} : ∀ {n : Nat}, (∀ i, i < n → 0 ≤ f i ∧ f i < 65536) → 0 ≤ valZ f n ∧ valZ f n < 65536 ^ n
  | 0, _ => by simp [valZ]
  | n + 1, h => by
    have h1 := valZ_range (n := n) (fun i hi => h i (by omega))
    have h2 := h n (by omega)
    have hp := powZ_pos n
    have h3 : f n * 65536 ^ n ≤ 65535 * 65536 ^ n := Int.mul_le_mul_of_nonneg_right (by omega) (by omega)
    have h4 : 0 ≤ f n * 65536 ^ n := Int.mul_nonneg h2.1 (by omega)
    rw [valZ, Int.pow_succ]
    omega

/-! ### what is carried -/
def carZ (f : Nat → Int) : Nat → Int
  | 0 => 0
  | k + 1 => (f k + carZ f k) / 65536
def digZ (f : Nat → Int) (k : Nat) : Int := (f k + carZ f k) % 65536
theorem digZ_range (f : Nat → Int) (k : Nat) : 0 ≤ digZ f k ∧ digZ f k < 65536 := by unfold digZ; omega
theorem val_carZ (f : Nat → Int) : ∀ n, valZ (digZ f) n + 65536 ^ n * carZ f n = valZ f n
  | 0 => by simp [valZ, carZ]
  | n + 1 => by
    have ih := val_carZ f n
    have hd : digZ f n + 65536 * carZ f (n + 1) = carZ f n + f n := by
      simp only [digZ, carZ]
      omega
    have e1 : (65536 : Int) ^ (n + 1) * carZ f (n + 1) = 65536 ^ n * (65536 * carZ f (n + 1)) := by rw [Int.pow_succ, Int.mul_assoc]
    have e2 : digZ f n * 65536 ^ n = 65536 ^ n * digZ f n := Int.mul_comm _ _
    have e3 : (65536 : Int) ^ n * digZ f n + 65536 ^ n * (65536 * carZ f (n + 1)) = 65536 ^ n * (carZ f n + f n) := by rw [← Int.mul_add, hd]
    rw [Int.mul_add] at e3
    have e4 : f n * 65536 ^ n = 65536 ^ n * f n := Int.mul_comm _ _
    simp only [valZ]
    omega
/-- The parts behind a carrying. -/
def cryZ (f : Nat → Int) (i : Nat) : Int := if i = 0 then digZ f 0 + 38 * carZ f 16 else digZ f i
def likeP (a b : Int) : Prop := ∃ k, a = b + k * fldP
theorem likeP.refl (a : Int) : likeP a a := ⟨0, by omega⟩
theorem likeP.symm {a b : Int} : likeP a b → likeP b a := fun ⟨k, h⟩ => ⟨-k, by rw [h, Int.neg_mul]; omega⟩
theorem likeP.trans {a b c : Int} : likeP a b → likeP b c → likeP a c := fun ⟨k, h⟩ ⟨l, h'⟩ => ⟨k + l, by rw [h, h', Int.add_mul]; omega⟩
theorem likeP.add {a b c d : Int} : likeP a b → likeP c d → likeP (a + c) (b + d) := fun ⟨k, h⟩ ⟨l, h'⟩ => ⟨k + l, by rw [h, h', Int.add_mul]; omega⟩
theorem likeP.sub {a b c d : Int} : likeP a b → likeP c d → likeP (a - c) (b - d) := fun ⟨k, h⟩ ⟨l, h'⟩ => ⟨k - l, by rw [h, h', Int.sub_mul]; omega⟩
theorem likeP.mulR {a b : Int} (c : Int) : likeP a b → likeP (a * c) (b * c) := fun ⟨k, h⟩ => ⟨k * c, by rw [h, Int.add_mul, Int.mul_assoc k fldP c, Int.mul_comm fldP c, ← Int.mul_assoc]⟩
theorem likeP.mulL {a b : Int} (c : Int) (h : likeP a b) : likeP (c * a) (c * b) := by rw [Int.mul_comm c a, Int.mul_comm c b]; exact h.mulR c
theorem likeP.mul {a b c d : Int} (h : likeP a b) (h' : likeP c d) : likeP (a * c) (b * d) := (h.mulR c).trans (h'.mulL b)
theorem likeP_256 : likeP (65536 ^ 16) 38 := ⟨2, by decide⟩
theorem likeP.mod {a b : Int} : likeP a b → a % fldP = b % fldP := fun ⟨k, h⟩ => by rw [h, Int.add_mul_emod_self_right]
theorem likeP_of_mod {a b : Int} (h : a % fldP = b % fldP) : likeP a b := ⟨a / fldP - b / fldP, by
  have h1 := Int.mul_ediv_add_emod a fldP
  have h2 := Int.mul_ediv_add_emod b fldP
  rw [Int.sub_mul, Int.mul_comm (a / fldP), Int.mul_comm (b / fldP)]
  omega⟩
theorem likeP_mod (a : Int) : likeP (a % fldP) a := likeP_of_mod (Int.emod_emod_of_dvd a (Int.dvd_refl fldP))
theorem val_cry (f : Nat → Int) : valZ (cryZ f) 16 = valZ (digZ f) 16 + 38 * carZ f 16 := by
  have e1 := valZ_split (cryZ f) 1 15
  have e2 := valZ_split (digZ f) 1 15
  have e3 : valZ (fun i => cryZ f (1 + i)) 15 = valZ (fun i => digZ f (1 + i)) 15 := valZ_congr fun i _ => by rw [cryZ, if_neg (by omega)]
  have e4 : valZ (cryZ f) 1 = digZ f 0 + 38 * carZ f 16 := by simp [valZ, cryZ]
  have e5 : valZ (digZ f) 1 = digZ f 0 := by simp [valZ]
  rw [e3, e4] at e1
  rw [e5] at e2
  show valZ (cryZ f) (1 + 15) = valZ (digZ f) (1 + 15) + 38 * carZ f 16
  rw [e1, e2]
  omega
theorem like_cry (f : Nat → Int) : likeP (valZ (cryZ f) 16) (valZ f 16) := by
  have h := val_carZ f 16
  rw [val_cry, ← h]
  exact (likeP.refl _).add (likeP_256.symm.mulR _)
theorem carZ_le {f : Nat → Int} {M : Int} (h1 : ∀ i, -(65535 * M) ≤ f i) (h2 : ∀ i, f i ≤ 65535 * M) (h0 : 0 ≤ M) : ∀ k, -M - 1 ≤ carZ f k ∧ carZ f k ≤ M
  | 0 => by simp [carZ]; omega
  | k + 1 => by
    have ih := carZ_le h1 h2 h0 k
    have a := h1 k
    have b := h2 k
    rw [carZ]
    omega
theorem cryZ_tail (f : Nat → Int) (i : Nat) (hi : i ≠ 0) : 0 ≤ cryZ f i ∧ cryZ f i < 65536 := by rw [cryZ, if_neg hi]; exact digZ_range f i

/-! ### carried three times -/
/-- All but the lowest part are of 16 bits. -/
def tailZ (f : Nat → Int) : Prop := ∀ i, i ≠ 0 → 0 ≤ f i ∧ f i < 65536
theorem cry_tail (f : Nat → Int) : tailZ (cryZ f) := fun i hi => cryZ_tail f i hi
theorem car_tail {f : Nat → Int} (ht : tailZ f) {K : Int} (h1 : -(65536 * K) ≤ f 0) (h2 : f 0 < 65536 * K) (hK : 1 ≤ K) (hK2 : K ≤ 4294836224) : ∀ k, 1 ≤ k → -K ≤ carZ f k ∧ carZ f k ≤ K ∧ (2 ≤ k → -65535 ≤ carZ f k ∧ carZ f k ≤ 65536) ∧ (3 ≤ k → -1 ≤ carZ f k ∧ carZ f k ≤ 1)
  | 0, h => by omega
  | 1, _ => by
    have e : carZ f 1 = f 0 / 65536 := by simp [carZ]
    rw [e]
    omega
  | k + 2, _ => by
    have ih := car_tail ht h1 h2 hK hK2 (k + 1) (by omega)
    have ha := ht (k + 1) (by omega)
    have e : carZ f (k + 2) = (f (k + 1) + carZ f (k + 1)) / 65536 := rfl
    rw [e]
    omega
theorem cry_head {f : Nat → Int} {M : Int} (h1 : ∀ i, -(65535 * M) ≤ f i) (h2 : ∀ i, f i ≤ 65535 * M) (h0 : 0 ≤ M) : -(38 * (M + 1)) ≤ cryZ f 0 ∧ cryZ f 0 < 65536 + 38 * M := by
  have hc := carZ_le h1 h2 h0 16
  have hd := digZ_range f 0
  rw [cryZ, if_pos rfl]
  omega
theorem cry_second {f : Nat → Int} (ht : tailZ f) {K : Int} (h1 : -(65536 * K) ≤ f 0) (h2 : f 0 < 65536 * K) (hK : 1 ≤ K) (hK2 : K ≤ 4294836224) : -38 ≤ cryZ f 0 ∧ cryZ f 0 ≤ 65573 := by
  have hc := (car_tail ht h1 h2 hK hK2 16 (by omega)).2.2.2 (by omega)
  have hd := digZ_range f 0
  rw [cryZ, if_pos rfl]
  omega
theorem cry_third {f : Nat → Int} (ht : tailZ f) (h1 : -38 ≤ f 0) (h2 : f 0 ≤ 65573) : ∀ i, 0 ≤ cryZ f i ∧ cryZ f i < 65536 := by
  intro i
  by_cases hi : i = 0
  · subst hi
    have hc := (car_tail ht (K := 2) (by omega) (by omega) (by omega) (by omega) 16 (by omega)).2.2.2 (by omega)
    have hv := val_carZ f 16
    have hr := valZ_range (f := digZ f) (n := 16) (fun i _ => digZ_range f i)
    have e1 := valZ_split f 1 15
    have e2 : valZ f 1 = f 0 := by simp [valZ]
    have ht' := valZ_range (f := fun i => f (1 + i)) (n := 15) (fun i _ => ht (1 + i) (by omega))
    have e3 : valZ f 16 = f 0 + 65536 * valZ (fun i => f (1 + i)) 15 := by
      rw [e2] at e1
      simpa using e1
    have e4 : (65536 : Int) ^ 16 = 65536 * 65536 ^ 15 := by decide
    have hd : digZ f 0 = f 0 % 65536 := by simp [digZ, carZ]
    rw [e3] at hv
    rw [cryZ, if_pos rfl, hd]
    generalize valZ (fun i => f (1 + i)) 15 = T at hv ht'
    generalize valZ (digZ f) 16 = D at hv hr
    generalize carZ f 16 = q at hc hv
    rw [e4] at hv hr
    generalize (65536 : Int) ^ 15 = B at hv hr ht'
    have hq : q = -1 ∨ q = 0 ∨ q = 1 := by omega
    rcases hq with rfl | rfl | rfl <;> omega
  · exact cryZ_tail f i hi
/-- Three carryings of parts that are not too great: parts of 16 bits. -/
theorem cry_thrice {f : Nat → Int} (h1 : ∀ i, -140737488355328 ≤ f i) (h2 : ∀ i, f i ≤ 140737488355328) : ∀ i, 0 ≤ cryZ (cryZ (cryZ f)) i ∧ cryZ (cryZ (cryZ f)) i < 65536 := by
  have a := cry_head (f := f) (M := 2147516417) (fun i => by have := h1 i; omega) (fun i => by have := h2 i; omega) (by omega)
  have b := cry_second (cry_tail f) (K := 2000000) (by omega) (by omega) (by omega) (by omega)
  exact cry_third (cry_tail _) b.1 b.2
/-- Two carryings: parts of 16 bits but the lowest, which is nearly so. -/
theorem cry_twice {f : Nat → Int} (h1 : ∀ i, -140737488355328 ≤ f i) (h2 : ∀ i, f i ≤ 140737488355328) : tailZ (cryZ (cryZ f)) ∧ -38 ≤ cryZ (cryZ f) 0 ∧ cryZ (cryZ f) 0 ≤ 65573 := by
  have a := cry_head (f := f) (M := 2147516417) (fun i => by have := h1 i; omega) (fun i => by have := h2 i; omega) (by omega)
  exact ⟨cry_tail _, cry_second (cry_tail f) (K := 2000000) (by omega) (by omega) (by omega) (by omega)⟩

/-! ### p taken away where it can be -/
def prtZ (i : Nat) : Int := if i = 0 then 65517 else if i = 15 then 32767 else 65535
theorem val_prt : valZ prtZ 16 = fldP := by decide
def dffZ (t : Nat → Int) (i : Nat) : Int := t i - prtZ i
def topZ (t : Nat → Int) : Int := dffZ t 15 + carZ (dffZ t) 15
def lssZ (t : Nat → Int) (i : Nat) : Int := if topZ t < 0 then t i else if i = 15 then topZ t else digZ (dffZ t) i
theorem dff_car {t : Nat → Int} (ht : ∀ i, 0 ≤ t i ∧ t i < 65536) : ∀ k, -1 ≤ carZ (dffZ t) k ∧ carZ (dffZ t) k ≤ 0
  | 0 => by simp [carZ]
  | k + 1 => by
    have ih := dff_car ht k
    have h := ht k
    have hp : 32767 ≤ prtZ k ∧ prtZ k ≤ 65535 := by
      unfold prtZ
      split
      · omega
      · split <;> omega
    have hk : carZ (dffZ t) (k + 1) = (dffZ t k + carZ (dffZ t) k) / 65536 := rfl
    have hd : dffZ t k = t k - prtZ k := rfl
    rw [hk, hd]
    omega
theorem val_dff (t : Nat → Int) : valZ (digZ (dffZ t)) 15 + topZ t * 65536 ^ 15 = valZ t 16 - fldP := by
  have h := val_carZ (dffZ t) 15
  have e : valZ (dffZ t) 16 = valZ t 16 - valZ prtZ 16 := valZ_sub t prtZ 16
  have e2 : valZ (dffZ t) 16 = valZ (dffZ t) 15 + dffZ t 15 * 65536 ^ 15 := rfl
  rw [val_prt] at e
  have e3 : topZ t * 65536 ^ 15 = dffZ t 15 * 65536 ^ 15 + 65536 ^ 15 * carZ (dffZ t) 15 := by rw [topZ, Int.add_mul, Int.mul_comm (carZ _ _)]
  omega
theorem lss_range {t : Nat → Int} (ht : ∀ i, 0 ≤ t i ∧ t i < 65536) : ∀ i, 0 ≤ lssZ t i ∧ lssZ t i < 65536 := by
  intro i
  have hc := dff_car ht 15
  have h15 := ht 15
  have hp : prtZ 15 = 32767 := by decide
  have hd : dffZ t 15 = t 15 - prtZ 15 := rfl
  unfold lssZ
  split
  · exact ht i
  · split
    · unfold topZ at *
      omega
    · exact digZ_range _ _
theorem val_lss {t : Nat → Int} : valZ (lssZ t) 16 = if fldP ≤ valZ t 16 then valZ t 16 - fldP else valZ t 16 := by
  have hv := val_dff t
  have hr := valZ_range (f := digZ (dffZ t)) (n := 15) (fun i _ => digZ_range _ i)
  by_cases hb : topZ t < 0
  · have e : lssZ t = t := by funext i; rw [lssZ, if_pos hb]
    have hlt : topZ t * 65536 ^ 15 ≤ -1 * 65536 ^ 15 := Int.mul_le_mul_of_nonneg_right (by omega) (by decide)
    rw [e, if_neg (by omega)]
  · have hge : 0 ≤ topZ t * 65536 ^ 15 := Int.mul_nonneg (by omega) (by decide)
    have e : valZ (lssZ t) 16 = valZ (lssZ t) 15 + lssZ t 15 * 65536 ^ 15 := rfl
    have e2 : valZ (lssZ t) 15 = valZ (digZ (dffZ t)) 15 := valZ_congr fun i hi => by rw [lssZ, if_neg hb, if_neg (by omega)]
    have e3 : lssZ t 15 = topZ t := by rw [lssZ, if_neg hb, if_pos rfl]
    rw [e, e2, e3, hv, if_pos (by omega)]
/-- The parts of what is left. -/
def redZ (f : Nat → Int) : Nat → Int := lssZ (lssZ (cryZ (cryZ (cryZ f))))
theorem red_range {f : Nat → Int} (h1 : ∀ i, -140737488355328 ≤ f i) (h2 : ∀ i, f i ≤ 140737488355328) : ∀ i, 0 ≤ redZ f i ∧ redZ f i < 65536 := lss_range (lss_range (cry_thrice h1 h2))
theorem val_red {f : Nat → Int} (h1 : ∀ i, -140737488355328 ≤ f i) (h2 : ∀ i, f i ≤ 140737488355328) : valZ (redZ f) 16 = valZ f 16 % fldP := by
  have hl : likeP (valZ (cryZ (cryZ (cryZ f))) 16) (valZ f 16) := (like_cry _).trans ((like_cry _).trans (like_cry _))
  have hr := valZ_range (f := cryZ (cryZ (cryZ f))) (n := 16) (fun i _ => cry_thrice h1 h2 i)
  rw [← hl.mod]
  generalize hV : valZ (cryZ (cryZ (cryZ f))) 16 = V at hr
  have hP : (65536 : Int) ^ 16 = 2 * fldP + 38 := by decide
  have h38 : (38 : Int) < fldP := by decide
  have hpos : 0 < fldP := by decide
  have key : ∀ W, W = V → V % fldP = if fldP ≤ (if fldP ≤ W then W - fldP else W) then (if fldP ≤ W then W - fldP else W) - fldP else (if fldP ≤ W then W - fldP else W) := by
    rintro W rfl
    by_cases c1 : fldP ≤ W
    · rw [if_pos c1]
      by_cases c2 : fldP ≤ W - fldP
      · rw [if_pos c2]
        have : W = (W - fldP - fldP) + 2 * fldP := by omega
        rw [this, Int.add_mul_emod_self_right, Int.emod_eq_of_lt (by omega) (by omega)]
        omega
      · rw [if_neg c2]
        have : W = (W - fldP) + 1 * fldP := by omega
        rw [this, Int.add_mul_emod_self_right, Int.emod_eq_of_lt (by omega) (by omega)]
        omega
    · rw [if_neg c1, if_neg c1, Int.emod_eq_of_lt (by omega) (by omega)]
  rw [key V rfl, redZ, val_lss, val_lss, hV]

end Go.Proofs.Ytgdomnejhjdnmaa

namespace Go.Proofs.Ytgdomnejhjdnmaa
set_option maxRecDepth 100000

/-- What row i brings to part k, of which the first j are done. -/
def rowZ (a b : Nat → Int) (i j k : Nat) : Int := if i ≤ k ∧ k - i < j then a i * b (k - i) else 0
/-- What the first i rows bring to part k. -/
def rwsZ (a b : Nat → Int) : Nat → Nat → Int
  | 0, _ => 0
  | i + 1, k => rwsZ a b i k + rowZ a b i 16 k
theorem val_row (a b : Nat → Int) (i : Nat) (hi : i < 16) : valZ (rowZ a b i 16) 31 = a i * 65536 ^ i * valZ b 16 := by
  have e1 := valZ_split (rowZ a b i 16) i (31 - i)
  rw [show i + (31 - i) = 31 by omega] at e1
  have e2 := valZ_split (fun k => rowZ a b i 16 (i + k)) 16 (15 - i)
  rw [show 16 + (15 - i) = 31 - i by omega] at e2
  have z1 : valZ (rowZ a b i 16) i = 0 := by
    rw [valZ_congr (g := fun _ => 0) (fun k hk => by rw [rowZ, if_neg (by omega)]), valZ_zero]
  have z2 : valZ (fun k => rowZ a b i 16 (i + (16 + k))) (15 - i) = 0 := by
    rw [valZ_congr (g := fun _ => 0) (fun k hk => by rw [rowZ, if_neg (by omega)]), valZ_zero]
  have z3 : valZ (fun k => rowZ a b i 16 (i + k)) 16 = a i * valZ b 16 := by
    rw [← valZ_mul]
    refine valZ_congr fun k hk => ?_
    rw [rowZ, if_pos (by omega), show i + k - i = k by omega]
  rw [e1, z1, e2, z2, z3, Int.mul_zero, Int.add_zero, Int.zero_add, ← Int.mul_assoc, Int.mul_comm (65536 ^ i) (a i)]
theorem val_rws (a b : Nat → Int) : ∀ i, i ≤ 16 → valZ (rwsZ a b i) 31 = valZ a i * valZ b 16
  | 0, _ => by
    rw [show rwsZ a b 0 = fun _ => 0 from rfl, valZ_zero, valZ, Int.zero_mul]
  | i + 1, hi => by
    rw [show rwsZ a b (i + 1) = fun k => rwsZ a b i k + rowZ a b i 16 k from rfl, valZ_add, val_rws a b i (by omega), val_row a b i (by omega)]
    show _ = (valZ a i + a i * 65536 ^ i) * valZ b 16
    rw [Int.add_mul]
/-- 31 parts made 16. -/
def fldZ (t : Nat → Int) (i : Nat) : Int := if i < 15 then t i + 38 * t (i + 16) else t i
theorem like_fld (t : Nat → Int) : likeP (valZ (fldZ t) 16) (valZ t 31) := by
  have e1 := valZ_split t 16 15
  have e2 : valZ (fldZ t) 16 = valZ t 16 + 38 * valZ (fun i => t (16 + i)) 15 := by
    have h1 : valZ (fldZ t) 16 = valZ (fldZ t) 15 + fldZ t 15 * 65536 ^ 15 := rfl
    have h2 : valZ t 16 = valZ t 15 + t 15 * 65536 ^ 15 := rfl
    have h3 : valZ (fldZ t) 15 = valZ (fun i => t i + 38 * t (16 + i)) 15 := valZ_congr fun i hi => by rw [fldZ, if_pos hi, Nat.add_comm]
    have h4 : fldZ t 15 = t 15 := by rw [fldZ, if_neg (by omega)]
    rw [h1, h2, h3, h4, valZ_add, valZ_mul]
    omega
  rw [e2, show valZ t 31 = _ from e1]
  exact (likeP.refl _).add (likeP_256.symm.mulR _)
def mulZ (a b : Nat → Int) : Nat → Int := cryZ (cryZ (fldZ (rwsZ a b 16)))
theorem like_mul (a b : Nat → Int) : likeP (valZ (mulZ a b) 16) (valZ a 16 * valZ b 16) := by
  have h := val_rws a b 16 (by omega)
  rw [← h]
  exact (like_cry _).trans ((like_cry _).trans (like_fld _))
/-- Parts that are not too great to be multiplied. -/
def okZ (f : Nat → Int) : Prop := ∀ i, -262144 ≤ f i ∧ f i ≤ 262144
theorem prod_le {x y : Int} (hx : -262144 ≤ x ∧ x ≤ 262144) (hy : -262144 ≤ y ∧ y ≤ 262144) : -68719476736 ≤ x * y ∧ x * y ≤ 68719476736 := by
  have h1 : x.natAbs ≤ 262144 := by omega
  have h2 : y.natAbs ≤ 262144 := by omega
  have h3 : (x * y).natAbs ≤ 68719476736 := by
    rw [Int.natAbs_mul]
    exact Nat.mul_le_mul h1 h2
  omega
theorem rowZ_le {a b : Nat → Int} (ha : okZ a) (hb : okZ b) (i j k : Nat) : -68719476736 ≤ rowZ a b i j k ∧ rowZ a b i j k ≤ 68719476736 := by
  unfold rowZ
  split
  · exact prod_le (ha _) (hb _)
  · omega
theorem rwsZ_le {a b : Nat → Int} (ha : okZ a) (hb : okZ b) (k : Nat) : ∀ i : Nat, -(68719476736 * (i : Int)) ≤ rwsZ a b i k ∧ rwsZ a b i k ≤ 68719476736 * (i : Int)
  | 0 => by simp [rwsZ]
  | i + 1 => by
    have h1 := rwsZ_le ha hb k i
    have h2 := rowZ_le ha hb i 16 k
    rw [rwsZ]
    omega
theorem fldZ_le {a b : Nat → Int} (ha : okZ a) (hb : okZ b) (k : Nat) : -140737488355328 ≤ fldZ (rwsZ a b 16) k ∧ fldZ (rwsZ a b 16) k ≤ 140737488355328 := by
  have h1 := rwsZ_le ha hb k 16
  have h2 := rwsZ_le ha hb (k + 16) 16
  unfold fldZ
  split <;> omega
theorem mulZ_ok {a b : Nat → Int} (ha : okZ a) (hb : okZ b) : okZ (mulZ a b) := fun i => by
  have h := cry_twice (f := fldZ (rwsZ a b 16)) (fun i => (fldZ_le ha hb i).1) (fun i => (fldZ_le ha hb i).2)
  by_cases hi : i = 0
  · subst hi
    have h1 : mulZ a b 0 = cryZ (cryZ (fldZ (rwsZ a b 16))) 0 := rfl
    omega
  · have h1 := h.1 i hi
    have h2 : mulZ a b i = cryZ (cryZ (fldZ (rwsZ a b 16))) i := rfl
    omega

/-! ### a number to the power p less 2 -/
def invZ (a : Nat → Int) : Nat → Nat → Int
  | 0 => a
  | k + 1 => if k = 251 ∨ k = 249 then mulZ (invZ a k) (invZ a k) else mulZ (mulZ (invZ a k) (invZ a k)) a
def invE : Nat → Nat
  | 0 => 1
  | k + 1 => if k = 251 ∨ k = 249 then 2 * invE k else 2 * invE k + 1
theorem invZ_ok {a : Nat → Int} (ha : okZ a) : ∀ k, okZ (invZ a k)
  | 0 => ha
  | k + 1 => by
    have ih := invZ_ok ha k
    rw [invZ]
    split
    · exact mulZ_ok ih ih
    · exact mulZ_ok (mulZ_ok ih ih) ha
theorem like_inv (a : Nat → Int) : ∀ k, likeP (valZ (invZ a k) 16) (valZ a 16 ^ invE k)
  | 0 => by rw [invE, Int.pow_one]; exact likeP.refl _
  | k + 1 => by
    have ih := like_inv a k
    have hs := (like_mul (invZ a k) (invZ a k)).trans (ih.mul ih)
    rw [← Int.pow_add, ← Nat.two_mul] at hs
    rw [invZ, invE]
    split
    · exact hs
    · rw [Int.pow_succ]
      exact (like_mul _ _).trans (hs.mulR _)
theorem invE_last : (invE 254 : Int) = fldP - 2 := by decide +kernel

/-! ### the bytes -/
theorem part_of {t : Nat → Int} {n : Nat} (ht : ∀ i, i < n → 0 ≤ t i ∧ t i < 65536) {i : Nat} (hi : i < n) : valZ t n / 65536 ^ i % 65536 = t i := by
  have e1 := valZ_split t i (n - i)
  rw [show i + (n - i) = n by omega] at e1
  have h1 := valZ_range (f := t) (n := i) (fun j hj => ht j (by omega))
  have e2 := valZ_split (fun j => t (i + j)) 1 (n - i - 1)
  rw [show 1 + (n - i - 1) = n - i by omega] at e2
  have e3 : valZ (fun j => t (i + j)) 1 = t i := by simp [valZ]
  have hp := powZ_pos i
  rw [e1, Int.add_mul_ediv_left _ _ (by omega), Int.ediv_eq_zero_of_lt h1.1 h1.2, Int.zero_add, e2, e3, Int.pow_one, Int.add_mul_emod_self_left, Int.emod_eq_of_lt (ht i hi).1 (ht i hi).2]
/-- The bytes of 16 parts. -/
def prtB (t : Nat → Int) (n : Nat) : List Int := (List.range n).flatMap fun i => [t i % 256, t i / 256 % 256]
/-- The 32 bytes of a number. -/
def numB (z : Int) : List Int := (List.range 16).flatMap fun i => [z / 65536 ^ i % 65536 % 256, z / 65536 ^ i % 65536 / 256 % 256]
theorem prtB_step (t : Nat → Int) (n : Nat) : prtB t n ++ [t n % 256, t n / 256 % 256] = prtB t (n + 1) := by
  simp [prtB, List.range_succ]
theorem prtB_length (t : Nat → Int) (n : Nat) : (prtB t n).length = 2 * n := by
  induction n with
  | zero => rfl
  | succ n ih => rw [← prtB_step, List.length_append, ih]; rfl
theorem red_bytes {f : Nat → Int} (h1 : ∀ i, -140737488355328 ≤ f i) (h2 : ∀ i, f i ≤ 140737488355328) : prtB (redZ f) 16 = numB (valZ f 16 % fldP) := by
  have hr := red_range h1 h2
  rw [← val_red h1 h2]
  unfold prtB numB
  have key : ∀ l : List Nat, (∀ i ∈ l, i < 16) → l.flatMap (fun i => [redZ f i % 256, redZ f i / 256 % 256]) = l.flatMap (fun i => [valZ (redZ f) 16 / 65536 ^ i % 65536 % 256, valZ (redZ f) 16 / 65536 ^ i % 65536 / 256 % 256]) := by
    intro l hl
    induction l with
    | nil => rfl
    | cons a l ih =>
      rw [List.flatMap_cons, List.flatMap_cons, ih (fun i hi => hl i (List.mem_cons_of_mem _ hi)), part_of (fun i _ => hr i) (hl a (List.mem_cons_self ..))]
  exact key (List.range 16) (fun i hi => List.mem_range.1 hi)

end Go.Proofs.Ytgdomnejhjdnmaa

namespace Go.Proofs.Ytgdomnejhjdnmaa
set_option maxRecDepth 100000

def IsPrime (n : Nat) : Prop := 2 ≤ n ∧ ∀ d, d ∣ n → d = 1 ∨ d = n
theorem prime_factor : ∀ n : Nat, 2 ≤ n → ∃ q, IsPrime q ∧ q ∣ n := by
  intro n
  induction n using Nat.strongRecOn with
  | _ n ih =>
    intro hn
    by_cases h : ∀ d, d ∣ n → d = 1 ∨ d = n
    · exact ⟨n, ⟨hn, h⟩, Nat.dvd_refl n⟩
    · obtain ⟨d, hd⟩ := Classical.not_forall.1 h
      obtain ⟨h1, h2⟩ := Classical.not_imp.1 hd
      have hd1 : d ≠ 1 := fun e => h2 (.inl e)
      have hdn : d ≠ n := fun e => h2 (.inr e)
      have hle := Nat.le_of_dvd (by omega) h1
      have h0 : d ≠ 0 := fun e => by subst e; have := Nat.zero_dvd.1 h1; omega
      obtain ⟨q, hq, hqd⟩ := ih d (by omega) (by omega)
      exact ⟨q, hq, Nat.dvd_trans hqd h1⟩
theorem prime_mul {q a b : Nat} (hq : IsPrime q) (h : q ∣ a * b) : q ∣ a ∨ q ∣ b := by
  rcases hq.2 (Nat.gcd q a) (Nat.gcd_dvd_left q a) with h1 | h1
  · exact .inr (Nat.Coprime.dvd_of_dvd_mul_left h1 h)
  · exact .inl (h1 ▸ Nat.gcd_dvd_right q a)
def prodL : List Nat → Nat
  | [] => 1
  | a :: l => a * prodL l
theorem prime_in {q : Nat} (hq : IsPrime q) : ∀ {l : List Nat}, (∀ f ∈ l, IsPrime f) → q ∣ prodL l → q ∈ l
  | [], _, h => by
    have := Nat.le_of_dvd (by decide) h
    have := hq.1
    simp only [prodL] at *
    omega
  | a :: l, hl, h => by
    rcases prime_mul hq h with h1 | h1
    · rcases (hl a (List.mem_cons_self ..)).2 q h1 with e | e
      · have := hq.1; omega
      · rw [e]; exact List.mem_cons_self ..
    · exact List.mem_cons_of_mem _ (prime_in hq (fun f hf => hl f (List.mem_cons_of_mem _ hf)) h1)
theorem nodup_le : ∀ (n : Nat) (l : List Nat), l.Nodup → (∀ x ∈ l, x < n) → l.length ≤ n
  | 0, l, _, h => by
    cases l with
    | nil => simp
    | cons a l => exact absurd (h a (List.mem_cons_self ..)) (by omega)
  | n + 1, l, hn, h => by
    by_cases hm : n ∈ l
    · have h1 := nodup_le n (l.erase n) (hn.erase n) (fun x hx => by
        have hx' := h x (List.mem_of_mem_erase hx)
        have hne : x ≠ n := fun e => by subst e; exact hn.not_mem_erase hx
        omega)
      rw [List.length_erase_of_mem hm] at h1
      omega
    · have h1 := nodup_le n l hn (fun x hx => by
        have hx' := h x hx
        have hne : x ≠ n := fun e => hm (e ▸ hx)
        omega)
      omega
section
variable {N g : Nat}
theorem pow_mod_mul (a b : Nat) : g ^ (a + b) % N = (g ^ a % N) * (g ^ b % N) % N := by rw [Nat.pow_add, Nat.mul_mod]
theorem pow_one_mul {m : Nat} (h1 : 1 < N) (h : g ^ m % N = 1) : ∀ c, g ^ (m * c) % N = 1
  | 0 => by simpa using Nat.mod_eq_of_lt h1
  | c + 1 => by rw [Nat.mul_succ, pow_mod_mul, pow_one_mul h1 h c, h, Nat.one_mul, Nat.mod_eq_of_lt h1]
/-- All that is not nought is a power of g. -/
theorem pratt_all {l : List Nat} (hN : 2 ≤ N) (hg : g ^ (N - 1) % N = 1) (hl : prodL l = N - 1) (hp : ∀ f ∈ l, IsPrime f) (hf : ∀ f ∈ l, g ^ ((N - 1) / f) % N ≠ 1) : ∀ z, 0 < z → z < N → ∃ k, g ^ k % N = z := by
  have h1 : 1 < N := by omega
  -- no smaller power is 1
  have least : ∀ d, 0 < d → d < N - 1 → g ^ d % N ≠ 1 := by
    intro d
    induction d using Nat.strongRecOn with
    | _ d ih =>
      intro hd0 hd1 hd
      by_cases hm : d ∣ N - 1
      · obtain ⟨c, hc⟩ := hm
        have hc2 : 2 ≤ c := by
          rcases Nat.lt_or_ge c 2 with h | h
          · have : c = 0 ∨ c = 1 := by omega
            rcases this with rfl | rfl
            · omega
            · omega
          · exact h
        obtain ⟨q, hq, hqc⟩ := prime_factor c hc2
        have hqm : q ∈ l := prime_in hq hp (by rw [hl, hc]; exact Nat.dvd_mul_left_of_dvd hqc d)
        obtain ⟨c', hc'⟩ := hqc
        refine hf q hqm ?_
        have hq0 : 0 < q := by have := hq.1; omega
        have e : (N - 1) / q = d * c' := by
          rw [hc, hc', ← Nat.mul_assoc, Nat.mul_comm d q, Nat.mul_assoc]
          exact Nat.mul_div_cancel_left _ hq0
        rw [e]
        exact pow_one_mul h1 hd c'
      · have hr : 0 < (N - 1) % d := Nat.pos_of_ne_zero fun e => hm (Nat.dvd_of_mod_eq_zero e)
        have hr2 : (N - 1) % d < d := Nat.mod_lt _ hd0
        refine ih _ hr2 hr (by omega) ?_
        have e : N - 1 = d * ((N - 1) / d) + (N - 1) % d := (Nat.div_add_mod (N - 1) d).symm
        rw [e, pow_mod_mul, pow_one_mul h1 hd, Nat.one_mul, Nat.mod_mod] at hg
        exact hg
  -- the powers are unlike
  have unlike : ∀ i j, i < j → j < N - 1 → g ^ i % N ≠ g ^ j % N := by
    intro i j hij hj he
    refine least (j - i) (by omega) (by omega) ?_
    have e1 : g ^ (j - i) % N = g ^ (N - 1 - i + j) % N := by
      rw [show N - 1 - i + j = (N - 1) + (j - i) by omega, pow_mod_mul, hg, Nat.one_mul, Nat.mod_mod]
    have e2 : g ^ (N - 1 - i + j) % N = g ^ (N - 1 - i + i) % N := by rw [pow_mod_mul, pow_mod_mul (a := N - 1 - i) (b := i), he]
    rw [e1, e2, show N - 1 - i + i = N - 1 by omega, hg]
  -- none is nought
  have pos : ∀ k, k < N - 1 → 0 < g ^ k % N := by
    intro k hk
    refine Nat.pos_of_ne_zero fun e => ?_
    have : g ^ (k + (N - 1 - k)) % N = 0 := by rw [pow_mod_mul, e, Nat.zero_mul, Nat.zero_mod]
    rw [show k + (N - 1 - k) = N - 1 by omega, hg] at this
    cases this
  intro z hz0 hzN
  refine Classical.byContradiction fun hno => ?_
  have hz : ∀ k, g ^ k % N ≠ z := fun k hk => hno ⟨k, hk⟩
  have hpw : (List.range (N - 1)).Pairwise (fun i j => g ^ i % N - 1 ≠ g ^ j % N - 1) := by
    refine List.Pairwise.imp_of_mem (R := fun i j => i < j) ?_ List.pairwise_lt_range
    intro i j hi hj hij he
    have hi' := List.mem_range.1 hi
    have hj' := List.mem_range.1 hj
    have p1 := pos i hi'
    have p2 := pos j hj'
    exact unlike i j hij hj' (by omega)
  have hnd : ((List.range (N - 1)).map fun k => g ^ k % N - 1).Nodup := List.pairwise_map.2 hpw
  have hmem : z - 1 ∉ (List.range (N - 1)).map fun k => g ^ k % N - 1 := by
    intro hm
    obtain ⟨k, hk, he⟩ := List.mem_map.1 hm
    have p1 := pos k (List.mem_range.1 hk)
    exact hz k (by omega)
  have hle := nodup_le (N - 1) ((z - 1) :: (List.range (N - 1)).map fun k => g ^ k % N - 1) (List.nodup_cons.2 ⟨hmem, hnd⟩) (by
    intro x hx
    rcases List.mem_cons.1 hx with rfl | hx
    · omega
    · obtain ⟨k, hk, rfl⟩ := List.mem_map.1 hx
      have p1 := pos k (List.mem_range.1 hk)
      have p2 : g ^ k % N < N := Nat.mod_lt _ (by omega)
      omega)
  simp only [List.length_cons, List.length_map, List.length_range] at hle
  omega
theorem pratt_fermat {l : List Nat} (hN : 2 ≤ N) (hg : g ^ (N - 1) % N = 1) (hl : prodL l = N - 1) (hp : ∀ f ∈ l, IsPrime f) (hf : ∀ f ∈ l, g ^ ((N - 1) / f) % N ≠ 1) : ∀ z, z % N ≠ 0 → z ^ (N - 1) % N = 1 := by
  intro z hz
  obtain ⟨k, hk⟩ := pratt_all hN hg hl hp hf (z % N) (Nat.pos_of_ne_zero hz) (Nat.mod_lt _ (by omega))
  rw [Nat.pow_mod, ← hk, ← Nat.pow_mod, ← Nat.pow_mul, Nat.mul_comm k]
  exact pow_one_mul (by omega) hg k
theorem pratt_prime {l : List Nat} (hN : 2 ≤ N) (hg : g ^ (N - 1) % N = 1) (hl : prodL l = N - 1) (hp : ∀ f ∈ l, IsPrime f) (hf : ∀ f ∈ l, g ^ ((N - 1) / f) % N ≠ 1) : IsPrime N := by
  refine ⟨hN, fun d hd => ?_⟩
  have h0 : d ≠ 0 := fun e => by subst e; have := Nat.zero_dvd.1 hd; omega
  have hle := Nat.le_of_dvd (by omega) hd
  by_cases hdN : d = N
  · exact .inr hdN
  · have h1 := pratt_fermat hN hg hl hp hf d (by rw [Nat.mod_eq_of_lt (by omega)]; exact h0)
    refine .inl ?_
    -- d divides its power and N, so it divides 1
    have hdp : d ∣ d ^ (N - 1) := by
      have : N - 1 = (N - 2) + 1 := by omega
      rw [this, Nat.pow_succ]
      exact Nat.dvd_mul_left d _
    have h2 : d ∣ d ^ (N - 1) % N := (Nat.dvd_mod_iff hd).2 hdp
    rw [h1] at h2
    exact Nat.dvd_one.1 h2
end

/-- A power by N, bit by bit. -/
def powM (N : Nat) : Nat → Nat → Nat → Nat → Nat
  | 0, _, _, acc => acc
  | f + 1, e, b, acc => powM N f (e / 2) (b * b % N) (if e % 2 = 1 then acc * b % N else acc)
theorem powM_is (N : Nat) : ∀ f e b acc, e < 2 ^ f → powM N f e b acc % N = acc * b ^ e % N
  | 0, e, b, acc, h => by
    have : e = 0 := by simpa using h
    subst this
    simp [powM]
  | f + 1, e, b, acc, h => by
    have h2 : e / 2 < 2 ^ f := by rw [Nat.pow_succ] at h; omega
    have hb : (b * b % N) ^ (e / 2) % N = b ^ (2 * (e / 2)) % N := by rw [← Nat.pow_mod, Nat.pow_mul, Nat.pow_two]
    rw [powM, powM_is N f (e / 2) _ _ h2, Nat.mul_mod, hb]
    split
    · rename_i ho
      have he : e = 2 * (e / 2) + 1 := by omega
      conv => rhs; rw [he, Nat.pow_succ]
      rw [Nat.mod_mod, ← Nat.mul_mod, Nat.mul_comm (b ^ (2 * (e / 2))) b, Nat.mul_assoc]
    · have he : e = 2 * (e / 2) := by omega
      conv => rhs; rw [he]
      rw [← Nat.mul_mod]
theorem powM_one {N f e b : Nat} (h : e < 2 ^ f) : b ^ e % N = powM N f e b 1 % N := by rw [powM_is N f e b 1 h, Nat.one_mul]
/-- Pratt's test, for one number: g's power is 1, and no power by a factor is. -/
def prattB (N g f : Nat) (l : List Nat) : Bool := prodL l == N - 1 && powM N f (N - 1) g 1 % N == 1 && l.all (fun q => powM N f ((N - 1) / q) g 1 % N != 1) && decide (N ≤ 2 ^ f) && decide (2 ≤ N)
theorem prattB_prime {N g f : Nat} {l : List Nat} (h : prattB N g f l = true) (hp : ∀ q ∈ l, IsPrime q) : IsPrime N ∧ ∀ z, z % N ≠ 0 → z ^ (N - 1) % N = 1 := by
  simp only [prattB, Bool.and_eq_true, beq_iff_eq, decide_eq_true_eq, List.all_eq_true, bne_iff_ne] at h
  obtain ⟨⟨⟨⟨h1, h2⟩, h3⟩, h4⟩, h5⟩ := h
  have hg : g ^ (N - 1) % N = 1 := by rw [powM_one (f := f) (by omega)]; exact h2
  have hf : ∀ q ∈ l, g ^ ((N - 1) / q) % N ≠ 1 := fun q hq => by
    have hle : (N - 1) / q ≤ N - 1 := Nat.div_le_self _ _
    rw [powM_one (f := f) (by omega)]
    exact h3 q hq
  exact ⟨pratt_prime h5 hg h1 hp hf, pratt_fermat h5 hg h1 hp hf⟩

-- THE NUMBERS
/-- No number from 2 to k - 1 divides n. -/
def trialB (n k : Nat) : Bool := decide (2 ≤ n) && decide (n < k * k) && (List.range k).all fun d => decide (d < 2) || decide (n ≤ d) || n % d != 0
theorem trial_prime {n k : Nat} (h : trialB n k = true) : IsPrime n := by
  simp only [trialB, Bool.and_eq_true, decide_eq_true_eq, List.all_eq_true, List.mem_range, Bool.or_eq_true, bne_iff_ne] at h
  obtain ⟨⟨h2, hk⟩, hall⟩ := h
  refine ⟨h2, fun d hd => ?_⟩
  obtain ⟨c, rfl⟩ := hd
  by_cases hd1 : d = 1
  · exact .inl hd1
  by_cases hc1 : c = 1
  · subst hc1; exact .inr (by simp)
  exfalso
  have hd0 : d ≠ 0 := fun e => by subst e; simp at h2
  have hc0 : c ≠ 0 := fun e => by subst e; simp at h2
  have hlt : d < k ∨ c < k := by
    rcases Nat.lt_or_ge d k with h | h
    · exact .inl h
    · rcases Nat.lt_or_ge c k with h' | h'
      · exact .inr h'
      · exact absurd hk (Nat.not_lt.2 (Nat.mul_le_mul h h'))
  have big1 : d < d * c := by
    have : d * 1 < d * c := Nat.mul_lt_mul_of_pos_left (by omega) (by omega)
    omega
  have big2 : c < d * c := by
    have : 1 * c < d * c := Nat.mul_lt_mul_of_pos_right (by omega) (by omega)
    omega
  rcases hlt with h | h
  · rcases hall d h with (h' | h') | h'
    · omega
    · omega
    · exact h' (Nat.mul_mod_right d c)
  · rcases hall c h with (h' | h') | h'
    · omega
    · omega
    · exact h' (Nat.mul_mod_left d c)
theorem prime_2 : IsPrime 2 := trial_prime (k := 2) (by decide +kernel)
theorem prime_3 : IsPrime 3 := trial_prime (k := 2) (by decide +kernel)
theorem prime_5 : IsPrime 5 := trial_prime (k := 3) (by decide +kernel)
theorem prime_7 : IsPrime 7 := trial_prime (k := 3) (by decide +kernel)
theorem prime_13 : IsPrime 13 := trial_prime (k := 4) (by decide +kernel)
theorem prime_19 : IsPrime 19 := trial_prime (k := 5) (by decide +kernel)
theorem prime_31 : IsPrime 31 := trial_prime (k := 6) (by decide +kernel)
theorem prime_43 : IsPrime 43 := trial_prime (k := 7) (by decide +kernel)
theorem prime_47 : IsPrime 47 := trial_prime (k := 7) (by decide +kernel)
theorem prime_103 : IsPrime 103 := trial_prime (k := 11) (by decide +kernel)
theorem prime_107 : IsPrime 107 := trial_prime (k := 11) (by decide +kernel)
theorem prime_127 : IsPrime 127 := trial_prime (k := 12) (by decide +kernel)
theorem prime_223 : IsPrime 223 := trial_prime (k := 15) (by decide +kernel)
theorem prime_353 : IsPrime 353 := trial_prime (k := 19) (by decide +kernel)
theorem prime_991 : IsPrime 991 := trial_prime (k := 32) (by decide +kernel)
theorem prime_2437 : IsPrime 2437 := trial_prime (k := 50) (by decide +kernel)
theorem prime_3727 : IsPrime 3727 := trial_prime (k := 62) (by decide +kernel)
theorem prime_4153 : IsPrime 4153 := trial_prime (k := 65) (by decide +kernel)
theorem prime_57467 : IsPrime 57467 := trial_prime (k := 240) (by decide +kernel)
theorem prime_65147 : IsPrime 65147 := trial_prime (k := 256) (by decide +kernel)
theorem prime_75707 : IsPrime 75707 := trial_prime (k := 276) (by decide +kernel)
theorem prime_132049 : IsPrime 132049 := trial_prime (k := 364) (by decide +kernel)
theorem prime_430751 : IsPrime 430751 := trial_prime (k := 657) (by decide +kernel)
theorem prime_569003 : IsPrime 569003 := trial_prime (k := 755) (by decide +kernel)
theorem prime_1923133 : IsPrime 1923133 :=
  prattB_prime (g := 2) (f := 21) (l := [2, 2, 3, 43, 3727]) (by decide +kernel) (by
    intro q hq
    simp only [List.mem_cons, List.not_mem_nil, or_false] at hq
    rcases hq with rfl | rfl | rfl | rfl | rfl
    · exact prime_2
    · exact prime_2
    · exact prime_3
    · exact prime_43
    · exact prime_3727) |>.1
theorem prime_8574133 : IsPrime 8574133 :=
  prattB_prime (g := 2) (f := 24) (l := [2, 2, 3, 7, 103, 991]) (by decide +kernel) (by
    intro q hq
    simp only [List.mem_cons, List.not_mem_nil, or_false] at hq
    rcases hq with rfl | rfl | rfl | rfl | rfl | rfl
    · exact prime_2
    · exact prime_2
    · exact prime_3
    · exact prime_7
    · exact prime_103
    · exact prime_991) |>.1
theorem prime_2773320623 : IsPrime 2773320623 :=
  prattB_prime (g := 5) (f := 32) (l := [2, 2437, 569003]) (by decide +kernel) (by
    intro q hq
    simp only [List.mem_cons, List.not_mem_nil, or_false] at hq
    rcases hq with rfl | rfl | rfl
    · exact prime_2
    · exact prime_2437
    · exact prime_569003) |>.1
theorem prime_72106336199 : IsPrime 72106336199 :=
  prattB_prime (g := 7) (f := 37) (l := [2, 13, 2773320623]) (by decide +kernel) (by
    intro q hq
    simp only [List.mem_cons, List.not_mem_nil, or_false] at hq
    rcases hq with rfl | rfl | rfl
    · exact prime_2
    · exact prime_13
    · exact prime_2773320623) |>.1
theorem prime_n16 : IsPrime 1919519569386763 :=
  prattB_prime (g := 2) (f := 51) (l := [2, 3, 7, 19, 47, 47, 127, 8574133]) (by decide +kernel) (by
    intro q hq
    simp only [List.mem_cons, List.not_mem_nil, or_false] at hq
    rcases hq with rfl | rfl | rfl | rfl | rfl | rfl | rfl | rfl
    · exact prime_2
    · exact prime_3
    · exact prime_7
    · exact prime_19
    · exact prime_47
    · exact prime_47
    · exact prime_127
    · exact prime_8574133) |>.1
theorem prime_n17 : IsPrime 31757755568855353 :=
  prattB_prime (g := 10) (f := 55) (l := [2, 2, 2, 3, 31, 107, 223, 4153, 430751]) (by decide +kernel) (by
    intro q hq
    simp only [List.mem_cons, List.not_mem_nil, or_false] at hq
    rcases hq with rfl | rfl | rfl | rfl | rfl | rfl | rfl | rfl | rfl
    · exact prime_2
    · exact prime_2
    · exact prime_2
    · exact prime_3
    · exact prime_31
    · exact prime_107
    · exact prime_223
    · exact prime_4153
    · exact prime_430751) |>.1
theorem prime_n35 : IsPrime 75445702479781427272750846543864801 :=
  prattB_prime (g := 7) (f := 116) (l := [2, 2, 2, 2, 2, 3, 3, 5, 5, 75707, 72106336199, 1919519569386763]) (by decide +kernel) (by
    intro q hq
    simp only [List.mem_cons, List.not_mem_nil, or_false] at hq
    rcases hq with rfl | rfl | rfl | rfl | rfl | rfl | rfl | rfl | rfl | rfl | rfl | rfl
    · exact prime_2
    · exact prime_2
    · exact prime_2
    · exact prime_2
    · exact prime_2
    · exact prime_3
    · exact prime_3
    · exact prime_5
    · exact prime_5
    · exact prime_75707
    · exact prime_72106336199
    · exact prime_n16) |>.1
theorem prime_n71 : IsPrime 74058212732561358302231226437062788676166966415465897661863160754340907 :=
  prattB_prime (g := 2) (f := 236) (l := [2, 3, 353, 57467, 132049, 1923133, 31757755568855353, 75445702479781427272750846543864801]) (by decide +kernel) (by
    intro q hq
    simp only [List.mem_cons, List.not_mem_nil, or_false] at hq
    rcases hq with rfl | rfl | rfl | rfl | rfl | rfl | rfl | rfl
    · exact prime_2
    · exact prime_3
    · exact prime_353
    · exact prime_57467
    · exact prime_132049
    · exact prime_1923133
    · exact prime_n17
    · exact prime_n35) |>.1
theorem prime_n77 : IsPrime 57896044618658097711785492504343953926634992332820282019728792003956564819949 ∧ ∀ z, z % 57896044618658097711785492504343953926634992332820282019728792003956564819949 ≠ 0 → z ^ (57896044618658097711785492504343953926634992332820282019728792003956564819949 - 1) % 57896044618658097711785492504343953926634992332820282019728792003956564819949 = 1 :=
  prattB_prime (g := 2) (f := 255) (l := [2, 2, 3, 65147, 74058212732561358302231226437062788676166966415465897661863160754340907]) (by decide +kernel) (by
    intro q hq
    simp only [List.mem_cons, List.not_mem_nil, or_false] at hq
    rcases hq with rfl | rfl | rfl | rfl | rfl
    · exact prime_2
    · exact prime_2
    · exact prime_3
    · exact prime_65147
    · exact prime_n71)

end Go.Proofs.Ytgdomnejhjdnmaa

namespace Go.Proofs.Ytgdomnejhjdnmaa
open Go.RowKit
set_option maxRecDepth 100000

theorem i64_andB (a b : Int) (h1 : 0 ≤ a) (h2 : a ≤ 9223372036854775807) (h3 : 0 ≤ b) (h4 : b ≤ 9223372036854775807) : bits .and .i64 a b = ((a.toNat &&& b.toNat : Nat) : Int) := by
  have ea : (BitVec.ofInt 64 a).toNat = a.toNat := by rw [BitVec.toNat_ofInt]; omega
  have eb : (BitVec.ofInt 64 b).toNat = b.toNat := by rw [BitVec.toNat_ofInt]; omega
  have hle : a.toNat &&& b.toNat ≤ a.toNat := Nat.and_le_left
  have : (BitVec.ofInt 64 a &&& BitVec.ofInt 64 b).toNat = a.toNat &&& b.toNat := by rw [BitVec.toNat_and, ea, eb]
  show IntKind.i64.wrap ((BitVec.ofInt 64 a &&& BitVec.ofInt 64 b).toNat : Int) = _
  rw [this, IntKind.wrap_i64]
  omega

theorem i64_mask255 (a : Int) (h1 : 0 ≤ a) (h2 : a ≤ 9223372036854775807) : bits .and .i64 a 255 = a % 256 := by
  rw [i64_andB a 255 h1 h2 (by decide) (by decide)]
  show (((a.toNat &&& 255 : Nat)) : Int) = a % 256
  rw [nat_mask8]
  omega

/-- n as so many bytes, the low ones first. -/
def littleL (n : Int) (k : Nat) : List Int := (List.range k).map fun (i : Nat) => n / (256 ^ i : Nat) % 256
theorem littleL_length (n : Int) (k : Nat) : (littleL n k).length = k := by simp [littleL]
theorem littleL_step (n : Int) (k : Nat) (q u : Int) (hq : q = n / (256 ^ k : Nat)) (hu : u = q % 256) : littleL n k ++ [u] = littleL n (k + 1) := by
  subst hq hu
  simp [littleL, List.range_succ]
theorem littleL_next (n : Int) (k : Nat) : n / ((256 ^ k : Nat) : Int) / 256 = n / ((256 ^ (k + 1) : Nat) : Int) := by
  rw [Int.ediv_ediv_of_nonneg (Int.natCast_nonneg _), Nat.pow_succ]
  simp
theorem littleL_getD (n : Int) (m k : Nat) (h : k < m) : (littleL n m).getD k 0 = n / ((256 ^ k : Nat) : Int) % 256 := by simp [littleL, h]

theorem two_eight (k : Nat) : (2 : Int) ^ (8 * k) = ((256 ^ k : Nat) : Int) := by
  have e : (2 ^ (8 * k) : Nat) = 256 ^ k := by rw [Nat.pow_mul]
  rw [← e, Int.natCast_pow]
  rfl

def fitB (n many : Int) : Bool := decide (0 ≤ n ∧ 1 ≤ many ∧ many ≤ 8)
def fitN (n many : Int) : Nat := if fitB n many = true then many.toNat else 0
def fitL (n many : Int) : List Int := littleL n (fitN n many)
theorem fit_no {n many : Int} (h : ¬ (0 ≤ n ∧ 1 ≤ many ∧ many ≤ 8)) : fitN n many = 0 ∧ fitL n many = [] := by
  have : fitN n many = 0 := by simp only [fitN, fitB, decide_eq_true_eq]; rw [if_neg h]
  exact ⟨this, by simp [fitL, this, littleL]⟩
theorem fit_yes {n many : Int} (h : 0 ≤ n ∧ 1 ≤ many ∧ many ≤ 8) : fitN n many = many.toNat := by
  simp only [fitN, fitB, decide_eq_true_eq]; rw [if_pos h]
theorem fitN_le (n many : Int) : fitN n many ≤ 8 := by
  unfold fitN fitB; split <;> simp_all <;> omega

set_option maxHeartbeats 1000000 in
theorem specLittle_no (n many : Int) (w : World) (h : ¬ (0 ≤ n ∧ 1 ≤ many ∧ many ≤ 8)) :
    Calls Try.prog 31 #[.int .i64 n, .int .i64 many] w fun e w' => ∃ p c, e = .returned (.slice p 0 c) ∧ Own 5 w' w.heap.size w'.heap.size (.slice p 0 c) 0 [] ∧ Below w.heap.size w w' := by
  by_cases h0 : n < 0
  · clear h
    go_enter Try.func31, Try.ntmps31
    go_wp2
    go_ret
    exact ⟨_, _, rfl, .of (World.ownsRow_made _ #[] 0 (Nat.le_refl _) (by unfold maxLen; omega) rfl), (Below.refl _ _).alloc (Nat.le_refl _) _⟩
  · by_cases h1 : 1 ≤ many
    · have h2 : ¬ many ≤ 8 := fun h3 => h ⟨by omega, h1, h3⟩
      clear h
      go_enter Try.func31, Try.ntmps31
      go_wp2
      go_ret
      exact ⟨_, _, rfl, .of (World.ownsRow_made _ #[] 0 (Nat.le_refl _) (by unfold maxLen; omega) rfl), (Below.refl _ _).alloc (Nat.le_refl _) _⟩
    · clear h
      go_enter Try.func31, Try.ntmps31
      go_wp2
      go_ret
      exact ⟨_, _, rfl, .of (World.ownsRow_made _ #[] 0 (Nat.le_refl _) (by unfold maxLen; omega) rfl), (Below.refl _ _).alloc (Nat.le_refl _) _⟩

set_option maxHeartbeats 1000000 in
theorem specLittle_yes (n : Int) (m : Nat) (w : World) (h0 : 0 ≤ n) (h63 : n ≤ 9223372036854775807) (h1 : 1 ≤ m) (h2 : m ≤ 8) :
    Calls Try.prog 31 #[.int .i64 n, .int .i64 m] w fun e w' => ∃ p c, e = .returned (.slice p m c) ∧ Own 5 w' w.heap.size w'.heap.size (.slice p m c) m (littleL n m) ∧ Below w.heap.size w w' := by
  obtain ⟨i0, hi, hz0, hz1, hz2⟩ := info_parts infoByte
  have c0 : ¬ n < 0 := by omega
  have c1 : (1 : Int) ≤ (m : Int) := by omega
  have c2 : (m : Int) ≤ 8 := by omega
  go_enter Try.func31, Try.ntmps31
  go_wp2
  go_loopw [0, 5, 6] (fun q v i wr => ∃ (k : Nat) (r : Int), k ≤ m ∧ i = .int .i64 k ∧ q = .int .i64 r ∧ 0 ≤ r ∧ r ≤ 9223372036854775807 ∧ Hid (r = n / ((256 ^ k : Nat) : Int)) ∧ wr.ownsRow w.heap.size 5 1 v k ((littleL n k).map (Value.int .u8)) ∧ Below w.heap.size w wr)
    (fun _ _ i _ => m - (intOf i).toNat)
  case atStart => exact ⟨0, n, Nat.zero_le _, rfl, rfl, h0, h63, by simp [Hid], World.ownsRow_made w #[] 0 (Nat.le_refl _) (by unfold maxLen; omega) rfl, (Below.refl _ _).alloc (Nat.le_refl _) _⟩
  case round =>
    obtain ⟨k, r, hk, rfl, rfl, hr0, hr1, hr, hown, hbel⟩ := hrel
    have hsz := hbel.size
    by_cases hlt : k < m
    · have hm := i64_mask255 r hr0 hr1
      have HN : Hid (littleL n k ++ [r % 256] = littleL n (k + 1)) := littleL_step n k r _ hr.out rfl
      have hr' : Hid (r / 256 = n / ((256 ^ (k + 1) : Nat) : Int)) := by rw [hr.out]; exact littleL_next n k
      go_wp2_with (at_builtin; refine list_push hi hz0 hz1 hz2 (.tmp 21) (.tmp 25) 22 Try.underlying22 _ hown (by omega) hsz (by rfl) (by rfl) (by rfl) (by rfl) ?_; intro g cap w1 ho1 hb1; rw [HN.out] at ho1)
      go_roundw
      case rel => exact ⟨k + 1, r / 256, by omega, by go_num, rfl, by omega, by omega, hr', ho1, hbel.trans hb1⟩
      case measure => simp [intOf]; omega
    · have hkn : k = m := by omega
      subst hkn
      clear hr
      obtain ⟨p', c', hv⟩ := owns_form hown
      subst hv
      go_wp2
      go_ret
      exact ⟨_, _, rfl, .of hown, hbel⟩

theorem specLittle_any (n many : Int) (w : World) (h63 : n ≤ 9223372036854775807) :
    Calls Try.prog 31 #[.int .i64 n, .int .i64 many] w fun e w' => ∃ p c, e = .returned (.slice p (fitN n many) c) ∧ Own 5 w' w.heap.size w'.heap.size (.slice p (fitN n many) c) (fitN n many) (fitL n many) ∧ Below w.heap.size w w' := by
  by_cases h : 0 ≤ n ∧ 1 ≤ many ∧ many ≤ 8
  · have e : many = ((many.toNat : Nat) : Int) := by omega
    unfold fitL
    rw [fit_yes h]
    rw [e]
    exact specLittle_yes n many.toNat w h.1 h63 (by omega) (by omega)
  · rw [(fit_no h).1, (fit_no h).2]
    exact specLittle_no n many w h

end Go.Proofs.Ytgdomnejhjdnmaa

namespace Go.Proofs.Ytgdomnejhjdnmaa
open Go.RowKit
set_option maxRecDepth 100000

theorem implSame_any (p q : Option Addr) (n m c d : Nat) (xs ys : List Int) (w : World) (hx : xs.length = n) (hy : ys.length = m) (h : BytesIn w p n xs) (h' : BytesIn w q m ys) :
    Calls Try.prog 9 #[.slice p n c, .slice q m d] w fun e w' => e = .returned (.bool ((strOfNums xs).toList == (strOfNums ys).toList)) ∧ Below w.heap.size w w' := by
  have g := text_of (P := Try.prog) h hx c 22 5 9 Try.underlying22 Try.underlying5 Try.underlying9
  have g' := text_of (P := Try.prog) h' hy d 22 5 9 Try.underlying22 Try.underlying5 Try.underlying9
  go_enter Try.func9, Try.ntmps9
  go_wp2
  go_ret
  exact ⟨rfl, Below.refl _ _⟩

end Go.Proofs.Ytgdomnejhjdnmaa

namespace Go.Proofs.Ytgdomnejhjdnmaa
open Go.RowKit

/-- A cursor in block a, over the bytes xs at p. -/
def Cur (w : World) (a : Nat) (p : Option Addr) (n c : Nat) (xs : List Int) : Prop :=
  ∃ i h : Int, w.heap[a]? = some (.cells #[.slice p n c, .int .i64 i, .int .i64 h] 53 (0, 0)) ∧ 0 ≤ i ∧ i ≤ n ∧ n ≤ 1048576 ∧ xs.length = n ∧ BytesIn w p n xs ∧ ∀ x ∈ xs, 0 ≤ x ∧ x < 256

theorem Cur.not_in {w : World} {a : Nat} {p : Option Addr} {n c : Nat} {b o : Nat} {k : Nat} {u : Int} {i h : Int} (ha : w.heap[a]? = some (.cells #[.slice p n c, .int .i64 i, .int .i64 h] 53 (0, 0))) (hc : w.cell? ⟨b, o + k, none⟩ = some (.int .u8 u)) : b ≠ a := by
  intro e
  subst e
  rw [cell_of_row w b (o + k) _ _ _ ha] at hc
  match o + k, hc with
  | 0, hc => simp at hc
  | 1, hc => simp at hc
  | 2, hc => simp at hc
  | j + 3, hc => simp at hc

theorem in_grown {w w' : World} {p : Option Addr} {n : Nat} {xs : List Int} {a : Nat} (h : BytesIn w p n xs) (hg : w.grownBy w' (some a)) (hne : ∀ b o, p = some ⟨b, o, none⟩ → 0 < n → b ≠ a) : BytesIn w' p n xs := by
  intro hn
  obtain ⟨b, o, rfl, hc⟩ := h hn
  refine ⟨b, o, rfl, fun i hi => ?_⟩
  exact hg.cell (hc i hi) (by have := hne b o rfl hn; simp; exact this)

theorem and255 (y : Int) : 0 ≤ bits .and .i64 y 255 ∧ bits .and .i64 y 255 ≤ 255 := by
  have e : (BitVec.ofInt 64 y &&& BitVec.ofInt 64 255).toNat ≤ 255 := by
    rw [BitVec.toNat_and]
    exact Nat.le_trans Nat.and_le_right (by decide)
  have : bits .and .i64 y 255 = IntKind.i64.wrap ((BitVec.ofInt 64 y &&& BitVec.ofInt 64 255).toNat : Int) := rfl
  rw [this, IntKind.wrap_i64]
  omega

theorem cells_cur {w : World} {a : Nat} {v0 v1 v2 : Value} (ha : w.heap[a]? = some (.cells #[v0, v1, v2] 53 (0, 0))) :
    w.cell? ⟨a, 0, none⟩ = some v0 ∧ w.cell? ⟨a, 1, none⟩ = some v1 ∧ w.cell? ⟨a, 2, none⟩ = some v2 ∧ w.frozen? ⟨a, 1, none⟩ = false ∧ w.frozen? ⟨a, 2, none⟩ = false := by
  refine ⟨?_, ?_, ?_, frozen_of_row _ _ _ _ _ ha, frozen_of_row _ _ _ _ _ ha⟩ <;> rw [cell_of_row _ _ _ _ _ _ ha] <;> rfl

theorem set2_cur {w : World} {a : Nat} {v0 v1 v2 : Value} (ha : w.heap[a]? = some (.cells #[v0, v1, v2] 53 (0, 0))) (u : Value) :
    (w.setCell ⟨a, 2, none⟩ u).heap[a]? = some (.cells #[v0, v1, u] 53 (0, 0)) ∧ w.grownBy (w.setCell ⟨a, 2, none⟩ u) (some a) :=
  ⟨heap_setCell_same w a 2 _ _ u ha, ⟨rfl, rfl, rfl, by simp, fun k _ hk => heap_setCell_other w ⟨a, 2, none⟩ k u (fun e => hk (by simp [e]))⟩⟩
theorem set1_cur {w : World} {a : Nat} {v0 v1 v2 : Value} (ha : w.heap[a]? = some (.cells #[v0, v1, v2] 53 (0, 0))) (u : Value) :
    (w.setCell ⟨a, 1, none⟩ u).heap[a]? = some (.cells #[v0, u, v2] 53 (0, 0)) ∧ w.grownBy (w.setCell ⟨a, 1, none⟩ u) (some a) :=
  ⟨heap_setCell_same w a 1 _ _ u ha, ⟨rfl, rfl, rfl, by simp, fun k _ hk => heap_setCell_other w ⟨a, 1, none⟩ k u (fun e => hk (by simp [e]))⟩⟩

set_option maxHeartbeats 2000000 in
theorem l1Byte_any (a : Nat) (p : Option Addr) (n c : Nat) (xs : List Int) (w : World) (hcur : Cur w a p n c xs) :
    Calls Try.prog 32 #[.pointer (some ⟨a, 0, none⟩)] w fun e w' => ∃ x : Int, e = .returned (.int .i64 x) ∧ 0 ≤ x ∧ x ≤ 255 ∧ Cur w' a p n c xs ∧ w.grownBy w' (some a) := by
  obtain ⟨i, h, ha, hi0, hin, hn, hx, hb, hr⟩ := hcur
  obtain ⟨c0, c1, c2, f1, f2⟩ := cells_cur ha
  go_enter Try.func32, Try.ntmps32
  go_wp2
  generalize wrap64 (wrap64 (h * 6364136223846793005) + 1442695040888963407) = H
  have s2 := set2_cur ha (.int .i64 H)
  generalize w.setCell ⟨a, 2, none⟩ (.int .i64 H) = W at s2 ⊢
  obtain ⟨ha1, g1⟩ := s2
  have hb1 : BytesIn W p n xs := in_grown hb g1 fun b o e hn => by
    obtain ⟨b', o', e', hc⟩ := hb hn
    rw [e] at e'
    obtain ⟨rfl, rfl⟩ : b = b' ∧ o = o' := by simpa using e'
    exact Cur.not_in ha (hc 0 hn)
  clear c0 c1 c2 f1 f2 hb ha
  obtain ⟨c0, c1, c2, f1, f2⟩ := cells_cur ha1
  go_quiet (fail)
  generalize hX : bits BinOp.and IntKind.i64 (bits BinOp.xor IntKind.i64 (H / 8589934592) (H / 35184372088832)) 255 = X
  have hX1 := and255 (bits BinOp.xor IntKind.i64 (H / 8589934592) (H / 35184372088832))
  rw [hX] at hX1
  clear hX
  obtain ⟨x0, x1⟩ := hX1
  by_cases hlt : i < (n : Int)
  · obtain ⟨k, hk⟩ : ∃ k : Nat, i = (k : Int) := ⟨i.toNat, by omega⟩
    subst hk
    obtain ⟨b, o, rfl, hc⟩ := hb1 (by omega)
    have hck := hc k (by omega)
    obtain ⟨u, hu⟩ : ∃ u, u = xs.getD k 0 := ⟨_, rfl⟩
    rw [← hu] at hck
    have hu0 : 0 ≤ u ∧ u < 256 := by
      rw [hu]; apply hr
      simp [List.getElem?_eq_getElem (show k < xs.length by omega)]
    obtain ⟨u0, u1⟩ := hu0
    have hy := and255 (X + u)
    have s1 := set1_cur ha1 (.int .i64 ((k : Int) + 1))
    have hin2 : BytesIn W (some ⟨b, o, none⟩) n xs := hb1
    have hnot := Cur.not_in ha1 hck
    clear hc hu hb1
    go_wp2
    go_quiet (fail)
    go_wp2
    go_quiet (fail)
    go_wp2
    go_ret
    refine ⟨_, rfl, hy.1, hy.2, ⟨(k : Int) + 1, H, s1.1, by omega, by omega, hn, hx, ?_, hr⟩, ?_⟩
    · exact in_grown (w' := W.setCell ⟨a, 1, none⟩ (.int .i64 ((k : Int) + 1))) hin2 s1.2 fun b' o' e _ => by
        obtain ⟨rfl, rfl⟩ : b = b' ∧ o = o' := by simpa using e
        exact hnot
    · exact grown_trans g1 ⟨s1.2.os, s1.2.tape, s1.2.output, s1.2.size, s1.2.block⟩
  · go_wp2
    go_quiet (fail)
    go_wp2
    go_ret
    exact ⟨_, rfl, x0, x1, ⟨i, H, ha1, hi0, hin, hn, hx, hb1, hr⟩, ⟨g1.os, g1.tape, g1.output, g1.size, g1.block⟩⟩

set_option maxHeartbeats 2000000 in
theorem l1Below_any (a : Nat) (p : Option Addr) (n c : Nat) (xs : List Int) (m : Int) (w : World) (hm : 1 ≤ m) (hm2 : m ≤ 256) (hcur : Cur w a p n c xs) :
    Calls Try.prog 17 #[.pointer (some ⟨a, 0, none⟩), .int .i64 m] w fun e w' => ∃ x : Int, e = .returned (.int .i64 x) ∧ 0 ≤ x ∧ x < m ∧ Cur w' a p n c xs ∧ w.grownBy w' (some a) := by
  have c1 : ¬ m ≤ 0 := by omega
  go_enter Try.func17, Try.ntmps17
  go_wp2_with (fail)
  refine (l1Byte_any a p n c xs _ hcur).mono ?_
  rintro e w1 ⟨x, rfl, hx0, hx1, hc1, g1⟩
  have hz : (m == 0) = false := by simp; omega
  go_wp2_with (fail)
  go_ret
  exact ⟨_, rfl, Int.emod_nonneg _ (by omega), Int.emod_lt_of_pos _ (by omega), hc1, g1⟩

set_option maxHeartbeats 2000000 in
set_option maxRecDepth 100000 in
theorem l1New_any (p : Option Addr) (n c : Nat) (xs : List Int) (w : World) (hn : n ≤ 1048576) (hx : xs.length = n) (hb : BytesIn w p n xs) (hr : ∀ x ∈ xs, 0 ≤ x ∧ x < 256) :
    Calls Try.prog 12 #[.slice p n c] w fun e w' => ∃ a : Nat, e = .returned (.pointer (some ⟨a, 0, none⟩)) ∧ w.heap.size ≤ a ∧ a < w'.heap.size ∧ Cur w' a p n c xs ∧ Below w.heap.size w w' := by
  go_enter Try.func12, Try.ntmps12
  go_wp2
  go_loop [3, 4] (fun q i => ∃ k : Nat, k ≤ n ∧ i = .int .i64 k ∧ q = .int .i64 (intOf q)) (fun _ i => n - (intOf i).toNat)
  case atStart => exact ⟨0, Nat.zero_le _, rfl, rfl⟩
  case round =>
    obtain ⟨k, hk, rfl, hq⟩ := hrel
    obtain ⟨h, rfl⟩ : ∃ h, u3 = .int .i64 h := ⟨_, hq⟩
    clear hq
    by_cases hlt : k < n
    · by_cases h4 : k < 4000
      · obtain ⟨b, o, rfl, hc⟩ := hb (by omega)
        have hck := hc k hlt
        obtain ⟨u, hu⟩ : ∃ u, u = xs.getD k 0 := ⟨_, rfl⟩
        rw [← hu] at hck
        clear hc hu
        go_wp2
        go_round
        case rel => exact ⟨k + 1, by omega, by go_num, by unfold intOf; rfl⟩
        case measure => simp [intOf]; omega
      · have h4' : ¬ (k : Int) < 4000 := by omega
        go_wp2
        go_ret
        exact ⟨w.heap.size, rfl, Nat.le_refl _, by simp, ⟨0, h, heap_alloc_new w _, Int.le_refl _, by omega, hn, hx, in_below hb ((Below.refl _ _).alloc (Nat.le_refl _) _), hr⟩, (Below.refl _ _).alloc (Nat.le_refl _) _⟩
    · go_wp2
      go_ret
      exact ⟨w.heap.size, rfl, Nat.le_refl _, by simp, ⟨0, h, heap_alloc_new w _, Int.le_refl _, by omega, hn, hx, in_below hb ((Below.refl _ _).alloc (Nat.le_refl _) _), hr⟩, (Below.refl _ _).alloc (Nat.le_refl _) _⟩

end Go.Proofs.Ytgdomnejhjdnmaa

namespace Go.Proofs.Ytgdomnejhjdnmaa
open Go.RowKit
set_option maxRecDepth 100000

theorem Cur.lt {w : World} {a : Nat} {p : Option Addr} {n c : Nat} {xs : List Int} (h : Cur w a p n c xs) : a < w.heap.size := by
  obtain ⟨i, k, ha, _⟩ := h
  exact (Array.getElem?_eq_some_iff.1 ha).1
theorem Cur.code_lt {w : World} {a : Nat} {p : Option Addr} {n c : Nat} {xs : List Int} (h : Cur w a p n c xs) : ∀ b o, p = some ⟨b, o, none⟩ → 0 < n → b < w.heap.size := by
  obtain ⟨i, k, ha, _, _, _, _, hb, _⟩ := h
  intro b o e hn
  obtain ⟨b', o', e', hc⟩ := hb hn
  rw [e] at e'
  obtain ⟨rfl, rfl⟩ : b = b' ∧ o = o' := by simpa using e'
  exact World.block_lt_of_cell? w ⟨b, o + 0, none⟩ (hc 0 hn)
theorem Cur.below {w1 w2 : World} {B a : Nat} {p : Option Addr} {n c : Nat} {xs : List Int} (h : Cur w1 a p n c xs) (hb : Below B w1 w2) (ha : a < B) (hp : ∀ b o, p = some ⟨b, o, none⟩ → 0 < n → b < B) : Cur w2 a p n c xs := by
  obtain ⟨i, k, h1, h2, h3, h4, h5, h6, h7⟩ := h
  refine ⟨i, k, by rw [hb.block a ha]; exact h1, h2, h3, h4, h5, ?_, h7⟩
  intro hn
  obtain ⟨b, o, rfl, hc⟩ := h6 hn
  refine ⟨b, o, rfl, fun j hj => ?_⟩
  rw [hb.cell (p := ⟨b, o + j, none⟩) (hp b o rfl hn)]
  exact hc j hj

/-- A row that lies behind the cursor stays as it was while the cursor is moved on. -/
theorem owns_cur {w w' : World} {a base e size : Nat} {v : Value} {n : Nat} {xs : List Value} (h : w.ownsRow base e size v n xs) (hg : w.grownBy w' (some a)) (ha : a < base) : w'.ownsRow base e size v n xs := by
  refine h.kept hg ?_
  rcases hv : v.ownBlock with _ | k
  · exact .inl rfl
  · right
    have := (h.lt k hv).1
    simp
    omega

theorem grown_below {w w2 w3 : World} {row : Option Nat} (h : w.grownBy w2 row) (hb : Below w.heap.size w2 w3) : w.grownBy w3 row :=
  ⟨hb.os.trans h.os, hb.tape.trans h.tape, hb.output.trans h.output, Nat.le_trans h.size hb.size, fun k hk hr => (hb.block k hk).trans (h.block k hk hr)⟩

theorem below_cur {w w1 w2 : World} {a : Nat} (h : Below w.heap.size w w1) (hg : w1.grownBy w2 (some a)) (ha : w.heap.size ≤ a) : Below w.heap.size w w2 :=
  h.grown hg h.size fun k hk => by simp at hk; omega

theorem Own.mono {e : Nat} {w : World} {lo lo' hi hi' : Nat} {v : Value} {n : Nat} {xs : List Int} (h : Own e w lo hi v n xs) (hl : lo' ≤ lo) (hh : hi ≤ hi') : Own e w lo' hi' v n xs :=
  ⟨owns_mono h.1 hl, fun k hk => Nat.lt_of_lt_of_le (h.2 k hk) hh⟩

/-- A row behind the cursor, while the cursor is moved on. -/
theorem Own.cur {e : Nat} {w w' : World} {a lo hi : Nat} {v : Value} {n : Nat} {xs : List Int} (h : Own e w lo hi v n xs) (hg : w.grownBy w' (some a)) (ha : a < lo) : Own e w' lo hi v n xs := ⟨owns_cur h.1 hg ha, h.2⟩

theorem l1Once_any (a : Nat) (p : Option Addr) (n c : Nat) (xs : List Int) (m : Int) (w : World) (hm : 1 ≤ m) (hm2 : m ≤ 256) (hcur : Cur w a p n c xs) :
    Calls Try.prog 15 #[.pointer (some ⟨a, 0, none⟩), .int .i64 m] w fun e w' => ∃ b : Bool, e = .returned (.bool b) ∧ Cur w' a p n c xs ∧ w.grownBy w' (some a) := by
  go_enter Try.func15, Try.ntmps15
  go_wp2_with (fail)
  refine (l1Below_any a p n c xs m _ hm hm2 hcur).mono ?_
  rintro e w1 ⟨x, rfl, hx0, hx1, hc1, g1⟩
  go_wp2_with (fail)
  go_ret
  exact ⟨_, rfl, hc1, g1⟩

theorem l1PickInt_any (a : Nat) (p : Option Addr) (n c : Nat) (xs : List Int) (g L : Nat) (zs : List Int) (w : World) (hL : 1 ≤ L) (hL2 : L ≤ 256) (hz : zs.length = L) (hcells : ∀ i, i < L → w.cell? ⟨g, i, none⟩ = some (.int .i64 (zs.getD i 0))) (hg : g ≠ a) (hcur : Cur w a p n c xs) :
    Calls Try.prog 30 #[.pointer (some ⟨a, 0, none⟩), .slice (some ⟨g, 0, none⟩) L L] w fun e w' => ∃ z ∈ zs, e = .returned (.int .i64 z) ∧ Cur w' a p n c xs ∧ w.grownBy w' (some a) := by
  go_enter Try.func30, Try.ntmps30
  go_wp2_with (fail)
  refine (l1Below_any a p n c xs (L : Int) _ (by omega) (by omega) hcur).mono ?_
  rintro e w1 ⟨x, rfl, hx0, hx1, hc1, g1⟩
  obtain ⟨k, hk⟩ : ∃ k : Nat, x = (k : Int) := ⟨x.toNat, by omega⟩
  subst hk
  have hck : w1.cell? ⟨g, k, none⟩ = some (.int .i64 (zs.getD k 0)) := g1.cell (hcells k (by omega)) (by simpa using hg)
  obtain ⟨u, hu⟩ : ∃ u, u = zs.getD k 0 := ⟨_, rfl⟩
  rw [← hu] at hck
  have hmem : Hid (u ∈ zs) := by
    show u ∈ zs
    rw [hu]
    simp [List.getElem?_eq_getElem (show k < zs.length by omega)]
  clear hu
  go_wp2_with (fail)
  go_ret
  exact ⟨u, hmem.out, rfl, hc1, g1⟩

/-- The cells of a list that is written out. -/
theorem lit_ints (w : World) (zs : List Int) (t : TypeId) : ∀ i, i < zs.length → (w.alloc (.cells (zs.map (Value.int .i64)).toArray t)).cell? ⟨w.heap.size, i, none⟩ = some (.int .i64 (zs.getD i 0)) := by
  intro i hi
  rw [cell_of_row _ _ _ _ _ _ (heap_alloc_new w _)]
  simp [List.getElem?_eq_getElem hi]
theorem lit_strs (w : World) (ts : List ByteArray) (t : TypeId) : ∀ i, i < ts.length → (w.alloc (.cells (ts.map Value.string).toArray t)).cell? ⟨w.heap.size, i, none⟩ = some (.string (ts.getD i ByteArray.empty)) := by
  intro i hi
  rw [cell_of_row _ _ _ _ _ _ (heap_alloc_new w _)]
  simp [List.getElem?_eq_getElem hi]

end Go.Proofs.Ytgdomnejhjdnmaa

namespace Go.Proofs.Ytgdomnejhjdnmaa
open Go.RowKit
set_option maxRecDepth 100000

theorem zeros_made (z : Nat) : (madeCells #[Value.int .u8 0] z).toList = (List.replicate z (0 : Int)).map (Value.int .u8) := by
  rw [toList_madeCells_one]
  simp
theorem grown_none {a b c : World} {r : Option Nat} (h : a.grownBy b r) (k : b.grownBy c none) : a.grownBy c r :=
  grown_trans h ⟨k.os, k.tape, k.output, k.size, fun i hi _ => k.block i hi (by simp)⟩

theorem zeros_own {w w2 w3 : World} {a : Nat} {p : Option Addr} {n c : Nat} {xs : List Int} {z : Nat} (h1 : w.grownBy w2 (some a)) (h2 : Cur w2 a p n c xs) (h3 : w3.ownsRow w.heap.size 5 1 (.slice (some ⟨w2.heap.size, 0, none⟩) z z) z (madeCells #[Value.int .u8 0] (z * 1)).toList) (h4 : w2.grownBy w3 none) :
    Own 5 w3 w.heap.size w3.heap.size (.slice (some ⟨w2.heap.size, 0, none⟩) z z) z (List.replicate z 0) ∧ (∀ y ∈ List.replicate z (0 : Int), 0 ≤ y ∧ y < 256) ∧ Cur w3 a p n c xs ∧ w.grownBy w3 (some a) := by
  rw [Nat.mul_one, zeros_made] at h3
  refine ⟨.of h3, fun y hy => ?_, h2.below ((Below.refl w2.heap.size w2).grown h4 (Nat.le_refl _) (fun _ h => by cases h)) h2.lt h2.code_lt, grown_none h1 h4⟩
  have := List.eq_of_mem_replicate hy
  omega

set_option maxHeartbeats 2000000 in
theorem l1DrawJust_any (a : Nat) (p : Option Addr) (n c : Nat) (xs : List Int) (K : Nat) (w : World) (hK : K ≤ 1000) (hcur : Cur w a p n c xs) :
    Calls Try.prog 28 #[.pointer (some ⟨a, 0, none⟩), .int .i64 K] w fun e w' => ∃ g k c' ys, e = .returned (.slice (some ⟨g, 0, none⟩) k c') ∧ k ≤ 1000 ∧ Own 5 w' w.heap.size w'.heap.size (.slice (some ⟨g, 0, none⟩) k c') k ys ∧ (∀ y ∈ ys, 0 ≤ y ∧ y < 256) ∧ Cur w' a p n c xs ∧ w.grownBy w' (some a) := by
  obtain ⟨i0, hi, hz0, hz1, hz2⟩ := info_parts infoByte
  have ha := hcur.lt
  have hcl := hcur.code_lt
  go_enter Try.func28, Try.ntmps28
  go_wp2_with (fail)
  have hb0 : Below w.heap.size w (w.alloc (.cells #[] 5)) := (Below.refl _ _).alloc (Nat.le_refl _) _
  have o1 : (w.alloc (.cells #[] 5)).ownsRow w.heap.size 5 1 (.slice (some ⟨w.heap.size, 0, none⟩) 0 0) 0 (([] : List Int).map (Value.int .u8)) := World.ownsRow_made w #[] 0 (Nat.le_refl _) (by unfold maxLen; omega) rfl
  have hc1 := hcur.below hb0 ha hcl
  have gg : w.grownBy (w.alloc (.cells #[] 5)) (some a) := World.grownBy_alloc w _ _
  go_loopw [5, 6] (fun v i wr => ∃ (k : Nat) (ys : List Int), k ≤ K ∧ i = .int .i64 k ∧ Hid (∃ g cap, v = .slice (some ⟨g, 0, none⟩) k cap) ∧ wr.ownsRow w.heap.size 5 1 v k (ys.map (Value.int .u8)) ∧ Hid (∀ y ∈ ys, 0 ≤ y ∧ y < 256) ∧ Cur wr a p n c xs ∧ w.grownBy wr (some a))
    (fun _ i _ => K - (intOf i).toNat)
  case atStart => exact ⟨0, [], Nat.zero_le _, rfl, ⟨_, _, rfl⟩, o1, (fun y hy => by cases hy), hc1, gg⟩
  case round =>
    clear o1 gg hc1 hb0
    obtain ⟨k, ys, hk, rfl, hform, hown, hys, hc, hgr⟩ := hrel
    have hsz := hgr.size
    by_cases hlt : k < K
    · go_wp2_with (fail)
      refine (l1Below_any a p n c xs 256 _ (by omega) (by omega) hc).mono ?_
      rintro e w2 ⟨y, rfl, hy0, hy1, hc2, g2⟩
      have o2 := owns_cur hown g2 ha
      have gg := grown_trans hgr g2
      have hsz2 := gg.size
      have hys2 : Hid (∀ z ∈ ys ++ [y], 0 ≤ z ∧ z < 256) := by
        intro z hz
        rcases List.mem_append.1 hz with h | h
        · exact hys.out z h
        · simp at h; subst h; exact ⟨hy0, hy1⟩
      clear hown hc hgr hys hform
      go_wp2_with (at_builtin; refine list_pushK hi hz0 hz1 hz2 (.tmp 13) (.tmp 17) 22 Try.underlying22 _ o2 (by omega) hsz2 (by rfl) (by rfl) (by rfl) (by rfl) ?_; intro g cap w3 ho3 hb3 hkk)
      go_roundw
      case rel => exact ⟨k + 1, ys ++ [y], by omega, by go_num, ⟨_, _, rfl⟩, ho3, hys2, hc2.below hb3 ha hcl, grown_below gg hb3⟩
      case measure => simp [intOf]; omega
    · obtain ⟨g, c', hv⟩ := hform.out
      clear hform
      subst hv
      go_wp2
      go_ret
      exact ⟨g, k, c', ys, rfl, by omega, .of hown, hys.out, hc, hgr⟩

theorem l1Max63 (w : World) : Calls Try.prog 29 #[.int .i64 63, .int .i64 0] w fun e w' => e = .returned (.int .i64 63) ∧ w' = w := by
  go_enter Try.func29, Try.ntmps29
  go_wp2
  go_ret
  exact ⟨rfl, rfl⟩

set_option maxHeartbeats 2000000 in
theorem l1DrawNear64 (a : Nat) (p : Option Addr) (n c : Nat) (xs : List Int) (w : World) (hcur : Cur w a p n c xs) :
    Calls Try.prog 13 #[.pointer (some ⟨a, 0, none⟩), .int .i64 64] w fun e w' => ∃ g k c' ys, e = .returned (.slice (some ⟨g, 0, none⟩) k c') ∧ k ≤ 1000 ∧ Own 5 w' w.heap.size w'.heap.size (.slice (some ⟨g, 0, none⟩) k c') k ys ∧ (∀ y ∈ ys, 0 ≤ y ∧ y < 256) ∧ Cur w' a p n c xs ∧ w.grownBy w' (some a) := by
  have C65 := fun w h => l1DrawJust_any a p n c xs 65 w (by omega) h
  have C63 := fun w h => l1DrawJust_any a p n c xs 63 w (by omega) h
  have C64 := fun w h => l1DrawJust_any a p n c xs 64 w (by omega) h
  go_enter Try.func13, Try.ntmps13
  go_wp2_with (fail)
  refine (l1Below_any a p n c xs 16 _ (by omega) (by omega) hcur).mono ?_
  rintro e w1 ⟨x, rfl, hx0, hx1, hc1, g1⟩
  by_cases h0 : x = 0
  · subst h0
    go_wp2_with (fail)
    refine (C65 _ hc1).mono ?_
    rintro e w2 ⟨g, k, c', ys, rfl, hk, o2, hys, hc2, g2⟩
    go_wp2_with (fail)
    go_ret
    exact ⟨g, k, c', ys, rfl, hk, o2.mono g1.size (Nat.le_refl _), hys, hc2, grown_trans g1 g2⟩
  · by_cases h1 : x = 1
    · subst h1
      go_wp2_with (fail)
      refine (l1Max63 _).mono ?_
      rintro e w1 ⟨rfl, rfl⟩
      go_wp2_with (fail)
      refine (C63 _ hc1).mono ?_
      rintro e w2 ⟨g, k, c', ys, rfl, hk, o2, hys, hc2, g2⟩
      go_wp2_with (fail)
      go_ret
      exact ⟨g, k, c', ys, rfl, hk, o2.mono g1.size (Nat.le_refl _), hys, hc2, grown_trans g1 g2⟩
    · by_cases h2 : x = 2
      · subst h2
        go_wp2
        go_ret
        exact ⟨_, 0, _, [], rfl, by omega, .of (World.ownsRow_made w1 #[] 0 g1.size (by unfold maxLen; omega) rfl), (fun y hy => by cases hy), hc1.below ((Below.refl w1.heap.size w1).alloc (Nat.le_refl _) _) hc1.lt hc1.code_lt, grown_trans g1 (World.grownBy_alloc w1 _ _)⟩
      · have d0 : (x == 0) = false := by simpa using h0
        have d1 : (x == 1) = false := by simpa using h1
        have d2 : (x == 2) = false := by simpa using h2
        go_wp2_with (fail)
        refine (C64 _ hc1).mono ?_
        rintro e w2 ⟨g, k, c', ys, rfl, hk, o2, hys, hc2, g2⟩
        go_wp2_with (fail)
        go_ret
        exact ⟨g, k, c', ys, rfl, hk, o2.mono g1.size (Nat.le_refl _), hys, hc2, grown_trans g1 g2⟩

end Go.Proofs.Ytgdomnejhjdnmaa

namespace Go.Proofs.Ytgdomnejhjdnmaa
open Go.RowKit
set_option maxRecDepth 100000

theorem l1Max_zero (K : Nat) (w : World) : Calls Try.prog 29 #[.int .i64 (K : Int), .int .i64 0] w fun e w' => e = .returned (.int .i64 (K : Int)) ∧ w' = w := by
  by_cases h : (0 : Int) < (K : Int)
  · go_enter Try.func29, Try.ntmps29
    go_wp2
    go_ret
    exact ⟨rfl, rfl⟩
  · obtain rfl : K = 0 := by omega
    go_enter Try.func29, Try.ntmps29
    go_wp2
    go_ret
    exact ⟨rfl, rfl⟩

set_option maxHeartbeats 2000000 in
theorem l1DrawNear_any (a : Nat) (p : Option Addr) (n c : Nat) (xs : List Int) (K : Nat) (w : World) (hK1 : 1 ≤ K) (hK2 : K ≤ 500) (hcur : Cur w a p n c xs) :
    Calls Try.prog 13 #[.pointer (some ⟨a, 0, none⟩), .int .i64 (K : Int)] w fun e w' => ∃ g k c' ys, e = .returned (.slice (some ⟨g, 0, none⟩) k c') ∧ k ≤ 1000 ∧ Own 5 w' w.heap.size w'.heap.size (.slice (some ⟨g, 0, none⟩) k c') k ys ∧ (∀ y ∈ ys, 0 ≤ y ∧ y < 256) ∧ Cur w' a p n c xs ∧ w.grownBy w' (some a) := by
  obtain ⟨U, hU⟩ : ∃ U : Nat, U = K + 1 := ⟨_, rfl⟩
  obtain ⟨D, hD⟩ : ∃ D : Nat, D = K - 1 := ⟨_, rfl⟩
  have eU : (K : Int) + 1 = (U : Int) := by omega
  have eD : (K : Int) - 1 = (D : Int) := by omega
  have CU := fun w h => l1DrawJust_any a p n c xs U w (by omega) h
  have CD := fun w h => l1DrawJust_any a p n c xs D w (by omega) h
  have CK := fun w h => l1DrawJust_any a p n c xs K w (by omega) h
  clear hU hD
  go_enter Try.func13, Try.ntmps13
  go_wp2_with (fail)
  refine (l1Below_any a p n c xs 16 _ (by omega) (by omega) hcur).mono ?_
  rintro e w1 ⟨x, rfl, hx0, hx1, hc1, g1⟩
  by_cases h0 : x = 0
  · subst h0
    go_wp2_with (fail)
    refine (CU _ hc1).mono ?_
    rintro e w2 ⟨g, k, c', ys, rfl, hk, o2, hys, hc2, g2⟩
    go_wp2_with (fail)
    go_ret
    exact ⟨g, k, c', ys, rfl, hk, o2.mono g1.size (Nat.le_refl _), hys, hc2, grown_trans g1 g2⟩
  · by_cases h1 : x = 1
    · subst h1
      go_wp2_with (fail)
      refine (l1Max_zero D _).mono ?_
      rintro e w1 ⟨rfl, rfl⟩
      go_wp2_with (fail)
      refine (CD _ hc1).mono ?_
      rintro e w2 ⟨g, k, c', ys, rfl, hk, o2, hys, hc2, g2⟩
      go_wp2_with (fail)
      go_ret
      exact ⟨g, k, c', ys, rfl, hk, o2.mono g1.size (Nat.le_refl _), hys, hc2, grown_trans g1 g2⟩
    · by_cases h2 : x = 2
      · subst h2
        go_wp2
        go_ret
        exact ⟨_, 0, _, [], rfl, by omega, .of (World.ownsRow_made w1 #[] 0 g1.size (by unfold maxLen; omega) rfl), (fun y hy => by cases hy), hc1.below ((Below.refl w1.heap.size w1).alloc (Nat.le_refl _) _) hc1.lt hc1.code_lt, grown_trans g1 (World.grownBy_alloc w1 _ _)⟩
      · have d0 : (x == 0) = false := by simpa using h0
        have d1 : (x == 1) = false := by simpa using h1
        have d2 : (x == 2) = false := by simpa using h2
        go_wp2_with (fail)
        refine (CK _ hc1).mono ?_
        rintro e w2 ⟨g, k, c', ys, rfl, hk, o2, hys, hc2, g2⟩
        go_wp2_with (fail)
        go_ret
        exact ⟨g, k, c', ys, rfl, hk, o2.mono g1.size (Nat.le_refl _), hys, hc2, grown_trans g1 g2⟩

/-- The first k all 255, the others nought. -/
def fulls (k : Nat) : List Int := List.replicate k 255 ++ List.replicate (32 - k) 0
theorem fulls_set (k : Nat) (h : k < 32) : ((fulls k).map (Value.int .u8)).set k (.int .u8 255) = (fulls (k + 1)).map (Value.int .u8) := by
  rw [← List.map_set]
  congr 1
  unfold fulls
  rw [List.set_append_right _ _ (by simp), List.length_replicate, Nat.sub_self, show 32 - k = (32 - (k + 1)) + 1 by omega, List.replicate_succ, List.set_cons_zero, List.replicate_succ', List.append_assoc]
  rfl
theorem fulls_get (k : Nat) (h : k < 32) : ((fulls k).map (Value.int .u8))[k]? = some (.int .u8 0) := by
  unfold fulls
  rw [List.map_append, List.getElem?_append_right (by simp)]
  simp [show 0 < 32 - k by omega]
theorem fulls_byte (k : Nat) : ∀ y ∈ fulls k, 0 ≤ y ∧ y < 256 := by
  intro y hy
  simp only [fulls, List.mem_append, List.mem_replicate] at hy
  omega

end Go.Proofs.Ytgdomnejhjdnmaa

namespace Go.Proofs.Ytgdomnejhjdnmaa
open Go.RowKit
set_option maxRecDepth 100000

theorem big_small (p : Option Addr) (n c : Nat) (w : World) (hn : n ≤ 1048576) : Calls Try.prog 4 #[.slice p n c] w fun e w' => e = .returned (.bool false) ∧ Below w.heap.size w w' := by
  have hd : decide ((1048576 : Int) < (n : Int)) = false := by simp; omega
  go_enter Try.func4, Try.ntmps4
  go_wp2
  go_ret
  refine ⟨?_, Below.refl _ _⟩
  first | rfl | (congr 2)

theorem big_great (p : Option Addr) (n c : Nat) (w : World) (hn : ¬ n ≤ 1048576) : Calls Try.prog 4 #[.slice p n c] w fun e w' => e = .returned (.bool true) ∧ Below w.heap.size w w' := by
  have hd : (1048576 : Int) < (n : Int) := by omega
  go_enter Try.func4, Try.ntmps4
  go_wp2
  go_ret
  exact ⟨by simp, Below.refl _ _⟩

theorem in_prefix {w : World} {p : Option Addr} {n m : Nat} {xs : List Int} (h : BytesIn w p n xs) (hm : m ≤ n) : BytesIn w p m (xs.take m) := by
  intro h0
  obtain ⟨b, o, rfl, hc⟩ := h (by omega)
  refine ⟨b, o, rfl, fun i hi => ?_⟩
  rw [hc i (by omega)]
  simp [hi]

end Go.Proofs.Ytgdomnejhjdnmaa
