/-
  Numbers of five parts of 26 bits each (the program's numbers of a tag): their value, what is carried, and the bytes of what they hold. Plain laws of natural numbers.
-/
import Derived.Test.YthgnekdhldjjmabSpecTag
namespace Go.Proofs.Ythgnekdhldjjmab
open Go.RowKit

/-- The first k parts' number. -/
def valP (S : List Nat) : Nat → Nat
  | 0 => 0
  | k + 1 => valP S k + S.getD k 0 * 67108864 ^ k
def val5 (S : List Nat) : Nat := valP S 5
def digP (V i : Nat) : Nat := V / 67108864 ^ i % 67108864
def digL (V : Nat) : List Nat := (List.range 5).map (digP V)
/-- Five parts, each below M. -/
def lessP (M : Nat) (S : List Nat) : Prop := S.length = 5 ∧ ∀ i, S.getD i 0 < M
theorem digL_length (V : Nat) : (digL V).length = 5 := by simp [digL]
theorem digL_get (V i : Nat) (h : i < 5) : (digL V).getD i 0 = digP V i := by simp [digL, h]
theorem digP_lt (V i : Nat) : digP V i < 67108864 := Nat.mod_lt _ (by decide)
theorem digL_less (V : Nat) : lessP 67108864 (digL V) := by
  refine ⟨digL_length V, fun i => ?_⟩
  by_cases h : i < 5
  · rw [digL_get V i h]
    exact digP_lt V i
  · rw [List.getD_eq_getElem?_getD, List.getElem?_eq_none (by rw [digL_length]; omega)]
    decide
theorem lessP.mono {M M' : Nat} {S : List Nat} (h : lessP M S) (hm : M ≤ M') : lessP M' S := ⟨h.1, fun i => Nat.lt_of_lt_of_le (h.2 i) hm⟩
theorem valP_digL (V : Nat) : ∀ k, k ≤ 5 → valP (digL V) k = V % 67108864 ^ k
  | 0, _ => by rw [Nat.pow_zero, Nat.mod_one]; rfl
  | k + 1, h => by rw [valP, valP_digL V k (by omega), digL_get V k (by omega), Nat.pow_succ, Nat.mod_mul, digP, Nat.mul_comm (V / 67108864 ^ k % 67108864)]
theorem val5_digL (V : Nat) : val5 (digL V) = V % 67108864 ^ 5 := valP_digL V 5 (Nat.le_refl _)
theorem getD_set_self (S : List Nat) (k x : Nat) (h : k < S.length) : (S.set k x).getD k 0 = x := by simp [h]
theorem getD_set_other (S : List Nat) (k i x : Nat) (h : k ≠ i) : (S.set k x).getD i 0 = S.getD i 0 := by simp [List.getElem?_set_ne h]
theorem valP_set (S : List Nat) (k x : Nat) (hk : k < S.length) : ∀ n, valP (S.set k (S.getD k 0 + x)) n = valP S n + (if k < n then x * 67108864 ^ k else 0)
  | 0 => by simp [valP]
  | n + 1 => by
    rw [valP, valP, valP_set S k x hk n]
    by_cases h : k = n
    · subst h
      rw [getD_set_self _ _ _ hk, if_neg (Nat.lt_irrefl _), if_pos (by omega), Nat.add_mul]
      omega
    · rw [getD_set_other _ _ _ _ h]
      by_cases h' : k < n
      · rw [if_pos h', if_pos (by omega)]; omega
      · rw [if_neg h', if_neg (by omega), Nat.add_zero, Nat.add_zero]
theorem val5_set {S : List Nat} {k : Nat} (x : Nat) (hl : S.length = 5) (hk : k < 5) : val5 (S.set k (S.getD k 0 + x)) = val5 S + x * 67108864 ^ k := by
  rw [val5, valP_set S k x (by omega), if_pos hk]
  rfl
theorem lessP_set {M M' : Nat} {S : List Nat} (h : lessP M S) (k x : Nat) (hm : M ≤ M') (hx : x < M') : lessP M' (S.set k x) := by
  refine ⟨by simpa using h.1, fun i => ?_⟩
  by_cases e : k = i
  · subst e
    by_cases hk : k < S.length
    · rw [getD_set_self _ _ _ hk]; exact hx
    · rw [List.getD_eq_getElem?_getD, List.getElem?_eq_none (by simpa using hk)]
      exact Nat.lt_of_le_of_lt (Nat.zero_le _) hx
  · rw [getD_set_other _ _ _ _ e]
    exact Nat.lt_of_lt_of_le (h.2 i) hm

/-! ### what is carried -/
def ovP (S : List Nat) (k : Nat) : Nat := valP S k / 67108864 ^ k
theorem ovP_add (S : List Nat) (k : Nat) : ovP S k + S.getD k 0 = valP S (k + 1) / 67108864 ^ k := by
  rw [valP, Nat.add_mul_div_right _ _ (Nat.pow_pos (by decide))]
  rfl
theorem ovP_step (S : List Nat) (k : Nat) : (ovP S k + S.getD k 0) / 67108864 = ovP S (k + 1) := by
  rw [ovP_add, Nat.div_div_eq_div_mul, ← Nat.pow_succ]
  rfl
theorem valP_more (S : List Nat) (k d : Nat) : ∃ r, valP S (k + d) = valP S k + 67108864 ^ k * r := by
  induction d with
  | zero => exact ⟨0, by rw [Nat.mul_zero]; rfl⟩
  | succ d ih =>
    obtain ⟨r, hr⟩ := ih
    refine ⟨r + S.getD (k + d) 0 * 67108864 ^ d, ?_⟩
    rw [← Nat.add_assoc, valP, hr, Nat.mul_add, Nat.pow_add, Nat.mul_left_comm, Nat.add_assoc]
theorem ovP_dig (S : List Nat) (k : Nat) (hk : k < 5) : (ovP S k + S.getD k 0) % 67108864 = digP (val5 S) k := by
  obtain ⟨r, hr⟩ := valP_more S (k + 1) (4 - k)
  rw [show k + 1 + (4 - k) = 5 by omega] at hr
  rw [ovP_add, digP, val5, hr, Nat.pow_succ, Nat.mul_assoc, Nat.add_mul_div_left _ _ (Nat.pow_pos (by decide)), Nat.add_mul_mod_self_left]
theorem ovP_lt {S : List Nat} (h : lessP 9223372036854775808 S) : ∀ k, ovP S k < 274877906944
  | 0 => by simp [ovP, valP]
  | k + 1 => by
    have h1 := ovP_lt h k
    have h2 := h.2 k
    rw [← ovP_step]
    omega
theorem ovP_end (S : List Nat) : ovP S 5 = val5 S / 67108864 ^ 5 := rfl
/-- The first k of T, behind them those of S. -/
def mixP (T S : List Nat) (k : Nat) : List Nat := T.take k ++ S.drop k
theorem mixP_length {T S : List Nat} (hT : T.length = 5) (hS : S.length = 5) (k : Nat) : (mixP T S k).length = 5 := by simp [mixP, hT, hS]; omega
theorem mixP_getD {T S : List Nat} (hT : T.length = 5) (k : Nat) (hk : k < 5) : (mixP T S k).getD k 0 = S.getD k 0 := by
  simp only [mixP, List.getD_eq_getElem?_getD]
  rw [List.getElem?_append_right (by simp; omega)]
  simp [hT, Nat.min_eq_left (show k ≤ 5 by omega)]
theorem mixP_set {T S : List Nat} (hT : T.length = 5) (hS : S.length = 5) (k : Nat) (hk : k < 5) (u : Nat) (hu : u = T.getD k 0) : (mixP T S k).set k u = mixP T S (k + 1) := by
  subst hu
  have e : S.drop k = S[k]'(by omega) :: S.drop (k + 1) := List.drop_eq_getElem_cons (by omega)
  simp only [mixP]
  have hk0 : k - (T.take k).length = 0 := by simp [hT]; omega
  rw [e, List.set_append_right _ _ (by rw [List.length_take]; omega), hk0, List.set_cons_zero, List.take_succ_eq_append_getElem (by omega), List.append_assoc, List.getD_eq_getElem?_getD, List.getElem?_eq_getElem (by omega)]
  rfl
theorem mixP_start (T S : List Nat) : mixP T S 0 = S := by simp [mixP]
theorem mixP_end {T S : List Nat} (hT : T.length = 5) (hS : S.length = 5) : mixP T S 5 = T := by simp [mixP, List.take_of_length_le (show T.length ≤ 5 by omega), List.drop_of_length_le (show S.length ≤ 5 by omega)]

/-! ### a byte put to it -/
def putP (S : List Nat) (x p : Nat) : List Nat := S.set (8 * p / 26) (S.getD (8 * p / 26) 0 + x * 2 ^ (8 * p % 26))
theorem pow_place (p : Nat) : 2 ^ (8 * p % 26) * 67108864 ^ (8 * p / 26) = 256 ^ p := by
  rw [show (67108864 : Nat) = 2 ^ 26 from rfl, show (256 : Nat) = 2 ^ 8 from rfl, ← Nat.pow_mul, ← Nat.pow_mul, ← Nat.pow_add, Nat.add_comm, Nat.div_add_mod]
theorem putP_val {S : List Nat} (x p : Nat) (hl : S.length = 5) (hp : p ≤ 16) : val5 (putP S x p) = val5 S + x * 256 ^ p := by
  rw [putP, val5_set _ hl (by omega), Nat.mul_assoc, pow_place]
theorem put_small {x p : Nat} (hx : x < 256) : x * 2 ^ (8 * p % 26) ≤ 8589934592 := by
  have h1 : 2 ^ (8 * p % 26) ≤ 2 ^ 25 := Nat.pow_le_pow_right (by decide) (by omega)
  have h2 := Nat.mul_le_mul (Nat.le_of_lt hx) h1
  exact h2
theorem putP_less {M : Nat} {S : List Nat} {x p : Nat} (h : lessP M S) (hx : x < 256) : lessP (M + 8589934592) (putP S x p) := by
  have h1 := put_small (p := p) hx
  have h2 := h.2 (8 * p / 26)
  exact lessP_set h _ _ (by omega) (by omega)
/-- The first k of these bytes put to it. -/
def putsP (S : List Nat) (d : Nat → Nat) : Nat → List Nat
  | 0 => S
  | k + 1 => putP (putsP S d k) (d k) k
theorem putsP_less {M : Nat} {S : List Nat} {d : Nat → Nat} (h : lessP M S) (hd : ∀ i, d i < 256) (k : Nat) : lessP (M + k * 8589934592) (putsP S d k) := by
  induction k with
  | zero => rw [Nat.zero_mul]; exact h
  | succ k ih =>
    have := putP_less (p := k) ih (hd k)
    rw [Nat.add_mul, Nat.one_mul, ← Nat.add_assoc]
    exact this
theorem putsP_val {S : List Nat} (d : Nat → Nat) (hl : S.length = 5) (k : Nat) (h : k ≤ 17) : (putsP S d k).length = 5 ∧ val5 (putsP S d k) = val5 S + valN d k := by
  induction k with
  | zero => exact ⟨hl, by rw [putsP, valN, Nat.add_zero]⟩
  | succ k ih =>
    obtain ⟨h1, h2⟩ := ih (by omega)
    refine ⟨by simpa [putsP, putP] using h1, ?_⟩
    rw [putsP, putP_val _ _ h1 (by omega), h2, valN, Nat.add_assoc]

/-! ### what goes round -/
theorem alike_round (V : Nat) : alike (V % 67108864 ^ 5 + 5 * (V / 67108864 ^ 5)) V := by
  have e : (67108864 : Nat) ^ 5 = 4 * 256 ^ 16 := by decide
  rw [e]
  have h := Nat.mod_add_div V (4 * 256 ^ 16)
  have h1 : alike (V % (4 * 256 ^ 16) + 5 * (V / (4 * 256 ^ 16))) (V % (4 * 256 ^ 16) + 4 * 256 ^ 16 * (V / (4 * 256 ^ 16))) := (alike.refl _).add (alike_130.symm.mul (alike.refl _))
  rwa [h] at h1
def roundP (V : Nat) : Nat := V % 67108864 ^ 5 + 5 * (V / 67108864 ^ 5)
theorem roundP_alike (V : Nat) : alike (roundP V) V := alike_round V
theorem roundP_lt {V : Nat} (h : 0 < V / 67108864 ^ 5) : roundP V < V := by
  have e := Nat.mod_add_div V (67108864 ^ 5)
  have h5 : 67108864 ^ 5 * (V / 67108864 ^ 5) ≥ 6 * (V / 67108864 ^ 5) := Nat.mul_le_mul_right _ (by decide)
  unfold roundP
  omega
theorem round_set (V : Nat) : val5 ((digL V).set 0 ((digL V).getD 0 0 + 5 * (V / 67108864 ^ 5))) = roundP V := by
  rw [val5_set _ (digL_length V) (by decide), val5_digL, Nat.pow_zero, Nat.mul_one]
  rfl

/-! ### a number times another -/
theorem times_low (T : List Nat) (hl : T.length = 5) (i j x y : Nat) (h : i + j < 5) : val5 (T.set (i + j) (T.getD (i + j) 0 + x * y)) = val5 T + x * 67108864 ^ i * (y * 67108864 ^ j) := by
  rw [val5_set _ hl h, Nat.pow_add, Nat.mul_mul_mul_comm]
theorem times_high (T : List Nat) (hl : T.length = 5) (i j x y : Nat) (h : ¬ i + j < 5) (hi : i < 5) (hj : j < 5) : alike (val5 (T.set (i + j - 5) (T.getD (i + j - 5) 0 + 5 * x * y))) (val5 T + x * 67108864 ^ i * (y * 67108864 ^ j)) := by
  rw [val5_set _ hl (by omega)]
  refine (alike.refl _).add ?_
  have e : x * 67108864 ^ i * (y * 67108864 ^ j) = 4 * 256 ^ 16 * (x * y * 67108864 ^ (i + j - 5)) := by
    rw [Nat.mul_mul_mul_comm, ← Nat.pow_add, show i + j = 5 + (i + j - 5) by omega, Nat.pow_add, show 5 + (i + j - 5) - 5 = i + j - 5 by omega, show (67108864 : Nat) ^ 5 = 4 * 256 ^ 16 by decide, Nat.mul_left_comm]
  rw [e, Nat.mul_assoc 5, Nat.mul_assoc 5]
  exact alike_130.symm.mul (alike.refl _)
theorem part_prod {a b : Nat} (ha : a < 67108864) (hb : b < 67108864) : a * b ≤ 4503599627370496 := Nat.mul_le_mul (Nat.le_of_lt ha) (Nat.le_of_lt hb)

/-! ### what is left by p -/
theorem rest_yes {V : Nat} (h : V < 67108864 ^ 5) (ho : 0 < (V + 5) / 67108864 ^ 5) : (V + 5) % 67108864 ^ 5 = V % tagP := by
  have e : (67108864 : Nat) ^ 5 = tagP + 5 := by decide
  rw [e] at h ho ⊢
  have hge : tagP + 5 ≤ V + 5 := by
    rcases Nat.lt_or_ge (V + 5) (tagP + 5) with hlt | hge
    · rw [Nat.div_eq_of_lt hlt] at ho; omega
    · exact hge
  have hp : 5 < tagP := by decide
  rw [Nat.mod_eq_sub_mod hge, Nat.mod_eq_of_lt (by omega), Nat.mod_eq_sub_mod (show tagP ≤ V by omega), Nat.mod_eq_of_lt (show V - tagP < tagP by omega)]
  omega
theorem rest_no {V : Nat} (ho : ¬ 0 < (V + 5) / 67108864 ^ 5) : V % tagP = V := by
  have e : (67108864 : Nat) ^ 5 = tagP + 5 := by decide
  rw [e] at ho
  refine Nat.mod_eq_of_lt ?_
  rcases Nat.lt_or_ge V tagP with h | h
  · exact h
  · have := Nat.div_pos (show tagP + 5 ≤ V + 5 by omega) (by decide)
    omega

/-! ### its bytes -/
theorem val5_lt {S : List Nat} (h : lessP 67108864 S) : val5 S < 67108864 ^ 5 := by
  have h0 := h.2 0
  have h1 := h.2 1
  have h2 := h.2 2
  have h3 := h.2 3
  have h4 := h.2 4
  simp only [val5, valP]
  omega
theorem byte_parts (A s t u : Nat) (ht : 2 ^ s = t) (hu : 2 ^ (26 - s) = u) (hs : s ≤ 24) : ((A % 67108864 / t) ||| (A / 67108864 % 67108864 * u)) % 256 = A / t % 256 := by
  have hM : t * u = 67108864 := by rw [← ht, ← hu, ← Nat.pow_add, show s + (26 - s) = 26 by omega]
  have hlt : A % 67108864 / t < 2 ^ (26 - s) := by
    rw [hu, Nat.div_lt_iff_lt_mul (by rw [← ht]; exact Nat.two_pow_pos _), Nat.mul_comm, hM]
    exact Nat.mod_lt _ (by decide)
  rw [Nat.or_comm, Nat.mul_comm _ u, ← hu, ← Nat.two_pow_add_eq_or_of_lt hlt, hu]
  have e : A / t = A % 67108864 / t + u * (A / 67108864) := by
    have h1 := Nat.mod_add_div A 67108864
    rw [← hM, Nat.mul_assoc] at h1
    conv => lhs; rw [← h1]
    rw [Nat.add_mul_div_left _ _ (by rw [← ht]; exact Nat.two_pow_pos _), hM]
  rw [e]
  have h2 := Nat.mod_add_div (A / 67108864) 67108864
  generalize A / 67108864 % 67108864 = x1 at h2 ⊢
  generalize A / 67108864 / 67108864 = x2 at h2
  rw [← h2, Nat.mul_add, ← Nat.mul_assoc, Nat.mul_comm u 67108864, Nat.mul_assoc]
  generalize u * x2 = z
  generalize u * x1 = y
  omega
theorem byte_last (A s t : Nat) (ht : 2 ^ s = t) (hs : s ≤ 18) : A % 67108864 / t % 256 = A / t % 256 := by
  have h8 : 67108864 = t * (2 ^ (18 - s) * 256) := by rw [← ht, show (256 : Nat) = 2 ^ 8 from rfl, ← Nat.pow_add, ← Nat.pow_add, show s + (18 - s + 8) = 26 by omega]
  have ht0 : 0 < t := by rw [← ht]; exact Nat.two_pow_pos _
  rw [h8, Nat.mod_mul_right_div_self, Nat.mod_mul_left_mod]
theorem byte_at (V p : Nat) : V / 67108864 ^ (8 * p / 26) / 2 ^ (8 * p % 26) = V / 256 ^ p := by
  rw [Nat.div_div_eq_div_mul, Nat.mul_comm, pow_place]

end Go.Proofs.Ythgnekdhldjjmab
