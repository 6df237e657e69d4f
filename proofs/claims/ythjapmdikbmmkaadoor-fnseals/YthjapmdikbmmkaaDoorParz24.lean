/-
  A part of the proof.
-/
import Derived.Test.YthjapmdikbmmkaaDoorParz23
import Derived.Deep.MidRow
import Derived.Deep.WholeRow
import Derived.BigRegion
import Derived.Lib.SliceRun
import Derived.BigFrame
namespace Go.Proofs.YthjapmdikbmmkaaDoor
open Go.RowKit
set_option maxRecDepth 100000
def valP (S : List Nat) : Nat → Nat
  | 0 => 0
  | k + 1 => valP S k + S.getD k 0 * 67108864 ^ k
def val5 (S : List Nat) : Nat := valP S 5
def digP (V i : Nat) : Nat := V / 67108864 ^ i % 67108864
def digL (V : Nat) : List Nat := (List.range 5).map (digP V)
def lessP (M : Nat) (S : List Nat) : Prop := S.length = 5 ∧ ∀ i, S.getD i 0 < M
theorem digL_length (V : Nat) : (digL V).length = 5 := by simp [digL]
theorem digL_get (V i : Nat) (h : i < 5) : (digL V).getD i 0 = digP V i := by simp [digL, h]
theorem digP_lt (V i : Nat) : digP V i < 67108864 := Nat.mod_lt _ (by decide)
theorem digL_less (V : Nat) : lessP 67108864 (digL V) := by
  refine ⟨digL_length V, fun i => ?_⟩
  by_cases h : i < 5
  · rw [digL_get V i h]
    exact digP_lt V i
  · rw [List.getD_eq_getElem?_getD, List.getElem?_eq_none (by rw [digL_length]; omega)]
    decide
theorem lessP.mono {M M' : Nat} {S : List Nat} (h : lessP M S) (hm : M ≤ M') : lessP M' S := ⟨h.1, fun i => Nat.lt_of_lt_of_le (h.2 i) hm⟩
theorem valP_digL (V : Nat) : ∀ k, k ≤ 5 → valP (digL V) k = V % 67108864 ^ k
  | 0, _ => by rw [Nat.pow_zero, Nat.mod_one]; rfl
  | k + 1, h => by rw [valP, valP_digL V k (by omega), digL_get V k (by omega), Nat.pow_succ, Nat.mod_mul, digP, Nat.mul_comm (V / 67108864 ^ k % 67108864)]
theorem val5_digL (V : Nat) : val5 (digL V) = V % 67108864 ^ 5 := valP_digL V 5 (Nat.le_refl _)
theorem getD_set_self (S : List Nat) (k x : Nat) (h : k < S.length) : (S.set k x).getD k 0 = x := by simp [h]
theorem getD_set_other (S : List Nat) (k i x : Nat) (h : k ≠ i) : (S.set k x).getD i 0 = S.getD i 0 := by simp [List.getElem?_set_ne h]
theorem valP_set (S : List Nat) (k x : Nat) (hk : k < S.length) : ∀ n, valP (S.set k (S.getD k 0 + x)) n = valP S n + (if k < n then x * 67108864 ^ k else 0)
  | 0 => by simp [valP]
  | n + 1 => by
    rw [valP, valP, valP_set S k x hk n]
    by_cases h : k = n
    · subst h
      rw [getD_set_self _ _ _ hk, if_neg (Nat.lt_irrefl _), if_pos (by omega), Nat.add_mul]
      omega
    · rw [getD_set_other _ _ _ _ h]
      by_cases h' : k < n
      · rw [if_pos h', if_pos (by omega)]; omega
      · rw [if_neg h', if_neg (by omega), Nat.add_zero, Nat.add_zero]
theorem val5_set {S : List Nat} {k : Nat} (x : Nat) (hl : S.length = 5) (hk : k < 5) : val5 (S.set k (S.getD k 0 + x)) = val5 S + x * 67108864 ^ k := by
  rw [val5, valP_set S k x (by omega), if_pos hk]
  rfl
theorem lessP_set {M M' : Nat} {S : List Nat} (h : lessP M S) (k x : Nat) (hm : M ≤ M') (hx : x < M') : lessP M' (S.set k x) := by
  refine ⟨by simpa using h.1, fun i => ?_⟩
  by_cases e : k = i
  · subst e
    by_cases hk : k < S.length
    · rw [getD_set_self _ _ _ hk]; exact hx
    · rw [List.getD_eq_getElem?_getD, List.getElem?_eq_none (by simpa using hk)]
      exact Nat.lt_of_le_of_lt (Nat.zero_le _) hx
  · rw [getD_set_other _ _ _ _ e]
    exact Nat.lt_of_lt_of_le (h.2 i) hm
/-! ### what is carried -/
def ovP (S : List Nat) (k : Nat) : Nat := valP S k / 67108864 ^ k
theorem ovP_add (S : List Nat) (k : Nat) : ovP S k + S.getD k 0 = valP S (k + 1) / 67108864 ^ k := by
  rw [valP, Nat.add_mul_div_right _ _ (Nat.pow_pos (by decide))]
  rfl
theorem ovP_step (S : List Nat) (k : Nat) : (ovP S k + S.getD k 0) / 67108864 = ovP S (k + 1) := by
  rw [ovP_add, Nat.div_div_eq_div_mul, ← Nat.pow_succ]
  rfl
theorem valP_more (S : List Nat) (k d : Nat) : ∃ r, valP S (k + d) = valP S k + 67108864 ^ k * r := by
  induction d with
  | zero => exact ⟨0, by rw [Nat.mul_zero]; rfl⟩
  | succ d ih =>
    obtain ⟨r, hr⟩ := ih
    refine ⟨r + S.getD (k + d) 0 * 67108864 ^ d, ?_⟩
    rw [← Nat.add_assoc, valP, hr, Nat.mul_add, Nat.pow_add, Nat.mul_left_comm, Nat.add_assoc]
theorem ovP_dig (S : List Nat) (k : Nat) (hk : k < 5) : (ovP S k + S.getD k 0) % 67108864 = digP (val5 S) k := by
  obtain ⟨r, hr⟩ := valP_more S (k + 1) (4 - k)
  rw [show k + 1 + (4 - k) = 5 by omega] at hr
  rw [ovP_add, digP, val5, hr, Nat.pow_succ, Nat.mul_assoc, Nat.add_mul_div_left _ _ (Nat.pow_pos (by decide)), Nat.add_mul_mod_self_left]
theorem ovP_lt {S : List Nat} (h : lessP 9223372036854775808 S) : ∀ k, ovP S k < 274877906944
  | 0 => by simp [ovP, valP]
  | k + 1 => by
    have h1 := ovP_lt h k
    have h2 := h.2 k
    rw [← ovP_step]
    omega
theorem ovP_end (S : List Nat) : ovP S 5 = val5 S / 67108864 ^ 5 := rfl
def mixP (T S : List Nat) (k : Nat) : List Nat := T.take k ++ S.drop k
theorem mixP_getD {T S : List Nat} (hT : T.length = 5) (k : Nat) (hk : k < 5) : (mixP T S k).getD k 0 = S.getD k 0 := by
  simp only [mixP, List.getD_eq_getElem?_getD]
  rw [List.getElem?_append_right (by simp; omega)]
  simp [hT, Nat.min_eq_left (show k ≤ 5 by omega)]
theorem mixP_set {T S : List Nat} (hT : T.length = 5) (hS : S.length = 5) (k : Nat) (hk : k < 5) (u : Nat) (hu : u = T.getD k 0) : (mixP T S k).set k u = mixP T S (k + 1) := by
  subst hu
  have e : S.drop k = S[k]'(by omega) :: S.drop (k + 1) := List.drop_eq_getElem_cons (by omega)
  simp only [mixP]
  have hk0 : k - (T.take k).length = 0 := by simp [hT]; omega
  rw [e, List.set_append_right _ _ (by rw [List.length_take]; omega), hk0, List.set_cons_zero, List.take_succ_eq_append_getElem (by omega), List.append_assoc, List.getD_eq_getElem?_getD, List.getElem?_eq_getElem (by omega)]
  rfl
theorem mixP_start (T S : List Nat) : mixP T S 0 = S := by simp [mixP]
theorem mixP_end {T S : List Nat} (hT : T.length = 5) (hS : S.length = 5) : mixP T S 5 = T := by simp [mixP, List.take_of_length_le (show T.length ≤ 5 by omega), List.drop_of_length_le (show S.length ≤ 5 by omega)]
/-! ### a byte put to it -/
def putP (S : List Nat) (x p : Nat) : List Nat := S.set (8 * p / 26) (S.getD (8 * p / 26) 0 + x * 2 ^ (8 * p % 26))
theorem pow_place (p : Nat) : 2 ^ (8 * p % 26) * 67108864 ^ (8 * p / 26) = 256 ^ p := by
  rw [show (67108864 : Nat) = 2 ^ 26 from rfl, show (256 : Nat) = 2 ^ 8 from rfl, ← Nat.pow_mul, ← Nat.pow_mul, ← Nat.pow_add, Nat.add_comm, Nat.div_add_mod]
theorem putP_val {S : List Nat} (x p : Nat) (hl : S.length = 5) (hp : p ≤ 16) : val5 (putP S x p) = val5 S + x * 256 ^ p := by
  rw [putP, val5_set _ hl (by omega), Nat.mul_assoc, pow_place]
theorem put_small {x p : Nat} (hx : x < 256) : x * 2 ^ (8 * p % 26) ≤ 8589934592 := by
  have h1 : 2 ^ (8 * p % 26) ≤ 2 ^ 25 := Nat.pow_le_pow_right (by decide) (by omega)
  have h2 := Nat.mul_le_mul (Nat.le_of_lt hx) h1
  exact h2
theorem putP_less {M : Nat} {S : List Nat} {x p : Nat} (h : lessP M S) (hx : x < 256) : lessP (M + 8589934592) (putP S x p) := by
  have h1 := put_small (p := p) hx
  have h2 := h.2 (8 * p / 26)
  exact lessP_set h _ _ (by omega) (by omega)
def putsP (S : List Nat) (d : Nat → Nat) : Nat → List Nat
  | 0 => S
  | k + 1 => putP (putsP S d k) (d k) k
theorem putsP_less {M : Nat} {S : List Nat} {d : Nat → Nat} (h : lessP M S) (hd : ∀ i, d i < 256) (k : Nat) : lessP (M + k * 8589934592) (putsP S d k) := by
  induction k with
  | zero => rw [Nat.zero_mul]; exact h
  | succ k ih =>
    have := putP_less (p := k) ih (hd k)
    rw [Nat.add_mul, Nat.one_mul, ← Nat.add_assoc]
    exact this
theorem putsP_val {S : List Nat} (d : Nat → Nat) (hl : S.length = 5) (k : Nat) (h : k ≤ 17) : (putsP S d k).length = 5 ∧ val5 (putsP S d k) = val5 S + valN d k := by
  induction k with
  | zero => exact ⟨hl, by rw [putsP, valN, Nat.add_zero]⟩
  | succ k ih =>
    obtain ⟨h1, h2⟩ := ih (by omega)
    refine ⟨by simpa [putsP, putP] using h1, ?_⟩
    rw [putsP, putP_val _ _ h1 (by omega), h2, valN, Nat.add_assoc]
/-! ### what goes round -/
theorem alike_round (V : Nat) : alike (V % 67108864 ^ 5 + 5 * (V / 67108864 ^ 5)) V := by
  have e : (67108864 : Nat) ^ 5 = 4 * 256 ^ 16 := by decide
  rw [e]
  have h := Nat.mod_add_div V (4 * 256 ^ 16)
  have h1 : alike (V % (4 * 256 ^ 16) + 5 * (V / (4 * 256 ^ 16))) (V % (4 * 256 ^ 16) + 4 * 256 ^ 16 * (V / (4 * 256 ^ 16))) := (alike.refl _).add (alike_130.symm.mul (alike.refl _))
  rwa [h] at h1
def roundP (V : Nat) : Nat := V % 67108864 ^ 5 + 5 * (V / 67108864 ^ 5)
theorem roundP_alike (V : Nat) : alike (roundP V) V := alike_round V
theorem roundP_lt {V : Nat} (h : 0 < V / 67108864 ^ 5) : roundP V < V := by
  have e := Nat.mod_add_div V (67108864 ^ 5)
  have h5 : 67108864 ^ 5 * (V / 67108864 ^ 5) ≥ 6 * (V / 67108864 ^ 5) := Nat.mul_le_mul_right _ (by decide)
  unfold roundP
  omega
theorem round_set (V : Nat) : val5 ((digL V).set 0 ((digL V).getD 0 0 + 5 * (V / 67108864 ^ 5))) = roundP V := by
  rw [val5_set _ (digL_length V) (by decide), val5_digL, Nat.pow_zero, Nat.mul_one]
  rfl
/-! ### a number times another -/
theorem times_low (T : List Nat) (hl : T.length = 5) (i j x y : Nat) (h : i + j < 5) : val5 (T.set (i + j) (T.getD (i + j) 0 + x * y)) = val5 T + x * 67108864 ^ i * (y * 67108864 ^ j) := by
  rw [val5_set _ hl h, Nat.pow_add, Nat.mul_mul_mul_comm]
theorem times_high (T : List Nat) (hl : T.length = 5) (i j x y : Nat) (h : ¬ i + j < 5) (hi : i < 5) (hj : j < 5) : alike (val5 (T.set (i + j - 5) (T.getD (i + j - 5) 0 + 5 * x * y))) (val5 T + x * 67108864 ^ i * (y * 67108864 ^ j)) := by
  rw [val5_set _ hl (by omega)]
  refine (alike.refl _).add ?_
  have e : x * 67108864 ^ i * (y * 67108864 ^ j) = 4 * 256 ^ 16 * (x * y * 67108864 ^ (i + j - 5)) := by
    rw [Nat.mul_mul_mul_comm, ← Nat.pow_add, show i + j = 5 + (i + j - 5) by omega, Nat.pow_add, show 5 + (i + j - 5) - 5 = i + j - 5 by omega, show (67108864 : Nat) ^ 5 = 4 * 256 ^ 16 by decide, Nat.mul_left_comm]
  rw [e, Nat.mul_assoc 5, Nat.mul_assoc 5]
  exact alike_130.symm.mul (alike.refl _)
theorem part_prod {a b : Nat} (ha : a < 67108864) (hb : b < 67108864) : a * b ≤ 4503599627370496 := Nat.mul_le_mul (Nat.le_of_lt ha) (Nat.le_of_lt hb)
/-! ### what is left by p -/
theorem rest_yes {V : Nat} (h : V < 67108864 ^ 5) (ho : 0 < (V + 5) / 67108864 ^ 5) : (V + 5) % 67108864 ^ 5 = V % tagP := by
  have e : (67108864 : Nat) ^ 5 = tagP + 5 := by decide
  rw [e] at h ho ⊢
  have hge : tagP + 5 ≤ V + 5 := by
    rcases Nat.lt_or_ge (V + 5) (tagP + 5) with hlt | hge
    · rw [Nat.div_eq_of_lt hlt] at ho; omega
    · exact hge
  have hp : 5 < tagP := by decide
  rw [Nat.mod_eq_sub_mod hge, Nat.mod_eq_of_lt (by omega), Nat.mod_eq_sub_mod (show tagP ≤ V by omega), Nat.mod_eq_of_lt (show V - tagP < tagP by omega)]
  omega
theorem rest_no {V : Nat} (ho : ¬ 0 < (V + 5) / 67108864 ^ 5) : V % tagP = V := by
  have e : (67108864 : Nat) ^ 5 = tagP + 5 := by decide
  rw [e] at ho
  refine Nat.mod_eq_of_lt ?_
  rcases Nat.lt_or_ge V tagP with h | h
  · exact h
  · have := Nat.div_pos (show tagP + 5 ≤ V + 5 by omega) (by decide)
    omega
/-! ### its bytes -/
theorem val5_lt {S : List Nat} (h : lessP 67108864 S) : val5 S < 67108864 ^ 5 := by
  have h0 := h.2 0
  have h1 := h.2 1
  have h2 := h.2 2
  have h3 := h.2 3
  have h4 := h.2 4
  simp only [val5, valP]
  omega
theorem byte_parts (A s t u : Nat) (ht : 2 ^ s = t) (hu : 2 ^ (26 - s) = u) (hs : s ≤ 24) : ((A % 67108864 / t) ||| (A / 67108864 % 67108864 * u)) % 256 = A / t % 256 := by
  have hM : t * u = 67108864 := by rw [← ht, ← hu, ← Nat.pow_add, show s + (26 - s) = 26 by omega]
  have hlt : A % 67108864 / t < 2 ^ (26 - s) := by
    rw [hu, Nat.div_lt_iff_lt_mul (by rw [← ht]; exact Nat.two_pow_pos _), Nat.mul_comm, hM]
    exact Nat.mod_lt _ (by decide)
  rw [Nat.or_comm, Nat.mul_comm _ u, ← hu, ← Nat.two_pow_add_eq_or_of_lt hlt, hu]
  have e : A / t = A % 67108864 / t + u * (A / 67108864) := by
    have h1 := Nat.mod_add_div A 67108864
    rw [← hM, Nat.mul_assoc] at h1
    conv => lhs; rw [← h1]
    rw [Nat.add_mul_div_left _ _ (by rw [← ht]; exact Nat.two_pow_pos _), hM]
  rw [e]
  have h2 := Nat.mod_add_div (A / 67108864) 67108864
  generalize A / 67108864 % 67108864 = x1 at h2 ⊢
  generalize A / 67108864 / 67108864 = x2 at h2
  rw [← h2, Nat.mul_add, ← Nat.mul_assoc, Nat.mul_comm u 67108864, Nat.mul_assoc]
  generalize u * x2 = z
  generalize u * x1 = y
  omega
theorem byte_last (A s t : Nat) (ht : 2 ^ s = t) (hs : s ≤ 18) : A % 67108864 / t % 256 = A / t % 256 := by
  have h8 : 67108864 = t * (2 ^ (18 - s) * 256) := by rw [← ht, show (256 : Nat) = 2 ^ 8 from rfl, ← Nat.pow_add, ← Nat.pow_add, show s + (18 - s + 8) = 26 by omega]
  have ht0 : 0 < t := by rw [← ht]; exact Nat.two_pow_pos _
  rw [h8, Nat.mod_mul_right_div_self, Nat.mod_mul_left_mod]
theorem byte_at (V p : Nat) : V / 67108864 ^ (8 * p / 26) / 2 ^ (8 * p % 26) = V / 256 ^ p := by
  rw [Nat.div_div_eq_div_mul, Nat.mul_comm, pow_place]
def u64L (l : List Nat) : List Value := l.map fun (n : Nat) => Value.int .u64 (n : Int)
theorem u64L_length (l : List Nat) : (u64L l).length = l.length := by simp [u64L]
theorem u64L_get (l : List Nat) (i : Nat) (h : i < l.length) : (u64L l)[i]? = some (.int .u64 ((l.getD i 0 : Nat) : Int)) := by simp [u64L, List.getElem?_eq_getElem h]
def NumIs (w : World) (lo g : Nat) (S : List Nat) : Prop := S.length = 5 ∧ w.ownsRow lo 74 1 (.slice (some ⟨g, 0, none⟩) 5 5) 5 (u64L S)
theorem NumIs.cell {w : World} {lo g : Nat} {S : List Nat} (h : NumIs w lo g S) (i : Nat) (hi : i < 5) : w.cell? ⟨g, i, none⟩ = some (.int .u64 ((S.getD i 0 : Nat) : Int)) := by
  rw [h.2.cellAt i (by omega), u64L_get _ _ (by have := h.1; omega)]
theorem NumIs.frozen {w : World} {lo g : Nat} {S : List Nat} (h : NumIs w lo g S) (i : Nat) : w.frozen? ⟨g, i, none⟩ = false := h.2.frozenAt i
theorem NumIs.lt {w : World} {lo g : Nat} {S : List Nat} (h : NumIs w lo g S) : lo ≤ g ∧ g < w.heap.size := h.2.lt g rfl
theorem NumIs.below {w w' : World} {lo g : Nat} {S : List Nat} (h : NumIs w lo g S) (hb : Below w.heap.size w w') : NumIs w' lo g S := ⟨h.1, owns_below h.2 hb⟩
theorem NumIs.mono {w : World} {lo lo' g : Nat} {S : List Nat} (h : NumIs w lo g S) (hb : lo' ≤ lo) : NumIs w lo' g S := ⟨h.1, owns_mono h.2 hb⟩
theorem NumIs.kept {w w' : World} {lo g r : Nat} {S : List Nat} (h : NumIs w lo g S) (hg : w.grownBy w' (some r)) (hne : g ≠ r) : NumIs w' lo g S :=
  ⟨h.1, h.2.kept hg (.inr (by simp [Value.ownBlock]; exact fun e => hne e))⟩
theorem NumIs.set {w : World} {lo g : Nat} {S : List Nat} (h : NumIs w lo g S) (k u : Nat) : NumIs (w.setCell ⟨g, k, none⟩ (.int .u64 (u : Int))) lo g (S.set k u) ∧ w.grownBy (w.setCell ⟨g, k, none⟩ (.int .u64 (u : Int))) (some g) := by
  have st := h.2.stored k (.int .u64 (u : Int))
  have e : (u64L S).set k (.int .u64 (u : Int)) = u64L (S.set k u) := by simp [u64L, List.map_set]
  rw [e] at st
  exact ⟨⟨by simpa using h.1, st.1⟩, st.2⟩
theorem u64_mask26 (a : Nat) (h : a < 18446744073709551616) : bits .and .u64 (a : Int) 67108863 = ((a % 67108864 : Nat) : Int) := by
  have e : bits .and .u64 (a : Int) 67108863 = IntKind.u64.wrap ((BitVec.ofInt 64 (a : Int) &&& BitVec.ofInt 64 67108863).toNat : Int) := rfl
  have e1 : (BitVec.ofInt 64 (a : Int)).toNat = a := by rw [BitVec.toNat_ofInt]; omega
  have e2 : (BitVec.ofInt 64 67108863).toNat = 2 ^ 26 - 1 := rfl
  rw [e, BitVec.toNat_and, e1, e2, Nat.and_two_pow_sub_one_eq_mod, IntKind.wrap_u64]
  omega
set_option maxHeartbeats 2400000 in
theorem carry_any (lo g : Nat) (S : List Nat) (w : World) (hS : lessP 9223372036854775808 S) (h : NumIs w lo g S) :
    Calls Tryd.prog 65 #[.pointer (some ⟨g, 0, none⟩)] w fun e w' => e = .returned (.int .u64 ((val5 S / 67108864 ^ 5 : Nat) : Int)) ∧ NumIs w' lo g (digL (val5 S)) ∧ w.grownBy w' (some g) := by
  have hl5 := hS.1
  have HL : Hid (∀ k, ovP S k < 274877906944) := ovP_lt hS
  have HS : Hid (∀ k, S.getD k 0 < 9223372036854775808) := hS.2
  have HD : Hid (∀ k, k < 5 → (ovP S k + S.getD k 0) % 67108864 = (digL (val5 S)).getD k 0) := fun k hk => by rw [ovP_dig S k hk, digL_get _ _ hk]
  have HO : Hid (∀ k, (ovP S k + S.getD k 0) / 67108864 = ovP S (k + 1)) := ovP_step S
  have H5 : Hid (ovP S 5 = val5 S / 67108864 ^ 5) := ovP_end S
  have H0 : Hid (((0 : Nat) : Int) = ((ovP S 0 : Nat) : Int)) := by simp [Hid, ovP, valP]
  have lT := digL_length (val5 S)
  generalize val5 S / 67108864 ^ 5 = R at H5 ⊢
  generalize digL (val5 S) = T at HD lT ⊢
  go_enter Tryd.func65, Tryd.ntmps65
  go_wp2_with (fail)
  go_loopw [3, 5] (fun v i wr => ∃ k : Nat, k ≤ 5 ∧ i = .int .i64 k ∧ v = .int .u64 ((ovP S k : Nat) : Int) ∧ NumIs wr lo g (mixP T S k) ∧ w.grownBy wr (some g))
    (fun _ i _ => 5 - (intOf i).toNat)
  case atStart => exact ⟨0, by omega, rfl, by rw [← H0.out]; rfl, by rw [mixP_start]; exact h, World.grownBy.refl _ _⟩
  case round =>
    clear h H0
    obtain ⟨k, hk, rfl, rfl, hn, hg⟩ := hrel
    by_cases hlt : k < 5
    · have hlt' : (k : Int) < 5 := by omega
      have l1 := HL.out k
      have l2 := HS.out k
      have ed := HD.out k hlt
      have eo := HO.out k
      have e1 := hn.cell k hlt
      rw [mixP_getD lT k hlt] at e1
      have hfr := hn.frozen k
      have st := hn.set k (T.getD k 0)
      rw [mixP_set lT hl5 k hlt _ rfl] at st
      have hg' := grown_trans hg st.2
      have hn' := st.1
      obtain ⟨o', ho'⟩ : ∃ o', o' = ovP S (k + 1) := ⟨_, rfl⟩
      rw [← ho'] at eo
      replace ho' : Hid (o' = ovP S (k + 1)) := ho'
      generalize ovP S k = ov at l1 ed eo ⊢
      generalize S.getD k 0 = s at l2 ed eo e1
      generalize T.getD k 0 = t at ed hg' hn'
      obtain ⟨y, hy⟩ : ∃ y : Nat, y = ov + s := ⟨_, rfl⟩
      have wy : ((ov : Int) + (s : Int)) = (y : Int) := by omega
      have ly : y < 18446744073709551616 := by omega
      have ma := u64_mask26 y ly
      rw [← hy] at ed eo
      rw [ed] at ma
      have eo' : (y : Int) / 67108864 = (o' : Int) := by omega
      clear st hn hg hy ed eo
      go_wp2
      go_roundw
      case rel => exact ⟨k + 1, by omega, by go_num, by rw [ho'.out], hn', hg'⟩
      case measure => simp [intOf]; omega
    · obtain rfl : k = 5 := by omega
      rw [mixP_end lT hl5] at hn
      rw [H5.out]
      go_wp2
      go_ret
      exact ⟨rfl, hn, hg⟩
theorem tdiv_letter {q i : Nat} (h : q / 26 = i) : Int.tdiv (q : Int) 26 = (i : Int) := by
  rw [← h]
  rfl
theorem tmod_letter {q s : Nat} (h : q % 26 = s) : Int.tmod (q : Int) 26 = (s : Int) := by
  rw [← h]
  rfl
set_option maxHeartbeats 2400000 in
theorem putByte_any (lo g : Nat) (S : List Nat) (x p : Nat) (w : World) (hS : lessP 9223372036854775808 S) (hx : x < 256) (hp : p ≤ 16) (h : NumIs w lo g S) :
    Calls Tryd.prog 61 #[.pointer (some ⟨g, 0, none⟩), .int .u8 (x : Int), .int .i64 (p : Int)] w fun e w' => e = .returned (.tuple #[]) ∧ NumIs w' lo g (putP S x p) ∧ w.grownBy w' (some g) := by
  have hsm := put_small (p := p) hx
  unfold putP
  have hs2 := hS.2 (8 * p / 26)
  have hi5 : 8 * p / 26 < 5 := by omega
  have hs26 : 8 * p % 26 < 26 := by omega
  have e1 := h.cell (8 * p / 26) hi5
  have hfr := h.frozen (8 * p / 26)
  have st := h.set (8 * p / 26) (S.getD (8 * p / 26) 0 + x * 2 ^ (8 * p % 26))
  obtain ⟨q, hq⟩ : ∃ q, q = 8 * p := ⟨_, rfl⟩
  rw [← hq] at hsm hs2 hi5 hs26 e1 hfr st ⊢
  obtain ⟨i, hi⟩ : ∃ i, q / 26 = i := ⟨_, rfl⟩
  obtain ⟨s, hs⟩ : ∃ s, q % 26 = s := ⟨_, rfl⟩
  have ti := tdiv_letter hi
  have ts := tmod_letter hs
  rw [hi] at hs2 hi5 e1 hfr st ⊢
  rw [hs] at hsm hs26 st ⊢
  have eq8 : (8 : Int) * (p : Int) = (q : Int) := by omega
  generalize S.getD i 0 = a at hs2 e1 st ⊢
  have eb : (x : Int) * 2 ^ s = ((x * 2 ^ s : Nat) : Int) := by simp
  generalize x * 2 ^ s = b at hsm st eb ⊢
  obtain ⟨u, hu⟩ : ∃ u, u = a + b := ⟨_, rfl⟩
  rw [← hu] at st ⊢
  have eu : (a : Int) + (b : Int) = (u : Int) := by omega
  have ub : u < 18446744073709551616 := by omega
  have ub' : (u : Int) < 18446744073709551616 := by omega
  have bb' : (b : Int) < 18446744073709551616 := by omega
  have i5' : (i : Int) < 5 := by omega
  have i0' : (0 : Int) ≤ (i : Int) := by omega
  have mb : (b : Int) % 18446744073709551616 = (b : Int) := by omega
  have mu : (u : Int) % 18446744073709551616 = (u : Int) := by omega
  clear hS h hu hq hi hs
  go_enter Tryd.func61, Tryd.ntmps61
  go_wp2_with (fail)
  go_region
  go_end0
  exact ⟨rfl, st.1, ⟨st.2.os, st.2.tape, st.2.output, st.2.size, st.2.block⟩⟩
theorem in_apart {w w' : World} {p : Option Addr} {n g : Nat} {xs : List Int} (h : BytesIn w p n xs) (hg : w.grownBy w' (some g)) (hne : ∀ a, p = some a → a.block ≠ g) : BytesIn w' p n xs := by
  intro hn
  obtain ⟨b, o, rfl, hc⟩ := h hn
  refine ⟨b, o, rfl, fun i hi => ?_⟩
  have hb := hne _ rfl
  have hlt : b < w.heap.size := World.block_lt_of_cell? w ⟨b, o + i, none⟩ (hc i hi)
  rw [← hc i hi]
  simp only [World.cell?, hg.block b hlt (fun e => hb (Option.some.inj e))]
set_option maxHeartbeats 2400000 in
theorem put_any (lo g : Nat) (S : List Nat) (p : Option Addr) (n c : Nat) (xs : List Int) (w : World) (hS : lessP 4611686018427387904 S) (hn : n ≤ 16) (hb : ∀ x ∈ xs, 0 ≤ x ∧ x < 256) (hin : BytesIn w p n xs) (hne : ∀ a, p = some a → a.block ≠ g) (h : NumIs w lo g S) :
    Calls Tryd.prog 60 #[.pointer (some ⟨g, 0, none⟩), .slice p n c] w fun e w' => e = .returned (.tuple #[]) ∧ NumIs w' lo g (putsP S (byN xs) n) ∧ w.grownBy w' (some g) := by
  have HB : Hid (∀ i, byN xs i < 256) := byN_lt hb
  have HE : Hid (∀ i, xs.getD i 0 = ((byN xs i : Nat) : Int)) := byN_cast hb
  have HL : Hid (∀ k, k ≤ 16 → lessP 9223372036854775808 (putsP S (byN xs) k)) := fun k hk => (putsP_less hS HB.out k).mono (by omega)
  have HN : Hid (∀ w', w.grownBy w' (some g) → BytesIn w' p n xs) := fun w' hg => in_apart hin hg hne
  clear hS hin hne hb
  go_enter Tryd.func60, Tryd.ntmps60
  go_wp2_with (fail)
  go_loopw [8] (fun i wr => ∃ k : Nat, k ≤ n ∧ i = .int .i64 k ∧ NumIs wr lo g (putsP S (byN xs) k) ∧ w.grownBy wr (some g))
    (fun i _ => n - (intOf i).toNat)
  case atStart => exact ⟨0, by omega, rfl, h, World.grownBy.refl _ _⟩
  case round =>
    clear h
    obtain ⟨k, hk, rfl, hnum, hg⟩ := hrel
    by_cases hlt : k < n
    · have hlt' : (k : Int) < (n : Int) := by omega
      obtain ⟨b, o, hp, hcell⟩ := HN.out wr hg (by omega)
      have e1 := hcell k hlt
      rw [HE.out k] at e1
      have hx := HB.out k
      have C := putByte_any lo g _ (byN xs k) k wr (HL.out k (by omega)) hx (by omega) hnum
      rw [show putP (putsP S (byN xs) k) (byN xs k) k = putsP S (byN xs) (k + 1) from rfl] at C
      generalize byN xs k = x at e1 hx C
      subst hp
      clear hcell hnum HN
      go_wp2_with (fail)
      refine C.mono ?_
      rintro e w2 ⟨rfl, hn2, hg2⟩
      have hg3 := grown_trans hg hg2
      clear C hg hg2
      go_wp2
      go_roundw
      case rel => exact ⟨k + 1, by omega, by go_num, hn2, hg3⟩
      case measure => simp [intOf]; omega
    · obtain rfl : k = n := by omega
      go_wp2
      go_end0
      exact ⟨rfl, hnum, hg⟩
def cellN (w : World) (g i : Nat) : Nat := match w.cell? ⟨g, i, none⟩ with | some (.int _ n) => n.toNat | _ => 0
def numW (w : World) (g : Nat) : Nat := valP ((List.range 5).map (cellN w g)) 5
theorem NumIs.num {w : World} {lo g : Nat} {S : List Nat} (h : NumIs w lo g S) : numW w g = val5 S := by
  have e : ∀ i, i < 5 → cellN w g i = S.getD i 0 := fun i hi => by
    unfold cellN
    rw [h.cell i hi]
    rfl
  have hl : (List.range 5).map (cellN w g) = S := by
    apply List.ext_getElem
    · simp [h.1]
    · intro i h1 h2
      simp at h1
      simp only [List.getElem_map, List.getElem_range, e i h1]
      simp [h2]
  unfold numW
  rw [hl]
  rfl
set_option maxHeartbeats 2400000 in
theorem goRound_any (lo g : Nat) (S : List Nat) (w : World) (hS : lessP 9223372036854775808 S) (h : NumIs w lo g S) :
    Calls Tryd.prog 62 #[.pointer (some ⟨g, 0, none⟩)] w fun e w' => e = .returned (.tuple #[]) ∧ (∃ V, V < 67108864 ^ 5 ∧ NumIs w' lo g (digL V) ∧ alike V (val5 S)) ∧ w.grownBy w' (some g) := by
  have C := carry_any lo g S w hS h
  have HO : val5 S / 67108864 ^ 5 < 274877906944 := ovP_lt hS 5
  have HA := alike.refl (val5 S)
  generalize hV0 : val5 S = V0 at C HO HA ⊢
  generalize hR0 : V0 / 67108864 ^ 5 = R0 at C HO
  replace hR0 : Hid (V0 / 67108864 ^ 5 = R0) := hR0
  clear hV0 h hS
  go_enter Tryd.func62, Tryd.ntmps62
  go_wp2_with (fail)
  refine C.mono ?_
  rintro e w1 ⟨rfl, hn1, hg1⟩
  clear C
  go_wp2_with (fail)
  go_loopw [2] (fun v wr => ∃ V R : Nat, v = .int .u64 (R : Int) ∧ Hid (V / 67108864 ^ 5 = R) ∧ R < 274877906944 ∧ NumIs wr lo g (digL V) ∧ alike V V0 ∧ w.grownBy wr (some g))
    (fun v wr => 67108864 ^ 5 * (intOf v).toNat + numW wr g)
  case atStart => exact ⟨V0, R0, rfl, hR0, HO, hn1, HA, hg1⟩
  case round =>
    clear hn1 hg1 HA HO hR0
    obtain ⟨V, R, rfl, hR, hRl, hn, ha, hg⟩ := hrel
    by_cases hlt : 0 < R
    · have hlt' : (0 : Int) < (R : Int) := by omega
      have e0 := hn.cell 0 (by decide)
      have hfr := hn.frozen 0
      have hd0 := (digL_less V).2 0
      have st := hn.set 0 ((digL V).getD 0 0 + 5 * R)
      have HV : Hid (val5 ((digL V).set 0 ((digL V).getD 0 0 + 5 * R)) = roundP V) := by rw [← hR.out]; exact round_set V
      have hless : lessP 9223372036854775808 ((digL V).set 0 ((digL V).getD 0 0 + 5 * R)) := lessP_set (digL_less V) _ _ (by decide) (by omega)
      have HM : Hid (67108864 ^ 5 * R + numW wr g = V) := by
        rw [Hid, hn.num, val5_digL, ← hR.out, Nat.add_comm]
        exact Nat.mod_add_div V _
      have hlt2 : Hid (roundP V < V) := roundP_lt (by rw [hR.out]; exact hlt)
      have hal : Hid (alike (roundP V) V0) := (roundP_alike V).trans ha
      have hg' := grown_trans hg st.2
      obtain ⟨u, hu⟩ : ∃ u, u = (digL V).getD 0 0 + 5 * R := ⟨_, rfl⟩
      rw [← hu] at st HV hless hg'
      generalize (digL V).getD 0 0 = d at e0 hd0 hu
      have e5 : (5 : Int) * (R : Int) = ((5 * R : Nat) : Int) := by omega
      generalize h5 : 5 * R = r5 at hu e5
      have eu : (d : Int) + (r5 : Int) = (u : Int) := by omega
      have u1 : (u : Int) < 18446744073709551616 := by omega
      have u2 : (r5 : Int) < 18446744073709551616 := by omega
      have n1 := st.1
      generalize (digL V).set 0 u = S1 at HV hless n1
      have CC : ∀ X, X = (wr.setCell ⟨g, 0, none⟩ (.int .u64 (u : Int))).drew → Calls Tryd.prog 65 #[.pointer (some ⟨g, 0, none⟩)] X fun e w' => ∃ R1 : Nat, e = .returned (.int .u64 (R1 : Int)) ∧ Hid (roundP V / 67108864 ^ 5 = R1) ∧ R1 < 274877906944 ∧ NumIs w' lo g (digL (roundP V)) ∧ X.grownBy w' (some g) := by
        intro X hX
        have nX : NumIs X lo g S1 := by rw [hX]; exact n1
        have cc := carry_any lo g S1 X hless nX
        rw [HV.out] at cc
        have hov := ovP_lt hless 5
        rw [ovP_end, HV.out] at hov
        refine cc.mono ?_
        rintro e w' ⟨rfl, k1, k2⟩
        exact ⟨_, rfl, rfl, hov, k1, k2⟩
      clear hn hg st n1 hu h5 hless HV hR ha
      go_wp2_with (fail)
      go_region
      have hX : Hid (w.grownBy ((wr.setCell ⟨g, 0, none⟩ (.int .u64 (u : Int))).drew) (some g)) := ⟨hg'.os, hg'.tape, hg'.output, hg'.size, hg'.block⟩
      go_wp2_with (fail)
      refine (CC _ rfl).mono ?_
      rintro e w3 ⟨R1, rfl, hR1, hR1l, hn3, hg3⟩
      have hg4 := grown_trans hX.out hg3
      clear CC hX hg3 hg'
      go_wp2
      go_roundw
      case rel => exact ⟨roundP V, R1, rfl, hR1, hR1l, hn3, hal.out, hg4⟩
      case measure =>
        have hm3 : 67108864 ^ 5 * R1 + numW w3 g = roundP V := by
          rw [hn3.num, val5_digL, ← hR1.out, Nat.add_comm]
          exact Nat.mod_add_div _ _
        show 67108864 ^ 5 * R1 + numW w3 g < 67108864 ^ 5 * R + numW wr g
        rw [hm3, HM.out]
        exact hlt2.out
    · obtain rfl : R = 0 := by omega
      have hV : V < 67108864 ^ 5 := (Nat.div_eq_zero_iff_lt (by decide)).1 hR.out
      go_wp2
      go_end0
      exact ⟨rfl, ⟨V, hV, hn, ha⟩, hg⟩
theorem five_of {S : List Nat} (h : S.length = 5) : ∃ a b c d e, S = [a, b, c, d, e] := by
  match S, h with
  | [a, b, c, d, e], _ => exact ⟨a, b, c, d, e, rfl⟩
theorem index5 (S : List Nat) (h : S.length = 5) (k : Nat) (hk : k < 5) (w : World) : (Instr.index 74 (.agg (u64L S).toArray) (.int .i64 (k : Int))).run Tryd.prog w = .ok (.int .u64 ((S.getD k 0 : Nat) : Int)) w := by
  obtain ⟨a, b, c, d, e, rfl⟩ := five_of h
  have h0 : (Instr.index 74 (.agg (u64L [a, b, c, d, e]).toArray) (.int .i64 0)).run Tryd.prog w = .ok (.int .u64 (a : Int)) w := by kernel_rfl
  have h1 : (Instr.index 74 (.agg (u64L [a, b, c, d, e]).toArray) (.int .i64 1)).run Tryd.prog w = .ok (.int .u64 (b : Int)) w := by kernel_rfl
  have h2 : (Instr.index 74 (.agg (u64L [a, b, c, d, e]).toArray) (.int .i64 2)).run Tryd.prog w = .ok (.int .u64 (c : Int)) w := by kernel_rfl
  have h3 : (Instr.index 74 (.agg (u64L [a, b, c, d, e]).toArray) (.int .i64 3)).run Tryd.prog w = .ok (.int .u64 (d : Int)) w := by kernel_rfl
  have h4 : (Instr.index 74 (.agg (u64L [a, b, c, d, e]).toArray) (.int .i64 4)).run Tryd.prog w = .ok (.int .u64 (e : Int)) w := by kernel_rfl
  have hc : k = 0 ∨ k = 1 ∨ k = 2 ∨ k = 3 ∨ k = 4 := by omega
  rcases hc with rfl | rfl | rfl | rfl | rfl
  · exact h0
  · exact h1
  · exact h2
  · exact h3
  · exact h4
theorem zero_u64 (w : World) : (zeroValue 72).run Tryd.prog w = .ok (.int .u64 0) w := by kernel_rfl
theorem NumIs.made (w : World) (a b c d e : Nat) : NumIs (w.alloc (.cells #[.int .u64 (a : Int), .int .u64 (b : Int), .int .u64 (c : Int), .int .u64 (d : Int), .int .u64 (e : Int)] 74)) w.heap.size w.heap.size [a, b, c, d, e] :=
  ⟨rfl, rfl, .inr ⟨w.heap.size, 5, _, rfl, Nat.le_refl _, heap_alloc_new w _, Nat.le_refl _, by unfold maxLen; omega, rfl, rfl⟩⟩
theorem numPut {lo e g n c : Nat} (vs : List Value) : ∀ (o : Nat) (w : World) (xs : List Value), o + vs.length = n → xs.length = n → w.ownsRow lo e 1 (.slice (some ⟨g, 0, none⟩) n c) n xs →
    (w.setCells g o vs).ownsRow lo e 1 (.slice (some ⟨g, 0, none⟩) n c) n (xs.take o ++ vs) ∧ w.grownBy (w.setCells g o vs) (some g) := by
  induction vs with
  | nil =>
    intro o w xs h1 h2 h
    rw [List.append_nil, List.take_of_length_le (by simp at h1; omega)]
    exact ⟨h, World.grownBy.refl _ _⟩
  | cons v r ih =>
    intro o w xs h1 h2 h
    have k1 := h.stored o v
    have k2 := ih (o + 1) _ _ (by simp at h1; omega) (by simpa using h2) k1.1
    have e : (xs.set o v).take (o + 1) = xs.take o ++ [v] := by
      rw [List.take_succ_eq_append_getElem (by simp at h1 ⊢; omega), List.take_set_of_le (Nat.le_refl _)]
      simp
    rw [e, List.append_assoc] at k2
    exact ⟨k2.1, grown_trans k1.2 k2.2⟩
theorem NumIs.put {w : World} {lo g : Nat} {S S' : List Nat} (h : NumIs w lo g S) (h' : S'.length = 5) : NumIs (w.setCells g 0 (u64L S')) lo g S' ∧ w.grownBy (w.setCells g 0 (u64L S')) (some g) := by
  have k := numPut (u64L S') 0 w (u64L S) (by rw [u64L_length]; omega) (by rw [u64L_length, h.1]) h.2
  exact ⟨⟨h', by simpa using k.1⟩, k.2⟩
def zero5 : List Nat := [0, 0, 0, 0, 0]
theorem zero5_less : lessP 1 zero5 := by
  refine ⟨rfl, fun i => ?_⟩
  match i with
  | 0 => decide
  | 1 => decide
  | 2 => decide
  | 3 => decide
  | 4 => decide
  | n + 5 => exact Nat.zero_lt_one
theorem val5_zero : val5 zero5 = 0 := by decide
theorem tag_grown {a w : World} {r : Option Nat} (h : Below a.heap.size a w) : a.grownBy w r := ⟨h.os, h.tape, h.output, h.size, fun k hk _ => h.block k hk⟩
set_option maxHeartbeats 4000000 in
theorem times_any (lo g lo' g' : Nat) (S R : List Nat) (w : World) (hS : lessP 67108864 S) (hR : lessP 67108864 R) (h : NumIs w lo g S) (h' : NumIs w lo' g' R) (hne : g' ≠ g) :
    Calls Tryd.prog 63 #[.pointer (some ⟨g, 0, none⟩), .pointer (some ⟨g', 0, none⟩)] w fun e w' => e = .returned (.tuple #[]) ∧ (∃ T, NumIs w' lo g T ∧ lessP 1152921504606846976 T ∧ alike (val5 T) (val5 S * val5 R)) ∧ w.grownBy w' (some g) := by
  have c0 := h.cell 0 (by decide)
  have c1 := h.cell 1 (by decide)
  have c2 := h.cell 2 (by decide)
  have c3 := h.cell 3 (by decide)
  have c4 := h.cell 4 (by decide)
  have HI : Hid (∀ k : Nat, k < 5 → ∀ w : World, (Instr.index 74 (.agg (u64L S).toArray) (.int .i64 (k : Int))).run Tryd.prog w = .ok (.int .u64 ((S.getD k 0 : Nat) : Int)) w) := index5 S hS.1
  obtain ⟨a0, a1, a2, a3, a4, hSe⟩ := five_of hS.1
  have hag : (u64L S).toArray = #[.int .u64 (a0 : Int), .int .u64 (a1 : Int), .int .u64 (a2 : Int), .int .u64 (a3 : Int), .int .u64 (a4 : Int)] := by rw [hSe]; rfl
  rw [hag] at HI
  have f0 : S.getD 0 0 = a0 := by rw [hSe]; rfl
  have f1 : S.getD 1 0 = a1 := by rw [hSe]; rfl
  have f2 : S.getD 2 0 = a2 := by rw [hSe]; rfl
  have f3 : S.getD 3 0 = a3 := by rw [hSe]; rfl
  have f4 : S.getD 4 0 = a4 := by rw [hSe]; rfl
  rw [f0] at c0
  rw [f1] at c1
  rw [f2] at c2
  rw [f3] at c3
  rw [f4] at c4
  obtain ⟨wa, hwa⟩ : ∃ wa, wa = w.alloc (.cells #[.int .u64 (a0 : Int), .int .u64 (a1 : Int), .int .u64 (a2 : Int), .int .u64 (a3 : Int), .int .u64 (a4 : Int)] 74) := ⟨_, rfl⟩
  have bb : Below w.heap.size w wa := by rw [hwa]; exact (Below.refl _ _).alloc (Nat.le_refl _) _
  have nc : NumIs wa w.heap.size w.heap.size S := by rw [hwa, hSe]; exact NumIs.made w a0 a1 a2 a3 a4
  have hga : w.grownBy wa (some g) := tag_grown bb
  have hlg := h.lt.2
  have na := h.below bb
  have nr := h'.below bb
  have hcl : ∀ ty, (Builtin.clear_ #[94] ty #[.slice (some ⟨g, 0, none⟩) 5 5]).run Tryd.prog wa = .ok (.tuple #[]) (wa.setCells g 0 (u64L zero5)) :=
    fun ty => Lib.run_clear_slice wa 94 72 ty (.int .u64 0) Tryd.underlying94 zero_u64 rfl rfl g 0 5 5 (by decide) (fun j hj => by rw [Nat.zero_add, na.cell j hj]; rfl) (fun j hj => by rw [Nat.zero_add]; exact na.frozen j)
  have pz := na.put (S' := zero5) rfl
  obtain ⟨wb, hwb⟩ : ∃ wb, wb = wa.setCells g 0 (u64L zero5) := ⟨_, rfl⟩
  rw [← hwb] at pz hcl
  have nc2 := nc.kept pz.2 (by omega)
  have nr2 := nr.kept pz.2 hne
  have hgb := grown_trans hga pz.2
  have nz := pz.1
  have d0 := nc2.cell 0 (by decide)
  have d1 := nc2.cell 1 (by decide)
  have d2 := nc2.cell 2 (by decide)
  have d3 := nc2.cell 3 (by decide)
  have d4 := nc2.cell 4 (by decide)
  rw [f0] at d0
  rw [f1] at d1
  rw [f2] at d2
  rw [f3] at d3
  rw [f4] at d4
  have HSl : Hid (∀ i, S.getD i 0 < 67108864) := hS.2
  have HRl : Hid (∀ i, R.getD i 0 < 67108864) := hR.2
  clear f0 f1 f2 f3 f4 hSe hag bb nc na nr hga h h' hwb pz nc2
  go_enter Tryd.func63, Tryd.ntmps63
  go_wp2_with (fail)
  rw [← hwa]
  simp only [hcl]
  clear hcl hwa c0 c1 c2 c3 c4
  go_wp2_with (fail)
  clear d0 d1 d2 d3 d4
  go_loopw [16] (fun v wr => ∃ (i : Nat) (T : List Nat), i ≤ 5 ∧ v = .int .i64 i ∧ NumIs wr lo g T ∧ lessP (5 * i * 22517998136852480 + 1) T ∧ Hid (alike (val5 T) (valP S i * val5 R)) ∧ NumIs wr lo' g' R ∧ w.grownBy wr (some g))
    (fun v _ => 5 - (intOf v).toNat)
  case atStart => exact ⟨0, zero5, by omega, rfl, nz, by simpa using zero5_less, by rw [val5_zero, valP, Nat.zero_mul]; rfl, nr2, hgb⟩
  case round =>
    clear nz nr2 hgb
    obtain ⟨i, T, hi, rfl, hn, hT, hal, hr, hg⟩ := hrel
    by_cases hlt : i < 5
    · have hlt' : (i : Int) < 5 := by omega
      have ix := HI.out i hlt
      have hx := HSl.out i
      have hw1 : Hid (valP S (i + 1) = valP S i + S.getD i 0 * 67108864 ^ i) := rfl
      generalize S.getD i 0 = x at ix hx hw1
      go_wp2_with (fail)
      clear ix
      go_loopw [21] (fun v wr => ∃ (j : Nat) (T : List Nat), j ≤ 5 ∧ v = .int .i64 j ∧ NumIs wr lo g T ∧ lessP ((5 * i + j) * 22517998136852480 + 1) T ∧ Hid (alike (val5 T) (valP S i * val5 R + x * 67108864 ^ i * valP R j)) ∧ NumIs wr lo' g' R ∧ w.grownBy wr (some g))
        (fun v _ => 5 - (intOf v).toNat)
      case atStart => exact ⟨0, T, by omega, rfl, hn, hT, by rw [valP, Nat.mul_zero, Nat.add_zero]; exact hal, hr, hg⟩
      case round =>
        clear hn hT hal hr hg
        obtain ⟨j, T, hj, rfl, hn, hT, hal, hr, hg⟩ := hrel
        by_cases hltj : j < 5
        · have hltj' : (j : Int) < 5 := by omega
          have ey := hr.cell j hltj
          have hy := HRl.out j
          have hw2 : Hid (valP R (j + 1) = valP R j + R.getD j 0 * 67108864 ^ j) := rfl
          generalize R.getD j 0 = y at ey hy hw2
          have hxy := part_prod hx hy
          obtain ⟨s, hs⟩ : ∃ s, s = i + j := ⟨_, rfl⟩
          have es : (i : Int) + (j : Int) = (s : Int) := by omega
          go_wp2_with (fail)
          go_quiet (fail)
          obtain ⟨w5, hw5⟩ : ∃ w5, w5 = wr.drewN nq := ⟨_, rfl⟩
          rw [← hw5]
          have b5 : Below wr.heap.size wr w5 := by rw [hw5]; exact below_drewN (Below.refl _ _) _
          clear hw5 ey
          replace hn := hn.below b5
          replace hr := hr.below b5
          replace hg := grown_trans hg (tag_grown (r := some g) b5)
          clear b5
          by_cases hs5 : s < 5
          · have hs5' : (s : Int) < 5 := by omega
            obtain ⟨m, hm⟩ : ∃ m, m = x * y := ⟨_, rfl⟩
            have em : (x : Int) * (y : Int) = (m : Int) := by rw [hm]; simp
            have hml : m ≤ 4503599627370496 := by rw [hm]; exact hxy
            have et := hn.cell s hs5
            have hfr := hn.frozen s
            have ht := hT.2 s
            have st := hn.set s (T.getD s 0 + m)
            have HA : Hid (alike (val5 (T.set s (T.getD s 0 + m))) (valP S i * val5 R + x * 67108864 ^ i * valP R (j + 1))) := by
              rw [hs, hm, times_low T hT.1 i j x y (by omega), hw2.out, Nat.mul_add, ← Nat.add_assoc]
              exact (Hid.out hal).add (alike.refl _)
            have hT' : lessP ((5 * i + (j + 1)) * 22517998136852480 + 1) (T.set s (T.getD s 0 + m)) := lessP_set hT _ _ (by omega) (by omega)
            obtain ⟨u, hu⟩ : ∃ u, u = T.getD s 0 + m := ⟨_, rfl⟩
            rw [← hu] at st HA hT'
            generalize T.getD s 0 = t at et ht hu
            have eu : (t : Int) + (m : Int) = (u : Int) := by omega
            have u1 : (u : Int) < 18446744073709551616 := by omega
            have u2 : (m : Int) < 18446744073709551616 := by omega
            have hg' := grown_trans hg st.2
            have hn' := st.1
            have hr' := hr.kept st.2 hne
            generalize T.set s u = T' at HA hT' hn'
            clear st hn hT hal hr hg hu hw2 hs hxy hm
            go_wp2_with (fail)
            go_region
            all_goals
              go_wp2
              go_roundw
              case rel => exact ⟨j + 1, T', by omega, by go_num, hn', hT', HA, hr', ⟨hg'.os, hg'.tape, hg'.output, hg'.size, hg'.block⟩⟩
              case measure => simp [intOf]; omega
          · obtain ⟨s', hs'⟩ : ∃ s', s' = s - 5 := ⟨_, rfl⟩
            have hs5' : ¬ (s : Int) < 5 := by omega
            have es' : (s : Int) - 5 = (s' : Int) := by omega
            have hss : s' < 5 := by omega
            have hss' : (s' : Int) < 5 := by omega
            obtain ⟨x5, hx5⟩ : ∃ x5, x5 = 5 * x := ⟨_, rfl⟩
            have ex5 : (5 : Int) * (x : Int) = (x5 : Int) := by omega
            have x5l : (x5 : Int) < 18446744073709551616 := by omega
            obtain ⟨m5, hm5⟩ : ∃ m5, m5 = 5 * x * y := ⟨_, rfl⟩
            have em5 : (x5 : Int) * (y : Int) = (m5 : Int) := by rw [hm5, hx5]; simp
            have hm5l : m5 ≤ 22517998136852480 := by rw [hm5, Nat.mul_assoc]; omega
            have et := hn.cell s' hss
            have hfr := hn.frozen s'
            have ht := hT.2 s'
            have st := hn.set s' (T.getD s' 0 + m5)
            have HA : Hid (alike (val5 (T.set s' (T.getD s' 0 + m5))) (valP S i * val5 R + x * 67108864 ^ i * valP R (j + 1))) := by
              rw [hs', hs, hm5, hw2.out, Nat.mul_add, ← Nat.add_assoc]
              exact (times_high T hT.1 i j x y (by omega) hlt hltj).trans ((Hid.out hal).add (alike.refl _))
            have hT' : lessP ((5 * i + (j + 1)) * 22517998136852480 + 1) (T.set s' (T.getD s' 0 + m5)) := lessP_set hT _ _ (by omega) (by omega)
            obtain ⟨u, hu⟩ : ∃ u, u = T.getD s' 0 + m5 := ⟨_, rfl⟩
            rw [← hu] at st HA hT'
            generalize T.getD s' 0 = t at et ht hu
            have eu : (t : Int) + (m5 : Int) = (u : Int) := by omega
            have u1 : (u : Int) < 18446744073709551616 := by omega
            have u2 : (m5 : Int) < 18446744073709551616 := by omega
            have hg' := grown_trans hg st.2
            have hn' := st.1
            have hr' := hr.kept st.2 hne
            generalize T.set s' u = T' at HA hT' hn'
            clear st hn hT hal hr hg hu hw2 hs hxy hs' hx5 hm5
            go_wp2_with (fail)
            go_region
            all_goals
              go_wp2
              go_roundw
              case rel => exact ⟨j + 1, T', by omega, by go_num, hn', hT', HA, hr', ⟨hg'.os, hg'.tape, hg'.output, hg'.size, hg'.block⟩⟩
              case measure => simp [intOf]; omega
        · obtain rfl : j = 5 := by omega
          go_wp2
          go_roundw
          case rel => exact ⟨i + 1, T, by omega, by go_num, hn, hT, by rw [hw1.out, Nat.add_mul]; exact hal, hr, hg⟩
          case measure => simp [intOf]; omega
    · obtain rfl : i = 5 := by omega
      go_wp2
      go_end0
      exact ⟨rfl, ⟨T, hn, hT.mono (by decide), hal⟩, hg⟩
theorem u64L_one (l : List Nat) : ∀ v ∈ u64L l, v.oneCell' = true := by
  intro v hv
  simp only [u64L, List.mem_map] at hv
  obtain ⟨n, _, rfl⟩ := hv
  rfl
theorem infoNum : (Tryd.prog.info? 74).map (fun i => (i.zero, i.size)) = some (some (.agg (u64L zero5).toArray), 5) := by kernel_rfl
theorem NumIs.range {w : World} {lo g : Nat} {S : List Nat} (h : NumIs w lo g S) : w.rangeAt g 0 (u64L S) := by
  intro j v hv
  have hj : j < 5 := by have := (List.getElem?_eq_some_iff.1 hv).1; rw [u64L_length, h.1] at this; exact this
  rw [Nat.zero_add, h.2.cellAt j (by omega), hv]
theorem NumIs.there {w : World} {lo g : Nat} {S : List Nat} (h : NumIs w lo g S) : w.there g 0 5 := by
  intro j hj
  rw [Nat.zero_add, h.cell j hj]
  exact ⟨rfl, h.frozen j⟩
set_option maxHeartbeats 4000000 in
theorem takeRest_any (lo g : Nat) (S : List Nat) (w : World) (hS : lessP 67108864 S) (h : NumIs w lo g S) :
    Calls Tryd.prog 64 #[.pointer (some ⟨g, 0, none⟩)] w fun e w' => e = .returned (.tuple #[]) ∧ (∃ T, NumIs w' lo g T ∧ lessP 67108864 T ∧ val5 T = val5 S % tagP) ∧ w.grownBy w' (some g) := by
  have c0 := h.cell 0 (by decide)
  have c1 := h.cell 1 (by decide)
  have c2 := h.cell 2 (by decide)
  have c3 := h.cell 3 (by decide)
  have c4 := h.cell 4 (by decide)
  have hVl := val5_lt hS
  have hs0 := hS.2 0
  obtain ⟨a0, a1, a2, a3, a4, hSe⟩ := five_of hS.1
  have f0 : S.getD 0 0 = a0 := by rw [hSe]; rfl
  have f1 : S.getD 1 0 = a1 := by rw [hSe]; rfl
  have f2 : S.getD 2 0 = a2 := by rw [hSe]; rfl
  have f3 : S.getD 3 0 = a3 := by rw [hSe]; rfl
  have f4 : S.getD 4 0 = a4 := by rw [hSe]; rfl
  obtain ⟨u, hu⟩ : ∃ u, u = a0 + 5 := ⟨_, rfl⟩
  have HV : val5 [u, a1, a2, a3, a4] = val5 S + 5 := by
    have k := val5_set (S := S) (k := 0) 5 hS.1 (by decide)
    rw [f0, ← hu, Nat.pow_zero, Nat.mul_one, hSe] at k
    rw [hSe]
    exact k
  have hL : lessP 9223372036854775808 [u, a1, a2, a3, a4] := by
    have k := lessP_set (M' := 9223372036854775808) hS 0 u (by decide) (by omega)
    rw [hSe] at k
    exact k
  obtain ⟨wa, hwa⟩ : ∃ wa, wa = w.alloc (.cells #[.int .u64 (u : Int), .int .u64 (a1 : Int), .int .u64 (a2 : Int), .int .u64 (a3 : Int), .int .u64 (a4 : Int)] 74) := ⟨_, rfl⟩
  have bb : Below w.heap.size w wa := by rw [hwa]; exact (Below.refl _ _).alloc (Nat.le_refl _) _
  have nc : NumIs wa w.heap.size w.heap.size [u, a1, a2, a3, a4] := by rw [hwa]; exact NumIs.made w u a1 a2 a3 a4
  have hlg := h.lt.2
  have hlen := hS.1
  rw [f0] at c0 hs0
  rw [f1] at c1
  rw [f2] at c2
  rw [f3] at c3
  rw [f4] at c4
  have eu : (a0 : Int) + 5 = (u : Int) := by omega
  have u1 : (u : Int) < 18446744073709551616 := by omega
  have CC := carry_any _ _ _ _ hL nc
  rw [HV] at CC
  have hov : (val5 S + 5) / 67108864 ^ 5 < 274877906944 := by rw [← HV]; exact ovP_lt hL 5
  have HY : Hid (0 < (val5 S + 5) / 67108864 ^ 5 → (val5 S + 5) % 67108864 ^ 5 = val5 S % tagP) := fun k => rest_yes hVl k
  have HN : Hid (¬ 0 < (val5 S + 5) / 67108864 ^ 5 → val5 S % tagP = val5 S) := fun k => rest_no k
  clear hL HV nc f0 f1 f2 f3 f4 hSe hu
  generalize (val5 S + 5) / 67108864 ^ 5 = R at CC hov HY HN
  have HD := val5_digL (val5 S + 5)
  have HDl := digL_less (val5 S + 5)
  generalize digL (val5 S + 5) = D at CC HD HDl
  have hsz0 := (zero_of_info infoNum).2
  have hszC : (Tryd.prog.info? 74).map (·.size) = some (u64L D).length := by rw [u64L_length, HDl.1]; exact hsz0
  have hszC2 : (Tryd.prog.info? 74).map (·.size) = some (u64L D).toArray.size := by simpa using hszC
  have hone := u64L_one D
  have hsC : (u64L D).toArray.size = 5 := by simp [u64L_length, HDl.1]
  go_enter Tryd.func64, Tryd.ntmps64
  go_wp2_with (fail)
  rw [← hwa]
  refine CC.mono ?_
  rintro e w3 ⟨rfl, n3, g3⟩
  have b3 := bb.grown g3 bb.size (fun k hk => by cases hk; exact Nat.le_refl _)
  have hg3 : w.grownBy w3 (some g) := tag_grown b3
  have h3 := h.below b3
  clear CC hwa bb g3 b3 c0 c1 c2 c3 c4 eu u1
  by_cases hR : 0 < R
  · have hR' : (0 : Int) < (R : Int) := by omega
    have hra := n3.range
    have hth : w3.there g 0 (u64L D).toArray.size := by rw [hsC]; exact h3.there
    have hp := h3.put HDl.1
    have hq := HY.out hR
    rw [hq] at HD
    have hg4 := grown_trans hg3 hp.2
    have n4 := hp.1
    replace HD : Hid (val5 D = val5 S % tagP) := HD
    obtain ⟨Cs, hCs⟩ : ∃ Cs, Cs = u64L D := ⟨_, rfl⟩
    rw [← hCs] at hra hszC hszC2 hth hg4 n4 hone
    clear hp n3 h3 hq HY HN h hCs hsC
    go_wp2_with (first | (refine wpList_load_mid rfl 74 _ rfl w.heap.size 0 rfl Cs _ hra Tryd.underlying74 rfl hszC ?_) | (refine wpList_store_mid rfl 74 _ _ rfl g 0 Cs.toArray rfl rfl hth hszC2 (all_oneCell_toArray hone) ?_))
    go_end0
    exact ⟨rfl, ⟨D, n4, HDl, HD⟩, hg4⟩
  · obtain rfl : R = 0 := by omega
    have hq := HN.out (by omega)
    clear HY HN n3
    go_wp2
    go_end0
    exact ⟨rfl, ⟨S, h3, hS, hq.symm⟩, hg3⟩
theorem shr_letter (x t : Nat) (s : Nat) (h : x / 2 ^ s = t) : (x : Int) / 2 ^ s = (t : Int) := by
  rw [← h]
  simp
theorem u64_or (a b : Nat) (h1 : a < 18446744073709551616) (h2 : b < 18446744073709551616) : bits .or .u64 (a : Int) (b : Int) = ((a ||| b : Nat) : Int) := by
  have hlt : (a ||| b) < 2 ^ 64 := Nat.or_lt_two_pow h1 h2
  have e : bits .or .u64 (a : Int) (b : Int) = IntKind.u64.wrap ((BitVec.ofInt 64 (a : Int) ||| BitVec.ofInt 64 (b : Int)).toNat : Int) := rfl
  have e1 : (BitVec.ofInt 64 (a : Int)).toNat = a := by rw [BitVec.toNat_ofInt]; omega
  have e2 : (BitVec.ofInt 64 (b : Int)).toNat = b := by rw [BitVec.toNat_ofInt]; omega
  rw [e, BitVec.toNat_or, e1, e2, IntKind.wrap_u64]
  omega
theorem byte_two (V p : Nat) : ((digP V (8 * p / 26) / 2 ^ (8 * p % 26)) ||| (digP V (8 * p / 26 + 1) * 2 ^ (26 - 8 * p % 26))) % 256 = V / 256 ^ p % 256 := by
  have h := byte_parts (V / 67108864 ^ (8 * p / 26)) (8 * p % 26) _ _ rfl rfl (by omega)
  rw [byte_at] at h
  rw [← h, digP, digP, Nat.pow_succ, ← Nat.div_div_eq_div_mul]
theorem byte_one (V p : Nat) (h : 8 * p % 26 ≤ 18) : digP V (8 * p / 26) / 2 ^ (8 * p % 26) % 256 = V / 256 ^ p % 256 := by
  rw [digP, byte_last _ _ _ rfl h, byte_at]
set_option maxHeartbeats 2400000 in
theorem byteAt_same (lo g V p : Nat) (w : World) (hp : p < 16) (h : NumIs w lo g (digL V)) :
    Calls Tryd.prog 80 #[.pointer (some ⟨g, 0, none⟩), .int .i64 (p : Int)] w fun e w' => e = .returned (.int .u8 ((V / 256 ^ p % 256 : Nat) : Int)) ∧ w' = w := by
  have hi5 : 8 * p / 26 < 5 := by omega
  have e1 := h.cell _ hi5
  rw [digL_get _ _ hi5] at e1
  have l1 := digP_lt V (8 * p / 26)
  have H2 := byte_two V p
  have H1 := byte_one V p
  have c2 : 8 * p / 26 + 1 < 5 → w.cell? ⟨g, 8 * p / 26 + 1, none⟩ = some (.int .u64 ((digP V (8 * p / 26 + 1) : Nat) : Int)) := fun k => by rw [h.cell _ k, digL_get _ _ k]
  have l2 := digP_lt V (8 * p / 26 + 1)
  generalize V / 256 ^ p % 256 = r at H1 H2 ⊢
  obtain ⟨q, hq⟩ : ∃ q, q = 8 * p := ⟨_, rfl⟩
  rw [← hq] at hi5 e1 l1 H2 H1 c2 l2
  obtain ⟨i, hi⟩ : ∃ i, q / 26 = i := ⟨_, rfl⟩
  obtain ⟨s, hs⟩ : ∃ s, q % 26 = s := ⟨_, rfl⟩
  have ti := tdiv_letter hi
  have ts := tmod_letter hs
  have hs26 : s < 26 := by omega
  have hsp : i = 4 → s ≤ 18 := by omega
  rw [hi] at hi5 e1 l1 H2 H1 c2 l2
  rw [hs] at H2 H1
  have eq8 : (8 : Int) * (p : Int) = (q : Int) := by omega
  generalize digP V i = d at e1 l1 H1 H2
  generalize digP V (i + 1) = d' at c2 l2 H2
  obtain ⟨x, hx⟩ : ∃ x, d / 2 ^ s = x := ⟨_, rfl⟩
  have ex := shr_letter d x s hx
  have lx : x ≤ d := by rw [← hx]; exact Nat.div_le_self _ _
  rw [hx] at H1 H2
  obtain ⟨t, ht⟩ : ∃ t, 26 - s = t := ⟨_, rfl⟩
  have et : (26 : Int) - (s : Int) = (t : Int) := by omega
  rw [ht] at H2
  obtain ⟨i1, hi1⟩ : ∃ i1, i1 = i + 1 := ⟨_, rfl⟩
  have ei1 : (i : Int) + 1 = (i1 : Int) := by omega
  rw [← hi1] at c2
  have i5' : (i : Int) < 5 := by omega
  have i0' : (0 : Int) ≤ (i : Int) := by omega
  have ht26 : t ≤ 26 := by omega
  have y2 : (d' : Int) * 2 ^ t = ((d' * 2 ^ t : Nat) : Int) := by simp
  have ly2 : d' * 2 ^ t ≤ 67108864 * 67108864 := Nat.mul_le_mul (Nat.le_of_lt l2) (Nat.pow_le_pow_right (n := 2) (by decide) ht26)
  generalize d' * 2 ^ t = y at H2 y2 ly2
  have eo := u64_or x y (by omega) (by omega)
  generalize (x ||| y) = z at H2 eo
  have hq8 : q < 128 := by omega
  clear h hx hi hs hq ht
  by_cases hlast : i1 < 5
  · have hl' : (i1 : Int) < 5 := by omega
    have e2 := c2 (by omega)
    have wz : IntKind.u8.wrap (z : Int) = (r : Int) := by rw [IntKind.wrap_u8]; omega
    have mz : (z : Int) % 256 = (r : Int) := by omega
    have my : (y : Int) % 18446744073709551616 = (y : Int) := by omega
    have uy : (y : Int) < 18446744073709551616 := by omega
    clear H1 H2 c2 hsp hi1
    go_enter Tryd.func80, Tryd.ntmps80
    go_wp2
    go_ret
    exact ⟨rfl, rfl⟩
  · have hl' : ¬ (i1 : Int) < 5 := by omega
    have hr := H1 (hsp (by omega))
    have wz : IntKind.u8.wrap (x : Int) = (r : Int) := by rw [IntKind.wrap_u8]; omega
    have mz : (x : Int) % 256 = (r : Int) := by omega
    clear H1 H2 c2 hsp hi1 hr
    go_enter Tryd.func80, Tryd.ntmps80
    go_wp2
    go_ret
    exact ⟨rfl, rfl⟩
end Go.Proofs.YthjapmdikbmmkaaDoor
