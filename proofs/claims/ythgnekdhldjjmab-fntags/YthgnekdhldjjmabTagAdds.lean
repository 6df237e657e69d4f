/-
  Two tags of one text by keys that differ in their second half alone: what each makes with the other's second half is the same, digit for digit.
-/
import Derived.Test.YthgnekdhldjjmabTagFacts
namespace Go.Proofs.Ythgnekdhldjjmab

theorem keyD_congr {ks ls : List Int} (h : ∀ i, i < 16 → byN ks i = byN ls i) (i : Nat) : keyD ks i = keyD ls i := by
  unfold keyD
  by_cases h6 : 16 ≤ i
  · rw [if_pos h6, if_pos h6]
  · rw [h i (by omega)]
theorem poly_congr (bs : List Int) (m : Nat) {r s : Nat → Nat} (h : ∀ i, r i = s i) (k : Nat) : polyN bs m r k = polyN bs m s k := by
  rw [funext h]
/-- The digit i of tag and half together. -/
def bothD (ts hs : List Int) (i : Nat) : Nat := byN ts i + byN hs (16 + i)
theorem digits_val {T : Nat} : valN (byN ((List.range 16).map fun i => ((T / 256 ^ i % 256 : Nat) : Int))) 16 = T % 256 ^ 16 := by
  have key : ∀ n, n ≤ 16 → valN (byN ((List.range 16).map fun i => ((T / 256 ^ i % 256 : Nat) : Int))) n = T % 256 ^ n := by
    intro n
    induction n with
    | zero => intro _; simp [valN, Nat.mod_one]
    | succ n ih =>
      intro hn
      have e : byN ((List.range 16).map fun i => ((T / 256 ^ i % 256 : Nat) : Int)) n = T / 256 ^ n % 256 := by
        unfold byN
        rw [List.getD_eq_getElem?_getD, List.getElem?_map, List.getElem?_range (by omega)]
        rfl
      rw [valN, ih (by omega), e, Nat.pow_succ, Nat.mod_mul, Nat.mul_comm (T / 256 ^ n % 256)]
  exact key 16 (by omega)
theorem half_val (ks : List Int) : valN (fun i => byN ks (16 + i)) 16 = valN (numD (ks.drop 16) 16 0) 17 := by
  have e : valN (numD (ks.drop 16) 16 0) 17 = valN (numD (ks.drop 16) 16 0) 16 := by
    have h0 : numD (ks.drop 16) 16 0 16 = 0 := by rw [numD, if_neg (by omega), if_pos rfl]
    rw [show valN (numD (ks.drop 16) 16 0) 17 = valN (numD (ks.drop 16) 16 0) 16 + numD (ks.drop 16) 16 0 16 * 256 ^ 16 from rfl, h0, Nat.zero_mul, Nat.add_zero]
  rw [e]
  refine valN_congr fun i hi => ?_
  rw [numD, if_pos hi]
  unfold byN
  simp [List.getD]
theorem both_same {ks ls bs : List Int} (hk : ks.length = 32) (hl : ls.length = 32) (hm : bs.length ≤ 4000) (h : ∀ i, i < 16 → byN ks i = byN ls i) (i : Nat) (hi : i < 16) : digN (bothD (tagL ks bs) ls) 0 i = digN (bothD (tagL ls bs) ks) 0 i := by
  have eA : tagL ks bs = tagB ks bs bs.length := if_pos ⟨hk, hm⟩
  have eC : tagL ls bs = tagB ls bs bs.length := if_pos ⟨hl, hm⟩
  have hp : polyN bs bs.length (keyD ks) (tagK bs.length) = polyN bs bs.length (keyD ls) (tagK bs.length) := poly_congr bs _ (keyD_congr h) _
  have v1 : valN (bothD (tagL ks bs) ls) 16 = tagT ks bs bs.length % 256 ^ 16 + valN (numD (ls.drop 16) 16 0) 17 := by
    rw [show bothD (tagL ks bs) ls = fun i => byN (tagL ks bs) i + byN ls (16 + i) from rfl, valN_add, half_val, eA]
    rw [show valN (fun i => byN (tagB ks bs bs.length) i) 16 = tagT ks bs bs.length % 256 ^ 16 from digits_val]
  have v2 : valN (bothD (tagL ls bs) ks) 16 = tagT ls bs bs.length % 256 ^ 16 + valN (numD (ks.drop 16) 16 0) 17 := by
    rw [show bothD (tagL ls bs) ks = fun i => byN (tagL ls bs) i + byN ks (16 + i) from rfl, valN_add, half_val, eC]
    rw [show valN (fun i => byN (tagB ls bs bs.length) i) 16 = tagT ls bs bs.length % 256 ^ 16 from digits_val]
  have c1 := val_carry (bothD (tagL ks bs) ls) 0 16
  have c2 := val_carry (bothD (tagL ls bs) ks) 0 16
  have l1 := valN_lt (f := digN (bothD (tagL ks bs) ls) 0) (n := 16) (fun i _ => digN_lt _ _ _)
  have l2 := valN_lt (f := digN (bothD (tagL ls bs) ks) 0) (n := 16) (fun i _ => digN_lt _ _ _)
  have m1 : valN (digN (bothD (tagL ks bs) ls) 0) 16 = (tagT ks bs bs.length % 256 ^ 16 + valN (numD (ls.drop 16) 16 0) 17) % 256 ^ 16 := by
    rw [← v1, ← Nat.zero_add (valN (bothD (tagL ks bs) ls) 16), ← c1, Nat.add_mul_mod_self_left, Nat.mod_eq_of_lt l1]
  have m2 : valN (digN (bothD (tagL ls bs) ks) 0) 16 = (tagT ls bs bs.length % 256 ^ 16 + valN (numD (ks.drop 16) 16 0) 17) % 256 ^ 16 := by
    rw [← v2, ← Nat.zero_add (valN (bothD (tagL ls bs) ks) 16), ← c2, Nat.add_mul_mod_self_left, Nat.mod_eq_of_lt l2]
  have e : valN (digN (bothD (tagL ks bs) ls) 0) 16 = valN (digN (bothD (tagL ls bs) ks) 0) 16 := by
    rw [m1, m2, Nat.mod_add_mod, Nat.mod_add_mod]
    unfold tagT
    rw [hp, Nat.add_right_comm]
  rw [← digit_of (fun j _ => digN_lt (bothD (tagL ks bs) ls) 0 j) hi, ← digit_of (fun j _ => digN_lt (bothD (tagL ls bs) ks) 0 j) hi, e]
theorem bothD_lt {ts hs : List Int} (h1 : ∀ x ∈ ts, 0 ≤ x ∧ x < 256) (h2 : ∀ x ∈ hs, 0 ≤ x ∧ x < 256) (i : Nat) : bothD ts hs i ≤ 510 := by
  have := byN_lt h1 i
  have := byN_lt h2 (16 + i)
  unfold bothD
  omega

end Go.Proofs.Ythgnekdhldjjmab
