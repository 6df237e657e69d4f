/-
  A tag's contract as a word; what a tag is by a key whose first half is nought, and of no text.
-/
import Derived.Test.YthgnekdhldjjmabSpecTag
import Derived.Test.YthgnekdhldjjmabConcat
namespace Go.Proofs.Ythgnekdhldjjmab
open Go.RowKit

/-- The function f answers the tag, whatever bytes it is given. -/
def TagIs (f : Nat) : Prop := ∀ (p q : Option Addr) (n m c d : Nat) (ks bs : List Int) (w : World), ks.length = n → bs.length = m → BytesIn w p n ks → BytesIn w q m bs → (∀ x ∈ ks, 0 ≤ x ∧ x < 256) → (∀ x ∈ bs, 0 ≤ x ∧ x < 256) → n ≤ c → m ≤ d →
    Calls Try.prog f #[.slice p n c, .slice q m d] w fun e w' => ∃ p' c', e = .returned (.slice p' (tagN n m) c') ∧ Own 5 w' w.heap.size w'.heap.size (.slice p' (tagN n m) c') (tagN n m) (tagL ks bs) ∧ Below w.heap.size w w'
theorem tagL_byte (ks bs : List Int) : ∀ y ∈ tagL ks bs, 0 ≤ y ∧ y < 256 := by
  intro y hy
  unfold tagL at hy
  split at hy
  · simp only [tagB, List.mem_map] at hy
    obtain ⟨i, _, rfl⟩ := hy
    omega
  · cases hy
theorem half_digits {ks : List Int} (hb : ∀ x ∈ ks, 0 ≤ x ∧ x < 256) (hl : ks.length = 32) {T : Nat} (hT : T = valN (numD (ks.drop 16) 16 0) 17) : ((List.range 16).map fun i => ((T / 256 ^ i % 256 : Nat) : Int)) = ks.drop 16 := by
  have hd : (ks.drop 16).length = 16 := by simp [hl]
  apply List.ext_getElem (by simp [hl])
  intro i h1 h2
  have hi : i < 16 := by simpa using h1
  rw [List.getElem_map, List.getElem_range, hT, digit_of (fun j _ => numD_lt (bytes_drop hb 16) (by decide) j) (show i < 17 by omega), numD, if_pos hi]
  have := byN_cast (bytes_drop hb 16) i
  rw [← this, List.getD_eq_getElem?_getD, List.getElem?_eq_getElem h2]
  rfl
theorem tag_none {ks : List Int} (hb : ∀ x ∈ ks, 0 ≤ x ∧ x < 256) (hl : ks.length = 32) : tagL ks [] = ks.drop 16 := by
  unfold tagL
  rw [if_pos ⟨hl, by simp⟩]
  exact half_digits hb hl (by unfold tagT; simp [tagK, polyN])
theorem poly_zero (bs : List Int) (m : Nat) {r : Nat → Nat} (hr : valN r 17 = 0) : ∀ k, polyN bs m r k = 0
  | 0 => rfl
  | k + 1 => by rw [polyN, hr, Nat.mul_zero]; rfl
theorem tag_zero {ks bs : List Int} (hb : ∀ x ∈ ks, 0 ≤ x ∧ x < 256) (hl : ks.length = 32) (hm : bs.length ≤ 4000) : tagL (List.replicate 16 0 ++ ks.drop 16) bs = ks.drop 16 := by
  have hd : (ks.drop 16).length = 16 := by simp [hl]
  have hl2 : (List.replicate 16 (0 : Int) ++ ks.drop 16).length = 32 := by simp [hl]
  have hb2 : ∀ x ∈ List.replicate 16 (0 : Int) ++ ks.drop 16, 0 ≤ x ∧ x < 256 := by
    intro x hx
    rcases List.mem_append.1 hx with h | h
    · rw [(List.mem_replicate.1 h).2]; decide
    · exact bytes_drop hb 16 x h
  have e : (List.replicate 16 (0 : Int) ++ ks.drop 16).drop 16 = ks.drop 16 := by
    rw [List.drop_append_of_le_length (by simp)]
    simp
  unfold tagL
  rw [if_pos ⟨hl2, hm⟩]
  have hr : valN (keyD (List.replicate 16 0 ++ ks.drop 16)) 17 = 0 := by
    have hz : ∀ i, i < 16 → byN (List.replicate 16 0 ++ ks.drop 16) i = 0 := fun i hi => by
      unfold byN
      rw [List.getD_eq_getElem?_getD, List.getElem?_append_left (by simpa using hi), List.getElem?_replicate, if_pos hi]
      rfl
    rw [valN_congr (g := fun _ => 0) (fun i hi => ?_), valN_zero]
    unfold keyD
    by_cases h6 : 16 ≤ i
    · rw [if_pos h6]
    · rw [if_neg h6, hz i (by omega)]
      split
      · rfl
      · split <;> rfl
  have := half_digits hb2 hl2 (T := tagT (List.replicate 16 0 ++ ks.drop 16) bs bs.length) (by unfold tagT; rw [poly_zero _ _ hr, Nat.zero_add])
  rw [e] at this
  exact this

end Go.Proofs.Ythgnekdhldjjmab
