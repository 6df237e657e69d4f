/-
  What the specification's Tag answers at whatever bytes: 16 bytes of the number that the blocks make, with the key's second half; or nothing. Condition: bytes all.
-/
import Derived.Test.YthgnekdhldjjmabSpecTagE
namespace Go.Proofs.Ythgnekdhldjjmab
open Go.RowKit

theorem digit_of {d : Nat → Nat} {n : Nat} (hd : ∀ j, j < n → d j < 256) {i : Nat} (hi : i < n) : valN d n / 256 ^ i % 256 = d i := by
  have e1 := valN_split d i (n - i)
  rw [show i + (n - i) = n by omega] at e1
  have h1 : valN d i < 256 ^ i := valN_lt fun j hj => hd j (by omega)
  have e2 := valN_split (fun j => d (i + j)) 1 (n - i - 1)
  rw [show 1 + (n - i - 1) = n - i by omega] at e2
  have e3 : valN (fun j => d (i + j)) 1 = d i := by simp [valN]
  rw [e1, Nat.add_mul_div_left _ _ (Nat.two_pow_pos 8 |> fun _ => Nat.pow_pos (by decide)), Nat.div_eq_of_lt h1, Nat.zero_add, e2, e3, Nat.pow_one, Nat.add_mul_mod_self_left, Nat.mod_eq_of_lt (hd i hi)]
/-- The number that k blocks make, by p. -/
def polyN (bs : List Int) (m : Nat) (r : Nat → Nat) : Nat → Nat
  | 0 => 0
  | k + 1 => ((polyN bs m r k + valN (chunkD bs m k) 17) * valN r 17) % tagP
def tagT (ks bs : List Int) (m : Nat) : Nat := polyN bs m (keyD ks) (tagK m) + valN (numD (ks.drop 16) 16 0) 17
def tagB (ks bs : List Int) (m : Nat) : List Int := (List.range 16).map fun i => ((tagT ks bs m / 256 ^ i % 256 : Nat) : Int)
theorem polyN_lt (bs : List Int) (m : Nat) (r : Nat → Nat) : ∀ k, polyN bs m r k < tagP
  | 0 => by show 0 < tagP; decide
  | k + 1 => Nat.mod_lt _ (by decide)
theorem num_val {xs : List Int} (hb : ∀ x ∈ xs, 0 ≤ x ∧ x < 256) {n last : Nat} (hn : n ≤ 16) (hl : last ≤ 1) : valN (numD xs n last) 17 < 2 * 256 ^ 16 := by
  have h1 : valN (numD xs n last) 16 < 256 ^ 16 := valN_lt fun i _ => numD_lt hb (by omega) i
  have h2 : numD xs n last 16 ≤ 1 := by
    unfold numD
    rw [if_neg (by omega)]
    split <;> omega
  have h3 : numD xs n last 16 * 256 ^ 16 ≤ 1 * 256 ^ 16 := Nat.mul_le_mul_right _ h2
  show valN (numD xs n last) 16 + numD xs n last 16 * 256 ^ 16 < _
  omega
theorem hD_val {bs : List Int} (hb : ∀ x ∈ bs, 0 ≤ x ∧ x < 256) (m : Nat) {r : Nat → Nat} (hr : ∀ i, r i < 256) : ∀ k, alike (valN (hD bs m r k) 17) (polyN bs m r k)
  | 0 => by
    have : valN (hD bs m r 0) 17 = 0 := valN_zero 17
    rw [this]
    rfl
  | k + 1 => by
    have ih := hD_val hb m hr k
    have ho := (hD_ok bs m hr k).2.2
    have hc : valN (chunkD bs m k) 17 < 2 * 256 ^ 16 := num_val (bytes_drop hb _) (Nat.min_le_left _ _) (Nat.le_refl _)
    have hs : valN (hD bs m r k) 17 + valN (chunkD bs m k) 17 < 256 ^ 17 := by
      have e : (256 : Nat) ^ 17 = 256 * 256 ^ 16 := by decide
      have e2 : (1073741824 : Nat) < 256 ^ 16 := by decide
      omega
    exact (val_step hs).trans (((ih.add (alike.refl _)).mul (alike.refl _)).trans (alike_mod _).symm)
theorem tagD_val {ks bs : List Int} (hb1 : ∀ x ∈ ks, 0 ≤ x ∧ x < 256) (hb2 : ∀ x ∈ bs, 0 ≤ x ∧ x < 256) (m : Nat) : valN (tagD ks bs m) 17 = tagT ks bs m := by
  have hl := val_last (hD_ok bs m (keyD_lt hb1) (tagK m))
  have ha : valN (hD bs m (keyD ks) (tagK m)) 17 % tagP = polyN bs m (keyD ks) (tagK m) % tagP := hD_val hb2 m (keyD_lt hb1) (tagK m)
  rw [ha, Nat.mod_eq_of_lt (polyN_lt _ _ _ _)] at hl
  have hp := polyN_lt bs m (keyD ks) (tagK m)
  have hn : valN (numD (ks.drop 16) 16 0) 17 < 2 * 256 ^ 16 := num_val (bytes_drop hb1 _) (Nat.le_refl _) (by decide)
  have hs : valN (lastD (hD bs m (keyD ks) (tagK m))) 17 + valN (numD (ks.drop 16) 16 0) 17 < 256 ^ 17 := by
    have e : (256 : Nat) ^ 17 = 256 * 256 ^ 16 := by decide
    have e2 : tagP < 4 * 256 ^ 16 := by decide
    omega
  rw [tagD, val_sum hs, hl, tagT]
theorem tag_bytes {ks bs : List Int} (hb1 : ∀ x ∈ ks, 0 ≤ x ∧ x < 256) (hb2 : ∀ x ∈ bs, 0 ≤ x ∧ x < 256) (m : Nat) : dL (tagD ks bs m) 16 = tagB ks bs m := by
  apply List.map_congr_left
  intro i hi
  have hi' := List.mem_range.1 hi
  rw [← tagD_val hb1 hb2 m, digit_of (d := tagD ks bs m) (fun j _ => digN_lt _ _ _) (show i < 17 by omega)]
def tagOk (n m : Nat) : Prop := n = 32 ∧ m ≤ 4000
instance (n m : Nat) : Decidable (tagOk n m) := inferInstanceAs (Decidable (_ ∧ _))
def tagN (n m : Nat) : Nat := if tagOk n m then 16 else 0
def tagL (ks bs : List Int) : List Int := if tagOk ks.length bs.length then tagB ks bs bs.length else []
theorem tagN_le (n m : Nat) : tagN n m ≤ 16 := by unfold tagN; split <;> omega
theorem tagL_length (ks bs : List Int) : (tagL ks bs).length = tagN ks.length bs.length := by
  unfold tagL tagN
  split
  · simp [tagB]
  · rfl

set_option maxRecDepth 100000 in
set_option maxHeartbeats 2400000 in
theorem specTag_no (p q : Option Addr) (n m c d : Nat) (w : World) (hno : ¬ tagOk n m) :
    Calls Try.prog 9 #[.slice p n c, .slice q m d] w fun e w' => ∃ p' c', e = .returned (.slice p' 0 c') ∧ Own 5 w' w.heap.size w'.heap.size (.slice p' 0 c') 0 [] ∧ Below w.heap.size w w' := by
  have hown0 : (w.alloc (.cells #[] 5)).ownsRow w.heap.size 5 1 (.slice (some ⟨w.heap.size, 0, none⟩) 0 0) 0 (([] : List Int).map (Value.int .u8)) := World.ownsRow_made w #[] 0 (Nat.le_refl _) (by unfold maxLen; omega) rfl
  have hb0 : Below w.heap.size w (w.alloc (.cells #[] 5)) := (Below.refl _ _).alloc (Nat.le_refl _) _
  unfold tagOk at hno
  by_cases t0 : n = 32
  · subst t0
    have h1 : (4000 : Int) < (m : Int) := by omega
    clear hno
    go_enter Try.func9, Try.ntmps9
    go_wp2_with (fail)
    go_ret
    exact ⟨_, _, rfl, .of hown0, hb0⟩
  · have z0 : ((n : Int) != 32) = true := by simp; omega
    clear hno
    go_enter Try.func9, Try.ntmps9
    go_wp2_with (fail)
    go_ret
    exact ⟨_, _, rfl, .of hown0, hb0⟩

theorem specTag_any (p q : Option Addr) (n m c d : Nat) (ks bs : List Int) (w : World) (hx : ks.length = n) (hy : bs.length = m) (h : BytesIn w p n ks) (h' : BytesIn w q m bs) (hb1 : ∀ x ∈ ks, 0 ≤ x ∧ x < 256) (hb2 : ∀ x ∈ bs, 0 ≤ x ∧ x < 256) (hc : n ≤ c) (hd : m ≤ d) :
    Calls Try.prog 9 #[.slice p n c, .slice q m d] w fun e w' => ∃ p' c', e = .returned (.slice p' (tagN n m) c') ∧ Own 5 w' w.heap.size w'.heap.size (.slice p' (tagN n m) c') (tagN n m) (tagL ks bs) ∧ Below w.heap.size w w' := by
  unfold tagN tagL
  rw [hx, hy]
  by_cases hok : tagOk n m
  · rw [if_pos hok, if_pos hok]
    obtain ⟨rfl, hm⟩ := hok
    rw [← tag_bytes hb1 hb2]
    exact specTag_yes p q m c d ks bs w hc hd hm h h' hb1 hb2
  · rw [if_neg hok, if_neg hok]
    exact specTag_no p q n m c d w hok

end Go.Proofs.Ythgnekdhldjjmab
