/-
  What the specification's FieldAdd, FieldSub, FieldMul, FieldInv and FieldOf answer at whatever bytes: 32 bytes of what is left by p, or nothing. Condition: bytes all.
-/
import Derived.Test.YtghoibggmddkmanSpecFBytes
namespace Go.Proofs.Ytghoibggmddkman
open Go.RowKit

/-- The number of 32 bytes, the highest bit left away. -/
def numF (xs : List Int) : Int := valZ (ofZ xs) 16
def two32 (n m : Nat) : Prop := n = 32 ∧ m = 32
instance (n m : Nat) : Decidable (two32 n m) := inferInstanceAs (Decidable (_ ∧ _))
def fldN (n m : Nat) : Nat := if two32 n m then 32 else 0
/-- The bytes of z, where both are of 32 bytes. -/
def fldL (z : Int) (n m : Nat) : List Int := if two32 n m then numB (z % fldP) else []
theorem fldN_le (n m : Nat) : fldN n m ≤ 32 := by unfold fldN; split <;> omega
theorem numB_length (z : Int) : (numB z).length = 32 := rfl
theorem fldL_length (z : Int) (n m : Nat) : (fldL z n m).length = fldN n m := by
  unfold fldL fldN
  split
  · exact numB_length _
  · rfl
theorem numB_byte (z : Int) : ∀ y ∈ numB z, 0 ≤ y ∧ y < 256 := by
  intro y hy
  simp only [numB, List.mem_flatMap, List.mem_cons, List.not_mem_nil, or_false] at hy
  obtain ⟨i, _, h | h⟩ := hy <;> omega
theorem fldL_byte (z : Int) (n m : Nat) : ∀ y ∈ fldL z n m, 0 ≤ y ∧ y < 256 := by
  unfold fldL
  split
  · exact numB_byte _
  · intro y hy; cases hy
theorem okOf {xs : List Int} (hb : ∀ x ∈ xs, 0 ≤ x ∧ x < 256) : okZ (ofZ xs) := fun i => by
  have := ofZ_range hb i
  omega
theorem okZ_wide {f : Nat → Int} (h : okZ f) : (∀ i, -140737488355328 ≤ f i) ∧ ∀ i, f i ≤ 140737488355328 := ⟨fun i => by have := h i; omega, fun i => by have := h i; omega⟩
theorem invE_val : (fldP - 2).toNat = invE 254 := by
  have := invE_last
  omega

set_option maxRecDepth 100000 in
set_option maxHeartbeats 2400000 in
theorem specFieldMul_any (p q : Option Addr) (n m c d : Nat) (ks bs : List Int) (w : World) (h : BytesIn w p n ks) (h' : BytesIn w q m bs) (hb1 : ∀ x ∈ ks, 0 ≤ x ∧ x < 256) (hb2 : ∀ x ∈ bs, 0 ≤ x ∧ x < 256) :
    Calls Try.prog 9 #[.slice p n c, .slice q m d] w fun e w' => ∃ p' c', e = .returned (.slice p' (fldN n m) c') ∧ Own 5 w' w.heap.size w'.heap.size (.slice p' (fldN n m) c') (fldN n m) (fldL (numF ks * numF bs) n m) ∧ Below w.heap.size w w' := by
  unfold fldN fldL
  by_cases hok : two32 n m
  · rw [if_pos hok, if_pos hok]
    obtain ⟨rfl, rfl⟩ := hok
    have C1 := l8Of_any p c ks w h hb1
    have C2 := fun X (hX : Below w.heap.size w X) => l8Of_any q d bs X (in_below h' hX) hb2
    have C3 := fun X => l8Mul_any (ofZ ks) (ofZ bs) X (okOf hb1) (okOf hb2)
    have hr := okZ_wide (mulZ_ok (okOf hb1) (okOf hb2))
    have C4 := fun X => l8Bytes_any (mulZ (ofZ ks) (ofZ bs)) X hr.1 hr.2
    rw [red_bytes hr.1 hr.2, (like_mul (ofZ ks) (ofZ bs)).mod] at C4
    clear h h'
    go_enter Try.func9, Try.ntmps9
    go_wp2_with (fail)
    refine C1.mono ?_
    rintro e w1 ⟨rfl, b1⟩
    go_wp2_with (fail)
    refine (C2 _ b1).mono ?_
    rintro e w2 ⟨rfl, b2⟩
    go_wp2_with (fail)
    refine (C3 _).mono ?_
    rintro e w3 ⟨rfl, b3⟩
    go_wp2_with (fail)
    refine (C4 _).mono ?_
    rintro e w4 ⟨p4, c4, rfl, r4, b4⟩
    have bel := below_on (below_on b1 b2) b3
    go_wp2_with (fail)
    go_ret
    exact ⟨_, _, rfl, ⟨owns_mono r4.1 bel.size, r4.2⟩, below_on bel b4⟩
  · rw [if_neg hok, if_neg hok]
    have hown0 : (w.alloc (.cells #[] 5)).ownsRow w.heap.size 5 1 (.slice (some ⟨w.heap.size, 0, none⟩) 0 0) 0 (([] : List Int).map (Value.int .u8)) := World.ownsRow_made w #[] 0 (Nat.le_refl _) (by unfold maxLen; omega) rfl
    have hb0 : Below w.heap.size w (w.alloc (.cells #[] 5)) := (Below.refl _ _).alloc (Nat.le_refl _) _
    unfold two32 at hok
    clear h h'
    by_cases t0 : n = 32
    · subst t0
      have z1 : ((m : Int) != 32) = true := by simp; omega
      go_enter Try.func9, Try.ntmps9
      go_wp2_with (fail)
      go_ret
      exact ⟨_, _, rfl, .of hown0, hb0⟩
    · have z0 : ((n : Int) != 32) = true := by simp; omega
      go_enter Try.func9, Try.ntmps9
      go_wp2_with (fail)
      go_ret
      exact ⟨_, _, rfl, .of hown0, hb0⟩

def oneN (n : Nat) : Nat := if n = 32 then 32 else 0
def oneL (z : Int) (n : Nat) : List Int := if n = 32 then numB (z % fldP) else []
theorem oneN_le (n : Nat) : oneN n ≤ 32 := by unfold oneN; split <;> omega
theorem oneL_length (z : Int) (n : Nat) : (oneL z n).length = oneN n := by
  unfold oneL oneN
  split
  · exact numB_length _
  · rfl
theorem oneL_byte (z : Int) (n : Nat) : ∀ y ∈ oneL z n, 0 ≤ y ∧ y < 256 := by
  unfold oneL
  split
  · exact numB_byte _
  · intro y hy; cases hy

set_option maxRecDepth 100000 in
set_option maxHeartbeats 2400000 in
theorem specFieldOf_any (p : Option Addr) (n c : Nat) (ks : List Int) (w : World) (h : BytesIn w p n ks) (hb1 : ∀ x ∈ ks, 0 ≤ x ∧ x < 256) :
    Calls Try.prog 17 #[.slice p n c] w fun e w' => ∃ p' c', e = .returned (.slice p' (oneN n) c') ∧ Own 5 w' w.heap.size w'.heap.size (.slice p' (oneN n) c') (oneN n) (oneL (numF ks) n) ∧ Below w.heap.size w w' := by
  unfold oneN oneL
  by_cases hok : n = 32
  · rw [if_pos hok, if_pos hok]
    subst hok
    have C1 := l8Of_any p c ks w h hb1
    have hr := okZ_wide (okOf hb1)
    have C4 := fun X => l8Bytes_any (ofZ ks) X hr.1 hr.2
    rw [red_bytes hr.1 hr.2] at C4
    clear h
    go_enter Try.func17, Try.ntmps17
    go_wp2_with (fail)
    refine C1.mono ?_
    rintro e w1 ⟨rfl, b1⟩
    skip
    go_wp2_with (fail)
    refine (C4 _).mono ?_
    rintro e w4 ⟨p4, c4, rfl, r4, b4⟩
    go_wp2_with (fail)
    go_ret
    exact ⟨_, _, rfl, ⟨owns_mono r4.1 b1.size, r4.2⟩, below_on b1 b4⟩
  · rw [if_neg hok, if_neg hok]
    have hown0 : (w.alloc (.cells #[] 5)).ownsRow w.heap.size 5 1 (.slice (some ⟨w.heap.size, 0, none⟩) 0 0) 0 (([] : List Int).map (Value.int .u8)) := World.ownsRow_made w #[] 0 (Nat.le_refl _) (by unfold maxLen; omega) rfl
    have hb0 : Below w.heap.size w (w.alloc (.cells #[] 5)) := (Below.refl _ _).alloc (Nat.le_refl _) _
    have z0 : ((n : Int) != 32) = true := by simp; omega
    clear h
    go_enter Try.func17, Try.ntmps17
    go_wp2_with (fail)
    go_ret
    exact ⟨_, _, rfl, .of hown0, hb0⟩

set_option maxRecDepth 100000 in
set_option maxHeartbeats 2400000 in
theorem specFieldInv_any (p : Option Addr) (n c : Nat) (ks : List Int) (w : World) (h : BytesIn w p n ks) (hb1 : ∀ x ∈ ks, 0 ≤ x ∧ x < 256) :
    Calls Try.prog 15 #[.slice p n c] w fun e w' => ∃ p' c', e = .returned (.slice p' (oneN n) c') ∧ Own 5 w' w.heap.size w'.heap.size (.slice p' (oneN n) c') (oneN n) (oneL (numF ks ^ (fldP - 2).toNat) n) ∧ Below w.heap.size w w' := by
  unfold oneN oneL
  by_cases hok : n = 32
  · rw [if_pos hok, if_pos hok]
    subst hok
    have C1 := l8Of_any p c ks w h hb1
    have C3 := fun X => l8Inv_any (ofZ ks) X (okOf hb1)
    have hr := okZ_wide (invZ_ok (okOf hb1) 254)
    have C4 := fun X => l8Bytes_any (invZ (ofZ ks) 254) X hr.1 hr.2
    rw [red_bytes hr.1 hr.2, (like_inv (ofZ ks) 254).mod, ← invE_val] at C4
    clear h
    go_enter Try.func15, Try.ntmps15
    go_wp2_with (fail)
    refine C1.mono ?_
    rintro e w1 ⟨rfl, b1⟩
    go_wp2_with (fail)
    refine (C3 _).mono ?_
    rintro e w3 ⟨rfl, b3⟩
    replace b1 := below_on b1 b3
    go_wp2_with (fail)
    refine (C4 _).mono ?_
    rintro e w4 ⟨p4, c4, rfl, r4, b4⟩
    go_wp2_with (fail)
    go_ret
    exact ⟨_, _, rfl, ⟨owns_mono r4.1 b1.size, r4.2⟩, below_on b1 b4⟩
  · rw [if_neg hok, if_neg hok]
    have hown0 : (w.alloc (.cells #[] 5)).ownsRow w.heap.size 5 1 (.slice (some ⟨w.heap.size, 0, none⟩) 0 0) 0 (([] : List Int).map (Value.int .u8)) := World.ownsRow_made w #[] 0 (Nat.le_refl _) (by unfold maxLen; omega) rfl
    have hb0 : Below w.heap.size w (w.alloc (.cells #[] 5)) := (Below.refl _ _).alloc (Nat.le_refl _) _
    have z0 : ((n : Int) != 32) = true := by simp; omega
    clear h
    go_enter Try.func15, Try.ntmps15
    go_wp2_with (fail)
    go_ret
    exact ⟨_, _, rfl, .of hown0, hb0⟩

end Go.Proofs.Ytghoibggmddkman
