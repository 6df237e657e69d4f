/-
  What the specification's Point, Public and Agreed answer at whatever bytes. Condition: bytes all.
-/
import Derived.Test.YtghoibggmddkmaoClamp
import Derived.Test.YtghoibggmddkmaoSpecLad2
import Derived.Test.YtghoibggmddkmaoFieldNumS
namespace Go.Proofs.Ytghoibggmddkmao
open Go.RowKit

/-- The number of a point: of a key's bytes, and a point's. -/
def ptZ (ks us : List Int) : Int := ladZ (bitB (clampL ks)) (numF us)
theorem ptZ_range (ks us : List Int) : 0 ≤ ptZ ks us ∧ ptZ ks us < fldP := ⟨Int.emod_nonneg _ (by have := fldP_pos; omega), Int.emod_lt_of_pos _ fldP_pos⟩
theorem ptZ_mod (ks us : List Int) : ptZ ks us % fldP = ptZ ks us := Int.emod_eq_of_lt (ptZ_range ks us).1 (ptZ_range ks us).2
theorem ofZ_sm {us : List Int} (hb : ∀ x ∈ us, 0 ≤ x ∧ x < 256) : smZ (ofZ us) := fun i => by
  have h := pairZ_range hb i
  have h' := pairZ_range hb 15
  unfold ofZ
  split <;> omega
theorem own_cap {e : Nat} {w : World} {lo hi : Nat} {p : Option Addr} {n c : Nat} {xs : List Int} (h : Own e w lo hi (.slice p n c) n xs) : n ≤ c := by
  rcases h.1.2 with ⟨h1, h2⟩ | ⟨g, cap, cur, h1, _, _, h2, _⟩
  · cases h1; exact Nat.le_refl _
  · cases h1; exact h2

set_option maxRecDepth 100000 in
set_option maxHeartbeats 4000000 in
theorem specPoint_any (p q : Option Addr) (n m c d : Nat) (ks us : List Int) (w : World) (hl : ks.length = n) (h : BytesIn w p n ks) (h' : BytesIn w q m us) (hb1 : ∀ x ∈ ks, 0 ≤ x ∧ x < 256) (hb2 : ∀ x ∈ us, 0 ≤ x ∧ x < 256) :
    Calls Try.prog 13 #[.slice p n c, .slice q m d] w fun e w' => ∃ p' c', e = .returned (.slice p' (fldN n m) c') ∧ Own 5 w' w.heap.size w'.heap.size (.slice p' (fldN n m) c') (fldN n m) (fldL (ptZ ks us) n m) ∧ Below w.heap.size w w' := by
  unfold fldN fldL
  by_cases hok : two32 n m
  · rw [if_pos hok, if_pos hok, ptZ_mod]
    obtain ⟨rfl, rfl⟩ := hok
    have C1 := specClamp_any p 32 c ks w hl h hb1
    have hN : oneN 32 = 32 := rfl
    have hC : clampR ks 32 = clampL ks := rfl
    rw [hN, hC] at C1
    have C2 := fun X (hX : Below w.heap.size w X) => l8Of_any q d us X (in_below h' hX) hb2
    have C3 := fun bk ok ck X hk => l9Ladder_any bk ok ck (clampL ks) (ofZ us) X (clampL_byte hb1) hk (ofZ_sm hb2)
    have hv : numB (ladZ (bitB (clampL ks)) (valZ (ofZ us) 16)) = numB (ptZ ks us) := rfl
    simp only [hv] at C3
    generalize numB (ptZ ks us) = V at C3
    generalize clampL ks = kk at C1 C3
    clear h h' hN hC hv hb1 hb2 hl
    go_enter Try.func13, Try.ntmps13
    go_wp2_with (fail)
    refine C1.mono ?_
    rintro e w1 ⟨p1, c1, rfl, o1, b1⟩
    go_wp2_with (fail)
    refine (C2 _ b1).mono ?_
    rintro e w2 ⟨rfl, b2⟩
    obtain ⟨bk, ok, rfl, hk⟩ := (o1.on b2).bytes (by decide)
    have C4 := C3 bk ok c1 w2 hk
    clear C3 hk
    go_wp2_with (fail)
    refine C4.mono ?_
    rintro e w3 ⟨p3, c3, rfl, r3, b3⟩
    have bel := below_on b1 b2
    go_wp2_with (fail)
    go_ret
    exact ⟨_, _, rfl, ⟨owns_mono r3.1 bel.size, r3.2⟩, below_on bel b3⟩
  · rw [if_neg hok, if_neg hok]
    have hown0 : (w.alloc (.cells #[] 5)).ownsRow w.heap.size 5 1 (.slice (some ⟨w.heap.size, 0, none⟩) 0 0) 0 (([] : List Int).map (Value.int .u8)) := World.ownsRow_made w #[] 0 (Nat.le_refl _) (by unfold maxLen; omega) rfl
    have hb0 : Below w.heap.size w (w.alloc (.cells #[] 5)) := (Below.refl _ _).alloc (Nat.le_refl _) _
    unfold two32 at hok
    clear h h'
    by_cases t0 : n = 32
    · subst t0
      have z1 : ((m : Int) != 32) = true := by simp; omega
      go_enter Try.func13, Try.ntmps13
      go_wp2_with (fail)
      go_ret
      exact ⟨_, _, rfl, .of hown0, hb0⟩
    · have z0 : ((n : Int) != 32) = true := by simp; omega
      go_enter Try.func13, Try.ntmps13
      go_wp2_with (fail)
      go_ret
      exact ⟨_, _, rfl, .of hown0, hb0⟩

/-- The point that all know. -/
def baseL : List Int := numB 9
theorem baseL_length : baseL.length = 32 := rfl
theorem baseL_byte : ∀ x ∈ baseL, 0 ≤ x ∧ x < 256 := numB_byte 9
theorem fldN_one (n : Nat) : fldN n 32 = oneN n := by
  unfold fldN oneN
  by_cases h : n = 32
  · rw [if_pos (show two32 n 32 from ⟨h, rfl⟩), if_pos h]
  · rw [if_neg (show ¬ two32 n 32 from fun k => h k.1), if_neg h]
theorem fldL_one (z : Int) (n : Nat) : fldL z n 32 = oneL z n := by
  unfold fldL oneL
  by_cases h : n = 32
  · rw [if_pos (show two32 n 32 from ⟨h, rfl⟩), if_pos h]
  · rw [if_neg (show ¬ two32 n 32 from fun k => h k.1), if_neg h]

set_option maxRecDepth 100000 in
set_option maxHeartbeats 4000000 in
theorem specPublic_any (p : Option Addr) (n c : Nat) (ks : List Int) (w : World) (hl : ks.length = n) (h : BytesIn w p n ks) (hb1 : ∀ x ∈ ks, 0 ≤ x ∧ x < 256) :
    Calls Try.prog 5 #[.slice p n c] w fun e w' => ∃ p' c', e = .returned (.slice p' (oneN n) c') ∧ Own 5 w' w.heap.size w'.heap.size (.slice p' (oneN n) c') (oneN n) (oneL (ptZ ks baseL) n) ∧ Below w.heap.size w w' := by
  have C1 := specFieldNum_any 9 w (by decide)
  have hN : numB (nnZ 9) = baseL := rfl
  rw [hN] at C1
  have C2 := fun q d X (hX : Below w.heap.size w X) (hq : BytesIn X q 32 baseL) => specPoint_any p q n 32 c d ks baseL X hl (in_below h hX) hq hb1 baseL_byte
  rw [fldN_one, fldL_one] at C2
  generalize oneL (ptZ ks baseL) n = V at C2
  generalize oneN n = N at C2
  generalize baseL = B at C1 C2
  clear hN h hb1 hl
  go_enter Try.func5, Try.ntmps5
  go_wp2_with (fail)
  refine C1.mono ?_
  rintro e w1 ⟨p1, c1, rfl, o1, b1⟩
  have C3 := C2 p1 c1 w1 b1 o1.bytes
  clear C2
  go_wp2_with (fail)
  refine C3.mono ?_
  rintro e w2 ⟨p2, c2, rfl, o2, b2⟩
  go_wp2_with (fail)
  go_ret
  exact ⟨_, _, rfl, ⟨owns_mono o2.1 b1.size, o2.2⟩, below_on b1 b2⟩

end Go.Proofs.Ytghoibggmddkmao
