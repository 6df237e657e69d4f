/-
  What spec.Little and impl.Little answer at every argument; no condition but that n is an int.
-/
import Derived.Test.YtkkaipeklbhliaaInfo
namespace Go.Proofs.Ytkkaipeklbhliaa
open Go.RowKit
set_option maxRecDepth 100000

theorem i64_andB (a b : Int) (h1 : 0 ≤ a) (h2 : a ≤ 9223372036854775807) (h3 : 0 ≤ b) (h4 : b ≤ 9223372036854775807) : bits .and .i64 a b = ((a.toNat &&& b.toNat : Nat) : Int) := by
  have ea : (BitVec.ofInt 64 a).toNat = a.toNat := by rw [BitVec.toNat_ofInt]; omega
  have eb : (BitVec.ofInt 64 b).toNat = b.toNat := by rw [BitVec.toNat_ofInt]; omega
  have hle : a.toNat &&& b.toNat ≤ a.toNat := Nat.and_le_left
  have : (BitVec.ofInt 64 a &&& BitVec.ofInt 64 b).toNat = a.toNat &&& b.toNat := by rw [BitVec.toNat_and, ea, eb]
  show IntKind.i64.wrap ((BitVec.ofInt 64 a &&& BitVec.ofInt 64 b).toNat : Int) = _
  rw [this, IntKind.wrap_i64]
  omega

theorem i64_mask255 (a : Int) (h1 : 0 ≤ a) (h2 : a ≤ 9223372036854775807) : bits .and .i64 a 255 = a % 256 := by
  rw [i64_andB a 255 h1 h2 (by decide) (by decide)]
  show (((a.toNat &&& 255 : Nat)) : Int) = a % 256
  rw [nat_mask8]
  omega

/-- n as so many bytes, the low ones first. -/
def littleL (n : Int) (k : Nat) : List Int := (List.range k).map fun (i : Nat) => n / (256 ^ i : Nat) % 256
theorem littleL_length (n : Int) (k : Nat) : (littleL n k).length = k := by simp [littleL]
theorem littleL_step (n : Int) (k : Nat) (q u : Int) (hq : q = n / (256 ^ k : Nat)) (hu : u = q % 256) : littleL n k ++ [u] = littleL n (k + 1) := by
  subst hq hu
  simp [littleL, List.range_succ]
theorem littleL_next (n : Int) (k : Nat) : n / ((256 ^ k : Nat) : Int) / 256 = n / ((256 ^ (k + 1) : Nat) : Int) := by
  rw [Int.ediv_ediv_of_nonneg (Int.natCast_nonneg _), Nat.pow_succ]
  simp
theorem littleL_getD (n : Int) (m k : Nat) (h : k < m) : (littleL n m).getD k 0 = n / ((256 ^ k : Nat) : Int) % 256 := by simp [littleL, h]

theorem two_eight (k : Nat) : (2 : Int) ^ (8 * k) = ((256 ^ k : Nat) : Int) := by
  have e : (2 ^ (8 * k) : Nat) = 256 ^ k := by rw [Nat.pow_mul]
  rw [← e, Int.natCast_pow]
  rfl

def fitB (n many : Int) : Bool := decide (0 ≤ n ∧ 1 ≤ many ∧ many ≤ 8)
def fitN (n many : Int) : Nat := if fitB n many = true then many.toNat else 0
def fitL (n many : Int) : List Int := littleL n (fitN n many)
theorem fit_no {n many : Int} (h : ¬ (0 ≤ n ∧ 1 ≤ many ∧ many ≤ 8)) : fitN n many = 0 ∧ fitL n many = [] := by
  have : fitN n many = 0 := by simp only [fitN, fitB, decide_eq_true_eq]; rw [if_neg h]
  exact ⟨this, by simp [fitL, this, littleL]⟩
theorem fit_yes {n many : Int} (h : 0 ≤ n ∧ 1 ≤ many ∧ many ≤ 8) : fitN n many = many.toNat := by
  simp only [fitN, fitB, decide_eq_true_eq]; rw [if_pos h]
theorem fitN_le (n many : Int) : fitN n many ≤ 8 := by
  unfold fitN fitB; split <;> simp_all <;> omega

set_option maxHeartbeats 1000000 in
theorem implLittle_no (n many : Int) (w : World) (h : ¬ (0 ≤ n ∧ 1 ≤ many ∧ many ≤ 8)) :
    Calls Try.prog 46 #[.int .i64 n, .int .i64 many] w fun e w' => ∃ p c, e = .returned (.slice p 0 c) ∧ Own 5 w' w.heap.size w'.heap.size (.slice p 0 c) 0 [] ∧ Below w.heap.size w w' := by
  by_cases h0 : n < 0
  · clear h
    go_enter Try.func46, Try.ntmps46
    go_wp2
    go_ret
    exact ⟨_, _, rfl, .of (World.ownsRow_nil _ _ _ _), Below.refl _ _⟩
  · by_cases h1 : many < 1
    · clear h
      go_enter Try.func46, Try.ntmps46
      go_wp2
      go_ret
      exact ⟨_, _, rfl, .of (World.ownsRow_nil _ _ _ _), Below.refl _ _⟩
    · have h2 : 8 < many := by
        rcases Int.lt_or_le 8 many with h2 | h2
        · exact h2
        · exact absurd ⟨by omega, by omega, h2⟩ h
      clear h
      go_enter Try.func46, Try.ntmps46
      go_wp2
      go_ret
      exact ⟨_, _, rfl, .of (World.ownsRow_nil _ _ _ _), Below.refl _ _⟩

set_option maxHeartbeats 1000000 in
theorem implLittle_yes (n : Int) (m : Nat) (w : World) (h0 : 0 ≤ n) (h63 : n ≤ 9223372036854775807) (h1 : 1 ≤ m) (h2 : m ≤ 8) :
    Calls Try.prog 46 #[.int .i64 n, .int .i64 m] w fun e w' => ∃ p c, e = .returned (.slice p m c) ∧ Own 5 w' w.heap.size w'.heap.size (.slice p m c) m (littleL n m) ∧ Below w.heap.size w w' := by
  obtain ⟨i0, hi, hz0, hz1, hz2⟩ := info_parts infoByte
  have c0 : ¬ n < 0 := by omega
  have c1 : ¬ (m : Int) < 1 := by omega
  have c2 : ¬ 8 < (m : Int) := by omega
  go_enter Try.func46, Try.ntmps46
  go_wp2_with (at_make; refine wpList_make_full _ rfl _ _ 22 rfl w.heap.size 5 i0 (.int .u8 0) 1 Try.underlying22 hi hz0 hz1 _ _ _ _ m rfl rfl rfl rfl (by rw [hz2]; omega) (by unfold maxLen; omega) (Nat.le_refl _) ?_)
  intro w1 hown hgrow
  rw [fill_start (littleL n m) m] at hown
  have hbel : Below w.heap.size w w1 := (Below.refl _ _).grown hgrow (Nat.le_refl _) (fun _ h => by cases h)
  clear hgrow
  go_wp2
  go_loopw [21] (fun i wr => ∃ k : Nat, k ≤ m ∧ i = .int .i64 k ∧ wr.ownsRow w.heap.size 5 1 (.slice (some ⟨w.heap.size, 0, none⟩) m m) m (((littleL n m).take k ++ List.replicate (m - k) 0).map (Value.int .u8)) ∧ Below w.heap.size w wr)
    (fun i _ => m - (intOf i).toNat)
  case atStart => exact ⟨0, Nat.zero_le _, rfl, hown, hbel⟩
  case round =>
    clear hown hbel
    obtain ⟨k, hk, rfl, hown, hbel⟩ := hrel
    by_cases hlt : k < m
    · have hl := littleL_length n m
      have hold : wr.cell? ⟨w.heap.size, k, none⟩ = some (.int .u8 0) := by
        rw [hown.cellAt k (by omega)]; exact fill_old _ m k hlt hl
      have hfz := hown.frozenAt k
      have hst := hown.stored k (.int .u8 (n / 2 ^ (8 * k) % 256))
      rw [fill_step (littleL n m) m k _ (by rw [littleL_getD n m k hlt, two_eight]) hlt hl] at hst
      have hbel' := hbel.setCell (p := ⟨w.heap.size, k, none⟩) (Nat.le_refl _) (.int .u8 (n / 2 ^ (8 * k) % 256))
      clear hl
      go_wp2
      go_roundw
      case rel => exact ⟨k + 1, by omega, by go_num, hst.1, hbel'⟩
      case measure => simp [intOf]; omega
    · have hkn : k = m := by omega
      subst hkn
      rw [fill_end _ _ (littleL_length n k)] at hown
      go_wp2
      go_ret
      exact ⟨_, _, rfl, .of hown, hbel⟩

theorem implLittle_any (n many : Int) (w : World) (h63 : n ≤ 9223372036854775807) :
    Calls Try.prog 46 #[.int .i64 n, .int .i64 many] w fun e w' => ∃ p c, e = .returned (.slice p (fitN n many) c) ∧ Own 5 w' w.heap.size w'.heap.size (.slice p (fitN n many) c) (fitN n many) (fitL n many) ∧ Below w.heap.size w w' := by
  by_cases h : 0 ≤ n ∧ 1 ≤ many ∧ many ≤ 8
  · have e : many = ((many.toNat : Nat) : Int) := by omega
    unfold fitL
    rw [fit_yes h]
    rw [e]
    exact implLittle_yes n many.toNat w h.1 h63 (by omega) (by omega)
  · rw [(fit_no h).1, (fit_no h).2]
    exact implLittle_no n many w h

end Go.Proofs.Ytkkaipeklbhliaa
