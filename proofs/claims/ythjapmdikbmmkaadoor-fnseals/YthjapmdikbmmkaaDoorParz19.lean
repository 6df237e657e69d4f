/-
  A part of the proof.
-/
import Derived.Test.YthjapmdikbmmkaaDoorParz12
import Derived.Test.YthjapmdikbmmkaaDoorParz18
import Derived.Test.YthjapmdikbmmkaaDoorParz16
import Derived.Test.YthjapmdikbmmkaaDoorParz15
import Derived.Conc.WalkWords
namespace Go.Proofs.YthjapmdikbmmkaaDoor
open Go.RowKit
set_option maxRecDepth 100000
theorem i64_andB (a b : Int) (h1 : 0 ≤ a) (h2 : a ≤ 9223372036854775807) (h3 : 0 ≤ b) (h4 : b ≤ 9223372036854775807) : bits .and .i64 a b = ((a.toNat &&& b.toNat : Nat) : Int) := by
  have ea : (BitVec.ofInt 64 a).toNat = a.toNat := by rw [BitVec.toNat_ofInt]; omega
  have eb : (BitVec.ofInt 64 b).toNat = b.toNat := by rw [BitVec.toNat_ofInt]; omega
  have hle : a.toNat &&& b.toNat ≤ a.toNat := Nat.and_le_left
  have : (BitVec.ofInt 64 a &&& BitVec.ofInt 64 b).toNat = a.toNat &&& b.toNat := by rw [BitVec.toNat_and, ea, eb]
  show IntKind.i64.wrap ((BitVec.ofInt 64 a &&& BitVec.ofInt 64 b).toNat : Int) = _
  rw [this, IntKind.wrap_i64]
  omega
theorem i64_mask255 (a : Int) (h1 : 0 ≤ a) (h2 : a ≤ 9223372036854775807) : bits .and .i64 a 255 = a % 256 := by
  rw [i64_andB a 255 h1 h2 (by decide) (by decide)]
  show (((a.toNat &&& 255 : Nat)) : Int) = a % 256
  rw [nat_mask8]
  omega
def littleL (n : Int) (k : Nat) : List Int := (List.range k).map fun (i : Nat) => n / (256 ^ i : Nat) % 256
theorem littleL_length (n : Int) (k : Nat) : (littleL n k).length = k := by simp [littleL]
theorem littleL_step (n : Int) (k : Nat) (q u : Int) (hq : q = n / (256 ^ k : Nat)) (hu : u = q % 256) : littleL n k ++ [u] = littleL n (k + 1) := by
  subst hq hu
  simp [littleL, List.range_succ]
theorem littleL_next (n : Int) (k : Nat) : n / ((256 ^ k : Nat) : Int) / 256 = n / ((256 ^ (k + 1) : Nat) : Int) := by
  rw [Int.ediv_ediv_of_nonneg (Int.natCast_nonneg _), Nat.pow_succ]
  simp
theorem littleL_getD (n : Int) (m k : Nat) (h : k < m) : (littleL n m).getD k 0 = n / ((256 ^ k : Nat) : Int) % 256 := by simp [littleL, h]
theorem two_eight (k : Nat) : (2 : Int) ^ (8 * k) = ((256 ^ k : Nat) : Int) := by
  have e : (2 ^ (8 * k) : Nat) = 256 ^ k := by rw [Nat.pow_mul]
  rw [← e, Int.natCast_pow]
  rfl
def fitB (n many : Int) : Bool := decide (0 ≤ n ∧ 1 ≤ many ∧ many ≤ 8)
def fitN (n many : Int) : Nat := if fitB n many = true then many.toNat else 0
def fitL (n many : Int) : List Int := littleL n (fitN n many)
theorem fit_no {n many : Int} (h : ¬ (0 ≤ n ∧ 1 ≤ many ∧ many ≤ 8)) : fitN n many = 0 ∧ fitL n many = [] := by
  have : fitN n many = 0 := by simp only [fitN, fitB, decide_eq_true_eq]; rw [if_neg h]
  exact ⟨this, by simp [fitL, this, littleL]⟩
theorem fit_yes {n many : Int} (h : 0 ≤ n ∧ 1 ≤ many ∧ many ≤ 8) : fitN n many = many.toNat := by
  simp only [fitN, fitB, decide_eq_true_eq]; rw [if_pos h]
theorem fitN_le (n many : Int) : fitN n many ≤ 8 := by
  unfold fitN fitB; split <;> simp_all <;> omega
set_option maxHeartbeats 1000000 in
theorem specLittle_no (n many : Int) (w : World) (h : ¬ (0 ≤ n ∧ 1 ≤ many ∧ many ≤ 8)) :
    Calls Tryd.prog 41 #[.int .i64 n, .int .i64 many] w fun e w' => ∃ p c, e = .returned (.slice p 0 c) ∧ Own 5 w' w.heap.size w'.heap.size (.slice p 0 c) 0 [] ∧ Below w.heap.size w w' := by
  by_cases h0 : n < 0
  · clear h
    go_enter Tryd.func41, Tryd.ntmps41
    go_wp2
    go_ret
    exact ⟨_, _, rfl, .of (World.ownsRow_made _ #[] 0 (Nat.le_refl _) (by unfold maxLen; omega) rfl), (Below.refl _ _).alloc (Nat.le_refl _) _⟩
  · by_cases h1 : 1 ≤ many
    · have h2 : ¬ many ≤ 8 := fun h3 => h ⟨by omega, h1, h3⟩
      clear h
      go_enter Tryd.func41, Tryd.ntmps41
      go_wp2
      go_ret
      exact ⟨_, _, rfl, .of (World.ownsRow_made _ #[] 0 (Nat.le_refl _) (by unfold maxLen; omega) rfl), (Below.refl _ _).alloc (Nat.le_refl _) _⟩
    · clear h
      go_enter Tryd.func41, Tryd.ntmps41
      go_wp2
      go_ret
      exact ⟨_, _, rfl, .of (World.ownsRow_made _ #[] 0 (Nat.le_refl _) (by unfold maxLen; omega) rfl), (Below.refl _ _).alloc (Nat.le_refl _) _⟩
set_option maxHeartbeats 1000000 in
theorem specLittle_yes (n : Int) (m : Nat) (w : World) (h0 : 0 ≤ n) (h63 : n ≤ 9223372036854775807) (h1 : 1 ≤ m) (h2 : m ≤ 8) :
    Calls Tryd.prog 41 #[.int .i64 n, .int .i64 m] w fun e w' => ∃ p c, e = .returned (.slice p m c) ∧ Own 5 w' w.heap.size w'.heap.size (.slice p m c) m (littleL n m) ∧ Below w.heap.size w w' := by
  obtain ⟨i0, hi, hz0, hz1, hz2⟩ := info_parts infoByte
  have c0 : ¬ n < 0 := by omega
  have c1 : (1 : Int) ≤ (m : Int) := by omega
  have c2 : (m : Int) ≤ 8 := by omega
  go_enter Tryd.func41, Tryd.ntmps41
  go_wp2
  go_loopw [0, 5, 6] (fun q v i wr => ∃ (k : Nat) (r : Int), k ≤ m ∧ i = .int .i64 k ∧ q = .int .i64 r ∧ 0 ≤ r ∧ r ≤ 9223372036854775807 ∧ Hid (r = n / ((256 ^ k : Nat) : Int)) ∧ wr.ownsRow w.heap.size 5 1 v k ((littleL n k).map (Value.int .u8)) ∧ Below w.heap.size w wr)
    (fun _ _ i _ => m - (intOf i).toNat)
  case atStart => exact ⟨0, n, Nat.zero_le _, rfl, rfl, h0, h63, by simp [Hid], World.ownsRow_made w #[] 0 (Nat.le_refl _) (by unfold maxLen; omega) rfl, (Below.refl _ _).alloc (Nat.le_refl _) _⟩
  case round =>
    obtain ⟨k, r, hk, rfl, rfl, hr0, hr1, hr, hown, hbel⟩ := hrel
    have hsz := hbel.size
    by_cases hlt : k < m
    · have hm := i64_mask255 r hr0 hr1
      have HN : Hid (littleL n k ++ [r % 256] = littleL n (k + 1)) := littleL_step n k r _ hr.out rfl
      have hr' : Hid (r / 256 = n / ((256 ^ (k + 1) : Nat) : Int)) := by rw [hr.out]; exact littleL_next n k
      go_wp2_with (at_builtin; refine list_push hi hz0 hz1 hz2 (.tmp 21) (.tmp 25) 22 Tryd.underlying22 _ hown (by omega) hsz (by rfl) (by rfl) (by rfl) (by rfl) ?_; intro g cap w1 ho1 hb1; rw [HN.out] at ho1)
      go_roundw
      case rel => exact ⟨k + 1, r / 256, by omega, by go_num, rfl, by omega, by omega, hr', ho1, hbel.trans hb1⟩
      case measure => simp [intOf]; omega
    · have hkn : k = m := by omega
      subst hkn
      clear hr
      obtain ⟨p', c', hv⟩ := owns_form hown
      subst hv
      go_wp2
      go_ret
      exact ⟨_, _, rfl, .of hown, hbel⟩
set_option maxHeartbeats 1000000 in
theorem implLittle_no (n many : Int) (w : World) (h : ¬ (0 ≤ n ∧ 1 ≤ many ∧ many ≤ 8)) :
    Calls Tryd.prog 39 #[.int .i64 n, .int .i64 many] w fun e w' => ∃ p c, e = .returned (.slice p 0 c) ∧ Own 5 w' w.heap.size w'.heap.size (.slice p 0 c) 0 [] ∧ Below w.heap.size w w' := by
  by_cases h0 : n < 0
  · clear h
    go_enter Tryd.func39, Tryd.ntmps39
    go_wp2
    go_ret
    exact ⟨_, _, rfl, .of (World.ownsRow_nil _ _ _ _), Below.refl _ _⟩
  · by_cases h1 : many < 1
    · clear h
      go_enter Tryd.func39, Tryd.ntmps39
      go_wp2
      go_ret
      exact ⟨_, _, rfl, .of (World.ownsRow_nil _ _ _ _), Below.refl _ _⟩
    · have h2 : 8 < many := by
        rcases Int.lt_or_le 8 many with h2 | h2
        · exact h2
        · exact absurd ⟨by omega, by omega, h2⟩ h
      clear h
      go_enter Tryd.func39, Tryd.ntmps39
      go_wp2
      go_ret
      exact ⟨_, _, rfl, .of (World.ownsRow_nil _ _ _ _), Below.refl _ _⟩
set_option maxHeartbeats 1000000 in
theorem implLittle_yes (n : Int) (m : Nat) (w : World) (h0 : 0 ≤ n) (h63 : n ≤ 9223372036854775807) (h1 : 1 ≤ m) (h2 : m ≤ 8) :
    Calls Tryd.prog 39 #[.int .i64 n, .int .i64 m] w fun e w' => ∃ p c, e = .returned (.slice p m c) ∧ Own 5 w' w.heap.size w'.heap.size (.slice p m c) m (littleL n m) ∧ Below w.heap.size w w' := by
  obtain ⟨i0, hi, hz0, hz1, hz2⟩ := info_parts infoByte
  have c0 : ¬ n < 0 := by omega
  have c1 : ¬ (m : Int) < 1 := by omega
  have c2 : ¬ 8 < (m : Int) := by omega
  go_enter Tryd.func39, Tryd.ntmps39
  go_wp2_with (at_make; refine wpList_make_full _ rfl _ _ 22 rfl w.heap.size 5 i0 (.int .u8 0) 1 Tryd.underlying22 hi hz0 hz1 _ _ _ _ m rfl rfl rfl rfl (by rw [hz2]; omega) (by unfold maxLen; omega) (Nat.le_refl _) ?_)
  intro w1 hown hgrow
  rw [fill_start (littleL n m) m] at hown
  have hbel : Below w.heap.size w w1 := (Below.refl _ _).grown hgrow (Nat.le_refl _) (fun _ h => by cases h)
  clear hgrow
  go_wp2
  go_loopw [21] (fun i wr => ∃ k : Nat, k ≤ m ∧ i = .int .i64 k ∧ wr.ownsRow w.heap.size 5 1 (.slice (some ⟨w.heap.size, 0, none⟩) m m) m (((littleL n m).take k ++ List.replicate (m - k) 0).map (Value.int .u8)) ∧ Below w.heap.size w wr)
    (fun i _ => m - (intOf i).toNat)
  case atStart => exact ⟨0, Nat.zero_le _, rfl, hown, hbel⟩
  case round =>
    clear hown hbel
    obtain ⟨k, hk, rfl, hown, hbel⟩ := hrel
    by_cases hlt : k < m
    · have hl := littleL_length n m
      have hold : wr.cell? ⟨w.heap.size, k, none⟩ = some (.int .u8 0) := by
        rw [hown.cellAt k (by omega)]; exact fill_old _ m k hlt hl
      have hfz := hown.frozenAt k
      have hst := hown.stored k (.int .u8 (n / 2 ^ (8 * k) % 256))
      rw [fill_step (littleL n m) m k _ (by rw [littleL_getD n m k hlt, two_eight]) hlt hl] at hst
      have hbel' := hbel.setCell (p := ⟨w.heap.size, k, none⟩) (Nat.le_refl _) (.int .u8 (n / 2 ^ (8 * k) % 256))
      clear hl
      go_wp2
      go_roundw
      case rel => exact ⟨k + 1, by omega, by go_num, hst.1, hbel'⟩
      case measure => simp [intOf]; omega
    · have hkn : k = m := by omega
      subst hkn
      rw [fill_end _ _ (littleL_length n k)] at hown
      go_wp2
      go_ret
      exact ⟨_, _, rfl, .of hown, hbel⟩
theorem specLittle_any (n many : Int) (w : World) (h63 : n ≤ 9223372036854775807) :
    Calls Tryd.prog 41 #[.int .i64 n, .int .i64 many] w fun e w' => ∃ p c, e = .returned (.slice p (fitN n many) c) ∧ Own 5 w' w.heap.size w'.heap.size (.slice p (fitN n many) c) (fitN n many) (fitL n many) ∧ Below w.heap.size w w' := by
  by_cases h : 0 ≤ n ∧ 1 ≤ many ∧ many ≤ 8
  · have e : many = ((many.toNat : Nat) : Int) := by omega
    unfold fitL
    rw [fit_yes h]
    rw [e]
    exact specLittle_yes n many.toNat w h.1 h63 (by omega) (by omega)
  · rw [(fit_no h).1, (fit_no h).2]
    exact specLittle_no n many w h
theorem implLittle_any (n many : Int) (w : World) (h63 : n ≤ 9223372036854775807) :
    Calls Tryd.prog 39 #[.int .i64 n, .int .i64 many] w fun e w' => ∃ p c, e = .returned (.slice p (fitN n many) c) ∧ Own 5 w' w.heap.size w'.heap.size (.slice p (fitN n many) c) (fitN n many) (fitL n many) ∧ Below w.heap.size w w' := by
  by_cases h : 0 ≤ n ∧ 1 ≤ many ∧ many ≤ 8
  · have e : many = ((many.toNat : Nat) : Int) := by omega
    unfold fitL
    rw [fit_yes h]
    rw [e]
    exact implLittle_yes n many.toNat w h.1 h63 (by omega) (by omega)
  · rw [(fit_no h).1, (fit_no h).2]
    exact implLittle_no n many w h
theorem revL_step (xs : List Int) (n k : Nat) (u : Int) (hx : xs.length = n) (hk : k < n) (hu : u = xs.getD (n - 1 - k) 0) : xs.reverse.take k ++ [u] = xs.reverse.take (k + 1) := by
  subst hu
  rw [List.take_succ_eq_append_getElem (by simp; omega), List.getElem_reverse]
  simp [List.getElem?_eq_getElem (show n - 1 - k < xs.length by omega), hx]
set_option maxHeartbeats 2000000 in
theorem specGreat_any (n many : Int) (w : World) (h63 : n ≤ 9223372036854775807) :
    Calls Tryd.prog 82 #[.int .i64 n, .int .i64 many] w fun e w' => ∃ p c, e = .returned (.slice p (fitN n many) c) ∧ Own 5 w' w.heap.size w'.heap.size (.slice p (fitN n many) c) (fitN n many) (fitL n many).reverse ∧ Below w.heap.size w w' := by
  obtain ⟨i0, hi, hz0, hz1, hz2⟩ := info_parts infoByte
  have hle := fitN_le n many
  obtain ⟨N, hN⟩ : ∃ N, N = fitN n many := ⟨_, rfl⟩
  obtain ⟨L, hL⟩ : ∃ L, L = fitL n many := ⟨_, rfl⟩
  have C := fun w => specLittle_any n many w h63
  rw [← hN] at hle ⊢
  rw [← hL]
  simp only [← hN, ← hL] at C
  clear hN hL
  go_enter Tryd.func82, Tryd.ntmps82
  go_wp2_with (fail)
  refine (C _).mono ?_
  rintro e w1 ⟨p1, c1, rfl, r1, b1⟩
  have hz1' := b1.size
  have hx := r1.len
  have hin := r1.bytes
  go_wp2
  go_loopw [6, 7] (fun v i wr => ∃ k : Nat, k ≤ N ∧ i = .int .i64 ((N : Int) - 1 - k) ∧ wr.ownsRow w1.heap.size 5 1 v k ((L.reverse.take k).map (Value.int .u8)) ∧ Below w1.heap.size w1 wr)
    (fun _ i _ => (intOf i + 1).toNat)
  case atStart => exact ⟨0, Nat.zero_le _, by go_num, World.ownsRow_made w1 #[] 0 (Nat.le_refl _) (by unfold maxLen; omega) rfl, (Below.refl _ _).alloc (Nat.le_refl _) _⟩
  case round =>
    obtain ⟨k, hk, rfl, hown, hbel⟩ := hrel
    have hsz := hbel.size
    by_cases hlt : k < N
    · obtain ⟨j, hj⟩ : ∃ j : Nat, j + k + 1 = N := ⟨N - 1 - k, by omega⟩
      have hij : ((N : Int) - 1 - (k : Int)) = (j : Int) := by omega
      rw [hij]
      clear hij
      obtain ⟨b, o, rfl, hc⟩ := hin (by omega)
      obtain ⟨u, hu⟩ : ∃ u, u = L.getD j 0 := ⟨_, rfl⟩
      have hcx : wr.cell? ⟨b, o + j, none⟩ = some (.int .u8 u) := by
        rw [hbel.cell (p := ⟨b, o + j, none⟩) (World.block_lt_of_cell? w1 ⟨b, o + j, none⟩ (hc j (by omega))), hu]
        exact hc j (by omega)
      have HN : Hid (L.reverse.take k ++ [u] = L.reverse.take (k + 1)) := revL_step L N k u hx hlt (by rw [hu, show N - 1 - k = j by omega])
      clear hc hin hu hx
      go_wp2_with (at_builtin; refine list_push hi hz0 hz1 hz2 (.tmp 19) (.tmp 24) 22 Tryd.underlying22 _ hown (by omega) (by omega) (by rfl) (by rfl) (by rfl) (by rfl) ?_; intro g cap w2 ho1 hb1; rw [HN.out] at ho1)
      go_roundw
      case rel => exact ⟨k + 1, by omega, by go_num, ho1, hbel.trans hb1⟩
      case measure => simp [intOf]
    · obtain rfl : k = N := by omega
      have c0 : ¬ (0 : Int) ≤ (k : Int) - 1 - (k : Int) := by omega
      rw [List.take_of_length_le (by simp; omega)] at hown
      obtain ⟨p', c', hv⟩ := owns_form hown
      subst hv
      go_wp2
      go_ret
      exact ⟨_, _, rfl, .of (owns_mono hown hz1'), below_on b1 hbel⟩
set_option maxHeartbeats 2000000 in
theorem implGreat_any (n many : Int) (w : World) (h63 : n ≤ 9223372036854775807) :
    Calls Tryd.prog 86 #[.int .i64 n, .int .i64 many] w fun e w' => ∃ p c, e = .returned (.slice p (fitN n many) c) ∧ Own 5 w' w.heap.size w'.heap.size (.slice p (fitN n many) c) (fitN n many) (fitL n many).reverse ∧ Below w.heap.size w w' := by
  have hle := fitN_le n many
  go_enter Tryd.func86, Tryd.ntmps86
  go_wp2_with (fail)
  refine (implLittle_any n many _ h63).mono ?_
  rintro e w1 ⟨p1, c1, rfl, r1, b1⟩
  go_wp2_with (fail)
  refine (reverse_any _ _ p1 (fitN n many) c1 (fitL n many) _ (by omega) r1).mono ?_
  rintro e w2 ⟨rfl, r2, g2⟩
  go_wp2_with (fail)
  go_ret
  exact ⟨_, _, rfl, .of r2.1, b1.grown g2 b1.size fun k hk => (r1.1.lt k hk).1⟩
def fourL (great : Bool) (n : Int) : List Int := if great = true then (littleL (n % 4294967296) 4).reverse else littleL (n % 4294967296) 4
theorem fourL_length (great : Bool) (n : Int) : (fourL great n).length = 4 := by unfold fourL; split <;> simp [littleL_length]
def bytesL (great : Bool) (xs : List Int) : List Int := xs.flatMap (fourL great)
theorem bytesL_length (great : Bool) (xs : List Int) : (bytesL great xs).length = 4 * xs.length := by
  induction xs with
  | nil => rfl
  | cons x xs ih => simp only [bytesL, List.flatMap_cons, List.length_append, fourL_length, List.length_cons] at ih ⊢; omega
theorem bytesL_step (great : Bool) (xs : List Int) (k : Nat) (hk : k < xs.length) : bytesL great (xs.take k) ++ fourL great (xs.getD k 0) = bytesL great (xs.take (k + 1)) := by
  rw [List.take_succ_eq_append_getElem hk]
  simp only [bytesL, List.flatMap_append, List.flatMap_cons, List.flatMap_nil, List.append_nil, List.getD_eq_getElem?_getD, List.getElem?_eq_getElem hk, Option.getD_some]
theorem implLittle4 (n : Int) (w : World) :
    Calls Tryd.prog 39 #[.int .i64 (n % 4294967296), .int .i64 4] w fun e w' => ∃ p c, e = .returned (.slice p 4 c) ∧ Own 5 w' w.heap.size w'.heap.size (.slice p 4 c) 4 (fourL false n) ∧ Below w.heap.size w w' :=
  implLittle_yes (n % 4294967296) 4 w (by omega) (by omega) (by omega) (by omega)
theorem specLittle4 (n : Int) (w : World) :
    Calls Tryd.prog 41 #[.int .i64 (n % 4294967296), .int .i64 4] w fun e w' => ∃ p c, e = .returned (.slice p 4 c) ∧ Own 5 w' w.heap.size w'.heap.size (.slice p 4 c) 4 (fourL false n) ∧ Below w.heap.size w w' :=
  specLittle_yes (n % 4294967296) 4 w (by omega) (by omega) (by omega) (by omega)
theorem fit4 (n : Int) : fitN (n % 4294967296) 4 = 4 ∧ fitL (n % 4294967296) 4 = littleL (n % 4294967296) 4 := by
  have h : fitN (n % 4294967296) 4 = 4 := fit_yes ⟨by omega, by omega, by omega⟩
  exact ⟨h, by unfold fitL; rw [h]⟩
theorem implGreat4 (n : Int) (w : World) :
    Calls Tryd.prog 86 #[.int .i64 (n % 4294967296), .int .i64 4] w fun e w' => ∃ p c, e = .returned (.slice p 4 c) ∧ Own 5 w' w.heap.size w'.heap.size (.slice p 4 c) 4 (fourL true n) ∧ Below w.heap.size w w' := by
  have h := implGreat_any (n % 4294967296) 4 w (by omega)
  rw [(fit4 n).1, (fit4 n).2] at h
  exact h
theorem specGreat4 (n : Int) (w : World) :
    Calls Tryd.prog 82 #[.int .i64 (n % 4294967296), .int .i64 4] w fun e w' => ∃ p c, e = .returned (.slice p 4 c) ∧ Own 5 w' w.heap.size w'.heap.size (.slice p 4 c) 4 (fourL true n) ∧ Below w.heap.size w w' := by
  have h := specGreat_any (n % 4294967296) 4 w (by omega)
  rw [(fit4 n).1, (fit4 n).2] at h
  exact h
set_option maxHeartbeats 2000000 in
theorem implBytesLittle_any (p : Option Addr) (n c : Nat) (xs : List Int) (w : World) (hn : n ≤ 1073741824) (hx : xs.length = n) (h : IntsIn w p n xs) :
    Calls Tryd.prog 79 #[.slice p n c, .bool false] w fun e w' => ∃ p' c', e = .returned (.slice p' (4 * n) c') ∧ Own 5 w' w.heap.size w'.heap.size (.slice p' (4 * n) c') (4 * n) (bytesL false xs) ∧ Below w.heap.size w w' := by
  obtain ⟨i0, hi, hz0, hz1, hz2⟩ := info_parts infoByte
  go_enter Tryd.func79, Tryd.ntmps79
  go_wp2_with (at_make; refine wpList_make_own _ rfl _ _ 22 rfl w.heap.size 5 i0 (.int .u8 0) 1 Tryd.underlying22 hi hz0 hz1 _ _ _ (4 * n) rfl rfl (by simp) (by rw [hz2]; omega) (by unfold maxLen; omega) (Nat.le_refl _) ?_)
  intro w1 hown hgrow
  have hbel : Below w.heap.size w w1 := (Below.refl _ _).grown hgrow (Nat.le_refl _) (fun _ h => by cases h)
  clear hgrow
  go_wp2
  go_loopw [6, 16] (fun v i wr => ∃ k : Nat, k ≤ n ∧ i = .int .i64 k ∧ wr.ownsRow w.heap.size 5 1 v (4 * k) ((bytesL false (xs.take k)).map (Value.int .u8)) ∧ Below w.heap.size w wr)
    (fun _ i _ => n - (intOf i).toNat)
  case atStart => exact ⟨0, Nat.zero_le _, rfl, by simpa [bytesL] using hown, hbel⟩
  case round =>
    clear hown hbel
    obtain ⟨k, hk, rfl, hown, hbel⟩ := hrel
    by_cases hlt : k < n
    · obtain ⟨b, o, rfl, hcell⟩ := h (by omega)
      have HN : Hid (bytesL false (xs.take k) ++ fourL false (xs.getD k 0) = bytesL false (xs.take (k + 1))) := bytesL_step _ _ _ (by omega)
      have hc := hcell k hlt
      have c0 : wr.cell? ⟨b, o + k, none⟩ = some (.int .i64 (xs.getD k 0)) := by
        rw [hbel.cell (p := ⟨b, o + k, none⟩) (World.block_lt_of_cell? w ⟨b, o + k, none⟩ hc)]
        exact hc
      clear hc hcell h
      generalize xs.getD k 0 = u at HN c0
      go_wp2_with (fail)
      refine (implWord_same u _).mono ?_
      rintro e w2 ⟨rfl, rfl⟩
      go_wp2_with (fail)
      refine (implLittle4 u _).mono ?_
      rintro e w2 ⟨q, d, rfl, r2, b2⟩
      replace hown := owns_below hown b2
      replace hbel := below_on hbel b2
      have hsz := hbel.size
      have hl4 := fourL_length false u
      have hin := r2.bytes
      clear r2 b2 c0
      generalize fourL false u = ys at HN hl4 hin
      go_wp2_with (at_builtin; refine list_spread hi hz0 hz1 hz2 (.tmp 20) (.tmp 24) 22 Tryd.underlying22 hown hin hl4 (by omega) (by omega) (by omega) hsz (by rfl) (by rfl) (by rfl) (by rfl) ?_; intro g cap w3 ho3 _ hb3; rw [HN.out] at ho3)
      go_roundw
      case rel => exact ⟨k + 1, by omega, by go_num, ho3, hbel.trans hb3⟩
      case measure => simp [intOf]; omega
    · have hkn : k = n := by omega
      subst hkn
      obtain ⟨p', c', hv⟩ := owns_form hown
      subst hv
      rw [List.take_of_length_le (by omega)] at hown
      clear h
      go_wp2
      go_ret
      exact ⟨_, _, rfl, .of hown, hbel⟩
set_option maxHeartbeats 2000000 in
theorem implBytesGreat_any (p : Option Addr) (n c : Nat) (xs : List Int) (w : World) (hn : n ≤ 1073741824) (hx : xs.length = n) (h : IntsIn w p n xs) :
    Calls Tryd.prog 79 #[.slice p n c, .bool true] w fun e w' => ∃ p' c', e = .returned (.slice p' (4 * n) c') ∧ Own 5 w' w.heap.size w'.heap.size (.slice p' (4 * n) c') (4 * n) (bytesL true xs) ∧ Below w.heap.size w w' := by
  obtain ⟨i0, hi, hz0, hz1, hz2⟩ := info_parts infoByte
  go_enter Tryd.func79, Tryd.ntmps79
  go_wp2_with (at_make; refine wpList_make_own _ rfl _ _ 22 rfl w.heap.size 5 i0 (.int .u8 0) 1 Tryd.underlying22 hi hz0 hz1 _ _ _ (4 * n) rfl rfl (by simp) (by rw [hz2]; omega) (by unfold maxLen; omega) (Nat.le_refl _) ?_)
  intro w1 hown hgrow
  have hbel : Below w.heap.size w w1 := (Below.refl _ _).grown hgrow (Nat.le_refl _) (fun _ h => by cases h)
  clear hgrow
  go_wp2
  go_loopw [6, 16] (fun v i wr => ∃ k : Nat, k ≤ n ∧ i = .int .i64 k ∧ wr.ownsRow w.heap.size 5 1 v (4 * k) ((bytesL true (xs.take k)).map (Value.int .u8)) ∧ Below w.heap.size w wr)
    (fun _ i _ => n - (intOf i).toNat)
  case atStart => exact ⟨0, Nat.zero_le _, rfl, by simpa [bytesL] using hown, hbel⟩
  case round =>
    clear hown hbel
    obtain ⟨k, hk, rfl, hown, hbel⟩ := hrel
    by_cases hlt : k < n
    · obtain ⟨b, o, rfl, hcell⟩ := h (by omega)
      have HN : Hid (bytesL true (xs.take k) ++ fourL true (xs.getD k 0) = bytesL true (xs.take (k + 1))) := bytesL_step _ _ _ (by omega)
      have hc := hcell k hlt
      have c0 : wr.cell? ⟨b, o + k, none⟩ = some (.int .i64 (xs.getD k 0)) := by
        rw [hbel.cell (p := ⟨b, o + k, none⟩) (World.block_lt_of_cell? w ⟨b, o + k, none⟩ hc)]
        exact hc
      clear hc hcell h
      generalize xs.getD k 0 = u at HN c0
      go_wp2_with (fail)
      refine (implWord_same u _).mono ?_
      rintro e w2 ⟨rfl, rfl⟩
      go_wp2_with (fail)
      refine (implGreat4 u _).mono ?_
      rintro e w2 ⟨q, d, rfl, r2, b2⟩
      replace hown := owns_below hown b2
      replace hbel := below_on hbel b2
      have hsz := hbel.size
      have hl4 := fourL_length true u
      have hin := r2.bytes
      clear r2 b2 c0
      generalize fourL true u = ys at HN hl4 hin
      go_wp2_with (at_builtin; refine list_spread hi hz0 hz1 hz2 (.tmp 20) (.tmp 24) 22 Tryd.underlying22 hown hin hl4 (by omega) (by omega) (by omega) hsz (by rfl) (by rfl) (by rfl) (by rfl) ?_; intro g cap w3 ho3 _ hb3; rw [HN.out] at ho3)
      go_roundw
      case rel => exact ⟨k + 1, by omega, by go_num, ho3, hbel.trans hb3⟩
      case measure => simp [intOf]; omega
    · have hkn : k = n := by omega
      subst hkn
      obtain ⟨p', c', hv⟩ := owns_form hown
      subst hv
      rw [List.take_of_length_le (by omega)] at hown
      clear h
      go_wp2
      go_ret
      exact ⟨_, _, rfl, .of hown, hbel⟩
set_option maxHeartbeats 2000000 in
theorem specBytesLittle_any (p : Option Addr) (n c : Nat) (xs : List Int) (w : World) (hn : n ≤ 1073741824) (hx : xs.length = n) (h : IntsIn w p n xs) :
    Calls Tryd.prog 70 #[.slice p n c, .bool false] w fun e w' => ∃ p' c', e = .returned (.slice p' (4 * n) c') ∧ Own 5 w' w.heap.size w'.heap.size (.slice p' (4 * n) c') (4 * n) (bytesL false xs) ∧ Below w.heap.size w w' := by
  obtain ⟨i0, hi, hz0, hz1, hz2⟩ := info_parts infoByte
  go_enter Tryd.func70, Tryd.ntmps70
  go_wp2
  go_loopw [5, 6] (fun v i wr => ∃ k : Nat, k ≤ n ∧ i = .int .i64 k ∧ wr.ownsRow w.heap.size 5 1 v (4 * k) ((bytesL false (xs.take k)).map (Value.int .u8)) ∧ Below w.heap.size w wr)
    (fun _ i _ => n - (intOf i).toNat)
  case atStart => exact ⟨0, Nat.zero_le _, rfl, World.ownsRow_made w #[] 0 (Nat.le_refl _) (by unfold maxLen; omega) rfl, (Below.refl _ _).alloc (Nat.le_refl _) _⟩
  case round =>
    obtain ⟨k, hk, rfl, hown, hbel⟩ := hrel
    by_cases hlt : k < n
    · obtain ⟨b, o, rfl, hcell⟩ := h (by omega)
      have HN : Hid (bytesL false (xs.take k) ++ fourL false (xs.getD k 0) = bytesL false (xs.take (k + 1))) := bytesL_step _ _ _ (by omega)
      have hc := hcell k hlt
      have c0 : wr.cell? ⟨b, o + k, none⟩ = some (.int .i64 (xs.getD k 0)) := by
        rw [hbel.cell (p := ⟨b, o + k, none⟩) (World.block_lt_of_cell? w ⟨b, o + k, none⟩ hc)]
        exact hc
      clear hc hcell h
      generalize xs.getD k 0 = u at HN c0
      go_wp2_with (fail)
      refine (specWord_same u _).mono ?_
      rintro e w2 ⟨rfl, rfl⟩
      go_wp2_with (fail)
      refine (specLittle4 u _).mono ?_
      rintro e w2 ⟨q, d, rfl, r2, b2⟩
      replace hown := owns_below hown b2
      replace hbel := below_on hbel b2
      have hsz := hbel.size
      have hl4 := fourL_length false u
      have hin := r2.bytes
      clear r2 b2 c0
      generalize fourL false u = ys at HN hl4 hin
      go_wp2_with (at_builtin; refine list_spread hi hz0 hz1 hz2 (.tmp 23) (.tmp 29) 22 Tryd.underlying22 hown hin hl4 (by omega) (by omega) (by omega) hsz (by rfl) (by rfl) (by rfl) (by rfl) ?_; intro g cap w3 ho3 _ hb3; rw [HN.out] at ho3)
      go_roundw
      case rel => exact ⟨k + 1, by omega, by go_num, ho3, hbel.trans hb3⟩
      case measure => simp [intOf]; omega
    · have hkn : k = n := by omega
      subst hkn
      obtain ⟨p', c', hv⟩ := owns_form hown
      subst hv
      rw [List.take_of_length_le (by omega)] at hown
      clear h
      go_wp2
      go_ret
      exact ⟨_, _, rfl, .of hown, hbel⟩
set_option maxHeartbeats 2000000 in
theorem specBytesGreat_any (p : Option Addr) (n c : Nat) (xs : List Int) (w : World) (hn : n ≤ 1073741824) (hx : xs.length = n) (h : IntsIn w p n xs) :
    Calls Tryd.prog 70 #[.slice p n c, .bool true] w fun e w' => ∃ p' c', e = .returned (.slice p' (4 * n) c') ∧ Own 5 w' w.heap.size w'.heap.size (.slice p' (4 * n) c') (4 * n) (bytesL true xs) ∧ Below w.heap.size w w' := by
  obtain ⟨i0, hi, hz0, hz1, hz2⟩ := info_parts infoByte
  go_enter Tryd.func70, Tryd.ntmps70
  go_wp2
  go_loopw [5, 6] (fun v i wr => ∃ k : Nat, k ≤ n ∧ i = .int .i64 k ∧ wr.ownsRow w.heap.size 5 1 v (4 * k) ((bytesL true (xs.take k)).map (Value.int .u8)) ∧ Below w.heap.size w wr)
    (fun _ i _ => n - (intOf i).toNat)
  case atStart => exact ⟨0, Nat.zero_le _, rfl, World.ownsRow_made w #[] 0 (Nat.le_refl _) (by unfold maxLen; omega) rfl, (Below.refl _ _).alloc (Nat.le_refl _) _⟩
  case round =>
    obtain ⟨k, hk, rfl, hown, hbel⟩ := hrel
    by_cases hlt : k < n
    · obtain ⟨b, o, rfl, hcell⟩ := h (by omega)
      have HN : Hid (bytesL true (xs.take k) ++ fourL true (xs.getD k 0) = bytesL true (xs.take (k + 1))) := bytesL_step _ _ _ (by omega)
      have hc := hcell k hlt
      have c0 : wr.cell? ⟨b, o + k, none⟩ = some (.int .i64 (xs.getD k 0)) := by
        rw [hbel.cell (p := ⟨b, o + k, none⟩) (World.block_lt_of_cell? w ⟨b, o + k, none⟩ hc)]
        exact hc
      clear hc hcell h
      generalize xs.getD k 0 = u at HN c0
      go_wp2_with (fail)
      refine (specWord_same u _).mono ?_
      rintro e w2 ⟨rfl, rfl⟩
      go_wp2_with (fail)
      refine (specGreat4 u _).mono ?_
      rintro e w2 ⟨q, d, rfl, r2, b2⟩
      replace hown := owns_below hown b2
      replace hbel := below_on hbel b2
      have hsz := hbel.size
      have hl4 := fourL_length true u
      have hin := r2.bytes
      clear r2 b2 c0
      generalize fourL true u = ys at HN hl4 hin
      go_wp2_with (at_builtin; refine list_spread hi hz0 hz1 hz2 (.tmp 15) (.tmp 21) 22 Tryd.underlying22 hown hin hl4 (by omega) (by omega) (by omega) hsz (by rfl) (by rfl) (by rfl) (by rfl) ?_; intro g cap w3 ho3 _ hb3; rw [HN.out] at ho3)
      go_roundw
      case rel => exact ⟨k + 1, by omega, by go_num, ho3, hbel.trans hb3⟩
      case measure => simp [intOf]; omega
    · have hkn : k = n := by omega
      subst hkn
      obtain ⟨p', c', hv⟩ := owns_form hown
      subst hv
      rw [List.take_of_length_le (by omega)] at hown
      clear h
      go_wp2
      go_ret
      exact ⟨_, _, rfl, .of hown, hbel⟩
theorem implWordBytes_any (p : Option Addr) (n c : Nat) (great : Bool) (xs : List Int) (w : World) (hn : n ≤ 1073741824) (hx : xs.length = n) (h : IntsIn w p n xs) :
    Calls Tryd.prog 79 #[.slice p n c, .bool great] w fun e w' => ∃ p' c', e = .returned (.slice p' (4 * n) c') ∧ Own 5 w' w.heap.size w'.heap.size (.slice p' (4 * n) c') (4 * n) (bytesL great xs) ∧ Below w.heap.size w w' := by
  cases great
  · exact implBytesLittle_any p n c xs w hn hx h
  · exact implBytesGreat_any p n c xs w hn hx h
theorem specWordBytes_any (p : Option Addr) (n c : Nat) (great : Bool) (xs : List Int) (w : World) (hn : n ≤ 1073741824) (hx : xs.length = n) (h : IntsIn w p n xs) :
    Calls Tryd.prog 70 #[.slice p n c, .bool great] w fun e w' => ∃ p' c', e = .returned (.slice p' (4 * n) c') ∧ Own 5 w' w.heap.size w'.heap.size (.slice p' (4 * n) c') (4 * n) (bytesL great xs) ∧ Below w.heap.size w w' := by
  cases great
  · exact specBytesLittle_any p n c xs w hn hx h
  · exact specBytesGreat_any p n c xs w hn hx h
end Go.Proofs.YthjapmdikbmmkaaDoor
namespace Go.Proofs.YthjapmdikbmmkaaDoor
set_option maxRecDepth 100000
def colsL (L : List Int) : Nat → List Int
  | 0 => L
  | k + 1 => quarterL (colsL L k) k (k + 4) (k + 8) (k + 12)
def diasL (L : List Int) : Nat → List Int
  | 0 => L
  | k + 1 => quarterL (diasL L k) k (4 + (k + 1) % 4) (8 + (k + 2) % 4) (12 + (k + 3) % 4)
def doubleL (L : List Int) : List Int := diasL (colsL L 4) 4
def tenL (L : List Int) : Nat → List Int
  | 0 => L
  | k + 1 => doubleL (tenL L k)
theorem quarterL_length (L : List Int) (a b c d : Nat) : (quarterL L a b c d).length = L.length := setQ_length
theorem colsL_length (L : List Int) : ∀ k, (colsL L k).length = L.length
  | 0 => rfl
  | k + 1 => by rw [colsL, quarterL_length, colsL_length L k]
theorem diasL_length (L : List Int) : ∀ k, (diasL L k).length = L.length
  | 0 => rfl
  | k + 1 => by rw [diasL, quarterL_length, diasL_length L k]
theorem doubleL_length (L : List Int) : (doubleL L).length = L.length := by rw [doubleL, diasL_length, colsL_length]
theorem tenL_length (L : List Int) : ∀ k, (tenL L k).length = L.length
  | 0 => rfl
  | k + 1 => by rw [tenL, doubleL_length, tenL_length L k]
def sumsL (X F : List Int) (k : Nat) : List Int := ((List.range k).map fun i => (((wordN (X.getD i 0) + wordN (F.getD i 0)) % 4294967296 : Nat) : Int)) ++ X.drop k
theorem sumsL_length {X : List Int} (F : List Int) {k : Nat} (h : k ≤ X.length) : (sumsL X F k).length = X.length := by simp [sumsL]; omega
theorem sumsL_get {X : List Int} (F : List Int) {k : Nat} (h : k < X.length) : (sumsL X F k)[k]? = some (X.getD k 0) := by
  rw [sumsL, List.getElem?_append_right (by simp)]
  simp [List.getElem?_eq_getElem h]
theorem sumsL_set {X : List Int} (F : List Int) {k : Nat} (h : k < X.length) (z : Int) (hz : z = (((wordN (X.getD k 0) + wordN (F.getD k 0)) % 4294967296 : Nat) : Int)) : (sumsL X F k).set k z = sumsL X F (k + 1) := by
  subst hz
  simp only [sumsL]
  rw [List.set_append_right _ _ (by simp), List.length_map, List.length_range, Nat.sub_self, List.range_succ, List.map_append, List.append_assoc]
  congr 1
  rw [List.drop_eq_getElem_cons h]
  rfl
def firstL (key : List Int) (count : Int) (nonce : List Int) : List Int := [1634760805, 857760878, 2036477234, 1797285236] ++ wordsL false key 8 ++ [count] ++ wordsL false nonce 3
theorem firstL_length (key : List Int) (count : Int) (nonce : List Int) : (firstL key count nonce).length = 16 := by simp [firstL, wordsL]
def blkOk (n m : Nat) (count : Int) : Prop := n = 32 ∧ m = 12 ∧ 0 ≤ count ∧ count ≤ 4294967295
instance (n m : Nat) (count : Int) : Decidable (blkOk n m count) := inferInstanceAs (Decidable (_ ∧ _ ∧ _ ∧ _))
def blkB (key : List Int) (count : Int) (nonce : List Int) : List Int := bytesL false (sumsL (tenL (firstL key count nonce) 10) (firstL key count nonce) 16)
def blkN (n m : Nat) (count : Int) : Nat := if blkOk n m count then 64 else 0
def blkL (key : List Int) (count : Int) (nonce : List Int) : List Int := if blkOk key.length nonce.length count then blkB key count nonce else []
theorem blkB_length (key : List Int) (count : Int) (nonce : List Int) : (blkB key count nonce).length = 64 := by
  rw [blkB, bytesL_length, sumsL_length _ (by rw [tenL_length, firstL_length]; decide), tenL_length, firstL_length]
theorem blkL_length (key : List Int) (count : Int) (nonce : List Int) : (blkL key count nonce).length = blkN key.length nonce.length count := by
  unfold blkL blkN
  split
  · exact blkB_length _ _ _
  · rfl
end Go.Proofs.YthjapmdikbmmkaaDoor
namespace Go.Proofs.YthjapmdikbmmkaaDoor
open Go.RowKit
set_option maxRecDepth 100000
set_option maxHeartbeats 400000 in
theorem l5Double_any (p : Option Addr) (c : Nat) (L : List Int) (w : World) (hL : L.length = 16) (h : IntsIn w p 16 L) :
    Calls Tryd.prog 68 #[.slice p 16 c] w fun e w' => ∃ p' c', e = .returned (.slice p' 16 c') ∧ OwnI 3 w' w.heap.size w'.heap.size (.slice p' 16 c') 16 (doubleL L) ∧ Below w.heap.size w w' := by
  go_enter Tryd.func68, Tryd.ntmps68
  go_wp2_with (fail)
  have HC : Hid (∀ k, (colsL L k).length = 16) := fun k => by rw [colsL_length]; exact hL
  have HC0 : Hid (∀ k, quarterL (colsL L k) k (k + 4) (k + 8) (k + 12) = colsL L (k + 1)) := fun _ => rfl
  go_loopw [0, 3] (fun v i wr => ∃ (k : Nat) (q : Option Addr) (cc : Nat), k ≤ 4 ∧ i = .int .i64 k ∧ v = .slice q 16 cc ∧ IntsIn wr q 16 (colsL L k) ∧ Below w.heap.size w wr)
    (fun _ i _ => 4 - (intOf i).toNat)
  case atStart => exact ⟨0, p, c, by omega, rfl, rfl, h, Below.refl _ _⟩
  case round =>
    obtain ⟨k, q, cc, hk, rfl, rfl, hI, hb⟩ := hrel
    by_cases hlt : k < 4
    · have CQ := specQuarter_yes q cc (colsL L k) k (k + 4) (k + 8) (k + 12) wr (HC.out k) hI (by omega) (by omega) (by omega) (by omega) (by omega) (by omega) (by omega) (by omega) (by omega) (by omega)
      rw [HC0.out k, show ((k + 4 : Nat) : Int) = (k : Int) + 4 by omega, show ((k + 8 : Nat) : Int) = (k : Int) + 8 by omega, show ((k + 12 : Nat) : Int) = (k : Int) + 12 by omega] at CQ
      obtain ⟨X, hX⟩ : ∃ X, X = colsL L (k + 1) := ⟨_, rfl⟩
      rw [← hX] at CQ
      replace hX : Hid (X = colsL L (k + 1)) := hX
      clear hI
      go_wp2_with (fail)
      refine CQ.mono ?_
      rintro e w1 ⟨p1, c1, rfl, r1, b1⟩
      rw [hX.out] at r1
      have hI1 := r1.ints
      clear CQ r1
      go_wp2
      go_roundw
      case rel => exact ⟨k + 1, p1, c1, by omega, by go_num, rfl, hI1, below_on hb b1⟩
      case measure => simp [intOf]; omega
    · have hk4 : k = 4 := by omega
      have hnl : ¬ (k : Int) < 4 := by omega
      rw [hk4] at hI
      clear hk4
      have hD : (colsL L 4).length = 16 := HC.out 4
      have HE : Hid (doubleL L = diasL (colsL L 4) 4) := rfl
      generalize colsL L 4 = M at hI hD HE
      have HD : Hid (∀ k, (diasL M k).length = 16) := fun k => by rw [diasL_length]; exact hD
      have HD0 : Hid (∀ k, quarterL (diasL M k) k (4 + (k + 1) % 4) (8 + (k + 2) % 4) (12 + (k + 3) % 4) = diasL M (k + 1)) := fun _ => rfl
      clear HC HC0 h hL
      go_wp2_with (fail)
      obtain ⟨wo, hwo⟩ : ∃ wo, wo = wr := ⟨_, rfl⟩
      subst hwo
      go_loopw [0, 4] (fun v i wx => ∃ (k : Nat) (q : Option Addr) (cc lo hi : Nat), k ≤ 4 ∧ i = .int .i64 k ∧ v = .slice q 16 cc ∧ IntsIn wx q 16 (diasL M k) ∧ Hid (0 < k → w.heap.size ≤ lo ∧ hi ≤ wx.heap.size ∧ OwnI 3 wx lo hi (.slice q 16 cc) 16 (diasL M k)) ∧ Below w.heap.size w wx)
        (fun _ i _ => 4 - (intOf i).toNat)
      case atStart => exact ⟨0, q, cc, 0, 0, by omega, rfl, rfl, hI, fun h => absurd h (by omega), hb⟩
      case round =>
        clear hI hb
        obtain ⟨k, q, cc, lo, hh, hk, rfl, rfl, hI, hO, hb⟩ := hrel
        by_cases hlt : k < 4
        · have CQ := specQuarter_yes q cc (diasL M k) k (4 + (k + 1) % 4) (8 + (k + 2) % 4) (12 + (k + 3) % 4) wr (HD.out k) hI (by omega) (by omega) (by omega) (by omega) (by omega) (by omega) (by omega) (by omega) (by omega) (by omega)
          rw [HD0.out k] at CQ
          obtain ⟨X, hX⟩ : ∃ X, X = diasL M (k + 1) := ⟨_, rfl⟩
          rw [← hX] at CQ
          replace hX : Hid (X = diasL M (k + 1)) := hX
          rw [show ((4 + (k + 1) % 4 : Nat) : Int) = 4 + ((k : Int) + 1) % 4 by omega, show ((8 + (k + 2) % 4 : Nat) : Int) = 8 + ((k : Int) + 2) % 4 by omega, show ((12 + (k + 3) % 4 : Nat) : Int) = 12 + ((k : Int) + 3) % 4 by omega] at CQ
          have hlt' : (k : Int) < 4 := by omega
          replace CQ : Hid (Calls Tryd.prog 81 _ wr _) := CQ
          clear hI hO
          go_wp2_with (fail)
          refine CQ.out.mono ?_
          rintro e w1 ⟨p1, c1, rfl, r1, b1⟩
          rw [hX.out] at r1
          have hI1 := r1.ints
          have hO1 : Hid (0 < k + 1 → w.heap.size ≤ wr.heap.size ∧ w1.heap.size ≤ w1.heap.size ∧ OwnI 3 w1 wr.heap.size w1.heap.size (.slice p1 16 c1) 16 (diasL M (k + 1))) := fun _ => ⟨hb.size, Nat.le_refl _, r1⟩
          clear CQ r1
          go_wp2
          go_roundw
          case rel => exact ⟨k + 1, p1, c1, _, _, by omega, by go_num, rfl, hI1, hO1, below_on hb b1⟩
          case measure => simp [intOf]; omega
        · have hk4 : k = 4 := by omega
          have hnl : ¬ (k : Int) < 4 := by omega
          obtain ⟨g1, g2, g3⟩ := hO.out (by omega)
          rw [hk4, ← HE.out] at g3
          clear hk4 hI hO
          go_wp2
          go_ret
          exact ⟨_, _, rfl, ⟨owns_mono g3.1 g1, fun k hk => Nat.lt_of_lt_of_le (g3.2 k hk) g2⟩, hb⟩
theorem cell_grownQ {w w' : World} {r : Nat} {p : Addr} (h : w.grownBy w' (some r)) (h1 : p.block < w.heap.size) (h2 : p.block ≠ r) : w'.cell? p = w.cell? p := by
  simp only [World.cell?, h.block p.block h1 (by simp; exact h2)]
set_option maxHeartbeats 1000000 in
theorem specBlk_yes (p q : Option Addr) (c d : Nat) (ks ns : List Int) (count : Int) (w : World) (hx : ks.length = 32) (hy : ns.length = 12) (h : BytesIn w p 32 ks) (h' : BytesIn w q 12 ns) (hb1 : ∀ x ∈ ks, 0 ≤ x ∧ x < 256) (hb2 : ∀ x ∈ ns, 0 ≤ x ∧ x < 256) (hc : 0 ≤ count ∧ count ≤ 4294967295) :
    Calls Tryd.prog 50 #[.slice p 32 c, .int .i64 count, .slice q 12 d] w fun e w' => ∃ p' c', e = .returned (.slice p' 64 c') ∧ Own 5 w' w.heap.size w'.heap.size (.slice p' 64 c') 64 (blkB ks count ns) ∧ Below w.heap.size w w' := by
  obtain ⟨i0, hi, hz0, hz1, hz2⟩ := info_parts infoInt
  have CI : ∀ X, Calls Tryd.prog 34 #[.int .i64 count, .int .i64 0, .int .i64 4294967295] X fun e w' => e = .returned (.bool true) ∧ w' = X := fun X => by
    have := l1In_is count 0 4294967295 X
    rw [decide_eq_true hc] at this
    exact this
  have C1 := fun X hX => specWords_any p 32 c false ks X (by omega) hx hX hb1
  have C2 := fun X hX => specWords_any q 12 d false ns X (by omega) hy hX hb2
  have l1 : (wordsL false ks (32 / 4)).length = 8 := by simp [wordsL]
  have l2 : (wordsL false ns (12 / 4)).length = 3 := by simp [wordsL]
  have HF : Hid ([1634760805, 857760878, 2036477234, 1797285236] ++ wordsL false ks (32 / 4) ++ [count] ++ wordsL false ns (12 / 4) = firstL ks count ns) := rfl
  have HB : Hid (bytesL false (sumsL (tenL (firstL ks count ns) 10) (firstL ks count ns) 16) = blkB ks count ns) := rfl
  have lF := firstL_length ks count ns
  simp only [Nat.reduceDiv] at C1 C2 l1 l2 HF
  generalize firstL ks count ns = F at HF HB lF
  generalize wordsL false ks 8 = W1 at C1 l1 HF
  generalize wordsL false ns 3 = W2 at C2 l2 HF
  have hown0 : (w.alloc (.cells #[.int .i64 1634760805, .int .i64 857760878, .int .i64 2036477234, .int .i64 1797285236] 3)).ownsRow w.heap.size 3 1 (.slice (some ⟨w.heap.size, 0, none⟩) 4 4) 4 (([1634760805, 857760878, 2036477234, 1797285236] : List Int).map (Value.int .i64)) :=
    ⟨rfl, .inr ⟨w.heap.size, 4, _, rfl, Nat.le_refl _, heap_alloc_new w _, Nat.le_refl _, by unfold maxLen; omega, rfl, rfl⟩⟩
  have hb0 : Below w.heap.size w (w.alloc (.cells #[.int .i64 1634760805, .int .i64 857760878, .int .i64 2036477234, .int .i64 1797285236] 3)) := (Below.refl _ _).alloc (Nat.le_refl _) _
  generalize hCC : ([1634760805, 857760878, 2036477234, 1797285236] : List Int) = CC at hown0 HF
  clear hCC
  go_enter Tryd.func50, Tryd.ntmps50
  go_wp2_with (fail)
  refine (CI _).mono ?_
  rintro e w1 ⟨rfl, hw1⟩
  obtain rfl := hw1.symm
  clear CI
  go_wp2_with (fail)
  generalize w.alloc (.cells #[.int .i64 1634760805, .int .i64 857760878, .int .i64 2036477234, .int .i64 1797285236] 3) = wa at hown0 hb0 ⊢
  refine (C1 _ (in_below h hb0)).mono ?_
  rintro e wb ⟨p2, c2, rfl, r2, b2⟩
  have ho := owns_below hown0 b2
  have hin := r2.ints
  have bel := below_on hb0 b2
  have hs := bel.size
  clear C1 hown0 hb0 r2 b2
  go_wp2_with (first | (at_builtin; refine list_spreadI hi hz0 hz1 hz2 (.tmp 26) (.tmp 28) 64 Tryd.underlying64 ho hin l1 (by omega) (by omega) (by omega) hs (by rfl) (by rfl) (by rfl) (by rfl) ?_; intro g3 cap3 w3 ho3 hb3; have bel3 := bel.trans hb3; have hs3 := bel3.size) | (at_builtin; refine list_pushI hi hz0 hz1 hz2 (.tmp 30) (.tmp 32) 64 Tryd.underlying64 _ ho3 (by omega) hs3 (by rfl) (by rfl) (by rfl) (by rfl) ?_; intro g4 cap4 w4 ho4 hb4; have bel4 := bel3.trans hb4))
  refine (C2 _ (in_below h' bel4)).mono ?_
  rintro e w5 ⟨p5, c5, rfl, r5, b5⟩
  have ho5 := owns_below ho4 b5
  have hin5 := r5.ints
  have bel5 := below_on bel4 b5
  have hs5 := bel5.size
  clear C2 ho4 r5 b5 ho3 hb3 hb4 bel3 bel4 ho hin bel
  go_wp2_with (first | (at_builtin; refine list_spreadI hi hz0 hz1 hz2 (.tmp 34) (.tmp 36) 64 Tryd.underlying64 ho5 hin5 l2 (by omega) (by omega) (by omega) hs5 (by rfl) (by rfl) (by rfl) (by rfl) ?_; intro gf cf w6 ho6 hb6; rw [HF.out] at ho6; have bel6 := bel5.trans hb6; have hF := owns_inI ho6; have hx0 : (w6.alloc (.cells #[] 3)).ownsRow w6.heap.size 3 1 (.slice (some ⟨w6.heap.size, 0, none⟩) 0 0) 0 (([] : List Int).map (Value.int .i64)) := World.ownsRow_made w6 #[] 0 (Nat.le_refl _) (by unfold maxLen; omega) rfl; have bx0 : Below w6.heap.size w6 (w6.alloc (.cells #[] 3)) := (Below.refl _ _).alloc (Nat.le_refl _) _; have hF0 := in_belowI hF bx0) | (at_builtin; refine list_spreadI hi hz0 hz1 hz2 (.tmp 38) (.tmp 39) 64 Tryd.underlying64 hx0 hF0 lF (by omega) (by omega) (by omega) (by simp) (by rfl) (by rfl) (by rfl) (by rfl) ?_; intro gx cx w7 ho7 hb7; simp only [Nat.zero_add, List.nil_append] at ho7 ⊢))
  have hgf : gf < w6.heap.size := (ho6.lt gf rfl).2
  have b67 : Below w6.heap.size w6 w7 := bx0.trans hb7
  have bel7 := below_on bel6 b67
  have hF7 := in_belowI hF b67
  have hsw := bel6.size
  clear ho6 ho5 hin5 hF hx0 bx0 hF0 hb7 hb6 bel5
  have HT : Hid (∀ k, (tenL F k).length = 16) := fun k => by rw [tenL_length]; exact lF
  have HT0 : Hid (∀ k, doubleL (tenL F k) = tenL F (k + 1)) := fun _ => rfl
  go_loopw [8, 9] (fun v i wr => ∃ (k : Nat) (q : Option Addr) (cc : Nat), k ≤ 10 ∧ i = .int .i64 k ∧ v = .slice q 16 cc ∧ wr.ownsRow w6.heap.size 3 1 (.slice q 16 cc) 16 ((tenL F k).map (Value.int .i64)) ∧ IntsIn wr (some ⟨gf, 0, none⟩) 16 F ∧ Below w.heap.size w wr)
    (fun _ i _ => 10 - (intOf i).toNat)
  case atStart => exact ⟨0, _, cx, by omega, rfl, rfl, ho7, hF7, bel7⟩
  case round =>
    clear ho7 hF7 bel7
    obtain ⟨k, q, cc, hk, rfl, rfl, hX, hF, hb⟩ := hrel
    have hw6 : w6.heap.size ≤ wr.heap.size := Nat.le_trans (Nat.le_of_lt_succ (Nat.lt_succ_of_lt ((owns_at hX (by decide)).elim fun g e => by subst e; have := hX.lt g rfl; omega))) (Nat.le_refl _)
    by_cases hlt : k < 10
    · have CQ := l5Double_any q cc (tenL F k) wr (HT.out k) (owns_inI hX)
      rw [HT0.out k] at CQ
      obtain ⟨X, hXX⟩ : ∃ X, X = tenL F (k + 1) := ⟨_, rfl⟩
      rw [← hXX] at CQ
      replace hXX : Hid (X = tenL F (k + 1)) := hXX
      have hlt' : (k : Int) < 10 := by omega
      replace CQ : Hid (Calls Tryd.prog 68 _ wr _) := CQ
      clear hX
      go_wp2_with (fail)
      refine CQ.out.mono ?_
      rintro e w8 ⟨p8, c8, rfl, r8, b8⟩
      rw [hXX.out] at r8
      have hX8 := owns_mono r8.1 hw6
      have hF8 := in_belowI hF b8
      clear CQ r8 hF
      go_wp2
      go_roundw
      case rel => exact ⟨k + 1, p8, c8, by omega, by go_num, rfl, hX8, hF8, below_on hb b8⟩
      case measure => simp [intOf]; omega
    · have hk10 : k = 10 := by omega
      have hnl : ¬ (k : Int) < 10 := by omega
      rw [hk10] at hX
      clear hk10
      have lX : (tenL F 10).length = 16 := HT.out 10
      clear HT HT0
      generalize tenL F 10 = X at hX lX HB
      obtain ⟨gx, rfl⟩ := owns_at hX (by decide)
      obtain ⟨cx, hcx⟩ : ∃ cx, cx = cc := ⟨_, rfl⟩
      subst hcx
      have hgx := hX.lt gx rfl
      have hne : gf ≠ gx := by omega
      have h0 : wr.ownsRow w6.heap.size 3 1 (.slice (some ⟨gx, 0, none⟩) 16 cx) 16 ((sumsL X F 0).map (Value.int .i64)) := hX
      clear hX
      go_wp2_with (fail)
      obtain ⟨wo, hwo⟩ : ∃ wo, wo = wr := ⟨_, rfl⟩
      subst hwo
      go_loopw [10] (fun i wx => ∃ (k : Nat), k ≤ 16 ∧ i = .int .i64 k ∧ wx.ownsRow w6.heap.size 3 1 (.slice (some ⟨gx, 0, none⟩) 16 cx) 16 ((sumsL X F k).map (Value.int .i64)) ∧ IntsIn wx (some ⟨gf, 0, none⟩) 16 F ∧ Below w.heap.size w wx)
        (fun i _ => 16 - (intOf i).toNat)
      case atStart => exact ⟨0, by omega, rfl, h0, hF, hb⟩
      case round =>
        clear h0 hF hb
        obtain ⟨k, hk, rfl, hX, hF, hb⟩ := hrel
        by_cases hlt : k < 16
        · have hkX : k < X.length := by omega
          have hlt' : (k : Int) < 16 := by omega
          obtain ⟨u, hu⟩ : ∃ u, u = X.getD k 0 := ⟨_, rfl⟩
          obtain ⟨v, hv⟩ : ∃ v, v = F.getD k 0 := ⟨_, rfl⟩
          have cD : wr.cell? ⟨gx, k, none⟩ = some (.int .i64 u) := by rw [hX.cellAt k (by omega), List.getElem?_map, sumsL_get F hkX, hu]; rfl
          have cS : wr.cell? ⟨gf, k, none⟩ = some (.int .i64 v) := by
            obtain ⟨bb, oo, e1, e2⟩ := hF (by decide)
            simp only [Option.some.injEq, Addr.mk.injEq, and_true] at e1
            obtain ⟨rfl, rfl⟩ := e1
            have := e2 k (by omega)
            rw [Nat.zero_add] at this
            rw [this, hv]
          have hz : Hid (IntKind.i64.wrap (u + v) % 4294967296 = (((wordN (X.getD k 0) + wordN (F.getD k 0)) % 4294967296 : Nat) : Int)) := by rw [Hid, ← hu, ← hv]; exact wordN_add u v
          have hgfr : gf < wr.heap.size := World.block_lt_of_cell? wr ⟨gf, k, none⟩ cS
          have HS : Hid (∀ X, Below wr.heap.size wr X → X.cell? ⟨gx, k, none⟩ = some (.int .i64 u) ∧ X.cell? ⟨gf, k, none⟩ = some (.int .i64 v)) := fun X hX' => ⟨(hX'.cell (p := ⟨gx, k, none⟩) (hX.lt gx rfl).2).trans cD, (hX'.cell (p := ⟨gf, k, none⟩) hgfr).trans cS⟩
          clear hu hv
          go_wp2_with (fail)
          refine wp_region_noPanic ?_
          refine wp_region_K 13 (fun X => X.cell? ⟨gx, k, none⟩ = some (.int .i64 u) ∧ X.cell? ⟨gf, k, none⟩ = some (.int .i64 v)) (by kernel_rfl) ?_
          have hHeld := HS.out _ (below_drew0 wr)
          refine anyK_take (i := 0) (v := .slice (some ⟨gx, 0, none⟩) 16 cx) rfl rfl (by kernel_rfl) (by kernel_rfl) (by kernel_rfl) (by kernel_rfl) (by kernel_rfl) (fun _ _ _ h => h) (Or.inl ⟨by rfl, fun w hSw => by ((try dsimp only at hSw); go_simp)⟩) hHeld ?_
          walk_nrm
          refine anyK_take (i := 1) (v := .int .i64 (k : Int)) rfl rfl (by kernel_rfl) (by kernel_rfl) (by kernel_rfl) (by kernel_rfl) (by kernel_rfl) (fun _ _ _ h => h) (Or.inl ⟨by rfl, fun w hSw => by ((try dsimp only at hSw); go_simp)⟩) hHeld ?_
          walk_nrm
          refine anyK_take (i := 2) (v := .slice (some ⟨gx, 0, none⟩) 16 cx) rfl rfl (by kernel_rfl) (by kernel_rfl) (by kernel_rfl) (by kernel_rfl) (by kernel_rfl) (fun _ _ _ h => h) (Or.inl ⟨by rfl, fun w hSw => by ((try dsimp only at hSw); go_simp)⟩) hHeld ?_
          walk_nrm
          refine anyK_take (i := 3) (v := .int .i64 (k : Int)) rfl rfl (by kernel_rfl) (by kernel_rfl) (by kernel_rfl) (by kernel_rfl) (by kernel_rfl) (fun _ _ _ h => h) (Or.inl ⟨by rfl, fun w hSw => by ((try dsimp only at hSw); go_simp)⟩) hHeld ?_
          walk_nrm
          refine anyK_take (i := 4) (v := .pointer (some ⟨gx, k, none⟩)) rfl rfl (by kernel_rfl) (by kernel_rfl) (by kernel_rfl) (by kernel_rfl) (by kernel_rfl) (fun _ _ _ h => h) (Or.inl ⟨by rfl, fun w hSw => by ((try dsimp only at hSw); go_simp)⟩) hHeld ?_
          walk_nrm
          refine anyK_take (i := 5) (v := .int .i64 u) rfl rfl (by kernel_rfl) (by kernel_rfl) (by kernel_rfl) (by kernel_rfl) (by kernel_rfl) (fun _ _ _ h => h) (Or.inl ⟨by rfl, fun w hSw => by (obtain ⟨hSw1, hSw2⟩ := hSw; go_simp)⟩) hHeld ?_
          walk_nrm
          refine anyK_take (i := 6) (v := .slice (some ⟨gf, 0, none⟩) 16 cf) rfl rfl (by kernel_rfl) (by kernel_rfl) (by kernel_rfl) (by kernel_rfl) (by kernel_rfl) (fun _ _ _ h => h) (Or.inl ⟨by rfl, fun w hSw => by ((try dsimp only at hSw); go_simp)⟩) hHeld ?_
          walk_nrm
          refine anyK_take (i := 7) (v := .int .i64 (k : Int)) rfl rfl (by kernel_rfl) (by kernel_rfl) (by kernel_rfl) (by kernel_rfl) (by kernel_rfl) (fun _ _ _ h => h) (Or.inl ⟨by rfl, fun w hSw => by ((try dsimp only at hSw); go_simp)⟩) hHeld ?_
          walk_nrm
          refine anyK_take (i := 8) (v := .pointer (some ⟨gf, k, none⟩)) rfl rfl (by kernel_rfl) (by kernel_rfl) (by kernel_rfl) (by kernel_rfl) (by kernel_rfl) (fun _ _ _ h => h) (Or.inl ⟨by rfl, fun w hSw => by ((try dsimp only at hSw); go_simp)⟩) hHeld ?_
          walk_nrm
          refine anyK_take (i := 9) (v := .int .i64 v) rfl rfl (by kernel_rfl) (by kernel_rfl) (by kernel_rfl) (by kernel_rfl) (by kernel_rfl) (fun _ _ _ h => h) (Or.inl ⟨by rfl, fun w hSw => by (obtain ⟨hSw1, hSw2⟩ := hSw; go_simp)⟩) hHeld ?_
          walk_nrm
          refine anyK_take (i := 10) (v := .int .i64 (IntKind.i64.wrap (u + v))) rfl rfl (by kernel_rfl) (by kernel_rfl) (by kernel_rfl) (by kernel_rfl) (by kernel_rfl) (fun _ _ _ h => h) (Or.inl ⟨by rfl, fun w hSw => by ((try dsimp only at hSw); go_simp)⟩) hHeld ?_
          walk_nrm
          refine anyK_one (i := 11) (by kernel_rfl) rfl (fun K hK => ?_)
          go_simp
          refine (specWord_any _ _).mono ?_
          rintro e w9 ⟨rfl, b9'⟩
          have b9 := below_on (below_drew0 wr) b9'
          go_wp2_with (fail)
          refine hK.out _ _ (fun _ => HS.out _ b9) ?_
          clear hK K
          have hHeld9 := HS.out _ b9
          refine anyK_take (i := 12) (v := .pointer (some ⟨gx, k, none⟩)) rfl rfl (by kernel_rfl) (by kernel_rfl) (by kernel_rfl) (by kernel_rfl) (by kernel_rfl) (fun _ _ _ h => h) (Or.inl ⟨by rfl, fun w hSw => by ((try dsimp only at hSw); go_simp)⟩) hHeld9 ?_
          walk_nrm
          have cw9 := hHeld9.1
          have fz9 := (owns_below hX b9).frozenAt k
          have st := (owns_below hX b9).stored k (.int .i64 (IntKind.i64.wrap (u + v) % 4294967296))
          rw [← List.map_set, sumsL_set F hkX _ hz.out] at st
          have inF := in_belowI hF b9
          have inF2 : IntsIn (w9.setCell ⟨gx, k, none⟩ (.int .i64 (IntKind.i64.wrap (u + v) % 4294967296))) (some ⟨gf, 0, none⟩) 16 F := fun h0 => by
            obtain ⟨bb, oo, e1, e2⟩ := inF h0
            simp only [Option.some.injEq, Addr.mk.injEq, and_true] at e1
            obtain ⟨rfl, rfl⟩ := e1
            exact ⟨_, _, rfl, fun i hi => (cell_grownQ (p := ⟨gf, 0 + i, none⟩) st.2 (World.block_lt_of_cell? w9 ⟨gf, 0 + i, none⟩ (e2 i hi)) (show gf ≠ gx by omega)).trans (e2 i hi)⟩
          have belN : Below w.heap.size w (w9.setCell ⟨gx, k, none⟩ (.int .i64 (IntKind.i64.wrap (u + v) % 4294967296))) := (below_on hb b9).grown st.2 (below_on hb b9).size (fun i hi => by cases hi; omega)
          refine anyK_one (i := 13) (by kernel_rfl) rfl (fun K hK => ?_)
          go_simp
          refine hK.out _ _ (fun h => by cases h) ?_
          clear hK K
          refine anyK_done (by kernel_rfl) ?_ _
          refine NoPanic.normal ?_
          have stN := st.1
          clear hX hF hb HS b9 b9' hHeld hHeld9 cw9 fz9 st inF cD cS
          generalize w9.setCell ⟨gx, k, none⟩ (.int .i64 (IntKind.i64.wrap (u + v) % 4294967296)) = wc at stN inF2 belN ⊢
          go_wp2
          go_roundw
          case rel => exact ⟨k + 1, by omega, by go_num, stN, inF2, belN⟩
          case measure => simp [intOf]; omega
        · have hk16 : k = 16 := by omega
          have hnl2 : ¬ (k : Int) < 16 := by omega
          rw [hk16] at hX
          have CW := specWordBytes_any (some ⟨gx, 0, none⟩) 16 cx false (sumsL X F 16) wr (by omega) (by rw [sumsL_length F (by omega)]; exact lX) (owns_inI hX)
          rw [HB.out] at CW
          clear hk16
          replace CW : Hid (Calls Tryd.prog 70 _ wr _) := CW
          clear hX hF
          go_wp2_with (fail)
          refine CW.out.mono ?_
          rintro e w8 ⟨p8, c8, rfl, r8, b8⟩
          have hsr := hb.size
          go_wp2
          go_ret
          exact ⟨_, _, rfl, ⟨owns_mono r8.1 hsr, r8.2⟩, below_on hb b8⟩
theorem specBlk_no (p q : Option Addr) (n m c d : Nat) (count : Int) (w : World) (hno : ¬ blkOk n m count) :
    Calls Tryd.prog 50 #[.slice p n c, .int .i64 count, .slice q m d] w fun e w' => ∃ p' c', e = .returned (.slice p' 0 c') ∧ Own 5 w' w.heap.size w'.heap.size (.slice p' 0 c') 0 [] ∧ Below w.heap.size w w' := by
  unfold blkOk at hno
  by_cases h1 : n = 32
  rotate_left
  · have z1 : ((n : Int) != 32) = true := by simp; omega
    go_enter Tryd.func50, Tryd.ntmps50
    go_wp2
    go_ret
    exact ⟨_, _, rfl, .of (World.ownsRow_made w #[] 0 (Nat.le_refl _) (by unfold maxLen; omega) rfl), (Below.refl _ _).alloc (Nat.le_refl _) _⟩
  subst h1
  by_cases h2 : m = 12
  rotate_left
  · have z2 : ((m : Int) != 12) = true := by simp; omega
    go_enter Tryd.func50, Tryd.ntmps50
    go_wp2
    go_ret
    exact ⟨_, _, rfl, .of (World.ownsRow_made w #[] 0 (Nat.le_refl _) (by unfold maxLen; omega) rfl), (Below.refl _ _).alloc (Nat.le_refl _) _⟩
  subst h2
  have hc : ¬ (0 ≤ count ∧ count ≤ 4294967295) := fun e => hno ⟨rfl, rfl, e⟩
  have CI := l1In_is count 0 4294967295 w
  rw [decide_eq_false hc] at CI
  go_enter Tryd.func50, Tryd.ntmps50
  go_wp2_with (fail)
  refine CI.mono ?_
  rintro e w1 ⟨rfl, rfl⟩
  go_wp2
  go_ret
  exact ⟨_, _, rfl, .of (World.ownsRow_made _ #[] 0 (Nat.le_refl _) (by unfold maxLen; omega) rfl), (Below.refl _ _).alloc (Nat.le_refl _) _⟩
theorem specBlk_any (p q : Option Addr) (n m c d : Nat) (count : Int) (ks ns : List Int) (w : World) (hx : ks.length = n) (hy : ns.length = m) (h : BytesIn w p n ks) (h' : BytesIn w q m ns) (hb1 : ∀ x ∈ ks, 0 ≤ x ∧ x < 256) (hb2 : ∀ x ∈ ns, 0 ≤ x ∧ x < 256) :
    Calls Tryd.prog 50 #[.slice p n c, .int .i64 count, .slice q m d] w fun e w' => ∃ p' c', e = .returned (.slice p' (blkN n m count) c') ∧ Own 5 w' w.heap.size w'.heap.size (.slice p' (blkN n m count) c') (blkN n m count) (blkL ks count ns) ∧ Below w.heap.size w w' := by
  unfold blkN blkL
  rw [hx, hy]
  by_cases hok : blkOk n m count
  · rw [if_pos hok, if_pos hok]
    obtain ⟨rfl, rfl, hc⟩ := hok
    exact specBlk_yes p q c d ks ns count w hx hy h h' hb1 hb2 hc
  · rw [if_neg hok, if_neg hok]
    exact specBlk_no p q n m c d count w hok
end Go.Proofs.YthjapmdikbmmkaaDoor
