/-
  What the program's squared and ones answer. Conditions: a number below p, at most 1000 times or bits.
-/
import Derived.Test.YtghoibggmddkmaoFieldF
namespace Go.Proofs.Ytghoibggmddkmao
open Go.RowKit

theorem modP_range (z : Int) : 0 ≤ z % fldP ∧ z % fldP < fldP := ⟨Int.emod_nonneg _ (by have := fldP_pos; omega), Int.emod_lt_of_pos _ fldP_pos⟩
theorem modP_b4 (z : Int) : 0 ≤ z % fldP ∧ z % fldP < bU ^ 4 := by
  have h := modP_range z
  have := b4U
  omega
theorem powP_mul (x : Int) (a b : Nat) : (x ^ a % fldP) * (x ^ b % fldP) % fldP = x ^ (a + b) % fldP := by
  rw [left_mul, right_mul, ← Int.pow_add]
theorem powP_pow (x : Int) (a b : Nat) : (x ^ a % fldP) ^ b % fldP = x ^ (a * b) % fldP := by
  rw [left_pow, ← Int.pow_mul]
theorem two_pos (a : Nat) : 1 ≤ 2 ^ a := Nat.one_le_two_pow

set_option maxRecDepth 100000 in
set_option maxHeartbeats 8000000 in
theorem squared_any (x : Int) (n : Nat) (w : World) (hx0 : 0 ≤ x) (hx : x < fldP) (hn : n ≤ 1000) :
    Calls Try.prog 44 #[uP x, .int .i64 (n : Int)] w fun e w' => e = .returned (uP (x ^ 2 ^ n % fldP)) ∧ Below w.heap.size w w' := by
  have HV : Hid (∀ k, numU (x ^ 2 ^ k % fldP * (x ^ 2 ^ k % fldP) % fldP) = numU (x ^ 2 ^ (k + 1) % fldP)) := fun k => by
    show numU _ = _
    rw [powP_mul, Nat.pow_succ, Nat.mul_two]
  have CT : Hid (∀ k X, Calls Try.prog 27 #[uP (x ^ 2 ^ k % fldP), uP (x ^ 2 ^ k % fldP)] X fun e w' => e = .returned (uP (x ^ 2 ^ k % fldP * (x ^ 2 ^ k % fldP) % fldP)) ∧ Below X.heap.size X w') := fun k X => times_any _ _ X (modP_b4 _).1 (modP_b4 _).2 (modP_b4 _).1 (modP_b4 _).2
  have h0 : numU (x ^ 2 ^ 0 % fldP) = numU x := by rw [Nat.pow_zero, Int.pow_one, Int.emod_eq_of_lt hx0 hx]
  replace h0 : Hid (numU (x ^ 2 ^ 0 % fldP) = numU x) := h0
  clear hx0 hx
  have hz := (zero_of_info infoU4).1
  unfold uP
  obtain ⟨V, hV⟩ : ∃ V, V = numU (x ^ 2 ^ n % fldP) := ⟨_, rfl⟩
  rw [← hV]
  replace hV : Hid (V = numU (x ^ 2 ^ n % fldP)) := hV
  unfold uP at CT
  obtain ⟨A, hA⟩ : ∃ A, A = (uV (numU x) 4).toArray := ⟨_, rfl⟩
  obtain ⟨Z, hZ⟩ : ∃ Z, Z = (uV (fun _ => 0) 4).toArray := ⟨_, rfl⟩
  obtain ⟨m0, m1, bel0, sz⟩ := rows2 w (numU x) (fun _ => 0) hA hZ
  rw [← hA]
  rw [← hZ] at hz
  clear hA
  replace hZ : Hid (Z = (uV (fun _ => 0) 4).toArray) := hZ
  go_enter Try.func44, Try.ntmps44
  go_wp2_with (fail)
  obtain ⟨G1, hG1⟩ : ∃ G1, G1 = w.heap.size + 1 := ⟨_, rfl⟩
  rw [← hG1] at m1 sz ⊢
  generalize (w.alloc (.cells A 38)).alloc (.cells Z 38) = wb at m0 m1 bel0 sz ⊢
  have hne : w.heap.size ≠ G1 := by omega
  have hloR : w.heap.size ≤ G1 := by omega
  clear hG1 sz
  clear hZ
  rw [← h0.out] at m0
  go_loopw [6] (fun i wr => ∃ k : Nat, k ≤ n ∧ i = .int .i64 k ∧ RowU 38 4 wr w.heap.size w.heap.size (numU (x ^ 2 ^ k % fldP)) ∧ RowU 38 4 wr w.heap.size G1 (fun _ => 0) ∧ Below w.heap.size w wr)
    (fun i _ => n - (intOf i).toNat)
  case atStart => exact ⟨0, by omega, rfl, m0, m1, bel0⟩
  case round =>
    clear m0 m1 bel0 h0
    obtain ⟨k, hk, rfl, hn0, hr, bel⟩ := hrel
    by_cases hlt : k < n
    · have hlt' : (k : Int) < (n : Int) := by omega
      have C := CT.out k
      simp only [HV.out k] at C
      obtain ⟨U, hU⟩ : ∃ U, U = numU (x ^ 2 ^ (k + 1) % fldP) := ⟨_, rfl⟩
      rw [← hU] at C
      replace hU : Hid (U = numU (x ^ 2 ^ (k + 1) % fldP)) := hU
      generalize numU (x ^ 2 ^ k % fldP) = F at hn0 C
      have hra := hn0.range
      go_wp2_with (refine wpList_load_mid rfl 38 _ rfl w.heap.size 0 rfl (uV F 4) _ hra Try.underlying38 rfl sizeU ?_)
      refine (C _).mono ?_
      rintro e w2 ⟨rfl, b2⟩
      have hn2 := hn0.below b2
      have hr2 := hr.below b2
      have bel2 := below_on bel b2
      have hp := hn2.put (f' := U)
      have hth := hn2.there2 (f' := U)
      have hr3 := hr2.kept hp.2 hne.symm
      have hws := hn2.lt
      have bel3 := bel2.grown hp.2 (by omega) (fun k hk => by cases hk; exact Nat.le_refl _)
      have hn3 := hp.1
      clear hp hra hn0 hr bel b2 hn2 hr2 bel2 C
      go_wp2_with (refine wpList_store_mid rfl 38 _ _ rfl w.heap.size 0 (uV U 4).toArray rfl rfl hth sizeU2 (all_oneCell_toArray (uV_one U 4)) ?_)
      go_roundw
      case rel => exact ⟨k + 1, by omega, by go_num, by rw [← hU.out]; exact hn3, hr3, bel3⟩
      case measure => simp [intOf]; omega
    · obtain rfl : k = n := by omega
      have hno : ¬ (k : Int) < (k : Int) := by omega
      rw [← hV.out] at hn0
      have hra := hn0.range
      have hws := hn0.lt
      clear CT HV hV hn0
      have hra2 := hra
      have hp := RowU.put hr (f' := V)
      have hth := RowU.there2 hr (f' := V)
      have hbel := Below.grown bel hp.2 (by omega) (fun k hk => by cases hk; exact hloR)
      have hld := run_loadVar_mid (P := Try.prog) _ G1 0 38 _ _ hp.1.range Try.underlying38 rfl sizeU
      clear hp
      go_wp2_with (first | (refine wpList_load_mid rfl 38 _ rfl w.heap.size 0 rfl (uV V 4) _ hra2 Try.underlying38 rfl sizeU ?_) | (refine wpList_store_mid rfl 38 _ _ rfl G1 0 (uV V 4).toArray rfl rfl hth sizeU2 (all_oneCell_toArray (uV_one V 4)) ?_))
      (try simp only [Exit.inBlock, Exit.then])
      refine bodyPost_ret (v := .agg (uV V 4).toArray) ?_ rfl ⟨rfl, hbel⟩
      simp [results, asAddr, hld]

end Go.Proofs.Ytghoibggmddkmao
