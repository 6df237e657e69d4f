/-
  What FieldNum answers on both sides: the number as 32 bytes, 0 of those below 0. Condition: an int.
-/
import Derived.Test.YtghoibggmddkmaoLittle
import Derived.Test.YtghoibggmddkmaoFieldM
namespace Go.Proofs.Ytghoibggmddkmao
open Go.RowKit

/-- The number that FieldNum speaks of. -/
def nnZ (n : Int) : Int := if 0 < n then n else 0
theorem nnZ_range {n : Int} (h : n ≤ 9223372036854775807) : 0 ≤ nnZ n ∧ nnZ n ≤ 9223372036854775807 := by
  unfold nnZ
  split <;> omega
theorem at_getD {l : List Int} {j : Nat} (h : j < l.length) : l[j]? = some (l.getD j 0) := by
  rw [List.getD_eq_getElem?_getD, List.getElem?_eq_getElem h, Option.getD_some]
theorem numB_small {z : Int} (h0 : 0 ≤ z) (h1 : z ≤ 9223372036854775807) : numB z = littleL z 8 ++ List.replicate 24 0 := by
  have l1 := numB_length z
  have l2 := littleL_length z 8
  apply List.ext_getElem?
  intro j
  by_cases hj : j < 32
  · rw [at_getD (l := numB z) (by omega), numB_at z j hj]
    by_cases h8 : j < 8
    · rw [List.getElem?_append_left (by omega), at_getD (l := littleL z 8) (by omega), littleL_getD z 8 j h8]
      simp
    · rw [List.getElem?_append_right (by omega), List.getElem?_replicate, if_pos (by omega)]
      have hp : (256 : Int) ^ 8 ≤ 256 ^ j := by
        obtain ⟨r, rfl⟩ : ∃ r, j = 8 + r := ⟨j - 8, by omega⟩
        rw [Int.pow_add]
        have h2 : (0 : Int) < 256 ^ r := Int.pow_pos (by decide)
        have : (256 : Int) ^ 8 * 1 ≤ 256 ^ 8 * 256 ^ r := Int.mul_le_mul_of_nonneg_left (by omega) (by decide)
        omega
      have h8' : (256 : Int) ^ 8 = 18446744073709551616 := by decide
      rw [Int.ediv_eq_zero_of_lt h0 (by omega)]
      rfl
  · rw [List.getElem?_eq_none (by omega), List.getElem?_eq_none (by simp; omega)]
def lenV (v : Value) : Nat := match v with | .slice _ n _ => n | _ => 0

set_option maxRecDepth 100000 in
theorem l1Max_nn (n : Int) (w : World) : Calls Try.prog 22 #[.int .i64 n, .int .i64 0] w fun e w' => e = .returned (.int .i64 (nnZ n)) ∧ w' = w := by
  unfold nnZ
  by_cases h : 0 < n
  · rw [if_pos h]
    go_enter Try.func22, Try.ntmps22
    go_wp2
    go_ret
    exact ⟨rfl, rfl⟩
  · rw [if_neg h]
    go_enter Try.func22, Try.ntmps22
    go_wp2
    go_ret
    exact ⟨rfl, rfl⟩

set_option maxRecDepth 100000 in
set_option maxHeartbeats 4000000 in
theorem specFieldNum_any (n : Int) (w : World) (h63 : n ≤ 9223372036854775807) :
    Calls Try.prog 14 #[.int .i64 n] w fun e w' => ∃ p' c', e = .returned (.slice p' 32 c') ∧ Own 5 w' w.heap.size w'.heap.size (.slice p' 32 c') 32 (numB (nnZ n)) ∧ Below w.heap.size w w' := by
  obtain ⟨i0, hi, hz0, hz1, hz2⟩ := info_parts infoByte
  have hr := nnZ_range h63
  have CM := fun X => l1Max_nn n X
  have CL := fun X => specLittle_yes (nnZ n) 8 X hr.1 hr.2 (by decide) (by decide)
  have hll := littleL_length (nnZ n) 8
  have hS : Hid (∀ k, littleL (nnZ n) 8 ++ List.replicate k 0 ++ [0] = littleL (nnZ n) 8 ++ List.replicate (k + 1) 0) := fun k => by
    rw [List.append_assoc, ← List.replicate_succ']
  have hE : Hid (numB (nnZ n) = littleL (nnZ n) 8 ++ List.replicate 24 0) := numB_small hr.1 hr.2
  generalize numB (nnZ n) = D at hE ⊢
  generalize littleL (nnZ n) 8 = ys at CL hll hS hE
  generalize nnZ n = z at CM CL hr
  have hown0 : (w.alloc (.cells #[] 5)).ownsRow w.heap.size 5 1 (.slice (some ⟨w.heap.size, 0, none⟩) 0 0) 0 (([] : List Int).map (Value.int .u8)) := World.ownsRow_made w #[] 0 (Nat.le_refl _) (by unfold maxLen; omega) rfl
  have hb0 : Below w.heap.size w (w.alloc (.cells #[] 5)) := (Below.refl _ _).alloc (Nat.le_refl _) _
  clear hr h63
  go_enter Try.func14, Try.ntmps14
  go_wp2_with (fail)
  refine (CM _).mono ?_
  rintro e w1 ⟨rfl, rfl⟩
  go_wp2_with (fail)
  refine (CL _).mono ?_
  rintro e w2 ⟨p2, c2, rfl, o2, b2⟩
  have hown1 := owns_below hown0 b2
  have hb1 := below_on hb0 b2
  have hs1 := hb1.size
  have hin := o2.bytes
  clear CM CL hown0 hb0 b2 o2
  go_wp2_with (at_builtin; refine list_spread hi hz0 hz1 hz2 (.tmp 4) (.tmp 7) 22 Try.underlying22 hown1 hin hll (by decide) (by decide) (by decide) hs1 (by rfl) (by rfl) (by rfl) (by rfl) ?_; intro g cap w3 ho hg hb)
  have hbw : Below w.heap.size w w3 := hb1.trans hb
  clear hg hown1 hin hb hb1 hs1
  go_loopw [3] (fun v wr => ∃ k : Nat, k ≤ 24 ∧ wr.ownsRow w.heap.size 5 1 v (8 + k) ((ys ++ List.replicate k 0).map (Value.int .u8)) ∧ Below w.heap.size w wr)
    (fun v _ => 32 - lenV v)
  case atStart => exact ⟨0, by omega, by simpa using ho, hbw⟩
  case round =>
    clear ho hbw
    obtain ⟨k, hk, hown, hbel⟩ := hrel
    have hsz := hbel.size
    obtain ⟨p', c', hv⟩ := owns_form hown
    subst hv
    by_cases hlt : k < 24
    · have hlt' : ((8 + k : Nat) : Int) < 32 := by omega
      have HN := hS.out k
      go_wp2_with (at_builtin; refine list_push hi hz0 hz1 hz2 (.tmp 12) (.tmp 13) 22 Try.underlying22 _ hown (by omega) hsz (by rfl) (by rfl) (by rfl) (by rfl) ?_; intro g1 cap1 w4 ho1 hb1; rw [HN] at ho1)
      go_roundw
      case rel => exact ⟨k + 1, by omega, ho1, hbel.trans hb1⟩
      case measure => simp [lenV]; omega
    · obtain rfl : k = 24 := by omega
      have hnl : ¬ (((8 + 24 : Nat)) : Int) < 32 := by omega
      rw [← hE.out] at hown
      go_wp2
      go_ret
      exact ⟨_, _, rfl, .of hown, hbel⟩

set_option maxRecDepth 100000 in
set_option maxHeartbeats 4000000 in
theorem implFieldNum_any (n : Int) (w : World) (h63 : n ≤ 9223372036854775807) :
    Calls Try.prog 16 #[.int .i64 n] w fun e w' => ∃ p' c', e = .returned (.slice p' 32 c') ∧ Own 5 w' w.heap.size w'.heap.size (.slice p' 32 c') 32 (numB (nnZ n)) ∧ Below w.heap.size w w' := by
  have hr := nnZ_range h63
  have CB := fun X => bytesU_any (nnZ n) X
  have hb : ∀ w, (Instr.build 38 #[(0, .int .u64 (nnZ n))]).run Try.prog w = .ok (.agg (uV (numU (nnZ n)) 4).toArray) w := fun w => by
    have e : uV (numU (nnZ n)) 4 = uV (fun k => if k = 0 then nnZ n else 0) 4 := uV_congr fun i _ => num_one hr.1 (by unfold bU; omega) i
    rw [e]
    exact run_build w 38 _ _ (by kernel_rfl)
  unfold uP at CB
  have hmx : max n 0 = nnZ n := by unfold nnZ; split <;> omega
  have hmx' : (if n ≤ 0 then 0 else n) = nnZ n := by unfold nnZ; split <;> split <;> omega
  generalize numB (nnZ n) = D at CB ⊢
  obtain ⟨z, hz⟩ : ∃ z, z = nnZ n := ⟨_, rfl⟩
  rw [← hz] at hr CB hb hmx hmx'
  have ez : z % 18446744073709551616 = z := by omega
  replace hz : Hid (z = if 0 < n then n else 0) := hz
  by_cases h0 : 0 < n
  · have hzn : z = n := by rw [hz.out, if_pos h0]
    subst hzn
    clear hz hmx hmx' h63
    go_enter Try.func16, Try.ntmps16
    go_wp2_with (refine wpList_build_run rfl 38 #[(0, .tmp 5)] rfl #[(0, .int .u64 z)] (by simp [Act.eval]) (hb _) ?_)
    refine (CB _).mono ?_
    rintro e w1 ⟨p1, rfl, o1, b1⟩
    go_wp2_with (fail)
    go_ret
    exact ⟨_, _, rfl, o1, b1⟩
  · have hzn : z = 0 := by rw [hz.out, if_neg h0]
    subst hzn
    clear hz hmx hmx' h63
    by_cases h1 : n = 0
    · subst h1
      go_enter Try.func16, Try.ntmps16
      go_wp2_with (refine wpList_build_run rfl 38 #[(0, .tmp 5)] rfl #[(0, .int .u64 0)] (by simp [Act.eval]) (hb _) ?_)
      refine (CB _).mono ?_
      rintro e w1 ⟨p1, rfl, o1, b1⟩
      go_wp2_with (fail)
      go_ret
      exact ⟨_, _, rfl, o1, b1⟩
    · have h2 : n < 0 := by omega
      have h3 : ¬ 0 ≤ n := by omega
      go_enter Try.func16, Try.ntmps16
      go_wp2_with (refine wpList_build_run rfl 38 #[(0, .tmp 5)] rfl #[(0, .int .u64 0)] (by simp [Act.eval]; omega) (hb _) ?_)
      refine (CB _).mono ?_
      rintro e w1 ⟨p1, rfl, o1, b1⟩
      go_wp2_with (fail)
      go_ret
      exact ⟨_, _, rfl, o1, b1⟩

end Go.Proofs.Ytghoibggmddkmao
