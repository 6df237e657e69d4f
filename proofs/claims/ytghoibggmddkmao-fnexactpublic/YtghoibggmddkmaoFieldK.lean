/-
  What the program's cutPart answers, and readField of other than 32 bytes. Conditions: bytes; a capacity that is not less than the length.
-/
import Derived.Test.YtghoibggmddkmaoFieldJ
import Derived.Test.YtghoibggmddkmaoParts4
namespace Go.Proofs.Ytghoibggmddkmao
open Go.RowKit

theorem cut_run (b o c k8 k16 : Nat) (h8 : k16 = k8 + 8) (h32 : k16 ≤ 32) (hc : 32 ≤ c) (W : World) : (Instr.slice 22 (.slice (some ⟨b, o, none⟩) 32 c) (some (.int .i64 (k8 : Int))) (some (.int .i64 (k16 : Int))) (some (.int .i64 (k16 : Int)))).run Try.prog W = .ok (.slice (some ⟨b, o + k8, none⟩) 8 8) W := by
  have ht' : Try.prog.underlying 22 = some (.slice (Try.prog.elem 22)) := by simp [Program.elem, Try.underlying22]
  have he : Try.prog.elem 22 = 5 := by simp [Program.elem, Try.underlying22]
  obtain ⟨i0, hi, hz0, hz1, hz2⟩ := info_parts infoByte
  rw [run_slice_lhm W 22 _ _ _ ht' .i64 .i64 .i64 k8 k16 k16 (by omega) (by omega) (by omega) (by omega), he]
  have e1 : k16 - k8 = 8 := by omega
  have e2 : ¬ k16 = k8 := by omega
  simp [sizeOf, typeInfo, hi, hz1, sliced, Addr.add, e1, e2]

set_option maxRecDepth 100000 in
set_option maxHeartbeats 2000000 in
theorem cutPart_any (b o c k : Nat) (w : World) (hk : k < 4) (hc : 32 ≤ c) :
    Calls Try.prog 38 #[.slice (some ⟨b, o, none⟩) 32 c, .int .i64 (k : Int)] w fun e w' => e = .returned (.slice (some ⟨b, o + 8 * k, none⟩) 8 8) ∧ w' = w := by
  obtain ⟨k8, h8⟩ : ∃ k8, k8 = 8 * k := ⟨_, rfl⟩
  obtain ⟨k16, h16⟩ : ∃ k16, k16 = k8 + 8 := ⟨_, rfl⟩
  have hr := cut_run b o c k8 k16 h16 (by omega) hc
  have e1 : (k : Int) * 8 = (k8 : Int) := by omega
  have e2 : (k8 : Int) + 8 = (k16 : Int) := by omega
  have l1 : (k8 : Int) < 25 := by omega
  have l2 : (k16 : Int) < 33 := by omega
  rw [← h8]
  clear h8 h16 hk hc
  go_enter Try.func38, Try.ntmps38
  go_wp2_with (fail)
  go_ret
  exact ⟨rfl, rfl⟩

/-- The parts in the midst of reading. -/
def rdI (xs : List Int) (k p i : Nat) : Int := if i < k then (byN xs i 8 : Int) else if i = k then (byN xs k p : Int) else 0
theorem rdI_zero (xs : List Int) (i : Nat) : rdI xs 0 0 i = 0 := by
  unfold rdI
  rw [if_neg (by omega)]
  split <;> rfl
theorem rdI_at (xs : List Int) (k p : Nat) : rdI xs k p k = (byN xs k p : Int) := by rw [rdI, if_neg (by omega), if_pos rfl]
theorem rdI_step (xs : List Int) (k p i : Nat) : (if i = k then (byN xs k (p + 1) : Int) else rdI xs k p i) = rdI xs k (p + 1) i := by
  unfold rdI
  by_cases h : i = k
  · subst h; rw [if_pos rfl, if_neg (by omega), if_pos rfl]
  · rw [if_neg h]
    by_cases h2 : i < k
    · rw [if_pos h2, if_pos h2]
    · rw [if_neg h2, if_neg h2, if_neg h, if_neg h]
theorem rdI_next (xs : List Int) (k i : Nat) : rdI xs k 8 i = rdI xs (k + 1) 0 i := by
  unfold rdI
  by_cases h : i < k
  · rw [if_pos h, if_pos (by omega)]
  · rw [if_neg h]
    by_cases h2 : i = k
    · subst h2; rw [if_pos rfl, if_pos (by omega)]
    · rw [if_neg h2, if_neg (by omega)]
      split <;> rfl
theorem rdI_end (xs : List Int) {i : Nat} (hi : i < 4) : (if i = 3 then ((byN xs 3 8 % 9223372036854775808 : Nat) : Int) else rdI xs 4 0 i) = rdU xs i := by
  unfold rdU
  split
  · rfl
  · rw [rdI, if_pos hi]
theorem uP_zero : uV (numU 0) 4 = uV (fun _ => 0) 4 := uV_congr fun i _ => num_nought i

set_option maxRecDepth 100000 in
set_option maxHeartbeats 4000000 in
theorem readField_no (p : Option Addr) (n c : Nat) (w : World) (hn : n ≠ 32) :
    Calls Try.prog 24 #[.slice p n c] w fun e w' => e = .returned (.tuple #[uP 0, .bool false]) ∧ Below w.heap.size w w' := by
  have hz := (zero_of_info infoU4).1
  have hne : ((n : Int) != 32) = true := by simp; omega
  unfold uP
  rw [uP_zero]
  obtain ⟨Z, hZ⟩ : ∃ Z, Z = (uV (fun _ => 0) 4).toArray := ⟨_, rfl⟩
  obtain ⟨m0, m1, bel0, sz⟩ := rows2 w (fun _ => 0) (fun _ => 0) hZ hZ
  rw [← hZ] at hz
  have hra := m1.range
  have hp := m0.put (f' := fun _ => 0)
  have hth := m0.there2 (f' := fun _ => 0)
  have hbel := bel0.grown hp.2 (by omega) (fun k hk => by cases hk; exact Nat.le_refl _)
  have hld := run_loadVar_mid (P := Try.prog) _ w.heap.size 0 38 _ _ hp.1.range Try.underlying38 rfl sizeU
  have hone := uV_one (fun _ => 0) 4
  have hsz := sizeU (f := fun _ => 0)
  have hsz2 := sizeU2 (f := fun _ => 0)
  obtain ⟨Cs, hCs⟩ : ∃ Cs, Cs = uV (fun _ => 0) 4 := ⟨_, rfl⟩
  rw [← hCs] at hra hth hbel hld hone hsz hsz2
  rw [← hCs] at hZ ⊢
  clear hCs hp m0 m1 bel0 sz hn
  have hZ' : Hid (Z = Cs.toArray) := hZ
  clear hZ
  go_enter Try.func24, Try.ntmps24
  go_wp2_with (first | (refine wpList_load_mid rfl 38 _ rfl (w.heap.size + 1) 0 rfl Cs _ hra Try.underlying38 rfl hsz ?_) | (refine wpList_store_mid rfl 38 _ _ rfl w.heap.size 0 Cs.toArray rfl rfl hth hsz2 (all_oneCell_toArray hone) ?_))
  (try simp only [Exit.inBlock, Exit.then])
  refine bodyPost_ret (v := .tuple #[.agg Cs.toArray, .bool false]) ?_ rfl ⟨rfl, hbel⟩
  simp [results, asAddr, hld]

end Go.Proofs.Ytghoibggmddkmao
