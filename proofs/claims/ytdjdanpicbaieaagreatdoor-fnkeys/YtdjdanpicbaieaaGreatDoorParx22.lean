/-
  The bytes of numbers of four parts: plain laws.
  What the program's cutPart answers, and readField of other than 32 bytes. Conditions: bytes; a capacity that is not less than the length.
  What the program's bytes answers. Conditions: bytes; a capacity that is not less than the length.
  What FieldNum answers on both sides: the number as 32 bytes, 0 of those below 0. Condition: an int.
  What the specification's Point, Public and Agreed answer at whatever bytes. Condition: bytes all.
  What the program's readField answers of 32 bytes. Conditions: bytes; a capacity that is not less than the length.
  What the program's readField answers, together. Conditions: bytes; a capacity that is not less than the length.
-/
import Derived.Test.YtdjdanpicbaieaaGreatDoorParx21
import Derived.Laws.BitsAllLaws
import Derived.Test.YtdjdanpicbaieaaGreatDoorParx02
import Derived.Test.YtdjdanpicbaieaaGreatDoorParx20
namespace Go.Proofs.YtdjdanpicbaieaaGreatDoor
open Go.RowKit
set_option maxRecDepth 100000

theorem cutD (q C D E : Int) (hC : 0 < C) : q % (C * (D * E)) / C % D = q / C % D := by
  have h := Int.mul_ediv_add_emod q (C * (D * E))
  have e : q = q % (C * (D * E)) + C * (D * (E * (q / (C * (D * E))))) := by
    have : C * (D * E) * (q / (C * (D * E))) = C * (D * (E * (q / (C * (D * E))))) := by simp only [Int.mul_assoc]
    omega
  have e2 : q / C = q % (C * (D * E)) / C + D * (E * (q / (C * (D * E)))) := by
    conv => lhs; rw [e]
    rw [Int.add_mul_ediv_left _ _ (by omega)]
  rw [e2, Int.add_mul_emod_self_left]
theorem bU_cut (p : Nat) (hp : p < 8) : ∃ E : Int, bU = 2 ^ (8 * p) * (256 * E) := by
  have hc : p = 0 ∨ p = 1 ∨ p = 2 ∨ p = 3 ∨ p = 4 ∨ p = 5 ∨ p = 6 ∨ p = 7 := by omega
  rcases hc with rfl | rfl | rfl | rfl | rfl | rfl | rfl | rfl
  · exact ⟨72057594037927936, by decide⟩
  · exact ⟨281474976710656, by decide⟩
  · exact ⟨1099511627776, by decide⟩
  · exact ⟨4294967296, by decide⟩
  · exact ⟨16777216, by decide⟩
  · exact ⟨65536, by decide⟩
  · exact ⟨256, by decide⟩
  · exact ⟨1, by decide⟩
theorem pow8 (p : Nat) : (2 : Int) ^ (8 * p) = 256 ^ p := by rw [Int.pow_mul]; rfl
theorem powB (i : Nat) : bU ^ i = 256 ^ (8 * i) := by rw [Int.pow_mul]; rfl
theorem byte_num (z : Int) (i p : Nat) (hp : p < 8) : numU z i / 2 ^ (8 * p) % 256 = z / 256 ^ (8 * i + p) % 256 := by
  obtain ⟨E, hE⟩ := bU_cut p hp
  have h2 : (0 : Int) < 2 ^ (8 * p) := Int.pow_pos (by decide)
  have hB := powU_pos i
  rw [numU]
  conv => lhs; lhs; lhs; rhs; rw [hE]
  rw [cutD _ _ _ _ h2, Int.ediv_ediv_of_nonneg (by omega), pow8, powB, ← Int.pow_add]
theorem numB_at (z : Int) (j : Nat) (hj : j < 32) : (numB z).getD j 0 = z / 256 ^ j % 256 := by
  have e16 : ∀ i : Nat, (65536 : Int) ^ i = 256 ^ (2 * i) := fun i => by rw [Int.pow_mul]; rfl
  have hp : ∀ i : Nat, (0 : Int) < 65536 ^ i := fun i => Int.pow_pos (by decide)
  rcases Nat.mod_two_eq_zero_or_one j with h | h
  · obtain ⟨i, rfl⟩ : ∃ i, j = 2 * i := ⟨j / 2, by omega⟩
    rw [numB_lo z i (by omega), ← e16]
    generalize z / 65536 ^ i = q
    omega
  · obtain ⟨i, rfl⟩ : ∃ i, j = 2 * i + 1 := ⟨j / 2, by omega⟩
    have e : z / 256 ^ (2 * i + 1) = z / 65536 ^ i / 256 := by
      rw [Int.ediv_ediv_of_nonneg (by have := hp i; omega), e16, ← Int.pow_succ]
    rw [numB_hi z i (by omega), e]
    generalize z / 65536 ^ i = q
    omega
theorem byte_at (z : Int) (i p : Nat) (hi : i < 4) (hp : p < 8) : numU z i / 2 ^ (8 * p) % 256 = (numB z).getD (8 * i + p) 0 := by
  rw [byte_num z i p hp, numB_at z (8 * i + p) (by omega)]
/-- A part in the midst of its bytes. -/
def byN (xs : List Int) (i : Nat) : Nat → Nat
  | 0 => 0
  | p + 1 => byN xs i p + (xs.getD (8 * i + p) 0).toNat * 2 ^ (8 * p)
theorem byN_lt {xs : List Int} (hb : ∀ x ∈ xs, 0 ≤ x ∧ x < 256) (i : Nat) : ∀ p, byN xs i p < 2 ^ (8 * p)
  | 0 => by simp [byN]
  | p + 1 => by
    have ih := byN_lt hb i p
    have hx := byteZ hb (8 * i + p)
    have h1 : (xs.getD (8 * i + p) 0).toNat * 2 ^ (8 * p) ≤ 255 * 2 ^ (8 * p) := Nat.mul_le_mul_right _ (by omega)
    rw [byN, show 8 * (p + 1) = 8 * p + 8 by omega, Nat.pow_add]
    omega
theorem or_low {a b i : Nat} (ha : a < 2 ^ i) : a ||| b * 2 ^ i = a + b * 2 ^ i := by
  have h := Nat.two_pow_add_eq_or_of_lt ha b
  rw [Nat.or_comm, Nat.mul_comm b, ← h, Nat.add_comm]
theorem or_step {xs : List Int} (hb : ∀ x ∈ xs, 0 ≤ x ∧ x < 256) (i p : Nat) (hp : p < 8) : bits .or .u64 (byN xs i p : Int) (((xs.getD (8 * i + p) 0).toNat * 2 ^ (8 * p) : Nat) : Int) = (byN xs i (p + 1) : Int) := by
  have h1 := byN_lt hb i p
  have h2 := byN_lt hb i (p + 1)
  have h3 : 2 ^ (8 * (p + 1)) ≤ 2 ^ 64 := Nat.pow_le_pow_right (by decide) (by omega)
  have h4 : 2 ^ (8 * p) ≤ 2 ^ 64 := Nat.pow_le_pow_right (by decide) (by omega)
  have e64 : (2 : Nat) ^ 64 = 18446744073709551616 := by decide
  rw [byN] at h2 ⊢
  rw [bits_or_u64_nat _ _ (by omega) (by omega), or_low h1]
theorem top_off (v : Nat) (hv : v < 18446744073709551616) : bits .andNot .u64 (v : Int) 9223372036854775808 = ((v % 9223372036854775808 : Nat) : Int) := by
  have h := u64_andNot_nat v 9223372036854775808 hv (by omega)
  have e : v &&& (18446744073709551615 - 9223372036854775808) = v % 9223372036854775808 := Nat.and_two_pow_sub_one_eq_mod v 63
  rw [e] at h
  exact h
/-- The parts of 32 bytes, the highest bit left away. -/
def rdU (xs : List Int) (i : Nat) : Int := if i = 3 then ((byN xs 3 8 % 9223372036854775808 : Nat) : Int) else (byN xs i 8 : Int)
theorem rdU_range {xs : List Int} (hb : ∀ x ∈ xs, 0 ≤ x ∧ x < 256) (i : Nat) : 0 ≤ rdU xs i ∧ rdU xs i < bU := by
  have h := byN_lt hb i 8
  have e64 : (2 : Nat) ^ (8 * 8) = 18446744073709551616 := by decide
  unfold rdU bU
  split <;> omega
theorem val_rdU {xs : List Int} (hb : ∀ x ∈ xs, 0 ≤ x ∧ x < 256) : valU (rdU xs) 4 = numF xs := by
  have hz : ∀ j, ((xs.getD j 0).toNat : Int) = xs.getD j 0 := fun j => Int.toNat_of_nonneg (byteZ hb j).1
  have hr := fun j => byteZ hb j
  have top : ∀ L M : Nat, L < 281474976710656 → (L + M * 281474976710656) % 9223372036854775808 = L + (M % 32768) * 281474976710656 := fun L M h => by omega
  have h6 := byN_lt hb 3 6
  have e6 : (2 : Nat) ^ (8 * 6) = 281474976710656 := by decide
  rw [e6] at h6
  have e8 : byN xs 3 8 = byN xs 3 6 + ((xs.getD 30 0).toNat + 256 * (xs.getD 31 0).toNat) * 281474976710656 := by
    simp only [byN, Nat.reduceMul, Nat.reduceAdd, Nat.reducePow]
    omega
  have et : ((byN xs 3 8 % 9223372036854775808 : Nat) : Int) = (byN xs 3 6 : Int) + (pairZ xs 15 % 32768) * 281474976710656 := by
    rw [e8, top _ _ h6]
    have h30 := hz 30
    have h31 := hz 31
    unfold pairZ
    simp only [Nat.reduceMul, Nat.reduceAdd]
    omega
  have part : ∀ i, (byN xs i 8 : Int) = pairZ xs (4 * i) + pairZ xs (4 * i + 1) * 65536 + pairZ xs (4 * i + 2) * 4294967296 + pairZ xs (4 * i + 3) * 281474976710656 := by
    intro i
    have h0 := hz (8 * i)
    have h1 := hz (8 * i + 1)
    have h2 := hz (8 * i + 2)
    have h3 := hz (8 * i + 3)
    have h4 := hz (8 * i + 4)
    have h5 := hz (8 * i + 5)
    have h6 := hz (8 * i + 6)
    have h7 := hz (8 * i + 7)
    unfold pairZ
    rw [show 2 * (4 * i) = 8 * i by omega, show 2 * (4 * i + 1) = 8 * i + 2 by omega, show 2 * (4 * i + 2) = 8 * i + 4 by omega, show 2 * (4 * i + 3) = 8 * i + 6 by omega]
    simp only [byN, Nat.add_zero, Nat.add_assoc, Nat.reduceAdd, Nat.reduceMul, Nat.reducePow]
    omega
  have part3 : (byN xs 3 6 : Int) = pairZ xs 12 + pairZ xs 13 * 65536 + pairZ xs 14 * 4294967296 := by
    have h0 := hz 24
    have h1 := hz 25
    have h2 := hz 26
    have h3 := hz 27
    have h4 := hz 28
    have h5 := hz 29
    unfold pairZ
    simp only [byN, Nat.add_zero, Nat.reduceMul, Nat.reduceAdd, Nat.reducePow]
    omega
  have p0 := part 0
  have p1 := part 1
  have p2 := part 2
  simp only [Nat.reduceMul, Nat.reduceAdd] at p0 p1 p2
  have l0 : rdU xs 0 = (byN xs 0 8 : Int) := rfl
  have l1 : rdU xs 1 = (byN xs 1 8 : Int) := rfl
  have l2 : rdU xs 2 = (byN xs 2 8 : Int) := rfl
  have l3 : rdU xs 3 = ((byN xs 3 8 % 9223372036854775808 : Nat) : Int) := rfl
  unfold numF
  have o : ∀ i, i ≠ 15 → ofZ xs i = pairZ xs i := fun i h => if_neg h
  have o15 : ofZ xs 15 = pairZ xs 15 % 32768 := if_pos rfl
  simp only [valU, valZ, l0, l1, l2, l3, et, part3, p0, p1, p2, bU, Int.reducePow, o 0 (by decide), o 1 (by decide), o 2 (by decide), o 3 (by decide), o 4 (by decide), o 5 (by decide), o 6 (by decide), o 7 (by decide), o 8 (by decide), o 9 (by decide), o 10 (by decide), o 11 (by decide), o 12 (by decide), o 13 (by decide), o 14 (by decide), o15]
  omega

end Go.Proofs.YtdjdanpicbaieaaGreatDoor

namespace Go.Proofs.YtdjdanpicbaieaaGreatDoor
open Go.RowKit

theorem cut_run (b o c k8 k16 : Nat) (h8 : k16 = k8 + 8) (h32 : k16 ≤ 32) (hc : 32 ≤ c) (W : World) : (Instr.slice 22 (.slice (some ⟨b, o, none⟩) 32 c) (some (.int .i64 (k8 : Int))) (some (.int .i64 (k16 : Int))) (some (.int .i64 (k16 : Int)))).run Tryz.prog W = .ok (.slice (some ⟨b, o + k8, none⟩) 8 8) W := by
  have ht' : Tryz.prog.underlying 22 = some (.slice (Tryz.prog.elem 22)) := by simp [Program.elem, Tryz.underlying22]
  have he : Tryz.prog.elem 22 = 5 := by simp [Program.elem, Tryz.underlying22]
  obtain ⟨i0, hi, hz0, hz1, hz2⟩ := info_parts infoByte
  rw [run_slice_lhm W 22 _ _ _ ht' .i64 .i64 .i64 k8 k16 k16 (by omega) (by omega) (by omega) (by omega), he]
  have e1 : k16 - k8 = 8 := by omega
  have e2 : ¬ k16 = k8 := by omega
  simp [sizeOf, typeInfo, hi, hz1, sliced, Addr.add, e1, e2]

set_option maxRecDepth 100000 in
set_option maxHeartbeats 2000000 in
theorem cutPart_any (b o c k : Nat) (w : World) (hk : k < 4) (hc : 32 ≤ c) :
    Calls Tryz.prog 95 #[.slice (some ⟨b, o, none⟩) 32 c, .int .i64 (k : Int)] w fun e w' => e = .returned (.slice (some ⟨b, o + 8 * k, none⟩) 8 8) ∧ w' = w := by
  obtain ⟨k8, h8⟩ : ∃ k8, k8 = 8 * k := ⟨_, rfl⟩
  obtain ⟨k16, h16⟩ : ∃ k16, k16 = k8 + 8 := ⟨_, rfl⟩
  have hr := cut_run b o c k8 k16 h16 (by omega) hc
  have e1 : (k : Int) * 8 = (k8 : Int) := by omega
  have e2 : (k8 : Int) + 8 = (k16 : Int) := by omega
  have l1 : (k8 : Int) < 25 := by omega
  have l2 : (k16 : Int) < 33 := by omega
  rw [← h8]
  clear h8 h16 hk hc
  go_enter Tryz.func95, Tryz.ntmps95
  go_wp2_with (fail)
  go_ret
  exact ⟨rfl, rfl⟩

/-- The parts in the midst of reading. -/
def rdI (xs : List Int) (k p i : Nat) : Int := if i < k then (byN xs i 8 : Int) else if i = k then (byN xs k p : Int) else 0
theorem rdI_zero (xs : List Int) (i : Nat) : rdI xs 0 0 i = 0 := by
  unfold rdI
  rw [if_neg (by omega)]
  split <;> rfl
theorem rdI_at (xs : List Int) (k p : Nat) : rdI xs k p k = (byN xs k p : Int) := by rw [rdI, if_neg (by omega), if_pos rfl]
theorem rdI_step (xs : List Int) (k p i : Nat) : (if i = k then (byN xs k (p + 1) : Int) else rdI xs k p i) = rdI xs k (p + 1) i := by
  unfold rdI
  by_cases h : i = k
  · subst h; rw [if_pos rfl, if_neg (by omega), if_pos rfl]
  · rw [if_neg h]
    by_cases h2 : i < k
    · rw [if_pos h2, if_pos h2]
    · rw [if_neg h2, if_neg h2, if_neg h, if_neg h]
theorem rdI_next (xs : List Int) (k i : Nat) : rdI xs k 8 i = rdI xs (k + 1) 0 i := by
  unfold rdI
  by_cases h : i < k
  · rw [if_pos h, if_pos (by omega)]
  · rw [if_neg h]
    by_cases h2 : i = k
    · subst h2; rw [if_pos rfl, if_pos (by omega)]
    · rw [if_neg h2, if_neg (by omega)]
      split <;> rfl
theorem rdI_end (xs : List Int) {i : Nat} (hi : i < 4) : (if i = 3 then ((byN xs 3 8 % 9223372036854775808 : Nat) : Int) else rdI xs 4 0 i) = rdU xs i := by
  unfold rdU
  split
  · rfl
  · rw [rdI, if_pos hi]
theorem uP_zero : uV (numU 0) 4 = uV (fun _ => 0) 4 := uV_congr fun i _ => num_nought i

set_option maxRecDepth 100000 in
set_option maxHeartbeats 4000000 in
theorem readField_no (p : Option Addr) (n c : Nat) (w : World) (hn : n ≠ 32) :
    Calls Tryz.prog 61 #[.slice p n c] w fun e w' => e = .returned (.tuple #[uP 0, .bool false]) ∧ Below w.heap.size w w' := by
  have hz := (zero_of_info infoU4).1
  have hne : ((n : Int) != 32) = true := by simp; omega
  unfold uP
  rw [uP_zero]
  obtain ⟨Z, hZ⟩ : ∃ Z, Z = (uV (fun _ => 0) 4).toArray := ⟨_, rfl⟩
  obtain ⟨m0, m1, bel0, sz⟩ := rows2 w (fun _ => 0) (fun _ => 0) hZ hZ
  rw [← hZ] at hz
  have hra := m1.range
  have hp := m0.put (f' := fun _ => 0)
  have hth := m0.there2 (f' := fun _ => 0)
  have hbel := bel0.grown hp.2 (by omega) (fun k hk => by cases hk; exact Nat.le_refl _)
  have hld := run_loadVar_mid (P := Tryz.prog) _ w.heap.size 0 84 _ _ hp.1.range Tryz.underlying84 rfl sizeU
  have hone := uV_one (fun _ => 0) 4
  have hsz := sizeU (f := fun _ => 0)
  have hsz2 := sizeU2 (f := fun _ => 0)
  obtain ⟨Cs, hCs⟩ : ∃ Cs, Cs = uV (fun _ => 0) 4 := ⟨_, rfl⟩
  rw [← hCs] at hra hth hbel hld hone hsz hsz2
  rw [← hCs] at hZ ⊢
  clear hCs hp m0 m1 bel0 sz hn
  have hZ' : Hid (Z = Cs.toArray) := hZ
  clear hZ
  go_enter Tryz.func61, Tryz.ntmps61
  go_wp2_with (first | (refine wpList_load_mid rfl 84 _ rfl (w.heap.size + 1) 0 rfl Cs _ hra Tryz.underlying84 rfl hsz ?_) | (refine wpList_store_mid rfl 84 _ _ rfl w.heap.size 0 Cs.toArray rfl rfl hth hsz2 (all_oneCell_toArray hone) ?_))
  (try simp only [Exit.inBlock, Exit.then])
  refine bodyPost_ret (v := .tuple #[.agg Cs.toArray, .bool false]) ?_ rfl ⟨rfl, hbel⟩
  simp [results, asAddr, hld]

end Go.Proofs.YtdjdanpicbaieaaGreatDoor

namespace Go.Proofs.YtdjdanpicbaieaaGreatDoor
open Go.RowKit

set_option maxRecDepth 100000 in
set_option maxHeartbeats 8000000 in
theorem bytesU_any (z : Int) (w : World) :
    Calls Tryz.prog 66 #[uP z] w fun e w' => ∃ p', e = .returned (.slice p' 32 32) ∧ Own 5 w' w.heap.size w'.heap.size (.slice p' 32 32) 32 (numB z) ∧ Below w.heap.size w w' := by
  obtain ⟨i0, hi, hz0, hz1, hz2⟩ := info_parts infoByte
  have HG : Hid (∀ i, i < 4 → ∀ p, p < 8 → numU z i / 2 ^ (8 * p) % 256 = (numB z).getD (8 * i + p) 0) := fun i hi p hp => byte_at z i p hi hp
  have hxl := numB_length z
  have m0 := RowU.made w 84 4 w.heap.size (numU z) (by decide) (Nat.le_refl _)
  have ba : Below w.heap.size w (w.alloc (.cells (uV (numU z) 4).toArray 84)) := (Below.refl _ _).alloc (Nat.le_refl _) _
  have HI : Hid (∀ (k : Nat), k < 4 → ∀ (w : World), (Instr.index 84 (.agg (uV (numU z) 4).toArray) (.int .i64 (k : Int))).run Tryz.prog w = .ok (.int .u64 (numU z k)) w) := fun k hk w => index4 (numU z) k hk w
  have hsz := sizeU (f := numU z)
  unfold uP
  obtain ⟨Cs, hCs⟩ : ∃ Cs, Cs = uV (numU z) 4 := ⟨_, rfl⟩
  have HR0 : Hid (∀ X, Below (w.alloc (.cells (uV (numU z) 4).toArray 84)).heap.size (w.alloc (.cells (uV (numU z) 4).toArray 84)) X → X.rangeAt w.heap.size 0 (uV (numU z) 4)) := fun X hX => (m0.below hX).range
  rw [← hCs] at HR0 ba HI hsz ⊢
  have sa : (w.alloc (.cells Cs.toArray 84)).heap.size = w.heap.size + 1 := by simp
  clear hCs m0
  generalize numB z = xs at HG hxl ⊢
  have CC : Hid (∀ (k : Nat), k < 4 → ∀ X, Calls Tryz.prog 95 #[.slice (some ⟨w.heap.size + 1, 0, none⟩) 32 32, .int .i64 (k : Int)] X fun e w' => e = .returned (.slice (some ⟨w.heap.size + 1, 0 + 8 * k, none⟩) 8 8) ∧ w' = X) := fun k hk X => cutPart_any (w.heap.size + 1) 0 32 k X hk (by decide)
  go_enter Tryz.func66, Tryz.ntmps66
  go_wp2_with (at_make; refine wpList_make_full _ rfl _ _ 22 rfl (w.heap.size + 1) 5 i0 (.int .u8 0) 1 Tryz.underlying22 hi hz0 hz1 _ _ _ _ 32 rfl rfl rfl rfl (by rw [hz2]; omega) (by unfold maxLen; omega) (by simp) ?_)
  intro w1 hown hgrow
  rw [fill_start xs 32] at hown
  obtain ⟨G, hG⟩ : ∃ G, G = w.heap.size + 1 := ⟨_, rfl⟩
  have hbel : Below w.heap.size w w1 := ba.grown hgrow (by omega) (fun _ h => by cases h)
  have hr1 : w1.rangeAt w.heap.size 0 Cs := HR0.out _ ((Below.refl _ _).grown hgrow (Nat.le_refl _) (fun _ h => by cases h))
  rw [← hG] at hown CC ⊢
  have hlo : w.heap.size < G := by omega
  replace hown := owns_mono hown (Nat.le_of_lt hlo)
  clear hgrow HR0 ba sa hG
  go_wp2_with (refine wpList_load_mid rfl 84 _ rfl w.heap.size 0 rfl Cs _ hr1 Tryz.underlying84 rfl hsz ?_)
  clear hr1 hsz
  go_loopw [10] (fun i wr => ∃ k : Nat, k ≤ 4 ∧ i = .int .i64 k ∧ wr.ownsRow w.heap.size 5 1 (.slice (some ⟨G, 0, none⟩) 32 32) 32 ((xs.take (8 * k) ++ List.replicate (32 - 8 * k) 0).map (Value.int .u8)) ∧ Below w.heap.size w wr)
    (fun i _ => 4 - (intOf i).toNat)
  case atStart => exact ⟨0, by omega, rfl, hown, hbel⟩
  case round =>
    clear hown hbel
    obtain ⟨k, hk, rfl, hown, hbel⟩ := hrel
    by_cases hlt : k < 4
    · have hlt' : (k : Int) < 4 := by omega
      have C := CC.out k hlt
      have hix := HI.out k hlt
      have hun := numU_range z k
      have HGk := fun p hp => HG.out k hlt p hp
      generalize numU z k = u at hix hun HGk
      replace HGk : Hid (∀ p, p < 8 → u / 2 ^ (8 * p) % 256 = xs.getD (8 * k + p) 0) := HGk
      go_wp2_with (fail)
      refine (C _).mono ?_
      rintro e w2 ⟨rfl, rfl⟩
      clear C hix
      obtain ⟨ok, hok⟩ : ∃ ok, ok = 0 + 8 * k := ⟨_, rfl⟩
      rw [← hok]
      replace hok : Hid (ok = 8 * k) := by rw [Hid, hok, Nat.zero_add]
      rw [← hok.out] at hown
      go_wp2_with (fail)
      go_loopw [19] (fun i wx => ∃ p : Nat, p ≤ 8 ∧ i = .int .i64 p ∧ wx.ownsRow w.heap.size 5 1 (.slice (some ⟨G, 0, none⟩) 32 32) 32 ((xs.take (ok + p) ++ List.replicate (32 - (ok + p)) 0).map (Value.int .u8)) ∧ Below w.heap.size w wx)
        (fun i _ => 8 - (intOf i).toNat)
      case atStart => exact ⟨0, by omega, rfl, hown, hbel⟩
      case round =>
        clear hown hbel
        obtain ⟨p, hp, rfl, hown, hbel⟩ := hrel
        by_cases hlp : p < 8
        · have hlp' : (p : Int) < 8 := by omega
          have hgp := HGk.out p hlp
          rw [← hok.out] at hgp
          have hok32 : ok + p < 32 := by have := hok.out; omega
          have hold : wr.cell? ⟨G, ok + p, none⟩ = some (.int .u8 0) := by
            have := hown.cellAt (ok + p) (by omega)
            rw [this]
            exact fill_old xs 32 (ok + p) hok32 hxl
          have hfz := hown.frozenAt (ok + p)
          have hst := hown.stored (ok + p) (.int .u8 (u / 2 ^ (8 * p) % 256))
          rw [fill_step xs 32 (ok + p) _ hgp hok32 hxl] at hst
          have hbel' := hbel.setCell (p := ⟨G, ok + p, none⟩) (Nat.le_of_lt hlo) (.int .u8 (u / 2 ^ (8 * p) % 256))
          obtain ⟨q, hq⟩ : ∃ q, q = 8 * p := ⟨_, rfl⟩
          rw [← hq] at hst hbel'
          have eq8 : (8 : Int) * (p : Int) = (q : Int) := by omega
          have lq : q < 64 := by omega
          have lq' : (q : Int) < 64 := by omega
          have hvn : 0 ≤ u / 2 ^ q := Int.ediv_nonneg hun.1 (Int.le_of_lt (Int.pow_pos (by decide)))
          have hvl : u / 2 ^ q < 18446744073709551616 := Int.lt_of_le_of_lt (Int.ediv_le_self _ hun.1) hun.2
          obtain ⟨v, hv⟩ : ∃ v, v = u / 2 ^ q := ⟨_, rfl⟩
          have ev : u / 2 ^ q = v := hv.symm
          rw [ev] at hst hbel' hvn hvl
          obtain ⟨s, hs⟩ : ∃ s, s = v % 256 := ⟨_, rfl⟩
          have es : v % 256 = s := hs.symm
          rw [es] at hst hbel'
          have wv : IntKind.u64.wrap v = v := by rw [IntKind.wrap_u64]; omega
          clear hgp hq hown hv hs
          go_wp2_with (fail)
          go_roundw
          case rel => exact ⟨p + 1, by omega, by go_num, hst.1, hbel'⟩
          case measure => simp [intOf]; omega
        · obtain rfl : p = 8 := by omega
          have hno : ¬ ((8 : Nat) : Int) < 8 := by omega
          have e8 : ok + 8 = 8 * (k + 1) := by have := hok.out; omega
          rw [e8] at hown
          go_wp2_with (fail)
          go_roundw
          case rel => exact ⟨k + 1, by omega, by go_num, hown, hbel⟩
          case measure => simp [intOf]; omega
    · obtain rfl : k = 4 := by omega
      have hno : ¬ ((4 : Nat) : Int) < 4 := by omega
      rw [show 8 * 4 = 32 from rfl, fill_end xs 32 hxl] at hown
      go_wp2_with (fail)
      go_ret
      exact ⟨_, rfl, .of hown, hbel⟩

end Go.Proofs.YtdjdanpicbaieaaGreatDoor

namespace Go.Proofs.YtdjdanpicbaieaaGreatDoor
open Go.RowKit

/-- The number that FieldNum speaks of. -/
def nnZ (n : Int) : Int := if 0 < n then n else 0
theorem nnZ_range {n : Int} (h : n ≤ 9223372036854775807) : 0 ≤ nnZ n ∧ nnZ n ≤ 9223372036854775807 := by
  unfold nnZ
  split <;> omega
theorem at_getD {l : List Int} {j : Nat} (h : j < l.length) : l[j]? = some (l.getD j 0) := by
  rw [List.getD_eq_getElem?_getD, List.getElem?_eq_getElem h, Option.getD_some]
theorem numB_small {z : Int} (h0 : 0 ≤ z) (h1 : z ≤ 9223372036854775807) : numB z = littleL z 8 ++ List.replicate 24 0 := by
  have l1 := numB_length z
  have l2 := littleL_length z 8
  apply List.ext_getElem?
  intro j
  by_cases hj : j < 32
  · rw [at_getD (l := numB z) (by omega), numB_at z j hj]
    by_cases h8 : j < 8
    · rw [List.getElem?_append_left (by omega), at_getD (l := littleL z 8) (by omega), littleL_getD z 8 j h8]
      simp
    · rw [List.getElem?_append_right (by omega), List.getElem?_replicate, if_pos (by omega)]
      have hp : (256 : Int) ^ 8 ≤ 256 ^ j := by
        obtain ⟨r, rfl⟩ : ∃ r, j = 8 + r := ⟨j - 8, by omega⟩
        rw [Int.pow_add]
        have h2 : (0 : Int) < 256 ^ r := Int.pow_pos (by decide)
        have : (256 : Int) ^ 8 * 1 ≤ 256 ^ 8 * 256 ^ r := Int.mul_le_mul_of_nonneg_left (by omega) (by decide)
        omega
      have h8' : (256 : Int) ^ 8 = 18446744073709551616 := by decide
      rw [Int.ediv_eq_zero_of_lt h0 (by omega)]
      rfl
  · rw [List.getElem?_eq_none (by omega), List.getElem?_eq_none (by simp; omega)]
def lenV (v : Value) : Nat := match v with | .slice _ n _ => n | _ => 0

set_option maxRecDepth 100000 in
theorem l1Max_nn (n : Int) (w : World) : Calls Tryz.prog 68 #[.int .i64 n, .int .i64 0] w fun e w' => e = .returned (.int .i64 (nnZ n)) ∧ w' = w := by
  unfold nnZ
  by_cases h : 0 < n
  · rw [if_pos h]
    go_enter Tryz.func68, Tryz.ntmps68
    go_wp2
    go_ret
    exact ⟨rfl, rfl⟩
  · rw [if_neg h]
    go_enter Tryz.func68, Tryz.ntmps68
    go_wp2
    go_ret
    exact ⟨rfl, rfl⟩

set_option maxRecDepth 100000 in
set_option maxHeartbeats 4000000 in
theorem specFieldNum_any (n : Int) (w : World) (h63 : n ≤ 9223372036854775807) :
    Calls Tryz.prog 58 #[.int .i64 n] w fun e w' => ∃ p' c', e = .returned (.slice p' 32 c') ∧ Own 5 w' w.heap.size w'.heap.size (.slice p' 32 c') 32 (numB (nnZ n)) ∧ Below w.heap.size w w' := by
  obtain ⟨i0, hi, hz0, hz1, hz2⟩ := info_parts infoByte
  have hr := nnZ_range h63
  have CM := fun X => l1Max_nn n X
  have CL := fun X => specLittle_yes (nnZ n) 8 X hr.1 hr.2 (by decide) (by decide)
  have hll := littleL_length (nnZ n) 8
  have hS : Hid (∀ k, littleL (nnZ n) 8 ++ List.replicate k 0 ++ [0] = littleL (nnZ n) 8 ++ List.replicate (k + 1) 0) := fun k => by
    rw [List.append_assoc, ← List.replicate_succ']
  have hE : Hid (numB (nnZ n) = littleL (nnZ n) 8 ++ List.replicate 24 0) := numB_small hr.1 hr.2
  generalize numB (nnZ n) = D at hE ⊢
  generalize littleL (nnZ n) 8 = ys at CL hll hS hE
  generalize nnZ n = z at CM CL hr
  have hown0 : (w.alloc (.cells #[] 5)).ownsRow w.heap.size 5 1 (.slice (some ⟨w.heap.size, 0, none⟩) 0 0) 0 (([] : List Int).map (Value.int .u8)) := World.ownsRow_made w #[] 0 (Nat.le_refl _) (by unfold maxLen; omega) rfl
  have hb0 : Below w.heap.size w (w.alloc (.cells #[] 5)) := (Below.refl _ _).alloc (Nat.le_refl _) _
  clear hr h63
  go_enter Tryz.func58, Tryz.ntmps58
  go_wp2_with (fail)
  refine (CM _).mono ?_
  rintro e w1 ⟨rfl, rfl⟩
  go_wp2_with (fail)
  refine (CL _).mono ?_
  rintro e w2 ⟨p2, c2, rfl, o2, b2⟩
  have hown1 := owns_below hown0 b2
  have hb1 := below_on hb0 b2
  have hs1 := hb1.size
  have hin := o2.bytes
  clear CM CL hown0 hb0 b2 o2
  go_wp2_with (at_builtin; refine list_spread hi hz0 hz1 hz2 (.tmp 4) (.tmp 7) 22 Tryz.underlying22 hown1 hin hll (by decide) (by decide) (by decide) hs1 (by rfl) (by rfl) (by rfl) (by rfl) ?_; intro g cap w3 ho hg hb)
  have hbw : Below w.heap.size w w3 := hb1.trans hb
  clear hg hown1 hin hb hb1 hs1
  go_loopw [3] (fun v wr => ∃ k : Nat, k ≤ 24 ∧ wr.ownsRow w.heap.size 5 1 v (8 + k) ((ys ++ List.replicate k 0).map (Value.int .u8)) ∧ Below w.heap.size w wr)
    (fun v _ => 32 - lenV v)
  case atStart => exact ⟨0, by omega, by simpa using ho, hbw⟩
  case round =>
    clear ho hbw
    obtain ⟨k, hk, hown, hbel⟩ := hrel
    have hsz := hbel.size
    obtain ⟨p', c', hv⟩ := owns_form hown
    subst hv
    by_cases hlt : k < 24
    · have hlt' : ((8 + k : Nat) : Int) < 32 := by omega
      have HN := hS.out k
      go_wp2_with (at_builtin; refine list_push hi hz0 hz1 hz2 (.tmp 12) (.tmp 13) 22 Tryz.underlying22 _ hown (by omega) hsz (by rfl) (by rfl) (by rfl) (by rfl) ?_; intro g1 cap1 w4 ho1 hb1; rw [HN] at ho1)
      go_roundw
      case rel => exact ⟨k + 1, by omega, ho1, hbel.trans hb1⟩
      case measure => simp [lenV]; omega
    · obtain rfl : k = 24 := by omega
      have hnl : ¬ (((8 + 24 : Nat)) : Int) < 32 := by omega
      rw [← hE.out] at hown
      go_wp2
      go_ret
      exact ⟨_, _, rfl, .of hown, hbel⟩

set_option maxRecDepth 100000 in
set_option maxHeartbeats 4000000 in
theorem implFieldNum_any (n : Int) (w : World) (h63 : n ≤ 9223372036854775807) :
    Calls Tryz.prog 41 #[.int .i64 n] w fun e w' => ∃ p' c', e = .returned (.slice p' 32 c') ∧ Own 5 w' w.heap.size w'.heap.size (.slice p' 32 c') 32 (numB (nnZ n)) ∧ Below w.heap.size w w' := by
  have hr := nnZ_range h63
  have CB := fun X => bytesU_any (nnZ n) X
  have hb : ∀ w, (Instr.build 84 #[(0, .int .u64 (nnZ n))]).run Tryz.prog w = .ok (.agg (uV (numU (nnZ n)) 4).toArray) w := fun w => by
    have e : uV (numU (nnZ n)) 4 = uV (fun k => if k = 0 then nnZ n else 0) 4 := uV_congr fun i _ => num_one hr.1 (by unfold bU; omega) i
    rw [e]
    exact run_build w 84 _ _ (by kernel_rfl)
  unfold uP at CB
  have hmx : max n 0 = nnZ n := by unfold nnZ; split <;> omega
  have hmx' : (if n ≤ 0 then 0 else n) = nnZ n := by unfold nnZ; split <;> split <;> omega
  generalize numB (nnZ n) = D at CB ⊢
  obtain ⟨z, hz⟩ : ∃ z, z = nnZ n := ⟨_, rfl⟩
  rw [← hz] at hr CB hb hmx hmx'
  have ez : z % 18446744073709551616 = z := by omega
  replace hz : Hid (z = if 0 < n then n else 0) := hz
  by_cases h0 : 0 < n
  · have hzn : z = n := by rw [hz.out, if_pos h0]
    subst hzn
    clear hz hmx hmx' h63
    go_enter Tryz.func41, Tryz.ntmps41
    go_wp2_with (refine wpList_build_run rfl 84 #[(0, .tmp 5)] rfl #[(0, .int .u64 z)] (by simp [Act.eval]) (hb _) ?_)
    refine (CB _).mono ?_
    rintro e w1 ⟨p1, rfl, o1, b1⟩
    go_wp2_with (fail)
    go_ret
    exact ⟨_, _, rfl, o1, b1⟩
  · have hzn : z = 0 := by rw [hz.out, if_neg h0]
    subst hzn
    clear hz hmx hmx' h63
    by_cases h1 : n = 0
    · subst h1
      go_enter Tryz.func41, Tryz.ntmps41
      go_wp2_with (refine wpList_build_run rfl 84 #[(0, .tmp 5)] rfl #[(0, .int .u64 0)] (by simp [Act.eval]) (hb _) ?_)
      refine (CB _).mono ?_
      rintro e w1 ⟨p1, rfl, o1, b1⟩
      go_wp2_with (fail)
      go_ret
      exact ⟨_, _, rfl, o1, b1⟩
    · have h2 : n < 0 := by omega
      have h3 : ¬ 0 ≤ n := by omega
      go_enter Tryz.func41, Tryz.ntmps41
      go_wp2_with (refine wpList_build_run rfl 84 #[(0, .tmp 5)] rfl #[(0, .int .u64 0)] (by simp [Act.eval]; omega) (hb _) ?_)
      refine (CB _).mono ?_
      rintro e w1 ⟨p1, rfl, o1, b1⟩
      go_wp2_with (fail)
      go_ret
      exact ⟨_, _, rfl, o1, b1⟩

end Go.Proofs.YtdjdanpicbaieaaGreatDoor

namespace Go.Proofs.YtdjdanpicbaieaaGreatDoor
open Go.RowKit

/-- The number of a point: of a key's bytes, and a point's. -/
def ptZ (ks us : List Int) : Int := ladZ (bitB (clampL ks)) (numF us)
theorem ptZ_range (ks us : List Int) : 0 ≤ ptZ ks us ∧ ptZ ks us < fldP := ⟨Int.emod_nonneg _ (by have := fldP_pos; omega), Int.emod_lt_of_pos _ fldP_pos⟩
theorem ptZ_mod (ks us : List Int) : ptZ ks us % fldP = ptZ ks us := Int.emod_eq_of_lt (ptZ_range ks us).1 (ptZ_range ks us).2
theorem ofZ_sm {us : List Int} (hb : ∀ x ∈ us, 0 ≤ x ∧ x < 256) : smZ (ofZ us) := fun i => by
  have h := pairZ_range hb i
  have h' := pairZ_range hb 15
  unfold ofZ
  split <;> omega
theorem own_cap {e : Nat} {w : World} {lo hi : Nat} {p : Option Addr} {n c : Nat} {xs : List Int} (h : Own e w lo hi (.slice p n c) n xs) : n ≤ c := by
  rcases h.1.2 with ⟨h1, h2⟩ | ⟨g, cap, cur, h1, _, _, h2, _⟩
  · cases h1; exact Nat.le_refl _
  · cases h1; exact h2

set_option maxRecDepth 100000 in
set_option maxHeartbeats 4000000 in
theorem specPoint_any (p q : Option Addr) (n m c d : Nat) (ks us : List Int) (w : World) (hl : ks.length = n) (h : BytesIn w p n ks) (h' : BytesIn w q m us) (hb1 : ∀ x ∈ ks, 0 ≤ x ∧ x < 256) (hb2 : ∀ x ∈ us, 0 ≤ x ∧ x < 256) :
    Calls Tryz.prog 57 #[.slice p n c, .slice q m d] w fun e w' => ∃ p' c', e = .returned (.slice p' (fldN n m) c') ∧ Own 5 w' w.heap.size w'.heap.size (.slice p' (fldN n m) c') (fldN n m) (fldL (ptZ ks us) n m) ∧ Below w.heap.size w w' := by
  unfold fldN fldL
  by_cases hok : two32 n m
  · rw [if_pos hok, if_pos hok, ptZ_mod]
    obtain ⟨rfl, rfl⟩ := hok
    have C1 := specClamp_any p 32 c ks w hl h hb1
    have hN : oneN 32 = 32 := rfl
    have hC : clampR ks 32 = clampL ks := rfl
    rw [hN, hC] at C1
    have C2 := fun X (hX : Below w.heap.size w X) => l8Of_any q d us X (in_below h' hX) hb2
    have C3 := fun bk ok ck X hk => l9Ladder_any bk ok ck (clampL ks) (ofZ us) X (clampL_byte hb1) hk (ofZ_sm hb2)
    have hv : numB (ladZ (bitB (clampL ks)) (valZ (ofZ us) 16)) = numB (ptZ ks us) := rfl
    simp only [hv] at C3
    generalize numB (ptZ ks us) = V at C3
    generalize clampL ks = kk at C1 C3
    clear h h' hN hC hv hb1 hb2 hl
    go_enter Tryz.func57, Tryz.ntmps57
    go_wp2_with (fail)
    refine C1.mono ?_
    rintro e w1 ⟨p1, c1, rfl, o1, b1⟩
    go_wp2_with (fail)
    refine (C2 _ b1).mono ?_
    rintro e w2 ⟨rfl, b2⟩
    obtain ⟨bk, ok, rfl, hk⟩ := (o1.on b2).bytes (by decide)
    have C4 := C3 bk ok c1 w2 hk
    clear C3 hk
    go_wp2_with (fail)
    refine C4.mono ?_
    rintro e w3 ⟨p3, c3, rfl, r3, b3⟩
    have bel := below_on b1 b2
    go_wp2_with (fail)
    go_ret
    exact ⟨_, _, rfl, ⟨owns_mono r3.1 bel.size, r3.2⟩, below_on bel b3⟩
  · rw [if_neg hok, if_neg hok]
    have hown0 : (w.alloc (.cells #[] 5)).ownsRow w.heap.size 5 1 (.slice (some ⟨w.heap.size, 0, none⟩) 0 0) 0 (([] : List Int).map (Value.int .u8)) := World.ownsRow_made w #[] 0 (Nat.le_refl _) (by unfold maxLen; omega) rfl
    have hb0 : Below w.heap.size w (w.alloc (.cells #[] 5)) := (Below.refl _ _).alloc (Nat.le_refl _) _
    unfold two32 at hok
    clear h h'
    by_cases t0 : n = 32
    · subst t0
      have z1 : ((m : Int) != 32) = true := by simp; omega
      go_enter Tryz.func57, Tryz.ntmps57
      go_wp2_with (fail)
      go_ret
      exact ⟨_, _, rfl, .of hown0, hb0⟩
    · have z0 : ((n : Int) != 32) = true := by simp; omega
      go_enter Tryz.func57, Tryz.ntmps57
      go_wp2_with (fail)
      go_ret
      exact ⟨_, _, rfl, .of hown0, hb0⟩

/-- The point that all know. -/
def baseL : List Int := numB 9
theorem baseL_length : baseL.length = 32 := rfl
theorem baseL_byte : ∀ x ∈ baseL, 0 ≤ x ∧ x < 256 := numB_byte 9
theorem fldN_one (n : Nat) : fldN n 32 = oneN n := by
  unfold fldN oneN
  by_cases h : n = 32
  · rw [if_pos (show two32 n 32 from ⟨h, rfl⟩), if_pos h]
  · rw [if_neg (show ¬ two32 n 32 from fun k => h k.1), if_neg h]
theorem fldL_one (z : Int) (n : Nat) : fldL z n 32 = oneL z n := by
  unfold fldL oneL
  by_cases h : n = 32
  · rw [if_pos (show two32 n 32 from ⟨h, rfl⟩), if_pos h]
  · rw [if_neg (show ¬ two32 n 32 from fun k => h k.1), if_neg h]

set_option maxRecDepth 100000 in
set_option maxHeartbeats 4000000 in
theorem specPublic_any (p : Option Addr) (n c : Nat) (ks : List Int) (w : World) (hl : ks.length = n) (h : BytesIn w p n ks) (hb1 : ∀ x ∈ ks, 0 ≤ x ∧ x < 256) :
    Calls Tryz.prog 36 #[.slice p n c] w fun e w' => ∃ p' c', e = .returned (.slice p' (oneN n) c') ∧ Own 5 w' w.heap.size w'.heap.size (.slice p' (oneN n) c') (oneN n) (oneL (ptZ ks baseL) n) ∧ Below w.heap.size w w' := by
  have C1 := specFieldNum_any 9 w (by decide)
  have hN : numB (nnZ 9) = baseL := rfl
  rw [hN] at C1
  have C2 := fun q d X (hX : Below w.heap.size w X) (hq : BytesIn X q 32 baseL) => specPoint_any p q n 32 c d ks baseL X hl (in_below h hX) hq hb1 baseL_byte
  rw [fldN_one, fldL_one] at C2
  generalize oneL (ptZ ks baseL) n = V at C2
  generalize oneN n = N at C2
  generalize baseL = B at C1 C2
  clear hN h hb1 hl
  go_enter Tryz.func36, Tryz.ntmps36
  go_wp2_with (fail)
  refine C1.mono ?_
  rintro e w1 ⟨p1, c1, rfl, o1, b1⟩
  have C3 := C2 p1 c1 w1 b1 o1.bytes
  clear C2
  go_wp2_with (fail)
  refine C3.mono ?_
  rintro e w2 ⟨p2, c2, rfl, o2, b2⟩
  go_wp2_with (fail)
  go_ret
  exact ⟨_, _, rfl, ⟨owns_mono o2.1 b1.size, o2.2⟩, below_on b1 b2⟩

end Go.Proofs.YtdjdanpicbaieaaGreatDoor

namespace Go.Proofs.YtdjdanpicbaieaaGreatDoor
open Go.RowKit

set_option maxRecDepth 100000 in
set_option maxHeartbeats 8000000 in
theorem readField_yes (b o c : Nat) (xs : List Int) (w : World) (hc : 32 ≤ c) (hb : ∀ x ∈ xs, 0 ≤ x ∧ x < 256) (h : ∀ i, i < 32 → w.cell? ⟨b, o + i, none⟩ = some (.int .u8 (xs.getD i 0))) :
    Calls Tryz.prog 61 #[.slice (some ⟨b, o, none⟩) 32 c] w fun e w' => e = .returned (.tuple #[uP (numF xs % fldP), .bool true]) ∧ Below w.heap.size w w' := by
  have hz := (zero_of_info infoU4).1
  have hblt : b < w.heap.size := World.block_lt_of_cell? w ⟨b, o + 0, none⟩ (h 0 (by decide))
  have HX : Hid (∀ X, Below w.heap.size w X → ∀ i, i < 32 → X.cell? ⟨b, o + i, none⟩ = some (.int .u8 (xs.getD i 0))) := fun X hX i hi => (hX.cell (p := ⟨b, o + i, none⟩) hblt).trans (h i hi)
  have hval := val_rdU hb
  have hrng := valU_range (f := rdU xs) (n := 4) (fun i _ => rdU_range hb i)
  have HP : Hid (∀ i, i < 4 → rdU xs i = numU (numF xs) i) := fun i hi => by rw [← hval]; exact num_of_parts (fun i _ => rdU_range hb i) hi
  rw [hval] at hrng
  have CR := fun X => rest_any (numF xs) X hrng.1 hrng.2
  have CC : Hid (∀ (k : Nat), k < 4 → ∀ X, Calls Tryz.prog 95 #[.slice (some ⟨b, o, none⟩) 32 c, .int .i64 (k : Int)] X fun e w' => e = .returned (.slice (some ⟨b, o + 8 * k, none⟩) 8 8) ∧ w' = X) := fun k hk X => cutPart_any b o c k X hk hc
  have HO : Hid (∀ i p, p < 8 → bits .or .u64 (byN xs i p : Int) (((xs.getD (8 * i + p) 0).toNat * 2 ^ (8 * p) : Nat) : Int) = (byN xs i (p + 1) : Int)) := fun i p hp => or_step hb i p hp
  have HL : Hid (∀ i p, p ≤ 8 → byN xs i p < 18446744073709551616) := fun i p hp => Nat.lt_of_lt_of_le (byN_lt hb i p) (Nat.le_trans (Nat.pow_le_pow_right (by decide) (show 8 * p ≤ 64 by omega)) (by decide))
  have HY : Hid (∀ j, ((xs.getD j 0).toNat : Int) = xs.getD j 0 ∧ (xs.getD j 0).toNat < 256) := fun j => by
    have := byteZ hb j
    exact ⟨Int.toNat_of_nonneg this.1, by omega⟩
  unfold uP at CR ⊢
  obtain ⟨V, hV⟩ : ∃ V, V = numU (numF xs % fldP) := ⟨_, rfl⟩
  rw [← hV] at CR ⊢
  obtain ⟨U, hU⟩ : ∃ U, U = numU (numF xs) := ⟨_, rfl⟩
  rw [← hU] at CR HP
  obtain ⟨Z, hZ⟩ : ∃ Z, Z = (uV (fun _ => 0) 4).toArray := ⟨_, rfl⟩
  obtain ⟨m0, m1, bel0, sz⟩ := rows2 w (fun _ => 0) (fun _ => 0) hZ hZ
  rw [← hZ] at hz
  clear hZ hV hU hval hrng hb h hblt hc
  go_enter Tryz.func61, Tryz.ntmps61
  go_wp2_with (fail)
  obtain ⟨G1, hG1⟩ : ∃ G1, G1 = w.heap.size + 1 := ⟨_, rfl⟩
  rw [← hG1] at m1 sz ⊢
  generalize (w.alloc (.cells Z 84)).alloc (.cells Z 84) = wb at m0 m1 bel0 sz ⊢
  have hne : w.heap.size ≠ G1 := by omega
  have hloR : w.heap.size ≤ G1 := by omega
  clear hG1 sz hz
  replace m1 := m1.congr (f' := rdI xs 0 0) fun i _ => (rdI_zero xs i).symm
  go_loopw [12] (fun i wr => ∃ k : Nat, k ≤ 4 ∧ i = .int .i64 k ∧ RowU 84 4 wr w.heap.size G1 (rdI xs k 0) ∧ RowU 84 4 wr w.heap.size w.heap.size (fun _ => 0) ∧ Below w.heap.size w wr)
    (fun i _ => 4 - (intOf i).toNat)
  case atStart => exact ⟨0, by omega, rfl, m1, m0, bel0⟩
  case round =>
    clear m0 m1 bel0
    obtain ⟨k, hk, rfl, hn, hr, bel⟩ := hrel
    by_cases hlt : k < 4
    · have hlt' : (k : Int) < 4 := by omega
      have C := CC.out k hlt
      go_wp2_with (fail)
      refine (C _).mono ?_
      rintro e w1 ⟨rfl, rfl⟩
      clear C
      obtain ⟨ok, hok⟩ : ∃ ok, ok = o + 8 * k := ⟨_, rfl⟩
      rw [← hok]
      replace hok : Hid (ok = o + 8 * k) := hok
      go_wp2_with (fail)
      go_loopw [19] (fun i wx => ∃ p : Nat, p ≤ 8 ∧ i = .int .i64 p ∧ RowU 84 4 wx w.heap.size G1 (rdI xs k p) ∧ RowU 84 4 wx w.heap.size w.heap.size (fun _ => 0) ∧ Below w.heap.size w wx)
        (fun i _ => 8 - (intOf i).toNat)
      case atStart => exact ⟨0, by omega, rfl, hn, hr, bel⟩
      case round =>
        clear hn hr bel
        obtain ⟨p, hp, rfl, hn, hr, bel⟩ := hrel
        by_cases hlp : p < 8
        · have hlp' : (p : Int) < 8 := by omega
          have cx := HX.out _ bel (8 * k + p) (by omega)
          rw [← Nat.add_assoc, ← hok.out] at cx
          have cn := hn.cell k hlt
          rw [rdI_at] at cn
          have fn := hn.frozen k
          have hor := HO.out k p hlp
          have la := HL.out k p (by omega)
          have lu := HL.out k (p + 1) (by omega)
          have hy := HY.out (8 * k + p)
          have st := hn.set k (byN xs k (p + 1))
          have hn2 := st.1.congr fun i _ => rdI_step xs k p i
          have hr2 := hr.kept st.2 hne
          have bel2 := bel.grown st.2 (by have := hr.lt; omega) (fun k hk => by cases hk; exact hloR)
          have lb : (xs.getD (8 * k + p) 0).toNat * 2 ^ (8 * p) < 18446744073709551616 := Nat.lt_of_lt_of_le (Nat.mul_lt_mul_of_lt_of_le hy.2 (Nat.pow_le_pow_right (n := 2) (by decide) (show 8 * p ≤ 56 by omega)) (by decide)) (by decide)
          rw [← hy.1] at cx
          obtain ⟨q, hq⟩ : ∃ q, q = 8 * p := ⟨_, rfl⟩
          rw [← hq] at hor lb
          have eq8 : (8 : Int) * (p : Int) = (q : Int) := by omega
          have lq : q < 64 := by omega
          have lq' : (q : Int) < 64 := by omega
          have hx256 := hy.2
          generalize (xs.getD (8 * k + p) 0).toNat = x at cx hor lb hx256
          have eb : (x : Int) * 2 ^ q = ((x * 2 ^ q : Nat) : Int) := by simp
          generalize x * 2 ^ q = bb at hor lb eb
          generalize byN xs k (p + 1) = u at hor lu st hn2 hr2 bel2
          generalize byN xs k p = a at cn hor la
          have la' : (a : Int) < 18446744073709551616 := by omega
          have lu' : (u : Int) < 18446744073709551616 := by omega
          have lb' : (bb : Int) < 18446744073709551616 := by omega
          have lx' : (x : Int) < 256 := by omega
          have mb : (bb : Int) % 18446744073709551616 = (bb : Int) := by omega
          have mx : (x : Int) % 18446744073709551616 = (x : Int) := by omega
          clear st hn hr bel hy hq
          go_wp2_with (fail)
          go_region
          all_goals
            go_wp2
            go_roundw
            case rel => exact ⟨p + 1, by omega, by go_num, hn2.drew, hr2.drew, bel2.drew⟩
            case measure => simp [intOf]; omega
        · obtain rfl : p = 8 := by omega
          have hno : ¬ ((8 : Nat) : Int) < 8 := by omega
          replace hn := hn.congr (f' := rdI xs (k + 1) 0) fun i _ => rdI_next xs k i
          go_wp2_with (fail)
          go_roundw
          case rel => exact ⟨k + 1, by omega, by go_num, hn, hr, bel⟩
          case measure => simp [intOf]; omega
    · obtain rfl : k = 4 := by omega
      have hno : ¬ ((4 : Nat) : Int) < 4 := by omega
      have cn := hn.cell 3 (by decide)
      have e3 : rdI xs 4 0 3 = (byN xs 3 8 : Int) := by rw [rdI, if_pos (by decide)]
      rw [e3] at cn
      have fn := hn.frozen 3
      have l8 := HL.out 3 8 (by omega)
      have ht := top_off (byN xs 3 8) l8
      have st := hn.set 3 ((byN xs 3 8 % 9223372036854775808 : Nat) : Int)
      have hn2 := st.1.congr (f' := U) fun i hi => by rw [rdI_end xs hi, HP.out i hi]
      have hr2 := hr.kept st.2 hne
      have bel2 := bel.grown st.2 (by have := hr.lt; omega) (fun k hk => by cases hk; exact hloR)
      have lt2 : ((byN xs 3 8 % 9223372036854775808 : Nat) : Int) < 18446744073709551616 := by omega
      generalize ((byN xs 3 8 % 9223372036854775808 : Nat) : Int) = tt at ht st hn2 hr2 bel2 lt2
      generalize byN xs 3 8 = a at cn ht l8
      have l8' : (a : Int) < 18446744073709551616 := by omega
      have hra := hn2.range
      have hws := hr2.lt
      clear st hn hr bel HX HP CC HO HL HY e3 hn2
      go_wp2_with (refine wpList_load_mid rfl 84 _ rfl G1 0 rfl (uV U 4) _ hra Tryz.underlying84 rfl sizeU ?_)
      refine (CR _).mono ?_
      rintro e w2 ⟨rfl, b2⟩
      have hr3 := hr2.below b2
      have bel3 := below_on bel2 b2
      have hsz5 := b2.size
      clear hra hr2 bel2 b2 CR
      have hp := hr3.put (f' := V)
      have hth := hr3.there2 (f' := V)
      have hbel := bel3.grown hp.2 (by omega) (fun k hk => by cases hk; exact Nat.le_refl _)
      have hld := run_loadVar_mid (P := Tryz.prog) _ w.heap.size 0 84 _ _ hp.1.range Tryz.underlying84 rfl sizeU
      clear hp
      go_wp2_with (refine wpList_store_mid rfl 84 _ _ rfl w.heap.size 0 (uV V 4).toArray rfl rfl hth sizeU2 (all_oneCell_toArray (uV_one V 4)) ?_)
      (try simp only [Exit.inBlock, Exit.then])
      refine bodyPost_ret (v := .tuple #[.agg (uV V 4).toArray, .bool true]) ?_ rfl ⟨rfl, hbel⟩
      simp [results, asAddr, hld]

end Go.Proofs.YtdjdanpicbaieaaGreatDoor

namespace Go.Proofs.YtdjdanpicbaieaaGreatDoor
open Go.RowKit
set_option maxRecDepth 100000

/-- What readField answers of bytes. -/
def rdZ (n : Nat) (xs : List Int) : Int := if n = 32 then numF xs % fldP else 0
theorem rdZ_range (n : Nat) (xs : List Int) : 0 ≤ rdZ n xs ∧ rdZ n xs < fldP := by
  unfold rdZ
  split
  · exact ⟨Int.emod_nonneg _ (by have := fldP_pos; omega), Int.emod_lt_of_pos _ fldP_pos⟩
  · exact ⟨by decide, fldP_pos⟩
theorem readField_any (p : Option Addr) (n c : Nat) (xs : List Int) (w X : World) (h : BytesIn w p n xs) (hb : ∀ x ∈ xs, 0 ≤ x ∧ x < 256) (hc : n ≤ c) (hX : Below w.heap.size w X) :
    Calls Tryz.prog 61 #[.slice p n c] X fun e w' => e = .returned (.tuple #[uP (rdZ n xs), .bool (decide (n = 32))]) ∧ Below X.heap.size X w' := by
  by_cases hn : n = 32
  · subst hn
    obtain ⟨b, o, rfl, hcell⟩ := in_below h hX (by decide)
    have C := readField_yes b o c xs X hc hb hcell
    rw [show rdZ 32 xs = numF xs % fldP from if_pos rfl, show decide (32 = 32) = true from rfl]
    exact C
  · have C := readField_no p n c X hn
    rw [show rdZ n xs = 0 from if_neg hn, show decide (n = 32) = false from decide_eq_false hn]
    exact C
theorem both_sub (x y : Int) : (x % fldP - y % fldP) % fldP = (x - y) % fldP := ((likeP_mod x).sub (likeP_mod y)).mod
theorem both_mul (x y : Int) : (x % fldP * (y % fldP)) % fldP = (x * y) % fldP := by rw [left_mul, right_mul]

end Go.Proofs.YtdjdanpicbaieaaGreatDoor
