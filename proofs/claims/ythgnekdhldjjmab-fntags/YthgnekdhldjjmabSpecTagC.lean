/-
  What the specification's l6Num and l6Key answer: bytes as a number of 17 digits, and a key's first half of which not all bits count. Conditions: at most 16 bytes, bytes all; 32 bytes.
-/
import Derived.Test.YthgnekdhldjjmabSpecTagB
namespace Go.Proofs.Ythgnekdhldjjmab
open Go.RowKit

def byN (xs : List Int) (i : Nat) : Nat := (xs.getD i 0).toNat
theorem byN_lt {xs : List Int} (hb : ∀ x ∈ xs, 0 ≤ x ∧ x < 256) (i : Nat) : byN xs i < 256 := by
  unfold byN
  rw [List.getD_eq_getElem?_getD]
  cases hk : xs[i]? with
  | none => decide
  | some x => have := hb x (List.mem_of_getElem? hk); simp only [Option.getD_some]; omega
theorem byN_cast {xs : List Int} (hb : ∀ x ∈ xs, 0 ≤ x ∧ x < 256) (i : Nat) : xs.getD i 0 = ((byN xs i : Nat) : Int) := by
  unfold byN
  rw [List.getD_eq_getElem?_getD]
  cases hk : xs[i]? with
  | none => rfl
  | some x => have := hb x (List.mem_of_getElem? hk); simp only [Option.getD_some]; omega
/-- n bytes as digits, one more behind. -/
def numD (xs : List Int) (n last i : Nat) : Nat := if i < n then byN xs i else if i = n then last else 0
def num1 (xs : List Int) (k i : Nat) : Nat := if i < k then byN xs i else 0
theorem num1_step (xs : List Int) (k : Nat) : dL (fun i => if i = k then byN xs k else num1 xs k i) 17 = dL (num1 xs (k + 1)) 17 := by
  refine dL_congr fun i _ => ?_
  unfold num1
  by_cases h : i = k
  · subst h; simp
  · have : i < k ↔ i < k + 1 := by omega
    simp [h, this]
theorem num1_end (xs : List Int) (n last : Nat) : dL (fun i => if i = n then last else num1 xs n i) 17 = dL (numD xs n last) 17 := by
  refine dL_congr fun i _ => ?_
  unfold num1 numD
  by_cases h : i = n
  · subst h; simp
  · simp [h]
theorem num1_start (xs : List Int) : (madeCells #[Value.int .i64 0] 17).toList = (dL (num1 xs 0) 17).map (Value.int .i64) := by
  rw [show dL (num1 xs 0) 17 = dL (fun _ => 0) 17 from dL_congr fun i _ => by simp [num1], fill_startI ([] : List Int) 17]
  rfl
theorem l1Min_is (a b : Int) (w : World) : Calls Try.prog 27 #[.int .i64 a, .int .i64 b] w fun e w' => e = .returned (.int .i64 (min a b)) ∧ w' = w := by
  by_cases h : a < b
  · rw [Int.min_eq_left (by omega)]
    go_enter Try.func27, Try.ntmps27
    go_wp2
    go_ret
    exact ⟨rfl, rfl⟩
  · rw [Int.min_eq_right (by omega)]
    go_enter Try.func27, Try.ntmps27
    go_wp2
    go_ret
    exact ⟨rfl, rfl⟩

set_option maxRecDepth 100000 in
set_option maxHeartbeats 2400000 in
theorem l6Num_any (p : Option Addr) (n c last : Nat) (xs : List Int) (w : World) (hn : n ≤ 16) (hb : ∀ x ∈ xs, 0 ≤ x ∧ x < 256) (h : BytesIn w p n xs) :
    Calls Try.prog 26 #[.slice p n c, .int .i64 (last : Int)] w fun e w' => ∃ p' c', e = .returned (.slice p' 17 c') ∧ OwnI 3 w' w.heap.size w'.heap.size (.slice p' 17 c') 17 (dL (numD xs n last) 17) ∧ Below w.heap.size w w' := by
  obtain ⟨i0, hi, hz0, hz1, hz2⟩ := info_parts infoInt
  have CM : ∀ X, Calls Try.prog 27 #[.int .i64 (n : Int), .int .i64 16] X fun e w' => e = .returned (.int .i64 (n : Int)) ∧ w' = X := fun X => by
    have := l1Min_is (n : Int) 16 X
    rwa [Int.min_eq_left (by omega)] at this
  have HC : Hid (∀ X k, k < n → Below w.heap.size w X → ∃ b o, p = some ⟨b, o, none⟩ ∧ X.cell? ⟨b, o + k, none⟩ = some (.int .u8 ((byN xs k : Nat) : Int))) := fun X k hk hX => by
    obtain ⟨b, o, e1, e2⟩ := h (by omega)
    have a1 := e2 k hk
    have l1 : b < w.heap.size := World.block_lt_of_cell? w ⟨b, o + k, none⟩ a1
    rw [byN_cast hb] at a1
    exact ⟨b, o, e1, (hX.cell (p := ⟨b, o + k, none⟩) l1).trans a1⟩
  have HB := byN_lt hb
  clear h hb
  go_enter Try.func26, Try.ntmps26
  go_wp2_with (at_make; refine wpList_make_full _ rfl _ _ 44 rfl w.heap.size 3 i0 (.int .i64 0) 1 Try.underlying44 hi hz0 hz1 _ _ _ _ 17 rfl rfl rfl rfl (by rw [hz2]; omega) (by unfold maxLen; omega) (Nat.le_refl _) ?_)
  intro w1 hown hgrow
  have bel : Below w.heap.size w w1 := (Below.refl _ _).grown hgrow (Nat.le_refl _) (fun _ h => by cases h)
  rw [num1_start xs] at hown
  clear hgrow
  go_wp2_with (fail)
  go_loopw [6] (fun i wr => ∃ k : Nat, k ≤ n ∧ i = .int .i64 k ∧ wr.ownsRow w.heap.size 3 1 (.slice (some ⟨w.heap.size, 0, none⟩) 17 17) 17 ((dL (num1 xs k) 17).map (Value.int .i64)) ∧ Below w.heap.size w wr)
    (fun i _ => 17 - (intOf i).toNat)
  case atStart => exact ⟨0, by omega, rfl, hown, bel⟩
  case round =>
    clear hown bel
    obtain ⟨k, hk, rfl, hown, bel⟩ := hrel
    by_cases hlt : k < n
    · have hlt' : (k : Int) < (n : Int) := by omega
      have hlt6 : (k : Int) < 16 := by omega
      have hlt7 : (k : Int) < 17 := by omega
      obtain ⟨b, o, hp, e1⟩ := HC.out wr k hlt bel
      subst hp
      have hs := HB k
      have hfr := hown.frozenAt k
      have hold : wr.cell? ⟨w.heap.size, k, none⟩ = some (.int .i64 0) := by
        rw [hown.cellAt k (by omega), List.getElem?_map]
        simp [dL, num1, show k < 17 by omega]
      have st := hown.stored k (.int .i64 ((byN xs k : Nat) : Int))
      rw [← List.map_set, dL_set, num1_step] at st
      generalize byN xs k = y at e1 hs st
      have st' := st.1
      have hb' := bel.grown st.2 bel.size (fun k hk => by cases hk; exact Nat.le_refl _)
      clear st hown
      go_wp2_with (fail)
      go_roundw
      case rel => exact ⟨k + 1, by omega, by go_num, st', hb'⟩
      case measure => simp [intOf]; omega
    · obtain rfl : k = n := by omega
      have hnl : ¬ (k : Int) < (k : Int) := by omega
      have hlt7 : (k : Int) < 17 := by omega
      have hfr := hown.frozenAt k
      have hold : wr.cell? ⟨w.heap.size, k, none⟩ = some (.int .i64 0) := by
        rw [hown.cellAt k (by omega), List.getElem?_map]
        simp [dL, num1, show k < 17 by omega]
      have st := hown.stored k (.int .i64 (last : Int))
      rw [← List.map_set, dL_set, num1_end] at st
      have st' := st.1
      have hb' := bel.grown st.2 bel.size (fun k hk => by cases hk; exact Nat.le_refl _)
      clear st hown
      go_wp2_with (fail)
      refine (CM _).mono ?_
      rintro e w2 ⟨rfl, rfl⟩
      go_wp2_with (fail)
      go_ret
      exact ⟨_, _, rfl, .of st', hb'⟩

end Go.Proofs.Ythgnekdhldjjmab
