/-
  What the specification's l6Key answers: a key's first half of which not all bits count, as digits. Condition: 32 bytes.
-/
import Derived.Test.YthgnekdhldjjmabSpecTagC
namespace Go.Proofs.Ythgnekdhldjjmab
open Go.RowKit

/-- The digits of r. -/
def keyD (ks : List Int) (i : Nat) : Nat := if 16 ≤ i then 0 else if i % 4 = 3 then byN ks i % 16 else if i % 4 = 0 ∧ 4 ≤ i then byN ks i / 4 * 4 else byN ks i
theorem keyD_lt {ks : List Int} (hb : ∀ x ∈ ks, 0 ≤ x ∧ x < 256) (i : Nat) : keyD ks i < 256 := by
  have := byN_lt hb i
  unfold keyD
  split
  · decide
  · split
    · omega
    · split <;> omega
def key1 (ks : List Int) (k i : Nat) : Nat := if i % 4 = 3 ∧ i < 3 + 4 * k then numD ks 16 0 i % 16 else numD ks 16 0 i
def key2 (ks : List Int) (k i : Nat) : Nat := if i % 4 = 0 ∧ 4 ≤ i ∧ i < 4 + 4 * k then numD ks 16 0 i / 4 * 4 else key1 ks 4 i
theorem key1_step (ks : List Int) (k : Nat) : dL (fun i => if i = 3 + 4 * k then numD ks 16 0 (3 + 4 * k) % 16 else key1 ks k i) 17 = dL (key1 ks (k + 1)) 17 := by
  refine dL_congr fun i _ => ?_
  unfold key1
  by_cases h : i = 3 + 4 * k
  · subst h
    have : (3 + 4 * k) % 4 = 3 := by omega
    have h2 : 3 + 4 * k < 3 + 4 * (k + 1) := by omega
    simp [this, h2]
  · have : (i % 4 = 3 ∧ i < 3 + 4 * k) ↔ (i % 4 = 3 ∧ i < 3 + 4 * (k + 1)) := by omega
    simp only [h, if_false, this]
theorem key2_step (ks : List Int) (k : Nat) : dL (fun i => if i = 4 + 4 * k then numD ks 16 0 (4 + 4 * k) / 4 * 4 else key2 ks k i) 17 = dL (key2 ks (k + 1)) 17 := by
  refine dL_congr fun i _ => ?_
  unfold key2
  by_cases h : i = 4 + 4 * k
  · subst h
    have h1 : (4 + 4 * k) % 4 = 0 ∧ 4 ≤ 4 + 4 * k ∧ 4 + 4 * k < 4 + 4 * (k + 1) := by omega
    simp only [if_true, if_pos h1]
  · have : (i % 4 = 0 ∧ 4 ≤ i ∧ i < 4 + 4 * k) ↔ (i % 4 = 0 ∧ 4 ≤ i ∧ i < 4 + 4 * (k + 1)) := by omega
    simp only [h, if_false, this]
theorem key1_start (ks : List Int) : dL (numD ks 16 0) 17 = dL (key1 ks 0) 17 := by
  refine dL_congr fun i _ => ?_
  unfold key1
  rw [if_neg (by omega)]
theorem key2_start (ks : List Int) : dL (key1 ks 4) 17 = dL (key2 ks 0) 17 := by
  refine dL_congr fun i _ => ?_
  unfold key2
  rw [if_neg (by omega)]
theorem key2_end (ks : List Int) : dL (key2 ks 3) 17 = dL (keyD ks) 17 := by
  refine dL_congr fun i hi => ?_
  unfold key2 key1 keyD numD
  by_cases h : 16 ≤ i
  · obtain rfl : i = 16 := by omega
    simp
  · have h' : i < 16 := by omega
    simp only [h, if_false, h', if_true]
    by_cases h3 : i % 4 = 3
    · have c2 : ¬ (i % 4 = 0 ∧ 4 ≤ i ∧ True) := by omega
      have c1 : i % 4 = 3 ∧ i < 3 + 4 * 4 := by omega
      rw [if_neg c2, if_pos c1, if_pos h3]
    · rw [if_neg h3]
      have c1 : ¬ (i % 4 = 3 ∧ i < 3 + 4 * 4) := by omega
      by_cases h0 : i % 4 = 0 ∧ 4 ≤ i
      · have c2 : i % 4 = 0 ∧ 4 ≤ i ∧ True := ⟨h0.1, h0.2, trivial⟩
        rw [if_pos c2, if_pos h0]
      · have c2 : ¬ (i % 4 = 0 ∧ 4 ≤ i ∧ True) := by omega
        rw [if_neg c2, if_neg c1, if_neg h0]
theorem key1_get (ks : List Int) (k : Nat) : key1 ks k (3 + 4 * k) = numD ks 16 0 (3 + 4 * k) := by unfold key1; rw [if_neg (by omega)]
theorem key2_get (ks : List Int) (k : Nat) : key2 ks k (4 + 4 * k) = numD ks 16 0 (4 + 4 * k) := by unfold key2 key1; rw [if_neg (by omega), if_neg (by omega)]
theorem numD_lt {xs : List Int} (hb : ∀ x ∈ xs, 0 ≤ x ∧ x < 256) {n last : Nat} (hl : last < 256) (i : Nat) : numD xs n last i < 256 := by
  have := byN_lt hb i
  unfold numD
  split
  · exact this
  · split <;> omega
set_option maxRecDepth 10000 in
theorem nat_252 : ∀ v, v < 256 → v &&& 252 = v / 4 * 4 := by decide
theorem and_252 (v : Nat) (hv : v < 256) : bits .and .i64 (v : Int) 252 = ((v / 4 * 4 : Nat) : Int) := by
  have e : bits .and .i64 (v : Int) 252 = IntKind.i64.wrap ((BitVec.ofInt 64 (v : Int) &&& BitVec.ofInt 64 252).toNat : Int) := rfl
  have e1 : (BitVec.ofInt 64 (v : Int)).toNat = v := by rw [BitVec.toNat_ofInt]; omega
  have e2 : (BitVec.ofInt 64 252).toNat = 252 := rfl
  rw [e, BitVec.toNat_and, e1, e2, nat_252 v hv, IntKind.wrap_i64]
  omega

set_option maxRecDepth 100000 in
set_option maxHeartbeats 2400000 in
theorem l6Key_any (b o c : Nat) (ks : List Int) (w : World) (hc : 32 ≤ c) (hb : ∀ x ∈ ks, 0 ≤ x ∧ x < 256) (h : BytesIn w (some ⟨b, o, none⟩) 16 ks) :
    Calls Try.prog 23 #[.slice (some ⟨b, o, none⟩) 32 c] w fun e w' => ∃ p' c', e = .returned (.slice p' 17 c') ∧ OwnI 3 w' w.heap.size w'.heap.size (.slice p' 17 c') 17 (dL (keyD ks) 17) ∧ Below w.heap.size w w' := by
  have CN := l6Num_any (some ⟨b, o, none⟩) 16 c 0 ks w (by omega) hb h
  have HB : Hid (∀ i, numD ks 16 0 i < 256) := numD_lt hb (by decide)
  clear h hb
  go_enter Try.func23, Try.ntmps23
  go_wp2_with (fail)
  refine CN.mono ?_
  rintro e w1 ⟨p1, c1, rfl, r1, b1⟩
  obtain ⟨g, hg⟩ := owns_at r1.1 (by decide)
  subst hg
  have hown := r1.1
  rw [key1_start] at hown
  have hglo := (hown.lt g rfl).1
  clear CN r1
  go_wp2_with (fail)
  go_loopw [4] (fun i wr => ∃ k : Nat, k ≤ 4 ∧ i = .int .i64 ((3 + 4 * k : Nat) : Int) ∧ wr.ownsRow w.heap.size 3 1 (.slice (some ⟨g, 0, none⟩) 17 c1) 17 ((dL (key1 ks k) 17).map (Value.int .i64)) ∧ Below w.heap.size w wr)
    (fun i _ => 20 - (intOf i).toNat)
  case atStart => exact ⟨0, by omega, rfl, hown, b1⟩
  case round =>
    clear hown b1
    obtain ⟨k, hk, rfl, hown, bel⟩ := hrel
    by_cases hlt : k < 4
    · obtain ⟨j, hj⟩ : ∃ j : Nat, j = 3 + 4 * k := ⟨_, rfl⟩
      have hgk := key1_get ks k
      have st0 := hown.stored (3 + 4 * k) (.int .i64 ((numD ks 16 0 (3 + 4 * k) % 16 : Nat) : Int))
      rw [← List.map_set, dL_set, key1_step] at st0
      have e1 : wr.cell? ⟨g, 3 + 4 * k, none⟩ = some (.int .i64 ((numD ks 16 0 (3 + 4 * k) : Nat) : Int)) := by
        rw [hown.cellAt _ (by omega), List.getElem?_map]
        simp [dL, hgk, show 3 + 4 * k < 17 by omega]
      have hfr := hown.frozenAt (3 + 4 * k)
      have hv := HB.out (3 + 4 * k)
      have hj4 : ((3 + 4 * (k + 1) : Nat) : Int) = (j : Int) + 4 := by omega
      rw [← hj] at st0 e1 hfr hv ⊢
      have lj : (j : Int) < 16 := by omega
      have lj7 : (j : Int) < 17 := by omega
      generalize numD ks 16 0 j = v at st0 e1 hv
      obtain ⟨v', hv'⟩ : ∃ v' : Nat, v' = v % 16 := ⟨_, rfl⟩
      have ea := and_15 v (by omega)
      rw [← hv'] at ea st0
      have st' := st0.1
      have hb' := bel.grown st0.2 bel.size (fun k hk => by cases hk; exact hglo)
      have hm : j < 20 := by omega
      clear st0 hown hj hgk hv'
      go_wp2_with (fail)
      go_roundw
      case rel => exact ⟨k + 1, by omega, by rw [hj4], st', hb'⟩
      case measure => simp [intOf]; omega
    · obtain rfl : k = 4 := by omega
      rw [key2_start] at hown
      go_wp2_with (fail)
      go_loopw [5] (fun i wr => ∃ k : Nat, k ≤ 3 ∧ i = .int .i64 ((4 + 4 * k : Nat) : Int) ∧ wr.ownsRow w.heap.size 3 1 (.slice (some ⟨g, 0, none⟩) 17 c1) 17 ((dL (key2 ks k) 17).map (Value.int .i64)) ∧ Below w.heap.size w wr)
        (fun i _ => 20 - (intOf i).toNat)
      case atStart => exact ⟨0, by omega, rfl, hown, bel⟩
      case round =>
        clear hown bel
        obtain ⟨k, hk, rfl, hown, bel⟩ := hrel
        by_cases hlt : k < 3
        · obtain ⟨j, hj⟩ : ∃ j : Nat, j = 4 + 4 * k := ⟨_, rfl⟩
          have hgk := key2_get ks k
          have st0 := hown.stored (4 + 4 * k) (.int .i64 ((numD ks 16 0 (4 + 4 * k) / 4 * 4 : Nat) : Int))
          rw [← List.map_set, dL_set, key2_step] at st0
          have e1 : wr.cell? ⟨g, 4 + 4 * k, none⟩ = some (.int .i64 ((numD ks 16 0 (4 + 4 * k) : Nat) : Int)) := by
            rw [hown.cellAt _ (by omega), List.getElem?_map]
            simp [dL, hgk, show 4 + 4 * k < 17 by omega]
          have hfr := hown.frozenAt (4 + 4 * k)
          have hv := HB.out (4 + 4 * k)
          have hj4 : ((4 + 4 * (k + 1) : Nat) : Int) = (j : Int) + 4 := by omega
          rw [← hj] at st0 e1 hfr hv ⊢
          have lj : (j : Int) < 16 := by omega
          have lj7 : (j : Int) < 17 := by omega
          generalize numD ks 16 0 j = v at st0 e1 hv
          obtain ⟨v', hv'⟩ : ∃ v' : Nat, v' = v / 4 * 4 := ⟨_, rfl⟩
          have ea := and_252 v hv
          rw [← hv'] at ea st0
          have st' := st0.1
          have hb' := bel.grown st0.2 bel.size (fun k hk => by cases hk; exact hglo)
          have hm : j < 20 := by omega
          clear st0 hown hj hgk hv'
          go_wp2_with (fail)
          go_roundw
          case rel => exact ⟨k + 1, by omega, by rw [hj4], st', hb'⟩
          case measure => simp [intOf]; omega
        · obtain rfl : k = 3 := by omega
          rw [key2_end] at hown
          go_wp2_with (fail)
          go_ret
          exact ⟨_, _, rfl, .of hown, bel⟩

end Go.Proofs.Ythgnekdhldjjmab
