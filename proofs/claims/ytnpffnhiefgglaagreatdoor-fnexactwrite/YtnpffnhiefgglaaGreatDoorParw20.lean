/-
  A part of the proof.
-/
import Derived.Test.YtnpffnhiefgglaaGreatDoorParw19
namespace Go.Proofs.YtnpffnhiefgglaaGreatDoor
open Go.RowKit
set_option maxRecDepth 100000
def rows1 (h r : Nat → Nat) (k i : Nat) : Nat := if i < k then rowN h r i 17 else 0
theorem rows1_step (h r : Nat → Nat) (k : Nat) : dL (fun i => if i = k then rowN h r k 17 else rows1 h r k i) 17 = dL (rows1 h r (k + 1)) 17 := by
  refine dL_congr fun i _ => ?_
  unfold rows1
  by_cases h : i = k
  · subst h; simp
  · have : i < k ↔ i < k + 1 := by omega
    simp [h, this]
theorem rows1_end (h r : Nat → Nat) : dL (rows1 h r 17) 17 = dL (fun k => rowN h r k 17) 17 := dL_congr fun i hi => by simp [rows1, hi]
theorem rows1_start (h r : Nat → Nat) : (madeCells #[Value.int .i64 0] 17).toList = (dL (rows1 h r 0) 17).map (Value.int .i64) := by
  rw [show dL (rows1 h r 0) 17 = dL (fun _ => 0) 17 from dL_congr fun i _ => by simp [rows1], fill_startI ([] : List Int) 17]
  rfl
set_option maxHeartbeats 2400000 in
theorem l6Times_any (p q : Option Addr) (c d : Nat) (h r : Nat → Nat) (w : World) (hp : IntsIn w p 17 (dL h 17)) (hq : IntsIn w q 17 (dL r 17)) (hh : ∀ i, h i < 256) (hr : ∀ i, r i < 256) :
    Calls Tryz.prog 160 #[.slice p 17 c, .slice q 17 d] w fun e w' => ∃ p' c', e = .returned (.slice p' 17 c') ∧ OwnI 3 w' w.heap.size w'.heap.size (.slice p' 17 c') 17 (dL (lessN (fun k => rowN h r k 17)) 17) ∧ Below w.heap.size w w' := by
  obtain ⟨i0, hi, hz0, hz1, hz2⟩ := info_parts infoInt
  obtain ⟨b1, o1, rfl, hc1⟩ := hp (by decide)
  obtain ⟨b2, o2, rfl, hc2⟩ := hq (by decide)
  have l1 : b1 < w.heap.size := World.block_lt_of_cell? w ⟨b1, o1 + 0, none⟩ (hc1 0 (by omega))
  have l2 : b2 < w.heap.size := World.block_lt_of_cell? w ⟨b2, o2 + 0, none⟩ (hc2 0 (by omega))
  have HC : Hid (∀ X k m, k < 17 → m < 17 → Below w.heap.size w X → X.cell? ⟨b1, o1 + k, none⟩ = some (.int .i64 ((h k : Nat) : Int)) ∧ X.cell? ⟨b2, o2 + m, none⟩ = some (.int .i64 ((r m : Nat) : Int))) := fun X k m hk hm hX => by
    have a1 := hc1 k hk
    have a2 := hc2 m hm
    rw [dL_getD _ hk] at a1
    rw [dL_getD _ hm] at a2
    exact ⟨(hX.cell (p := ⟨b1, o1 + k, none⟩) l1).trans a1, (hX.cell (p := ⟨b2, o2 + m, none⟩) l2).trans a2⟩
  have HR : Hid (∀ i j, j ≤ 17 → rowN h r i j ≤ 356515840) := fun i j hj => by
    have := rowN_le hh hr i j
    omega
  clear hp hq hc1 hc2 l1 l2
  go_enter Tryz.func160, Tryz.ntmps160
  go_wp2_with (at_make; refine wpList_make_full _ rfl _ _ 52 rfl w.heap.size 3 i0 (.int .i64 0) 1 Tryz.underlying52 hi hz0 hz1 _ _ _ _ 17 rfl rfl rfl rfl (by rw [hz2]; omega) (by unfold maxLen; omega) (Nat.le_refl _) ?_)
  intro w1 hown hgrow
  have bel : Below w.heap.size w w1 := (Below.refl _ _).grown hgrow (Nat.le_refl _) (fun _ h => by cases h)
  rw [rows1_start h r] at hown
  clear hgrow
  go_wp2_with (fail)
  go_loopw [6] (fun i wr => ∃ k : Nat, k ≤ 17 ∧ i = .int .i64 k ∧ wr.ownsRow w.heap.size 3 1 (.slice (some ⟨w.heap.size, 0, none⟩) 17 17) 17 ((dL (rows1 h r k) 17).map (Value.int .i64)) ∧ Below w.heap.size w wr)
    (fun i _ => 17 - (intOf i).toNat)
  case atStart => exact ⟨0, by omega, rfl, hown, bel⟩
  case round =>
    clear hown bel
    obtain ⟨k, hk, rfl, hown, bel⟩ := hrel
    by_cases hlt : k < 17
    · have hlt' : (k : Int) < 17 := by omega
      go_wp2_with (fail)
      go_loopw [7, 8] (fun n j wX => ∃ m : Nat, m ≤ 17 ∧ j = .int .i64 m ∧ n = .int .i64 ((rowN h r k m : Nat) : Int) ∧ wX.ownsRow w.heap.size 3 1 (.slice (some ⟨w.heap.size, 0, none⟩) 17 17) 17 ((dL (rows1 h r k) 17).map (Value.int .i64)) ∧ Below w.heap.size w wX)
        (fun _ j _ => 17 - (intOf j).toNat)
      case atStart => exact ⟨0, by omega, rfl, rfl, hown, bel⟩
      case round =>
        clear hown bel
        obtain ⟨m, hm, rfl, rfl, hown, bel⟩ := hrel
        by_cases hlm : m < 17
        · have hlm' : (m : Int) < 17 := by omega
          have hs := hh m
          have ln := HR.out k m hm
          by_cases hle : m ≤ k
          · have hle' : (m : Int) ≤ (k : Int) := by omega
            obtain ⟨e1, e2⟩ := HC.out wr m (k - m) hlm (by omega) bel
            have ht := hr (k - m)
            have HN : Hid (rowN h r k (m + 1) = rowN h r k m + h m * r (k - m)) := by
              show rowN h r k m + coefN h r k m = _
              rw [coefN, if_pos hle]
            generalize rowN h r k m = n at ln HN
            generalize h m = x at e1 hs HN
            generalize r (k - m) = y at e2 ht HN
            obtain ⟨f, hf⟩ : ∃ f : Nat, f = k - m := ⟨_, rfl⟩
            rw [← hf] at e2
            have ef : (k : Int) - (m : Int) = (f : Int) := by omega
            have lf : (f : Int) < 17 := by omega
            have hxy : x * y ≤ 65025 := Nat.mul_le_mul (by omega : x ≤ 255) (by omega : y ≤ 255)
            obtain ⟨z, hz⟩ : ∃ z : Nat, z = x * y := ⟨_, rfl⟩
            have ez : (x : Int) * (y : Int) = (z : Int) := by rw [hz]; exact (Int.natCast_mul x y).symm
            rw [← hz] at hxy HN
            obtain ⟨v, hv⟩ : ∃ v : Nat, v = n + z := ⟨_, rfl⟩
            have ev : (n : Int) + (z : Int) = (v : Int) := by omega
            rw [← hv] at HN
            have lv : v < 1000000000 := by omega
            clear hf hz hv
            go_wp2_with (fail)
            go_quiet (fail)
            obtain ⟨wd, hwd⟩ : ∃ wd, wd = wr.drewN nq := ⟨_, rfl⟩
            rw [← hwd]
            have bd : Below wr.heap.size wr wd := by rw [hwd]; exact below_drewN (Below.refl _ _) _
            replace hown := owns_below hown bd
            replace bel := below_on bel bd
            clear hwd bd e1 e2 hs ht ev ez ef
            go_wp2_with (fail)
            go_roundw
            case rel => exact ⟨m + 1, by omega, by go_num, by rw [HN.out], hown, bel⟩
            case measure => simp [intOf]; omega
          · have hle' : ¬ (m : Int) ≤ (k : Int) := by omega
            obtain ⟨e1, e2⟩ := HC.out wr m (k + 17 - m) hlm (by omega) bel
            have ht := hr (k + 17 - m)
            have HN : Hid (rowN h r k (m + 1) = rowN h r k m + 320 * h m * r (k + 17 - m)) := by
              show rowN h r k m + coefN h r k m = _
              rw [coefN, if_neg hle]
            generalize rowN h r k m = n at ln HN
            generalize h m = x at e1 hs HN
            generalize r (k + 17 - m) = y at e2 ht HN
            obtain ⟨k7, hk7⟩ : ∃ k7 : Nat, k7 = k + 17 := ⟨_, rfl⟩
            have ek : (k : Int) + 17 = (k7 : Int) := by omega
            obtain ⟨f, hf⟩ : ∃ f : Nat, f = k + 17 - m := ⟨_, rfl⟩
            rw [← hf] at e2
            have ef : (k7 : Int) - (m : Int) = (f : Int) := by omega
            have lf : (f : Int) < 17 := by omega
            have lk7 : k7 < 100 := by omega
            obtain ⟨x3, hx3⟩ : ∃ x3 : Nat, x3 = 320 * x := ⟨_, rfl⟩
            have ex : (320 : Int) * (x : Int) = (x3 : Int) := by omega
            have lx : x3 ≤ 81600 := by omega
            rw [← hx3] at HN
            have hxy : x3 * y ≤ 20808000 := Nat.mul_le_mul lx (by omega : y ≤ 255)
            obtain ⟨z, hz⟩ : ∃ z : Nat, z = x3 * y := ⟨_, rfl⟩
            have ez : (x3 : Int) * (y : Int) = (z : Int) := by rw [hz]; exact (Int.natCast_mul x3 y).symm
            rw [← hz] at hxy HN
            obtain ⟨v, hv⟩ : ∃ v : Nat, v = n + z := ⟨_, rfl⟩
            have ev : (n : Int) + (z : Int) = (v : Int) := by omega
            rw [← hv] at HN
            have lv : v < 1000000000 := by omega
            clear hf hz hv hx3 hk7
            go_wp2_with (fail)
            go_quiet (fail)
            obtain ⟨wd, hwd⟩ : ∃ wd, wd = wr.drewN nq := ⟨_, rfl⟩
            rw [← hwd]
            have bd : Below wr.heap.size wr wd := by rw [hwd]; exact below_drewN (Below.refl _ _) _
            replace hown := owns_below hown bd
            replace bel := below_on bel bd
            clear hwd bd e1 e2 hs ht ev ez ef ex ek
            go_wp2_with (fail)
            go_roundw
            case rel => exact ⟨m + 1, by omega, by go_num, by rw [HN.out], hown, bel⟩
            case measure => simp [intOf]; omega
        · obtain rfl : m = 17 := by omega
          have hfr := hown.frozenAt k
          have hold : wr.cell? ⟨w.heap.size, k, none⟩ = some (.int .i64 0) := by
            rw [hown.cellAt k (by omega), List.getElem?_map]
            simp [dL, rows1, hlt]
          have st := hown.stored k (.int .i64 ((rowN h r k 17 : Nat) : Int))
          rw [← List.map_set, dL_set, rows1_step] at st
          generalize rowN h r k 17 = n at st
          have st' := st.1
          have hb' := bel.grown st.2 bel.size (fun k hk => by cases hk; exact Nat.le_refl _)
          clear st hown
          go_wp2_with (fail)
          go_roundw
          case rel => exact ⟨k + 1, by omega, by go_num, st', hb'⟩
          case measure => simp [intOf]; omega
    · obtain rfl : k = 17 := by omega
      rw [rows1_end] at hown
      have CL := l6Less_any w.heap.size w.heap.size 17 (fun k => rowN h r k 17) wr (fun i => HR.out i 17 (by omega)) hown
      clear hown
      go_wp2_with (fail)
      refine CL.mono ?_
      rintro e w9 ⟨rfl, ho9, hg9⟩
      have hb9 := bel.grown hg9 bel.size (fun k hk => by cases hk; exact Nat.le_refl _)
      clear CL
      go_wp2_with (fail)
      go_ret
      exact ⟨_, _, rfl, .of ho9, hb9⟩
def byN (xs : List Int) (i : Nat) : Nat := (xs.getD i 0).toNat
theorem byN_lt {xs : List Int} (hb : ∀ x ∈ xs, 0 ≤ x ∧ x < 256) (i : Nat) : byN xs i < 256 := by
  unfold byN
  rw [List.getD_eq_getElem?_getD]
  cases hk : xs[i]? with
  | none => decide
  | some x => have := hb x (List.mem_of_getElem? hk); simp only [Option.getD_some]; omega
theorem byN_cast {xs : List Int} (hb : ∀ x ∈ xs, 0 ≤ x ∧ x < 256) (i : Nat) : xs.getD i 0 = ((byN xs i : Nat) : Int) := by
  unfold byN
  rw [List.getD_eq_getElem?_getD]
  cases hk : xs[i]? with
  | none => rfl
  | some x => have := hb x (List.mem_of_getElem? hk); simp only [Option.getD_some]; omega
def numD (xs : List Int) (n last i : Nat) : Nat := if i < n then byN xs i else if i = n then last else 0
def num1 (xs : List Int) (k i : Nat) : Nat := if i < k then byN xs i else 0
theorem num1_step (xs : List Int) (k : Nat) : dL (fun i => if i = k then byN xs k else num1 xs k i) 17 = dL (num1 xs (k + 1)) 17 := by
  refine dL_congr fun i _ => ?_
  unfold num1
  by_cases h : i = k
  · subst h; simp
  · have : i < k ↔ i < k + 1 := by omega
    simp [h, this]
theorem num1_end (xs : List Int) (n last : Nat) : dL (fun i => if i = n then last else num1 xs n i) 17 = dL (numD xs n last) 17 := by
  refine dL_congr fun i _ => ?_
  unfold num1 numD
  by_cases h : i = n
  · subst h; simp
  · simp [h]
theorem num1_start (xs : List Int) : (madeCells #[Value.int .i64 0] 17).toList = (dL (num1 xs 0) 17).map (Value.int .i64) := by
  rw [show dL (num1 xs 0) 17 = dL (fun _ => 0) 17 from dL_congr fun i _ => by simp [num1], fill_startI ([] : List Int) 17]
  rfl
theorem l1Min_is (a b : Int) (w : World) : Calls Tryz.prog 163 #[.int .i64 a, .int .i64 b] w fun e w' => e = .returned (.int .i64 (min a b)) ∧ w' = w := by
  by_cases h : a < b
  · rw [Int.min_eq_left (by omega)]
    go_enter Tryz.func163, Tryz.ntmps163
    go_wp2
    go_ret
    exact ⟨rfl, rfl⟩
  · rw [Int.min_eq_right (by omega)]
    go_enter Tryz.func163, Tryz.ntmps163
    go_wp2
    go_ret
    exact ⟨rfl, rfl⟩
set_option maxHeartbeats 2400000 in
theorem l6Num_any (p : Option Addr) (n c last : Nat) (xs : List Int) (w : World) (hn : n ≤ 16) (hb : ∀ x ∈ xs, 0 ≤ x ∧ x < 256) (h : BytesIn w p n xs) :
    Calls Tryz.prog 162 #[.slice p n c, .int .i64 (last : Int)] w fun e w' => ∃ p' c', e = .returned (.slice p' 17 c') ∧ OwnI 3 w' w.heap.size w'.heap.size (.slice p' 17 c') 17 (dL (numD xs n last) 17) ∧ Below w.heap.size w w' := by
  obtain ⟨i0, hi, hz0, hz1, hz2⟩ := info_parts infoInt
  have CM : ∀ X, Calls Tryz.prog 163 #[.int .i64 (n : Int), .int .i64 16] X fun e w' => e = .returned (.int .i64 (n : Int)) ∧ w' = X := fun X => by
    have := l1Min_is (n : Int) 16 X
    rwa [Int.min_eq_left (by omega)] at this
  have HC : Hid (∀ X k, k < n → Below w.heap.size w X → ∃ b o, p = some ⟨b, o, none⟩ ∧ X.cell? ⟨b, o + k, none⟩ = some (.int .u8 ((byN xs k : Nat) : Int))) := fun X k hk hX => by
    obtain ⟨b, o, e1, e2⟩ := h (by omega)
    have a1 := e2 k hk
    have l1 : b < w.heap.size := World.block_lt_of_cell? w ⟨b, o + k, none⟩ a1
    rw [byN_cast hb] at a1
    exact ⟨b, o, e1, (hX.cell (p := ⟨b, o + k, none⟩) l1).trans a1⟩
  have HB := byN_lt hb
  clear h hb
  go_enter Tryz.func162, Tryz.ntmps162
  go_wp2_with (at_make; refine wpList_make_full _ rfl _ _ 52 rfl w.heap.size 3 i0 (.int .i64 0) 1 Tryz.underlying52 hi hz0 hz1 _ _ _ _ 17 rfl rfl rfl rfl (by rw [hz2]; omega) (by unfold maxLen; omega) (Nat.le_refl _) ?_)
  intro w1 hown hgrow
  have bel : Below w.heap.size w w1 := (Below.refl _ _).grown hgrow (Nat.le_refl _) (fun _ h => by cases h)
  rw [num1_start xs] at hown
  clear hgrow
  go_wp2_with (fail)
  go_loopw [6] (fun i wr => ∃ k : Nat, k ≤ n ∧ i = .int .i64 k ∧ wr.ownsRow w.heap.size 3 1 (.slice (some ⟨w.heap.size, 0, none⟩) 17 17) 17 ((dL (num1 xs k) 17).map (Value.int .i64)) ∧ Below w.heap.size w wr)
    (fun i _ => 17 - (intOf i).toNat)
  case atStart => exact ⟨0, by omega, rfl, hown, bel⟩
  case round =>
    clear hown bel
    obtain ⟨k, hk, rfl, hown, bel⟩ := hrel
    by_cases hlt : k < n
    · have hlt' : (k : Int) < (n : Int) := by omega
      have hlt6 : (k : Int) < 16 := by omega
      have hlt7 : (k : Int) < 17 := by omega
      obtain ⟨b, o, hp, e1⟩ := HC.out wr k hlt bel
      subst hp
      have hs := HB k
      have hfr := hown.frozenAt k
      have hold : wr.cell? ⟨w.heap.size, k, none⟩ = some (.int .i64 0) := by
        rw [hown.cellAt k (by omega), List.getElem?_map]
        simp [dL, num1, show k < 17 by omega]
      have st := hown.stored k (.int .i64 ((byN xs k : Nat) : Int))
      rw [← List.map_set, dL_set, num1_step] at st
      generalize byN xs k = y at e1 hs st
      have st' := st.1
      have hb' := bel.grown st.2 bel.size (fun k hk => by cases hk; exact Nat.le_refl _)
      clear st hown
      go_wp2_with (fail)
      go_roundw
      case rel => exact ⟨k + 1, by omega, by go_num, st', hb'⟩
      case measure => simp [intOf]; omega
    · obtain rfl : k = n := by omega
      have hnl : ¬ (k : Int) < (k : Int) := by omega
      have hlt7 : (k : Int) < 17 := by omega
      have hfr := hown.frozenAt k
      have hold : wr.cell? ⟨w.heap.size, k, none⟩ = some (.int .i64 0) := by
        rw [hown.cellAt k (by omega), List.getElem?_map]
        simp [dL, num1, show k < 17 by omega]
      have st := hown.stored k (.int .i64 (last : Int))
      rw [← List.map_set, dL_set, num1_end] at st
      have st' := st.1
      have hb' := bel.grown st.2 bel.size (fun k hk => by cases hk; exact Nat.le_refl _)
      clear st hown
      go_wp2_with (fail)
      refine (CM _).mono ?_
      rintro e w2 ⟨rfl, rfl⟩
      go_wp2_with (fail)
      go_ret
      exact ⟨_, _, rfl, .of st', hb'⟩
def keyD (ks : List Int) (i : Nat) : Nat := if 16 ≤ i then 0 else if i % 4 = 3 then byN ks i % 16 else if i % 4 = 0 ∧ 4 ≤ i then byN ks i / 4 * 4 else byN ks i
theorem keyD_lt {ks : List Int} (hb : ∀ x ∈ ks, 0 ≤ x ∧ x < 256) (i : Nat) : keyD ks i < 256 := by
  have := byN_lt hb i
  unfold keyD
  split
  · decide
  · split
    · omega
    · split <;> omega
def key1 (ks : List Int) (k i : Nat) : Nat := if i % 4 = 3 ∧ i < 3 + 4 * k then numD ks 16 0 i % 16 else numD ks 16 0 i
def key2 (ks : List Int) (k i : Nat) : Nat := if i % 4 = 0 ∧ 4 ≤ i ∧ i < 4 + 4 * k then numD ks 16 0 i / 4 * 4 else key1 ks 4 i
theorem key1_step (ks : List Int) (k : Nat) : dL (fun i => if i = 3 + 4 * k then numD ks 16 0 (3 + 4 * k) % 16 else key1 ks k i) 17 = dL (key1 ks (k + 1)) 17 := by
  refine dL_congr fun i _ => ?_
  unfold key1
  by_cases h : i = 3 + 4 * k
  · subst h
    have : (3 + 4 * k) % 4 = 3 := by omega
    have h2 : 3 + 4 * k < 3 + 4 * (k + 1) := by omega
    simp [this, h2]
  · have : (i % 4 = 3 ∧ i < 3 + 4 * k) ↔ (i % 4 = 3 ∧ i < 3 + 4 * (k + 1)) := by omega
    simp only [h, if_false, this]
theorem key2_step (ks : List Int) (k : Nat) : dL (fun i => if i = 4 + 4 * k then numD ks 16 0 (4 + 4 * k) / 4 * 4 else key2 ks k i) 17 = dL (key2 ks (k + 1)) 17 := by
  refine dL_congr fun i _ => ?_
  unfold key2
  by_cases h : i = 4 + 4 * k
  · subst h
    have h1 : (4 + 4 * k) % 4 = 0 ∧ 4 ≤ 4 + 4 * k ∧ 4 + 4 * k < 4 + 4 * (k + 1) := by omega
    simp only [if_true, if_pos h1]
  · have : (i % 4 = 0 ∧ 4 ≤ i ∧ i < 4 + 4 * k) ↔ (i % 4 = 0 ∧ 4 ≤ i ∧ i < 4 + 4 * (k + 1)) := by omega
    simp only [h, if_false, this]
theorem key1_start (ks : List Int) : dL (numD ks 16 0) 17 = dL (key1 ks 0) 17 := by
  refine dL_congr fun i _ => ?_
  unfold key1
  rw [if_neg (by omega)]
theorem key2_start (ks : List Int) : dL (key1 ks 4) 17 = dL (key2 ks 0) 17 := by
  refine dL_congr fun i _ => ?_
  unfold key2
  rw [if_neg (by omega)]
theorem key2_end (ks : List Int) : dL (key2 ks 3) 17 = dL (keyD ks) 17 := by
  refine dL_congr fun i hi => ?_
  unfold key2 key1 keyD numD
  by_cases h : 16 ≤ i
  · obtain rfl : i = 16 := by omega
    simp
  · have h' : i < 16 := by omega
    simp only [h, if_false, h', if_true]
    by_cases h3 : i % 4 = 3
    · have c2 : ¬ (i % 4 = 0 ∧ 4 ≤ i ∧ True) := by omega
      have c1 : i % 4 = 3 ∧ i < 3 + 4 * 4 := by omega
      rw [if_neg c2, if_pos c1, if_pos h3]
    · rw [if_neg h3]
      have c1 : ¬ (i % 4 = 3 ∧ i < 3 + 4 * 4) := by omega
      by_cases h0 : i % 4 = 0 ∧ 4 ≤ i
      · have c2 : i % 4 = 0 ∧ 4 ≤ i ∧ True := ⟨h0.1, h0.2, trivial⟩
        rw [if_pos c2, if_pos h0]
      · have c2 : ¬ (i % 4 = 0 ∧ 4 ≤ i ∧ True) := by omega
        rw [if_neg c2, if_neg c1, if_neg h0]
theorem key1_get (ks : List Int) (k : Nat) : key1 ks k (3 + 4 * k) = numD ks 16 0 (3 + 4 * k) := by unfold key1; rw [if_neg (by omega)]
theorem key2_get (ks : List Int) (k : Nat) : key2 ks k (4 + 4 * k) = numD ks 16 0 (4 + 4 * k) := by unfold key2 key1; rw [if_neg (by omega), if_neg (by omega)]
theorem numD_lt {xs : List Int} (hb : ∀ x ∈ xs, 0 ≤ x ∧ x < 256) {n last : Nat} (hl : last < 256) (i : Nat) : numD xs n last i < 256 := by
  have := byN_lt hb i
  unfold numD
  split
  · exact this
  · split <;> omega
set_option maxRecDepth 10000 in
theorem nat_252 : ∀ v, v < 256 → v &&& 252 = v / 4 * 4 := by decide
theorem and_252 (v : Nat) (hv : v < 256) : bits .and .i64 (v : Int) 252 = ((v / 4 * 4 : Nat) : Int) := by
  have e : bits .and .i64 (v : Int) 252 = IntKind.i64.wrap ((BitVec.ofInt 64 (v : Int) &&& BitVec.ofInt 64 252).toNat : Int) := rfl
  have e1 : (BitVec.ofInt 64 (v : Int)).toNat = v := by rw [BitVec.toNat_ofInt]; omega
  have e2 : (BitVec.ofInt 64 252).toNat = 252 := rfl
  rw [e, BitVec.toNat_and, e1, e2, nat_252 v hv, IntKind.wrap_i64]
  omega
set_option maxHeartbeats 2400000 in
theorem l6Key_any (b o c : Nat) (ks : List Int) (w : World) (hc : 32 ≤ c) (hb : ∀ x ∈ ks, 0 ≤ x ∧ x < 256) (h : BytesIn w (some ⟨b, o, none⟩) 16 ks) :
    Calls Tryz.prog 159 #[.slice (some ⟨b, o, none⟩) 32 c] w fun e w' => ∃ p' c', e = .returned (.slice p' 17 c') ∧ OwnI 3 w' w.heap.size w'.heap.size (.slice p' 17 c') 17 (dL (keyD ks) 17) ∧ Below w.heap.size w w' := by
  have CN := l6Num_any (some ⟨b, o, none⟩) 16 c 0 ks w (by omega) hb h
  have HB : Hid (∀ i, numD ks 16 0 i < 256) := numD_lt hb (by decide)
  clear h hb
  go_enter Tryz.func159, Tryz.ntmps159
  go_wp2_with (fail)
  refine CN.mono ?_
  rintro e w1 ⟨p1, c1, rfl, r1, b1⟩
  obtain ⟨g, hg⟩ := owns_at r1.1 (by decide)
  subst hg
  have hown := r1.1
  rw [key1_start] at hown
  have hglo := (hown.lt g rfl).1
  clear CN r1
  go_wp2_with (fail)
  go_loopw [4] (fun i wr => ∃ k : Nat, k ≤ 4 ∧ i = .int .i64 ((3 + 4 * k : Nat) : Int) ∧ wr.ownsRow w.heap.size 3 1 (.slice (some ⟨g, 0, none⟩) 17 c1) 17 ((dL (key1 ks k) 17).map (Value.int .i64)) ∧ Below w.heap.size w wr)
    (fun i _ => 20 - (intOf i).toNat)
  case atStart => exact ⟨0, by omega, rfl, hown, b1⟩
  case round =>
    clear hown b1
    obtain ⟨k, hk, rfl, hown, bel⟩ := hrel
    by_cases hlt : k < 4
    · obtain ⟨j, hj⟩ : ∃ j : Nat, j = 3 + 4 * k := ⟨_, rfl⟩
      have hgk := key1_get ks k
      have st0 := hown.stored (3 + 4 * k) (.int .i64 ((numD ks 16 0 (3 + 4 * k) % 16 : Nat) : Int))
      rw [← List.map_set, dL_set, key1_step] at st0
      have e1 : wr.cell? ⟨g, 3 + 4 * k, none⟩ = some (.int .i64 ((numD ks 16 0 (3 + 4 * k) : Nat) : Int)) := by
        rw [hown.cellAt _ (by omega), List.getElem?_map]
        simp [dL, hgk, show 3 + 4 * k < 17 by omega]
      have hfr := hown.frozenAt (3 + 4 * k)
      have hv := HB.out (3 + 4 * k)
      have hj4 : ((3 + 4 * (k + 1) : Nat) : Int) = (j : Int) + 4 := by omega
      rw [← hj] at st0 e1 hfr hv ⊢
      have lj : (j : Int) < 16 := by omega
      have lj7 : (j : Int) < 17 := by omega
      generalize numD ks 16 0 j = v at st0 e1 hv
      obtain ⟨v', hv'⟩ : ∃ v' : Nat, v' = v % 16 := ⟨_, rfl⟩
      have ea := and_15 v (by omega)
      rw [← hv'] at ea st0
      have st' := st0.1
      have hb' := bel.grown st0.2 bel.size (fun k hk => by cases hk; exact hglo)
      have hm : j < 20 := by omega
      clear st0 hown hj hgk hv'
      go_wp2_with (fail)
      go_roundw
      case rel => exact ⟨k + 1, by omega, by rw [hj4], st', hb'⟩
      case measure => simp [intOf]; omega
    · obtain rfl : k = 4 := by omega
      rw [key2_start] at hown
      go_wp2_with (fail)
      go_loopw [5] (fun i wr => ∃ k : Nat, k ≤ 3 ∧ i = .int .i64 ((4 + 4 * k : Nat) : Int) ∧ wr.ownsRow w.heap.size 3 1 (.slice (some ⟨g, 0, none⟩) 17 c1) 17 ((dL (key2 ks k) 17).map (Value.int .i64)) ∧ Below w.heap.size w wr)
        (fun i _ => 20 - (intOf i).toNat)
      case atStart => exact ⟨0, by omega, rfl, hown, bel⟩
      case round =>
        clear hown bel
        obtain ⟨k, hk, rfl, hown, bel⟩ := hrel
        by_cases hlt : k < 3
        · obtain ⟨j, hj⟩ : ∃ j : Nat, j = 4 + 4 * k := ⟨_, rfl⟩
          have hgk := key2_get ks k
          have st0 := hown.stored (4 + 4 * k) (.int .i64 ((numD ks 16 0 (4 + 4 * k) / 4 * 4 : Nat) : Int))
          rw [← List.map_set, dL_set, key2_step] at st0
          have e1 : wr.cell? ⟨g, 4 + 4 * k, none⟩ = some (.int .i64 ((numD ks 16 0 (4 + 4 * k) : Nat) : Int)) := by
            rw [hown.cellAt _ (by omega), List.getElem?_map]
            simp [dL, hgk, show 4 + 4 * k < 17 by omega]
          have hfr := hown.frozenAt (4 + 4 * k)
          have hv := HB.out (4 + 4 * k)
          have hj4 : ((4 + 4 * (k + 1) : Nat) : Int) = (j : Int) + 4 := by omega
          rw [← hj] at st0 e1 hfr hv ⊢
          have lj : (j : Int) < 16 := by omega
          have lj7 : (j : Int) < 17 := by omega
          generalize numD ks 16 0 j = v at st0 e1 hv
          obtain ⟨v', hv'⟩ : ∃ v' : Nat, v' = v / 4 * 4 := ⟨_, rfl⟩
          have ea := and_252 v hv
          rw [← hv'] at ea st0
          have st' := st0.1
          have hb' := bel.grown st0.2 bel.size (fun k hk => by cases hk; exact hglo)
          have hm : j < 20 := by omega
          clear st0 hown hj hgk hv'
          go_wp2_with (fail)
          go_roundw
          case rel => exact ⟨k + 1, by omega, by rw [hj4], st', hb'⟩
          case measure => simp [intOf]; omega
        · obtain rfl : k = 3 := by omega
          rw [key2_end] at hown
          go_wp2_with (fail)
          go_ret
          exact ⟨_, _, rfl, .of hown, bel⟩
def chunkN (m k : Nat) : Nat := min 16 (m - 16 * k)
def chunkD (bs : List Int) (m k : Nat) : Nat → Nat := numD (bs.drop (16 * k)) (chunkN m k) 1
def hD (bs : List Int) (m : Nat) (r : Nat → Nat) : Nat → Nat → Nat
  | 0 => fun _ => 0
  | k + 1 => stepD (hD bs m r k) (chunkD bs m k) r
def tagK (m : Nat) : Nat := (m + 15) / 16
def tagD (ks bs : List Int) (m : Nat) : Nat → Nat := sumD (lastD (hD bs m (keyD ks) (tagK m))) (numD (ks.drop 16) 16 0)
theorem tagD_eq (ks bs : List Int) (m : Nat) : tagD ks bs m = sumD (lastD (hD bs m (keyD ks) (tagK m))) (numD (ks.drop 16) 16 0) := rfl
theorem valN_zero : ∀ n, valN (fun _ => 0) n = 0
  | 0 => rfl
  | n + 1 => by rw [valN, valN_zero n]; simp
theorem hD_ok (bs : List Int) (m : Nat) {r : Nat → Nat} (hr : ∀ i, r i < 256) : ∀ k, okD (hD bs m r k)
  | 0 => ⟨fun _ _ => by show (0 : Nat) < 256; decide, by show (0 : Nat) ≤ 4; decide, by
      have : valN (hD bs m r 0) 17 = 0 := valN_zero 17
      rw [this]; decide⟩
  | k + 1 => stepD_ok _ _ hr
theorem okD_lt {h : Nat → Nat} (ho : okD h) : ∀ i, i < 17 → h i < 256 := fun i hi => by
  by_cases h6 : i < 16
  · exact ho.1 i h6
  · obtain rfl : i = 16 := by omega
    have := ho.2.1
    omega
theorem lastD_lt {h : Nat → Nat} (ho : okD h) : ∀ i, i < 17 → lastD h i < 256 := fun i hi => by
  unfold lastD
  split
  · exact digN_lt _ _ _
  · exact okD_lt ho i hi
theorem bytes_drop {xs : List Int} (hb : ∀ x ∈ xs, 0 ≤ x ∧ x < 256) (n : Nat) : ∀ x ∈ xs.drop n, 0 ≤ x ∧ x < 256 := fun x hx => hb x (List.mem_of_mem_drop hx)
theorem negD_lt (i : Nat) : negD i < 256 := by
  unfold negD
  split
  · decide
  · split <;> decide
theorem neg_row : (((madeCells #[Value.int .i64 0] 17).toList.set 0 (.int .i64 5)).set 16 (.int .i64 252)) = (dL negD 17).map (Value.int .i64) := by
  rw [fill_startI ([] : List Int) 17]
  rfl
set_option maxHeartbeats 4000000 in
theorem specTag_yes (p q : Option Addr) (m c d : Nat) (ks bs : List Int) (w : World) (hc : 32 ≤ c) (hd : m ≤ d) (hm : m ≤ 4000) (h : BytesIn w p 32 ks) (h' : BytesIn w q m bs) (hb1 : ∀ x ∈ ks, 0 ≤ x ∧ x < 256) (hb2 : ∀ x ∈ bs, 0 ≤ x ∧ x < 256) :
    Calls Tryz.prog 117 #[.slice p 32 c, .slice q m d] w fun e w' => ∃ p' c', e = .returned (.slice p' 16 c') ∧ Own 5 w' w.heap.size w'.heap.size (.slice p' 16 c') 16 (dL (tagD ks bs m) 16) ∧ Below w.heap.size w w' := by
  obtain ⟨i0, hi, hz0, hz1, hz2⟩ := info_parts infoInt
  have nm : ¬ (4000 : Int) < (m : Int) := by omega
  obtain ⟨b, o, rfl, hcell⟩ := h (by decide)
  have CK := l6Key_any b o c ks w hc hb1 (fun _ => ⟨b, o, rfl, fun i hi => hcell i (by omega)⟩)
  have lb : b < w.heap.size := World.block_lt_of_cell? w ⟨b, o + 0, none⟩ (hcell 0 (by omega))
  have CN2 : ∀ X, Below w.heap.size w X → Calls Tryz.prog 162 #[.slice (some ⟨b, o + 16, none⟩) 16 (c - 16), .int .i64 0] X fun e w' => ∃ p' c', e = .returned (.slice p' 17 c') ∧ OwnI 3 w' X.heap.size w'.heap.size (.slice p' 17 c') 17 (dL (numD (ks.drop 16) 16 0) 17) ∧ Below X.heap.size X w' := fun X hX =>
    l6Num_any (some ⟨b, o + 16, none⟩) 16 (c - 16) 0 (ks.drop 16) X (by omega) (bytes_drop hb1 16) (fun _ => ⟨b, o + 16, rfl, fun i hi => by
      rw [Nat.add_assoc, hX.cell (p := ⟨b, o + (16 + i), none⟩) lb, hcell (16 + i) (by omega)]
      simp [List.getD]⟩)
  have HCN : Hid (∀ X k, 16 * k < m → Below w.heap.size w X → ∃ b2 o2, q = some ⟨b2, o2, none⟩ ∧ Calls Tryz.prog 162 #[.slice (some ⟨b2, o2 + 16 * k, none⟩) (chunkN m k) (d - 16 * k), .int .i64 1] X fun e w' => ∃ p' c', e = .returned (.slice p' 17 c') ∧ OwnI 3 w' X.heap.size w'.heap.size (.slice p' 17 c') 17 (dL (chunkD bs m k) 17) ∧ Below X.heap.size X w') := fun X k hk hX => by
    obtain ⟨b2, o2, e1, e2⟩ := h' (by omega)
    have l2 : b2 < w.heap.size := World.block_lt_of_cell? w ⟨b2, o2 + 0, none⟩ (e2 0 (by omega))
    have hn : chunkN m k ≤ 16 := Nat.min_le_left _ _
    have hn2 : 16 * k + chunkN m k ≤ m := by unfold chunkN; omega
    refine ⟨b2, o2, e1, l6Num_any (some ⟨b2, o2 + 16 * k, none⟩) (chunkN m k) (d - 16 * k) 1 (bs.drop (16 * k)) X hn (bytes_drop hb2 _) (fun _ => ⟨b2, o2 + 16 * k, rfl, fun i hi => ?_⟩)⟩
    rw [Nat.add_assoc, hX.cell (p := ⟨b2, o2 + (16 * k + i), none⟩) l2, e2 (16 * k + i) (by omega)]
    simp [List.getD]
  have HR : Hid (∀ i, keyD ks i < 256) := keyD_lt hb1
  have HO : Hid (∀ k, okD (hD bs m (keyD ks) k)) := hD_ok bs m HR.out
  have HCL : Hid (∀ k i, chunkD bs m k i < 256) := fun k i => numD_lt (bytes_drop hb2 _) (by decide) i
  have HNS : Hid (∀ i, i < 17 → numD (ks.drop 16) 16 0 i < 256) := fun i _ => numD_lt (bytes_drop hb1 16) (by decide) i
  clear h h' hb1 hb2 hcell
  go_enter Tryz.func117, Tryz.ntmps117
  go_wp2_with (fail)
  refine CK.mono ?_
  rintro e w1 ⟨p1, c1, rfl, r1, b1⟩
  have ir := r1.ints
  clear CK r1
  have hs1 := b1.size
  go_wp2_with (at_make; refine wpList_make_full _ rfl _ _ 52 rfl w.heap.size 3 i0 (.int .i64 0) 1 Tryz.underlying52 hi hz0 hz1 _ _ _ _ 17 rfl rfl rfl rfl (by rw [hz2]; omega) (by unfold maxLen; omega) hs1 ?_)
  intro w2 hown hgrow
  have b2 : Below w1.heap.size w1 w2 := (Below.refl _ _).grown hgrow (Nat.le_refl _) (fun _ h => by cases h)
  rw [fill_startI ([] : List Int) 17] at hown
  have ih : IntsIn w2 (some ⟨w1.heap.size, 0, none⟩) 17 (dL (hD bs m (keyD ks) 0) 17) := owns_inI hown
  replace ir := in_belowI ir b2
  have bel := below_on b1 b2
  clear hown hgrow b1 b2 hs1
  go_wp2_with (fail)
  go_loopw [6, 7] (fun v i wr => ∃ (k : Nat) (qh : Option Addr) (ch : Nat), k ≤ tagK m ∧ i = .int .i64 ((16 * k : Nat) : Int) ∧ v = .slice qh 17 ch ∧ IntsIn wr qh 17 (dL (hD bs m (keyD ks) k) 17) ∧ IntsIn wr p1 17 (dL (keyD ks) 17) ∧ Below w.heap.size w wr)
    (fun _ i _ => 8000 - (intOf i).toNat)
  case atStart => exact ⟨0, _, 17, by omega, rfl, rfl, ih, ir, bel⟩
  case round =>
    clear ih ir bel
    obtain ⟨k, qh, ch, hk, rfl, rfl, ih, ir, bel⟩ := hrel
    by_cases hlt : 16 * k < m
    · obtain ⟨b2, o2, hq, CN⟩ := HCN.out wr k hlt bel
      subst hq
      obtain ⟨n', hn'⟩ : ∃ n', n' = chunkN m k := ⟨_, rfl⟩
      have hmin : min (((16 * k : Nat) : Int) + 16) (m : Int) = ((16 * k + n' : Nat) : Int) := by rw [hn']; unfold chunkN; omega
      have CM : ∀ X, Calls Tryz.prog 163 #[.int .i64 (((16 * k : Nat) : Int) + 16), .int .i64 (m : Int)] X fun e w' => e = .returned (.int .i64 ((16 * k + n' : Nat) : Int)) ∧ w' = X := fun X => by
        have := l1Min_is (((16 * k : Nat) : Int) + 16) (m : Int) X
        rwa [hmin] at this
      rw [← hn'] at CN
      have hn2 : 16 * k + n' ≤ m := by rw [hn']; unfold chunkN; omega
      have hk1 : k + 1 ≤ tagK m := by unfold tagK; omega
      have HS : Hid (stepD (hD bs m (keyD ks) k) (chunkD bs m k) (keyD ks) = hD bs m (keyD ks) (k + 1)) := rfl
      have ho := okD_lt (HO.out k)
      have hcl := HCL.out k
      have h16 : ((16 * (k + 1) : Nat) : Int) = ((16 * k : Nat) : Int) + 16 := by omega
      obtain ⟨a, ha⟩ : ∃ a : Nat, a = 16 * k := ⟨_, rfl⟩
      rw [← ha] at CN CM hn2 h16 ⊢
      have hlt' : (a : Int) < (m : Int) := by omega
      have la : a ≤ 4000 := by omega
      obtain ⟨e', he'⟩ : ∃ e' : Nat, e' = a + n' := ⟨_, rfl⟩
      rw [← he'] at CM hn2
      have hsub : e' - a = n' := by omega
      have hle : a ≤ e' := by omega
      have hle2 : (a : Int) ≤ (e' : Int) := by omega
      have hed : e' ≤ d := by omega
      have hed2 : (e' : Int) ≤ (d : Int) := by omega
      generalize hD bs m (keyD ks) k = hk' at ih ho HS
      generalize chunkD bs m k = ck at CN hcl HS
      clear hmin hn' ha hlt he'
      go_wp2_with (fail)
      refine (CM _).mono ?_
      rintro e w3 ⟨rfl, hw3⟩
      obtain rfl := hw3
      go_wp2_with (fail)
      refine CN.mono ?_
      rintro e w4 ⟨p4, c4, rfl, r4, b4⟩
      have i4 := r4.ints
      replace ih := in_belowI ih b4
      replace ir := in_belowI ir b4
      replace bel := below_on bel b4
      clear r4 b4 CN CM
      have CA := l6Add_any qh p4 ch c4 hk' ck w4 ih i4 ho (fun i _ => hcl i)
      clear ih i4
      go_wp2_with (fail)
      refine CA.mono ?_
      rintro e w5 ⟨p5, c5, rfl, r5, b5⟩
      have i5 := r5.ints
      replace ir := in_belowI ir b5
      replace bel := below_on bel b5
      clear r5 b5 CA
      have CT := l6Times_any p5 p1 c5 c1 (sumD hk' ck) (keyD ks) w5 i5 ir (fun i => digN_lt _ _ _) HR.out
      clear i5
      go_wp2_with (fail)
      refine CT.mono ?_
      rintro e w6 ⟨p6, c6, rfl, r6, b6⟩
      have i6 : IntsIn w6 p6 17 (dL (hD bs m (keyD ks) (k + 1)) 17) := by rw [← HS.out]; exact r6.ints
      replace ir := in_belowI ir b6
      replace bel := below_on bel b6
      clear r6 b6 CT
      go_wp2_with (fail)
      go_roundw
      case rel => exact ⟨k + 1, _, _, hk1, by rw [h16], rfl, i6, ir, bel⟩
      case measure => simp [intOf]; omega
    · have hK : Hid (k = tagK m) := by unfold Hid tagK; unfold tagK at hk; omega
      have hnl : ¬ ((16 * k : Nat) : Int) < (m : Int) := by omega
      have HLS : Hid (∀ i, i < 17 → lastD (hD bs m (keyD ks) k) i < 256) := lastD_lt (HO.out k)
      have ho := okD_lt (HO.out k)
      obtain ⟨K, hKk⟩ : ∃ K, K = k := ⟨_, rfl⟩
      subst hKk
      obtain ⟨a, ha⟩ : ∃ a : Nat, a = 16 * K := ⟨_, rfl⟩
      rw [← ha] at hnl ⊢
      clear HCN HO HCL HR ir hk ha hlt
      have hsw := bel.size
      obtain ⟨bq, oq, hqe, hcq⟩ := ih (by decide)
      subst hqe
      have lbq : bq < wr.heap.size := World.block_lt_of_cell? wr ⟨bq, oq + 0, none⟩ (hcq 0 (by omega))
      clear hcq
      go_wp2_with (at_make; refine wpList_make_full _ rfl _ _ 52 rfl w.heap.size 3 i0 (.int .i64 0) 1 Tryz.underlying52 hi hz0 hz1 _ _ _ _ 17 rfl rfl rfl rfl (by rw [hz2]; omega) (by unfold maxLen; omega) hsw ?_)
      intro w2 hown hgrow
      have b2 : Below wr.heap.size wr w2 := (Below.refl _ _).grown hgrow (Nat.le_refl _) (fun _ h => by cases h)
      replace ih := in_belowI ih b2
      replace bel := below_on bel b2
      obtain ⟨gl, hgl⟩ : ∃ gl, gl = wr.heap.size := ⟨_, rfl⟩
      rw [← hgl] at hown ⊢
      have hgll : w.heap.size ≤ gl := by omega
      rw [← hgl] at lbq
      have st1 := hown.stored 0 (.int .i64 5)
      have st2 := st1.1.stored 16 (.int .i64 252)
      rw [neg_row] at st2
      have d1 : w2.cell? ⟨gl, 0, none⟩ = some (.int .i64 0) := by
        rw [hown.cellAt 0 (by omega), fill_startI ([] : List Int) 17]
        rfl
      have d2 : (w2.setCell ⟨gl, 0, none⟩ (.int .i64 5)).cell? ⟨gl, 16, none⟩ = some (.int .i64 0) := by
        rw [st1.1.cellAt 16 (by omega), fill_startI ([] : List Int) 17]
        rfl
      have f1 := hown.frozenAt 0
      have f2 := st1.1.frozenAt 16
      have G2 := grown_trans st1.2 st2.2
      have ih2 : IntsIn ((w2.setCell ⟨gl, 0, none⟩ (.int .i64 5)).setCell ⟨gl, 16, none⟩ (.int .i64 252)) (some ⟨bq, oq, none⟩) 17 (dL (hD bs m (keyD ks) K) 17) := by
        intro hpos
        obtain ⟨bb, oo, e1, e2⟩ := ih hpos
        refine ⟨bb, oo, e1, fun i hi => ?_⟩
        simp only [Option.some.injEq, Addr.mk.injEq, and_true] at e1
        obtain ⟨rfl, rfl⟩ := e1
        rw [← e2 i hi]
        simp only [World.cell?, G2.block bq (World.block_lt_of_cell? w2 ⟨bq, oq + i, none⟩ (e2 i hi)) (by simp; omega)]
      have bel2 := bel.grown G2 bel.size (fun k hk => by cases hk; exact hgll)
      have in2 := owns_inI st2.1
      clear st1 st2 hown hgrow G2 ih bel hgl b2
      go_wp2_with (fail)
      clear d1 d2 f1 f2
      have CA := l6Add_any (some ⟨bq, oq, none⟩) (some ⟨gl, 0, none⟩) ch 17 (hD bs m (keyD ks) K) negD _ ih2 in2 ho (fun i _ => negD_lt i)
      generalize (w2.setCell ⟨gl, 0, none⟩ (.int .i64 5)).setCell ⟨gl, 16, none⟩ (.int .i64 252) = wz at CA ih2 bel2 ⊢
      refine CA.mono ?_
      rintro e w3 ⟨p3, c3, rfl, r3, b3⟩
      obtain ⟨g3, hg3⟩ := owns_at r3.1 (by decide)
      subst hg3
      have in3 := r3.ints
      have e16 : w3.cell? ⟨g3, 16, none⟩ = some (.int .i64 ((sumD (hD bs m (keyD ks) K) negD 16 : Nat) : Int)) := by
        rw [r3.1.cellAt 16 (by omega), List.getElem?_map]
        rfl
      replace ih2 := in_belowI ih2 b3
      replace bel2 := below_on bel2 b3
      clear r3 b3 CA in2
      by_cases hsm : sumD (hD bs m (keyD ks) K) negD 16 < 128
      · have hsm' : ((sumD (hD bs m (keyD ks) K) negD 16 : Nat) : Int) < 128 := by omega
        have il : IntsIn w3 (some ⟨g3, 0, none⟩) 17 (dL (lastD (hD bs m (keyD ks) K)) 17) := by
          rw [show lastD (hD bs m (keyD ks) K) = sumD (hD bs m (keyD ks) K) negD from by funext i; rw [lastD, if_pos hsm]]
          exact in3
        generalize sumD (hD bs m (keyD ks) K) negD 16 = s16 at e16 hsm'
        clear in3 ih2 hsm
        go_wp2_with (fail)
        refine (CN2 _ bel2).mono ?_
        rintro e w4 ⟨p4, c4, rfl, r4, b4⟩
        have i4 := r4.ints
        have i3 := in_belowI il b4
        have bel4 := below_on bel2 b4
        clear r4 b4 CN2
        have CA := l6Add_any (some ⟨g3, 0, none⟩) p4 c3 c4 (lastD (hD bs m (keyD ks) K)) (numD (ks.drop 16) 16 0) w4 i3 i4 HLS.out HNS.out
        clear i3 i4 HLS HNS
        go_wp2_with (fail)
        refine CA.mono ?_
        rintro e w5 ⟨p5, c5, rfl, r5, b5⟩
        obtain ⟨g5, hg5⟩ := owns_at r5.1 (by decide)
        subst hg5
        have HC : Hid (∀ X k, k < 17 → Below w5.heap.size w5 X → X.cell? ⟨g5, k, none⟩ = some (.int .i64 ((tagD ks bs m k : Nat) : Int))) := fun X k hk hX => by
          rw [hX.cell (p := ⟨g5, k, none⟩) (r5.1.lt g5 rfl).2, r5.1.cellAt k (by omega), List.getElem?_map, tagD_eq, ← hK.out]
          simp [dL, hk]
        have bel5 := below_on bel4 b5
        clear r5 b5 CA bel4
        obtain ⟨j0, hj, hy0, hy1, hy2⟩ := info_parts infoByte
        have hown0 : (w5.alloc (.cells #[] 5)).ownsRow w5.heap.size 5 1 (.slice (some ⟨w5.heap.size, 0, none⟩) 0 0) 0 ((dL (tagD ks bs m) 0).map (Value.int .u8)) := World.ownsRow_made w5 #[] 0 (Nat.le_refl _) (by unfold maxLen; omega) rfl
        have hb0 : Below w5.heap.size w5 (w5.alloc (.cells #[] 5)) := (Below.refl _ _).alloc (Nat.le_refl _) _
        go_wp2_with (fail)
        go_loopw [10, 11] (fun v i wr => ∃ (k : Nat) (q : Option Addr) (cc : Nat), k ≤ 16 ∧ i = .int .i64 k ∧ v = .slice q k cc ∧ wr.ownsRow w5.heap.size 5 1 (.slice q k cc) k ((dL (tagD ks bs m) k).map (Value.int .u8)) ∧ Below w5.heap.size w5 wr)
          (fun _ i _ => 16 - (intOf i).toNat)
        case atStart => exact ⟨0, _, 0, by omega, rfl, rfl, hown0, hb0⟩
        case round =>
          clear hown0 hb0
          obtain ⟨k, q, cc, hk, rfl, rfl, hown, hbel⟩ := hrel
          by_cases hlt : k < 16
          · have hlt' : (k : Int) < 16 := by omega
            have hlt7 : (k : Int) < 17 := by omega
            have e1 := HC.out wr k (by omega) hbel
            have hs : tagD ks bs m k < 256 := digN_lt _ _ _
            have HL : Hid (dL (tagD ks bs m) k ++ [((tagD ks bs m k : Nat) : Int)] = dL (tagD ks bs m) (k + 1)) := dL_step _ k
            generalize tagD ks bs m k = x at e1 hs HL
            have hsz := hbel.size
            have ew : IntKind.u8.wrap (x : Int) = (x : Int) := by rw [IntKind.wrap_u8]; omega
            have em : (x : Int) % 256 = (x : Int) := by omega
            go_wp2_with (at_builtin; refine list_push hj hy0 hy1 hy2 (.tmp 66) (.tmp 72) 22 Tryz.underlying22 _ hown (by omega) hsz (by rfl) (by rfl) (by rfl) (by rfl) ?_; intro g cap w3 ho3 hb3)
            rw [HL.out] at ho3
            go_roundw
            case rel => exact ⟨k + 1, _, cap, by omega, by go_num, rfl, ho3, hbel.trans hb3⟩
            case measure => simp [intOf]; omega
          · obtain rfl : k = 16 := by omega
            go_wp2_with (fail)
            go_ret
            exact ⟨_, _, rfl, .of (owns_mono hown bel5.size), below_on bel5 hbel⟩
      · have hsm' : ¬ ((sumD (hD bs m (keyD ks) K) negD 16 : Nat) : Int) < 128 := by omega
        have il : IntsIn w3 (some ⟨bq, oq, none⟩) 17 (dL (lastD (hD bs m (keyD ks) K)) 17) := by
          rw [show lastD (hD bs m (keyD ks) K) = hD bs m (keyD ks) K from by funext i; rw [lastD, if_neg hsm]]
          exact ih2
        generalize sumD (hD bs m (keyD ks) K) negD 16 = s16 at e16 hsm'
        clear in3 ih2 hsm
        go_wp2_with (fail)
        refine (CN2 _ bel2).mono ?_
        rintro e w4 ⟨p4, c4, rfl, r4, b4⟩
        have i4 := r4.ints
        have i3 := in_belowI il b4
        have bel4 := below_on bel2 b4
        clear r4 b4 CN2
        have CA := l6Add_any (some ⟨bq, oq, none⟩) p4 ch c4 (lastD (hD bs m (keyD ks) K)) (numD (ks.drop 16) 16 0) w4 i3 i4 HLS.out HNS.out
        clear i3 i4 HLS HNS
        go_wp2_with (fail)
        refine CA.mono ?_
        rintro e w5 ⟨p5, c5, rfl, r5, b5⟩
        obtain ⟨g5, hg5⟩ := owns_at r5.1 (by decide)
        subst hg5
        have HC : Hid (∀ X k, k < 17 → Below w5.heap.size w5 X → X.cell? ⟨g5, k, none⟩ = some (.int .i64 ((tagD ks bs m k : Nat) : Int))) := fun X k hk hX => by
          rw [hX.cell (p := ⟨g5, k, none⟩) (r5.1.lt g5 rfl).2, r5.1.cellAt k (by omega), List.getElem?_map, tagD_eq, ← hK.out]
          simp [dL, hk]
        have bel5 := below_on bel4 b5
        clear r5 b5 CA bel4
        obtain ⟨j0, hj, hy0, hy1, hy2⟩ := info_parts infoByte
        have hown0 : (w5.alloc (.cells #[] 5)).ownsRow w5.heap.size 5 1 (.slice (some ⟨w5.heap.size, 0, none⟩) 0 0) 0 ((dL (tagD ks bs m) 0).map (Value.int .u8)) := World.ownsRow_made w5 #[] 0 (Nat.le_refl _) (by unfold maxLen; omega) rfl
        have hb0 : Below w5.heap.size w5 (w5.alloc (.cells #[] 5)) := (Below.refl _ _).alloc (Nat.le_refl _) _
        go_wp2_with (fail)
        go_loopw [10, 11] (fun v i wr => ∃ (k : Nat) (q : Option Addr) (cc : Nat), k ≤ 16 ∧ i = .int .i64 k ∧ v = .slice q k cc ∧ wr.ownsRow w5.heap.size 5 1 (.slice q k cc) k ((dL (tagD ks bs m) k).map (Value.int .u8)) ∧ Below w5.heap.size w5 wr)
          (fun _ i _ => 16 - (intOf i).toNat)
        case atStart => exact ⟨0, _, 0, by omega, rfl, rfl, hown0, hb0⟩
        case round =>
          clear hown0 hb0
          obtain ⟨k, q, cc, hk, rfl, rfl, hown, hbel⟩ := hrel
          by_cases hlt : k < 16
          · have hlt' : (k : Int) < 16 := by omega
            have hlt7 : (k : Int) < 17 := by omega
            have e1 := HC.out wr k (by omega) hbel
            have hs : tagD ks bs m k < 256 := digN_lt _ _ _
            have HL : Hid (dL (tagD ks bs m) k ++ [((tagD ks bs m k : Nat) : Int)] = dL (tagD ks bs m) (k + 1)) := dL_step _ k
            generalize tagD ks bs m k = x at e1 hs HL
            have hsz := hbel.size
            have ew : IntKind.u8.wrap (x : Int) = (x : Int) := by rw [IntKind.wrap_u8]; omega
            have em : (x : Int) % 256 = (x : Int) := by omega
            go_wp2_with (at_builtin; refine list_push hj hy0 hy1 hy2 (.tmp 66) (.tmp 72) 22 Tryz.underlying22 _ hown (by omega) hsz (by rfl) (by rfl) (by rfl) (by rfl) ?_; intro g cap w3 ho3 hb3)
            rw [HL.out] at ho3
            go_roundw
            case rel => exact ⟨k + 1, _, cap, by omega, by go_num, rfl, ho3, hbel.trans hb3⟩
            case measure => simp [intOf]; omega
          · obtain rfl : k = 16 := by omega
            go_wp2_with (fail)
            go_ret
            exact ⟨_, _, rfl, .of (owns_mono hown bel5.size), below_on bel5 hbel⟩
theorem digit_of {d : Nat → Nat} {n : Nat} (hd : ∀ j, j < n → d j < 256) {i : Nat} (hi : i < n) : valN d n / 256 ^ i % 256 = d i := by
  have e1 := valN_split d i (n - i)
  rw [show i + (n - i) = n by omega] at e1
  have h1 : valN d i < 256 ^ i := valN_lt fun j hj => hd j (by omega)
  have e2 := valN_split (fun j => d (i + j)) 1 (n - i - 1)
  rw [show 1 + (n - i - 1) = n - i by omega] at e2
  have e3 : valN (fun j => d (i + j)) 1 = d i := by simp [valN]
  rw [e1, Nat.add_mul_div_left _ _ (Nat.two_pow_pos 8 |> fun _ => Nat.pow_pos (by decide)), Nat.div_eq_of_lt h1, Nat.zero_add, e2, e3, Nat.pow_one, Nat.add_mul_mod_self_left, Nat.mod_eq_of_lt (hd i hi)]
def polyN (bs : List Int) (m : Nat) (r : Nat → Nat) : Nat → Nat
  | 0 => 0
  | k + 1 => ((polyN bs m r k + valN (chunkD bs m k) 17) * valN r 17) % tagP
def tagT (ks bs : List Int) (m : Nat) : Nat := polyN bs m (keyD ks) (tagK m) + valN (numD (ks.drop 16) 16 0) 17
def tagB (ks bs : List Int) (m : Nat) : List Int := (List.range 16).map fun i => ((tagT ks bs m / 256 ^ i % 256 : Nat) : Int)
theorem polyN_lt (bs : List Int) (m : Nat) (r : Nat → Nat) : ∀ k, polyN bs m r k < tagP
  | 0 => by show 0 < tagP; decide
  | k + 1 => Nat.mod_lt _ (by decide)
theorem num_val {xs : List Int} (hb : ∀ x ∈ xs, 0 ≤ x ∧ x < 256) {n last : Nat} (hn : n ≤ 16) (hl : last ≤ 1) : valN (numD xs n last) 17 < 2 * 256 ^ 16 := by
  have h1 : valN (numD xs n last) 16 < 256 ^ 16 := valN_lt fun i _ => numD_lt hb (by omega) i
  have h2 : numD xs n last 16 ≤ 1 := by
    unfold numD
    rw [if_neg (by omega)]
    split <;> omega
  have h3 : numD xs n last 16 * 256 ^ 16 ≤ 1 * 256 ^ 16 := Nat.mul_le_mul_right _ h2
  show valN (numD xs n last) 16 + numD xs n last 16 * 256 ^ 16 < _
  omega
theorem hD_val {bs : List Int} (hb : ∀ x ∈ bs, 0 ≤ x ∧ x < 256) (m : Nat) {r : Nat → Nat} (hr : ∀ i, r i < 256) : ∀ k, alike (valN (hD bs m r k) 17) (polyN bs m r k)
  | 0 => by
    have : valN (hD bs m r 0) 17 = 0 := valN_zero 17
    rw [this]
    rfl
  | k + 1 => by
    have ih := hD_val hb m hr k
    have ho := (hD_ok bs m hr k).2.2
    have hc : valN (chunkD bs m k) 17 < 2 * 256 ^ 16 := num_val (bytes_drop hb _) (Nat.min_le_left _ _) (Nat.le_refl _)
    have hs : valN (hD bs m r k) 17 + valN (chunkD bs m k) 17 < 256 ^ 17 := by
      have e : (256 : Nat) ^ 17 = 256 * 256 ^ 16 := by decide
      have e2 : (1073741824 : Nat) < 256 ^ 16 := by decide
      omega
    exact (val_step hs).trans (((ih.add (alike.refl _)).mul (alike.refl _)).trans (alike_mod _).symm)
theorem tagD_val {ks bs : List Int} (hb1 : ∀ x ∈ ks, 0 ≤ x ∧ x < 256) (hb2 : ∀ x ∈ bs, 0 ≤ x ∧ x < 256) (m : Nat) : valN (tagD ks bs m) 17 = tagT ks bs m := by
  have hl := val_last (hD_ok bs m (keyD_lt hb1) (tagK m))
  have ha : valN (hD bs m (keyD ks) (tagK m)) 17 % tagP = polyN bs m (keyD ks) (tagK m) % tagP := hD_val hb2 m (keyD_lt hb1) (tagK m)
  rw [ha, Nat.mod_eq_of_lt (polyN_lt _ _ _ _)] at hl
  have hp := polyN_lt bs m (keyD ks) (tagK m)
  have hn : valN (numD (ks.drop 16) 16 0) 17 < 2 * 256 ^ 16 := num_val (bytes_drop hb1 _) (Nat.le_refl _) (by decide)
  have hs : valN (lastD (hD bs m (keyD ks) (tagK m))) 17 + valN (numD (ks.drop 16) 16 0) 17 < 256 ^ 17 := by
    have e : (256 : Nat) ^ 17 = 256 * 256 ^ 16 := by decide
    have e2 : tagP < 4 * 256 ^ 16 := by decide
    omega
  rw [tagD, val_sum hs, hl, tagT]
theorem tag_bytes {ks bs : List Int} (hb1 : ∀ x ∈ ks, 0 ≤ x ∧ x < 256) (hb2 : ∀ x ∈ bs, 0 ≤ x ∧ x < 256) (m : Nat) : dL (tagD ks bs m) 16 = tagB ks bs m := by
  apply List.map_congr_left
  intro i hi
  have hi' := List.mem_range.1 hi
  rw [← tagD_val hb1 hb2 m, digit_of (d := tagD ks bs m) (fun j _ => digN_lt _ _ _) (show i < 17 by omega)]
def tagOk (n m : Nat) : Prop := n = 32 ∧ m ≤ 4000
instance (n m : Nat) : Decidable (tagOk n m) := inferInstanceAs (Decidable (_ ∧ _))
def tagN (n m : Nat) : Nat := if tagOk n m then 16 else 0
def tagL (ks bs : List Int) : List Int := if tagOk ks.length bs.length then tagB ks bs bs.length else []
theorem tagL_length (ks bs : List Int) : (tagL ks bs).length = tagN ks.length bs.length := by
  unfold tagL tagN
  split
  · simp [tagB]
  · rfl
set_option maxHeartbeats 2400000 in
theorem specTag_no (p q : Option Addr) (n m c d : Nat) (w : World) (hno : ¬ tagOk n m) :
    Calls Tryz.prog 117 #[.slice p n c, .slice q m d] w fun e w' => ∃ p' c', e = .returned (.slice p' 0 c') ∧ Own 5 w' w.heap.size w'.heap.size (.slice p' 0 c') 0 [] ∧ Below w.heap.size w w' := by
  have hown0 : (w.alloc (.cells #[] 5)).ownsRow w.heap.size 5 1 (.slice (some ⟨w.heap.size, 0, none⟩) 0 0) 0 (([] : List Int).map (Value.int .u8)) := World.ownsRow_made w #[] 0 (Nat.le_refl _) (by unfold maxLen; omega) rfl
  have hb0 : Below w.heap.size w (w.alloc (.cells #[] 5)) := (Below.refl _ _).alloc (Nat.le_refl _) _
  unfold tagOk at hno
  by_cases t0 : n = 32
  · subst t0
    have h1 : (4000 : Int) < (m : Int) := by omega
    clear hno
    go_enter Tryz.func117, Tryz.ntmps117
    go_wp2_with (fail)
    go_ret
    exact ⟨_, _, rfl, .of hown0, hb0⟩
  · have z0 : ((n : Int) != 32) = true := by simp; omega
    clear hno
    go_enter Tryz.func117, Tryz.ntmps117
    go_wp2_with (fail)
    go_ret
    exact ⟨_, _, rfl, .of hown0, hb0⟩
theorem specTag_any (p q : Option Addr) (n m c d : Nat) (ks bs : List Int) (w : World) (hx : ks.length = n) (hy : bs.length = m) (h : BytesIn w p n ks) (h' : BytesIn w q m bs) (hb1 : ∀ x ∈ ks, 0 ≤ x ∧ x < 256) (hb2 : ∀ x ∈ bs, 0 ≤ x ∧ x < 256) (hc : n ≤ c) (hd : m ≤ d) :
    Calls Tryz.prog 117 #[.slice p n c, .slice q m d] w fun e w' => ∃ p' c', e = .returned (.slice p' (tagN n m) c') ∧ Own 5 w' w.heap.size w'.heap.size (.slice p' (tagN n m) c') (tagN n m) (tagL ks bs) ∧ Below w.heap.size w w' := by
  unfold tagN tagL
  rw [hx, hy]
  by_cases hok : tagOk n m
  · rw [if_pos hok, if_pos hok]
    obtain ⟨rfl, hm⟩ := hok
    rw [← tag_bytes hb1 hb2]
    exact specTag_yes p q m c d ks bs w hc hd hm h h' hb1 hb2
  · rw [if_neg hok, if_neg hok]
    exact specTag_no p q n m c d w hok
def valP (S : List Nat) : Nat → Nat
  | 0 => 0
  | k + 1 => valP S k + S.getD k 0 * 67108864 ^ k
def val5 (S : List Nat) : Nat := valP S 5
def digP (V i : Nat) : Nat := V / 67108864 ^ i % 67108864
def digL (V : Nat) : List Nat := (List.range 5).map (digP V)
def lessP (M : Nat) (S : List Nat) : Prop := S.length = 5 ∧ ∀ i, S.getD i 0 < M
theorem digL_length (V : Nat) : (digL V).length = 5 := by simp [digL]
theorem digL_get (V i : Nat) (h : i < 5) : (digL V).getD i 0 = digP V i := by simp [digL, h]
theorem digP_lt (V i : Nat) : digP V i < 67108864 := Nat.mod_lt _ (by decide)
theorem digL_less (V : Nat) : lessP 67108864 (digL V) := by
  refine ⟨digL_length V, fun i => ?_⟩
  by_cases h : i < 5
  · rw [digL_get V i h]
    exact digP_lt V i
  · rw [List.getD_eq_getElem?_getD, List.getElem?_eq_none (by rw [digL_length]; omega)]
    decide
theorem lessP.mono {M M' : Nat} {S : List Nat} (h : lessP M S) (hm : M ≤ M') : lessP M' S := ⟨h.1, fun i => Nat.lt_of_lt_of_le (h.2 i) hm⟩
theorem valP_digL (V : Nat) : ∀ k, k ≤ 5 → valP (digL V) k = V % 67108864 ^ k
  | 0, _ => by rw [Nat.pow_zero, Nat.mod_one]; rfl
  | k + 1, h => by rw [valP, valP_digL V k (by omega), digL_get V k (by omega), Nat.pow_succ, Nat.mod_mul, digP, Nat.mul_comm (V / 67108864 ^ k % 67108864)]
theorem val5_digL (V : Nat) : val5 (digL V) = V % 67108864 ^ 5 := valP_digL V 5 (Nat.le_refl _)
theorem getD_set_self (S : List Nat) (k x : Nat) (h : k < S.length) : (S.set k x).getD k 0 = x := by simp [h]
theorem getD_set_other (S : List Nat) (k i x : Nat) (h : k ≠ i) : (S.set k x).getD i 0 = S.getD i 0 := by simp [List.getElem?_set_ne h]
theorem valP_set (S : List Nat) (k x : Nat) (hk : k < S.length) : ∀ n, valP (S.set k (S.getD k 0 + x)) n = valP S n + (if k < n then x * 67108864 ^ k else 0)
  | 0 => by simp [valP]
  | n + 1 => by
    rw [valP, valP, valP_set S k x hk n]
    by_cases h : k = n
    · subst h
      rw [getD_set_self _ _ _ hk, if_neg (Nat.lt_irrefl _), if_pos (by omega), Nat.add_mul]
      omega
    · rw [getD_set_other _ _ _ _ h]
      by_cases h' : k < n
      · rw [if_pos h', if_pos (by omega)]; omega
      · rw [if_neg h', if_neg (by omega), Nat.add_zero, Nat.add_zero]
theorem val5_set {S : List Nat} {k : Nat} (x : Nat) (hl : S.length = 5) (hk : k < 5) : val5 (S.set k (S.getD k 0 + x)) = val5 S + x * 67108864 ^ k := by
  rw [val5, valP_set S k x (by omega), if_pos hk]
  rfl
theorem lessP_set {M M' : Nat} {S : List Nat} (h : lessP M S) (k x : Nat) (hm : M ≤ M') (hx : x < M') : lessP M' (S.set k x) := by
  refine ⟨by simpa using h.1, fun i => ?_⟩
  by_cases e : k = i
  · subst e
    by_cases hk : k < S.length
    · rw [getD_set_self _ _ _ hk]; exact hx
    · rw [List.getD_eq_getElem?_getD, List.getElem?_eq_none (by simpa using hk)]
      exact Nat.lt_of_le_of_lt (Nat.zero_le _) hx
  · rw [getD_set_other _ _ _ _ e]
    exact Nat.lt_of_lt_of_le (h.2 i) hm
/-! ### what is carried -/
def ovP (S : List Nat) (k : Nat) : Nat := valP S k / 67108864 ^ k
theorem ovP_add (S : List Nat) (k : Nat) : ovP S k + S.getD k 0 = valP S (k + 1) / 67108864 ^ k := by
  rw [valP, Nat.add_mul_div_right _ _ (Nat.pow_pos (by decide))]
  rfl
theorem ovP_step (S : List Nat) (k : Nat) : (ovP S k + S.getD k 0) / 67108864 = ovP S (k + 1) := by
  rw [ovP_add, Nat.div_div_eq_div_mul, ← Nat.pow_succ]
  rfl
theorem valP_more (S : List Nat) (k d : Nat) : ∃ r, valP S (k + d) = valP S k + 67108864 ^ k * r := by
  induction d with
  | zero => exact ⟨0, by rw [Nat.mul_zero]; rfl⟩
  | succ d ih =>
    obtain ⟨r, hr⟩ := ih
    refine ⟨r + S.getD (k + d) 0 * 67108864 ^ d, ?_⟩
    rw [← Nat.add_assoc, valP, hr, Nat.mul_add, Nat.pow_add, Nat.mul_left_comm, Nat.add_assoc]
theorem ovP_dig (S : List Nat) (k : Nat) (hk : k < 5) : (ovP S k + S.getD k 0) % 67108864 = digP (val5 S) k := by
  obtain ⟨r, hr⟩ := valP_more S (k + 1) (4 - k)
  rw [show k + 1 + (4 - k) = 5 by omega] at hr
  rw [ovP_add, digP, val5, hr, Nat.pow_succ, Nat.mul_assoc, Nat.add_mul_div_left _ _ (Nat.pow_pos (by decide)), Nat.add_mul_mod_self_left]
theorem ovP_lt {S : List Nat} (h : lessP 9223372036854775808 S) : ∀ k, ovP S k < 274877906944
  | 0 => by simp [ovP, valP]
  | k + 1 => by
    have h1 := ovP_lt h k
    have h2 := h.2 k
    rw [← ovP_step]
    omega
theorem ovP_end (S : List Nat) : ovP S 5 = val5 S / 67108864 ^ 5 := rfl
def mixP (T S : List Nat) (k : Nat) : List Nat := T.take k ++ S.drop k
theorem mixP_getD {T S : List Nat} (hT : T.length = 5) (k : Nat) (hk : k < 5) : (mixP T S k).getD k 0 = S.getD k 0 := by
  simp only [mixP, List.getD_eq_getElem?_getD]
  rw [List.getElem?_append_right (by simp; omega)]
  simp [hT, Nat.min_eq_left (show k ≤ 5 by omega)]
theorem mixP_set {T S : List Nat} (hT : T.length = 5) (hS : S.length = 5) (k : Nat) (hk : k < 5) (u : Nat) (hu : u = T.getD k 0) : (mixP T S k).set k u = mixP T S (k + 1) := by
  subst hu
  have e : S.drop k = S[k]'(by omega) :: S.drop (k + 1) := List.drop_eq_getElem_cons (by omega)
  simp only [mixP]
  have hk0 : k - (T.take k).length = 0 := by simp [hT]; omega
  rw [e, List.set_append_right _ _ (by rw [List.length_take]; omega), hk0, List.set_cons_zero, List.take_succ_eq_append_getElem (by omega), List.append_assoc, List.getD_eq_getElem?_getD, List.getElem?_eq_getElem (by omega)]
  rfl
theorem mixP_start (T S : List Nat) : mixP T S 0 = S := by simp [mixP]
theorem mixP_end {T S : List Nat} (hT : T.length = 5) (hS : S.length = 5) : mixP T S 5 = T := by simp [mixP, List.take_of_length_le (show T.length ≤ 5 by omega), List.drop_of_length_le (show S.length ≤ 5 by omega)]
/-! ### a byte put to it -/
def putP (S : List Nat) (x p : Nat) : List Nat := S.set (8 * p / 26) (S.getD (8 * p / 26) 0 + x * 2 ^ (8 * p % 26))
theorem pow_place (p : Nat) : 2 ^ (8 * p % 26) * 67108864 ^ (8 * p / 26) = 256 ^ p := by
  rw [show (67108864 : Nat) = 2 ^ 26 from rfl, show (256 : Nat) = 2 ^ 8 from rfl, ← Nat.pow_mul, ← Nat.pow_mul, ← Nat.pow_add, Nat.add_comm, Nat.div_add_mod]
theorem putP_val {S : List Nat} (x p : Nat) (hl : S.length = 5) (hp : p ≤ 16) : val5 (putP S x p) = val5 S + x * 256 ^ p := by
  rw [putP, val5_set _ hl (by omega), Nat.mul_assoc, pow_place]
theorem put_small {x p : Nat} (hx : x < 256) : x * 2 ^ (8 * p % 26) ≤ 8589934592 := by
  have h1 : 2 ^ (8 * p % 26) ≤ 2 ^ 25 := Nat.pow_le_pow_right (by decide) (by omega)
  have h2 := Nat.mul_le_mul (Nat.le_of_lt hx) h1
  exact h2
theorem putP_less {M : Nat} {S : List Nat} {x p : Nat} (h : lessP M S) (hx : x < 256) : lessP (M + 8589934592) (putP S x p) := by
  have h1 := put_small (p := p) hx
  have h2 := h.2 (8 * p / 26)
  exact lessP_set h _ _ (by omega) (by omega)
def putsP (S : List Nat) (d : Nat → Nat) : Nat → List Nat
  | 0 => S
  | k + 1 => putP (putsP S d k) (d k) k
theorem putsP_less {M : Nat} {S : List Nat} {d : Nat → Nat} (h : lessP M S) (hd : ∀ i, d i < 256) (k : Nat) : lessP (M + k * 8589934592) (putsP S d k) := by
  induction k with
  | zero => rw [Nat.zero_mul]; exact h
  | succ k ih =>
    have := putP_less (p := k) ih (hd k)
    rw [Nat.add_mul, Nat.one_mul, ← Nat.add_assoc]
    exact this
theorem putsP_val {S : List Nat} (d : Nat → Nat) (hl : S.length = 5) (k : Nat) (h : k ≤ 17) : (putsP S d k).length = 5 ∧ val5 (putsP S d k) = val5 S + valN d k := by
  induction k with
  | zero => exact ⟨hl, by rw [putsP, valN, Nat.add_zero]⟩
  | succ k ih =>
    obtain ⟨h1, h2⟩ := ih (by omega)
    refine ⟨by simpa [putsP, putP] using h1, ?_⟩
    rw [putsP, putP_val _ _ h1 (by omega), h2, valN, Nat.add_assoc]
/-! ### what goes round -/
theorem alike_round (V : Nat) : alike (V % 67108864 ^ 5 + 5 * (V / 67108864 ^ 5)) V := by
  have e : (67108864 : Nat) ^ 5 = 4 * 256 ^ 16 := by decide
  rw [e]
  have h := Nat.mod_add_div V (4 * 256 ^ 16)
  have h1 : alike (V % (4 * 256 ^ 16) + 5 * (V / (4 * 256 ^ 16))) (V % (4 * 256 ^ 16) + 4 * 256 ^ 16 * (V / (4 * 256 ^ 16))) := (alike.refl _).add (alike_130.symm.mul (alike.refl _))
  rwa [h] at h1
def roundP (V : Nat) : Nat := V % 67108864 ^ 5 + 5 * (V / 67108864 ^ 5)
theorem roundP_alike (V : Nat) : alike (roundP V) V := alike_round V
theorem roundP_lt {V : Nat} (h : 0 < V / 67108864 ^ 5) : roundP V < V := by
  have e := Nat.mod_add_div V (67108864 ^ 5)
  have h5 : 67108864 ^ 5 * (V / 67108864 ^ 5) ≥ 6 * (V / 67108864 ^ 5) := Nat.mul_le_mul_right _ (by decide)
  unfold roundP
  omega
theorem round_set (V : Nat) : val5 ((digL V).set 0 ((digL V).getD 0 0 + 5 * (V / 67108864 ^ 5))) = roundP V := by
  rw [val5_set _ (digL_length V) (by decide), val5_digL, Nat.pow_zero, Nat.mul_one]
  rfl
/-! ### a number times another -/
theorem times_low (T : List Nat) (hl : T.length = 5) (i j x y : Nat) (h : i + j < 5) : val5 (T.set (i + j) (T.getD (i + j) 0 + x * y)) = val5 T + x * 67108864 ^ i * (y * 67108864 ^ j) := by
  rw [val5_set _ hl h, Nat.pow_add, Nat.mul_mul_mul_comm]
theorem times_high (T : List Nat) (hl : T.length = 5) (i j x y : Nat) (h : ¬ i + j < 5) (hi : i < 5) (hj : j < 5) : alike (val5 (T.set (i + j - 5) (T.getD (i + j - 5) 0 + 5 * x * y))) (val5 T + x * 67108864 ^ i * (y * 67108864 ^ j)) := by
  rw [val5_set _ hl (by omega)]
  refine (alike.refl _).add ?_
  have e : x * 67108864 ^ i * (y * 67108864 ^ j) = 4 * 256 ^ 16 * (x * y * 67108864 ^ (i + j - 5)) := by
    rw [Nat.mul_mul_mul_comm, ← Nat.pow_add, show i + j = 5 + (i + j - 5) by omega, Nat.pow_add, show 5 + (i + j - 5) - 5 = i + j - 5 by omega, show (67108864 : Nat) ^ 5 = 4 * 256 ^ 16 by decide, Nat.mul_left_comm]
  rw [e, Nat.mul_assoc 5, Nat.mul_assoc 5]
  exact alike_130.symm.mul (alike.refl _)
theorem part_prod {a b : Nat} (ha : a < 67108864) (hb : b < 67108864) : a * b ≤ 4503599627370496 := Nat.mul_le_mul (Nat.le_of_lt ha) (Nat.le_of_lt hb)
/-! ### what is left by p -/
theorem rest_yes {V : Nat} (h : V < 67108864 ^ 5) (ho : 0 < (V + 5) / 67108864 ^ 5) : (V + 5) % 67108864 ^ 5 = V % tagP := by
  have e : (67108864 : Nat) ^ 5 = tagP + 5 := by decide
  rw [e] at h ho ⊢
  have hge : tagP + 5 ≤ V + 5 := by
    rcases Nat.lt_or_ge (V + 5) (tagP + 5) with hlt | hge
    · rw [Nat.div_eq_of_lt hlt] at ho; omega
    · exact hge
  have hp : 5 < tagP := by decide
  rw [Nat.mod_eq_sub_mod hge, Nat.mod_eq_of_lt (by omega), Nat.mod_eq_sub_mod (show tagP ≤ V by omega), Nat.mod_eq_of_lt (show V - tagP < tagP by omega)]
  omega
theorem rest_no {V : Nat} (ho : ¬ 0 < (V + 5) / 67108864 ^ 5) : V % tagP = V := by
  have e : (67108864 : Nat) ^ 5 = tagP + 5 := by decide
  rw [e] at ho
  refine Nat.mod_eq_of_lt ?_
  rcases Nat.lt_or_ge V tagP with h | h
  · exact h
  · have := Nat.div_pos (show tagP + 5 ≤ V + 5 by omega) (by decide)
    omega
/-! ### its bytes -/
theorem val5_lt {S : List Nat} (h : lessP 67108864 S) : val5 S < 67108864 ^ 5 := by
  have h0 := h.2 0
  have h1 := h.2 1
  have h2 := h.2 2
  have h3 := h.2 3
  have h4 := h.2 4
  simp only [val5, valP]
  omega
theorem byte_parts (A s t u : Nat) (ht : 2 ^ s = t) (hu : 2 ^ (26 - s) = u) (hs : s ≤ 24) : ((A % 67108864 / t) ||| (A / 67108864 % 67108864 * u)) % 256 = A / t % 256 := by
  have hM : t * u = 67108864 := by rw [← ht, ← hu, ← Nat.pow_add, show s + (26 - s) = 26 by omega]
  have hlt : A % 67108864 / t < 2 ^ (26 - s) := by
    rw [hu, Nat.div_lt_iff_lt_mul (by rw [← ht]; exact Nat.two_pow_pos _), Nat.mul_comm, hM]
    exact Nat.mod_lt _ (by decide)
  rw [Nat.or_comm, Nat.mul_comm _ u, ← hu, ← Nat.two_pow_add_eq_or_of_lt hlt, hu]
  have e : A / t = A % 67108864 / t + u * (A / 67108864) := by
    have h1 := Nat.mod_add_div A 67108864
    rw [← hM, Nat.mul_assoc] at h1
    conv => lhs; rw [← h1]
    rw [Nat.add_mul_div_left _ _ (by rw [← ht]; exact Nat.two_pow_pos _), hM]
  rw [e]
  have h2 := Nat.mod_add_div (A / 67108864) 67108864
  generalize A / 67108864 % 67108864 = x1 at h2 ⊢
  generalize A / 67108864 / 67108864 = x2 at h2
  rw [← h2, Nat.mul_add, ← Nat.mul_assoc, Nat.mul_comm u 67108864, Nat.mul_assoc]
  generalize u * x2 = z
  generalize u * x1 = y
  omega
theorem byte_last (A s t : Nat) (ht : 2 ^ s = t) (hs : s ≤ 18) : A % 67108864 / t % 256 = A / t % 256 := by
  have h8 : 67108864 = t * (2 ^ (18 - s) * 256) := by rw [← ht, show (256 : Nat) = 2 ^ 8 from rfl, ← Nat.pow_add, ← Nat.pow_add, show s + (18 - s + 8) = 26 by omega]
  have ht0 : 0 < t := by rw [← ht]; exact Nat.two_pow_pos _
  rw [h8, Nat.mod_mul_right_div_self, Nat.mod_mul_left_mod]
theorem byte_at (V p : Nat) : V / 67108864 ^ (8 * p / 26) / 2 ^ (8 * p % 26) = V / 256 ^ p := by
  rw [Nat.div_div_eq_div_mul, Nat.mul_comm, pow_place]
end Go.Proofs.YtnpffnhiefgglaaGreatDoor
