/-
  What the specification's l6Times answers: a number times r, made small. Condition: bytes.
-/
import Derived.Test.YthgnekdhldjjmabSpecTagA
namespace Go.Proofs.Ythgnekdhldjjmab
open Go.RowKit

def rows1 (h r : Nat → Nat) (k i : Nat) : Nat := if i < k then rowN h r i 17 else 0
theorem rows1_step (h r : Nat → Nat) (k : Nat) : dL (fun i => if i = k then rowN h r k 17 else rows1 h r k i) 17 = dL (rows1 h r (k + 1)) 17 := by
  refine dL_congr fun i _ => ?_
  unfold rows1
  by_cases h : i = k
  · subst h; simp
  · have : i < k ↔ i < k + 1 := by omega
    simp [h, this]
theorem rows1_end (h r : Nat → Nat) : dL (rows1 h r 17) 17 = dL (fun k => rowN h r k 17) 17 := dL_congr fun i hi => by simp [rows1, hi]
theorem rows1_start (h r : Nat → Nat) : (madeCells #[Value.int .i64 0] 17).toList = (dL (rows1 h r 0) 17).map (Value.int .i64) := by
  rw [show dL (rows1 h r 0) 17 = dL (fun _ => 0) 17 from dL_congr fun i _ => by simp [rows1], fill_startI ([] : List Int) 17]
  rfl

set_option maxRecDepth 100000 in
set_option maxHeartbeats 2400000 in
theorem l6Times_any (p q : Option Addr) (c d : Nat) (h r : Nat → Nat) (w : World) (hp : IntsIn w p 17 (dL h 17)) (hq : IntsIn w q 17 (dL r 17)) (hh : ∀ i, h i < 256) (hr : ∀ i, r i < 256) :
    Calls Try.prog 24 #[.slice p 17 c, .slice q 17 d] w fun e w' => ∃ p' c', e = .returned (.slice p' 17 c') ∧ OwnI 3 w' w.heap.size w'.heap.size (.slice p' 17 c') 17 (dL (lessN (fun k => rowN h r k 17)) 17) ∧ Below w.heap.size w w' := by
  obtain ⟨i0, hi, hz0, hz1, hz2⟩ := info_parts infoInt
  obtain ⟨b1, o1, rfl, hc1⟩ := hp (by decide)
  obtain ⟨b2, o2, rfl, hc2⟩ := hq (by decide)
  have l1 : b1 < w.heap.size := World.block_lt_of_cell? w ⟨b1, o1 + 0, none⟩ (hc1 0 (by omega))
  have l2 : b2 < w.heap.size := World.block_lt_of_cell? w ⟨b2, o2 + 0, none⟩ (hc2 0 (by omega))
  have HC : Hid (∀ X k m, k < 17 → m < 17 → Below w.heap.size w X → X.cell? ⟨b1, o1 + k, none⟩ = some (.int .i64 ((h k : Nat) : Int)) ∧ X.cell? ⟨b2, o2 + m, none⟩ = some (.int .i64 ((r m : Nat) : Int))) := fun X k m hk hm hX => by
    have a1 := hc1 k hk
    have a2 := hc2 m hm
    rw [dL_getD _ hk] at a1
    rw [dL_getD _ hm] at a2
    exact ⟨(hX.cell (p := ⟨b1, o1 + k, none⟩) l1).trans a1, (hX.cell (p := ⟨b2, o2 + m, none⟩) l2).trans a2⟩
  have HR : Hid (∀ i j, j ≤ 17 → rowN h r i j ≤ 356515840) := fun i j hj => by
    have := rowN_le hh hr i j
    omega
  clear hp hq hc1 hc2 l1 l2
  go_enter Try.func24, Try.ntmps24
  go_wp2_with (at_make; refine wpList_make_full _ rfl _ _ 44 rfl w.heap.size 3 i0 (.int .i64 0) 1 Try.underlying44 hi hz0 hz1 _ _ _ _ 17 rfl rfl rfl rfl (by rw [hz2]; omega) (by unfold maxLen; omega) (Nat.le_refl _) ?_)
  intro w1 hown hgrow
  have bel : Below w.heap.size w w1 := (Below.refl _ _).grown hgrow (Nat.le_refl _) (fun _ h => by cases h)
  rw [rows1_start h r] at hown
  clear hgrow
  go_wp2_with (fail)
  go_loopw [6] (fun i wr => ∃ k : Nat, k ≤ 17 ∧ i = .int .i64 k ∧ wr.ownsRow w.heap.size 3 1 (.slice (some ⟨w.heap.size, 0, none⟩) 17 17) 17 ((dL (rows1 h r k) 17).map (Value.int .i64)) ∧ Below w.heap.size w wr)
    (fun i _ => 17 - (intOf i).toNat)
  case atStart => exact ⟨0, by omega, rfl, hown, bel⟩
  case round =>
    clear hown bel
    obtain ⟨k, hk, rfl, hown, bel⟩ := hrel
    by_cases hlt : k < 17
    · have hlt' : (k : Int) < 17 := by omega
      go_wp2_with (fail)
      go_loopw [7, 8] (fun n j wX => ∃ m : Nat, m ≤ 17 ∧ j = .int .i64 m ∧ n = .int .i64 ((rowN h r k m : Nat) : Int) ∧ wX.ownsRow w.heap.size 3 1 (.slice (some ⟨w.heap.size, 0, none⟩) 17 17) 17 ((dL (rows1 h r k) 17).map (Value.int .i64)) ∧ Below w.heap.size w wX)
        (fun _ j _ => 17 - (intOf j).toNat)
      case atStart => exact ⟨0, by omega, rfl, rfl, hown, bel⟩
      case round =>
        clear hown bel
        obtain ⟨m, hm, rfl, rfl, hown, bel⟩ := hrel
        by_cases hlm : m < 17
        · have hlm' : (m : Int) < 17 := by omega
          have hs := hh m
          have ln := HR.out k m hm
          by_cases hle : m ≤ k
          · have hle' : (m : Int) ≤ (k : Int) := by omega
            obtain ⟨e1, e2⟩ := HC.out wr m (k - m) hlm (by omega) bel
            have ht := hr (k - m)
            have HN : Hid (rowN h r k (m + 1) = rowN h r k m + h m * r (k - m)) := by
              show rowN h r k m + coefN h r k m = _
              rw [coefN, if_pos hle]
            generalize rowN h r k m = n at ln HN
            generalize h m = x at e1 hs HN
            generalize r (k - m) = y at e2 ht HN
            obtain ⟨f, hf⟩ : ∃ f : Nat, f = k - m := ⟨_, rfl⟩
            rw [← hf] at e2
            have ef : (k : Int) - (m : Int) = (f : Int) := by omega
            have lf : (f : Int) < 17 := by omega
            have hxy : x * y ≤ 65025 := Nat.mul_le_mul (by omega : x ≤ 255) (by omega : y ≤ 255)
            obtain ⟨z, hz⟩ : ∃ z : Nat, z = x * y := ⟨_, rfl⟩
            have ez : (x : Int) * (y : Int) = (z : Int) := by rw [hz]; exact (Int.natCast_mul x y).symm
            rw [← hz] at hxy HN
            obtain ⟨v, hv⟩ : ∃ v : Nat, v = n + z := ⟨_, rfl⟩
            have ev : (n : Int) + (z : Int) = (v : Int) := by omega
            rw [← hv] at HN
            have lv : v < 1000000000 := by omega
            clear hf hz hv
            go_wp2_with (fail)
            go_quiet (fail)
            obtain ⟨wd, hwd⟩ : ∃ wd, wd = wr.drewN nq := ⟨_, rfl⟩
            rw [← hwd]
            have bd : Below wr.heap.size wr wd := by rw [hwd]; exact below_drewN (Below.refl _ _) _
            replace hown := owns_below hown bd
            replace bel := below_on bel bd
            clear hwd bd e1 e2 hs ht ev ez ef
            go_wp2_with (fail)
            go_roundw
            case rel => exact ⟨m + 1, by omega, by go_num, by rw [HN.out], hown, bel⟩
            case measure => simp [intOf]; omega
          · have hle' : ¬ (m : Int) ≤ (k : Int) := by omega
            obtain ⟨e1, e2⟩ := HC.out wr m (k + 17 - m) hlm (by omega) bel
            have ht := hr (k + 17 - m)
            have HN : Hid (rowN h r k (m + 1) = rowN h r k m + 320 * h m * r (k + 17 - m)) := by
              show rowN h r k m + coefN h r k m = _
              rw [coefN, if_neg hle]
            generalize rowN h r k m = n at ln HN
            generalize h m = x at e1 hs HN
            generalize r (k + 17 - m) = y at e2 ht HN
            obtain ⟨k7, hk7⟩ : ∃ k7 : Nat, k7 = k + 17 := ⟨_, rfl⟩
            have ek : (k : Int) + 17 = (k7 : Int) := by omega
            obtain ⟨f, hf⟩ : ∃ f : Nat, f = k + 17 - m := ⟨_, rfl⟩
            rw [← hf] at e2
            have ef : (k7 : Int) - (m : Int) = (f : Int) := by omega
            have lf : (f : Int) < 17 := by omega
            have lk7 : k7 < 100 := by omega
            obtain ⟨x3, hx3⟩ : ∃ x3 : Nat, x3 = 320 * x := ⟨_, rfl⟩
            have ex : (320 : Int) * (x : Int) = (x3 : Int) := by omega
            have lx : x3 ≤ 81600 := by omega
            rw [← hx3] at HN
            have hxy : x3 * y ≤ 20808000 := Nat.mul_le_mul lx (by omega : y ≤ 255)
            obtain ⟨z, hz⟩ : ∃ z : Nat, z = x3 * y := ⟨_, rfl⟩
            have ez : (x3 : Int) * (y : Int) = (z : Int) := by rw [hz]; exact (Int.natCast_mul x3 y).symm
            rw [← hz] at hxy HN
            obtain ⟨v, hv⟩ : ∃ v : Nat, v = n + z := ⟨_, rfl⟩
            have ev : (n : Int) + (z : Int) = (v : Int) := by omega
            rw [← hv] at HN
            have lv : v < 1000000000 := by omega
            clear hf hz hv hx3 hk7
            go_wp2_with (fail)
            go_quiet (fail)
            obtain ⟨wd, hwd⟩ : ∃ wd, wd = wr.drewN nq := ⟨_, rfl⟩
            rw [← hwd]
            have bd : Below wr.heap.size wr wd := by rw [hwd]; exact below_drewN (Below.refl _ _) _
            replace hown := owns_below hown bd
            replace bel := below_on bel bd
            clear hwd bd e1 e2 hs ht ev ez ef ex ek
            go_wp2_with (fail)
            go_roundw
            case rel => exact ⟨m + 1, by omega, by go_num, by rw [HN.out], hown, bel⟩
            case measure => simp [intOf]; omega
        · obtain rfl : m = 17 := by omega
          have hfr := hown.frozenAt k
          have hold : wr.cell? ⟨w.heap.size, k, none⟩ = some (.int .i64 0) := by
            rw [hown.cellAt k (by omega), List.getElem?_map]
            simp [dL, rows1, hlt]
          have st := hown.stored k (.int .i64 ((rowN h r k 17 : Nat) : Int))
          rw [← List.map_set, dL_set, rows1_step] at st
          generalize rowN h r k 17 = n at st
          have st' := st.1
          have hb' := bel.grown st.2 bel.size (fun k hk => by cases hk; exact Nat.le_refl _)
          clear st hown
          go_wp2_with (fail)
          go_roundw
          case rel => exact ⟨k + 1, by omega, by go_num, st', hb'⟩
          case measure => simp [intOf]; omega
    · obtain rfl : k = 17 := by omega
      rw [rows1_end] at hown
      have CL := l6Less_any w.heap.size w.heap.size 17 (fun k => rowN h r k 17) wr (fun i => HR.out i 17 (by omega)) hown
      clear hown
      go_wp2_with (fail)
      refine CL.mono ?_
      rintro e w9 ⟨rfl, ho9, hg9⟩
      have hb9 := bel.grown hg9 bel.size (fun k hk => by cases hk; exact Nat.le_refl _)
      clear CL
      go_wp2_with (fail)
      go_ret
      exact ⟨_, _, rfl, .of ho9, hb9⟩

end Go.Proofs.Ythgnekdhldjjmab
