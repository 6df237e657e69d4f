/-
  What the specification's sums of numbers of 17 bytes answer: digits behind the carrying. Condition: bytes.
-/
import Derived.Test.YthgnekdhldjjmabTagMath
import Derived.BigQuiet
namespace Go.Proofs.Ythgnekdhldjjmab
open Go.RowKit

/-- The first n digits, as ints. -/
def dL (f : Nat → Nat) (n : Nat) : List Int := (List.range n).map fun i => ((f i : Nat) : Int)
theorem dL_length (f : Nat → Nat) (n : Nat) : (dL f n).length = n := by simp [dL]
theorem dL_getD (f : Nat → Nat) {n k : Nat} (h : k < n) : (dL f n).getD k 0 = ((f k : Nat) : Int) := by simp [dL, h]
theorem dL_step (f : Nat → Nat) (k : Nat) : dL f k ++ [((f k : Nat) : Int)] = dL f (k + 1) := by simp [dL, List.range_succ]
theorem dL_congr {f g : Nat → Nat} {n : Nat} (h : ∀ i, i < n → f i = g i) : dL f n = dL g n := by
  apply List.map_congr_left
  intro i hi
  rw [h i (List.mem_range.1 hi)]
theorem and_low (k : Nat) (hk : k ≤ 32) (v : Nat) (hv : v < 9223372036854775808) : bits .and .i64 (v : Int) ((2 ^ k - 1 : Nat) : Int) = ((v % 2 ^ k : Nat) : Int) := by
  have e : bits .and .i64 (v : Int) ((2 ^ k - 1 : Nat) : Int) = IntKind.i64.wrap ((BitVec.ofInt 64 (v : Int) &&& BitVec.ofInt 64 ((2 ^ k - 1 : Nat) : Int)).toNat : Int) := rfl
  have e1 : (BitVec.ofInt 64 (v : Int)).toNat = v := by rw [BitVec.toNat_ofInt]; omega
  have hp : 2 ^ k ≤ 4294967296 := Nat.le_trans (Nat.pow_le_pow_right (by decide) hk) (by decide)
  have e2 : (BitVec.ofInt 64 ((2 ^ k - 1 : Nat) : Int)).toNat = 2 ^ k - 1 := by rw [BitVec.toNat_ofInt]; omega
  rw [e, BitVec.toNat_and, e1, e2, Nat.and_two_pow_sub_one_eq_mod, IntKind.wrap_i64]
  have : v % 2 ^ k ≤ v := Nat.mod_le _ _
  omega
theorem and_255 (v : Nat) (hv : v < 9223372036854775808) : bits .and .i64 (v : Int) 255 = ((v % 256 : Nat) : Int) := and_low 8 (by decide) v hv
theorem and_3 (v : Nat) (hv : v < 9223372036854775808) : bits .and .i64 (v : Int) 3 = ((v % 4 : Nat) : Int) := and_low 2 (by decide) v hv
theorem and_15 (v : Nat) (hv : v < 9223372036854775808) : bits .and .i64 (v : Int) 15 = ((v % 16 : Nat) : Int) := and_low 4 (by decide) v hv

set_option maxRecDepth 100000 in
set_option maxHeartbeats 2400000 in
theorem l6Add_any (p q : Option Addr) (c d : Nat) (h g : Nat → Nat) (w : World) (hp : IntsIn w p 17 (dL h 17)) (hq : IntsIn w q 17 (dL g 17)) (hh : ∀ i, i < 17 → h i < 256) (hg : ∀ i, i < 17 → g i < 256) :
    Calls Try.prog 25 #[.slice p 17 c, .slice q 17 d] w fun e w' => ∃ p' c', e = .returned (.slice p' 17 c') ∧ OwnI 3 w' w.heap.size w'.heap.size (.slice p' 17 c') 17 (dL (sumD h g) 17) ∧ Below w.heap.size w w' := by
  obtain ⟨i0, hi, hz0, hz1, hz2⟩ := info_parts infoInt
  obtain ⟨b1, o1, rfl, hc1⟩ := hp (by decide)
  obtain ⟨b2, o2, rfl, hc2⟩ := hq (by decide)
  have l1 : b1 < w.heap.size := World.block_lt_of_cell? w ⟨b1, o1 + 0, none⟩ (hc1 0 (by omega))
  have l2 : b2 < w.heap.size := World.block_lt_of_cell? w ⟨b2, o2 + 0, none⟩ (hc2 0 (by omega))
  have HC : Hid (∀ X k, k < 17 → Below w.heap.size w X → X.cell? ⟨b1, o1 + k, none⟩ = some (.int .i64 ((h k : Nat) : Int)) ∧ X.cell? ⟨b2, o2 + k, none⟩ = some (.int .i64 ((g k : Nat) : Int))) := fun X k hk hX => by
    have a1 := hc1 k hk
    have a2 := hc2 k hk
    rw [dL_getD _ hk] at a1 a2
    exact ⟨(hX.cell (p := ⟨b1, o1 + k, none⟩) l1).trans a1, (hX.cell (p := ⟨b2, o2 + k, none⟩) l2).trans a2⟩
  have HU : Hid (∀ k, k ≤ 17 → carN (fun i => h i + g i) 0 k ≤ 2) := fun k hk => by
    have key : ∀ k, k ≤ 17 → carN (fun i => h i + g i) 0 k ≤ 2 := by
      intro k
      induction k with
      | zero => intro _; simp [carN]
      | succ k ih =>
        intro hk
        have h1 := ih (by omega)
        have h2 := hh k (by omega)
        have h3 := hg k (by omega)
        simp only [carN]
        omega
    exact key k hk
  have hown0 : (w.alloc (.cells #[] 3)).ownsRow w.heap.size 3 1 (.slice (some ⟨w.heap.size, 0, none⟩) 0 0) 0 ((dL (sumD h g) 0).map (Value.int .i64)) := World.ownsRow_made w #[] 0 (Nat.le_refl _) (by unfold maxLen; omega) rfl
  have hb0 : Below w.heap.size w (w.alloc (.cells #[] 3)) := (Below.refl _ _).alloc (Nat.le_refl _) _
  clear hp hq hc1 hc2 l1 l2
  go_enter Try.func25, Try.ntmps25
  go_wp2_with (fail)
  go_loopw [5, 6, 7] (fun v u i wr => ∃ (k : Nat) (q : Option Addr) (cc : Nat), k ≤ 17 ∧ i = .int .i64 k ∧ u = .int .i64 ((carN (fun i => h i + g i) 0 k : Nat) : Int) ∧ v = .slice q k cc ∧ wr.ownsRow w.heap.size 3 1 (.slice q k cc) k ((dL (sumD h g) k).map (Value.int .i64)) ∧ Below w.heap.size w wr)
    (fun _ _ i _ => 17 - (intOf i).toNat)
  case atStart => exact ⟨0, _, 0, by omega, rfl, rfl, rfl, hown0, hb0⟩
  case round =>
    clear hown0 hb0
    obtain ⟨k, q, cc, hk, rfl, rfl, rfl, hown, hbel⟩ := hrel
    by_cases hlt : k < 17
    · have hlt' : (k : Int) < 17 := by omega
      obtain ⟨e1, e2⟩ := HC.out wr k hlt hbel
      have hu := HU.out k hk
      have hs := hh k hlt
      have ht := hg k hlt
      have HX : Hid (carN (fun i => h i + g i) 0 (k + 1) = (carN (fun i => h i + g i) 0 k + (h k + g k)) / 256) := rfl
      have HY : Hid (sumD h g k = (carN (fun i => h i + g i) 0 k + (h k + g k)) % 256) := rfl
      have HL : Hid (dL (sumD h g) k ++ [((sumD h g k : Nat) : Int)] = dL (sumD h g) (k + 1)) := dL_step _ k
      rw [HY.out] at HL
      generalize carN (fun i => h i + g i) 0 k = u at hu HX HL
      generalize h k = x at e1 hs HX HL
      generalize g k = y at e2 ht HX HL
      obtain ⟨v, hv⟩ : ∃ v : Nat, v = u + (x + y) := ⟨_, rfl⟩
      have ev : (u : Int) + (x : Int) + (y : Int) = (v : Int) := by omega
      have lv : v < 1024 := by omega
      rw [← hv] at HX HL
      obtain ⟨u', hu'⟩ : ∃ u' : Nat, u' = v / 256 := ⟨_, rfl⟩
      obtain ⟨x', hx'⟩ : ∃ x' : Nat, x' = v % 256 := ⟨_, rfl⟩
      have ea := and_255 v (by omega)
      rw [← hx'] at ea HL
      have es : (v : Int) / 256 = (u' : Int) := by omega
      rw [← hu'] at HX
      clear hx' hu'
      clear hv
      go_wp2_with (fail)
      go_quiet (fail)
      obtain ⟨wd, hwd⟩ : ∃ wd, wd = wr.drewN nq := ⟨_, rfl⟩
      rw [← hwd]
      have bd : Below wr.heap.size wr wd := by rw [hwd]; exact below_drewN (Below.refl _ _) _
      replace hown := owns_below hown bd
      replace hbel := below_on hbel bd
      clear hwd bd e1 e2 hu hs ht ev
      have hsw := hbel.size
      go_wp2_with (at_builtin; refine list_pushI hi hz0 hz1 hz2 (.tmp 24) (.tmp 27) 44 Try.underlying44 _ hown (by omega) hsw (by rfl) (by rfl) (by rfl) (by rfl) ?_; intro p' cap w3 ho3 hb3)
      rw [HL.out] at ho3
      go_roundw
      case rel => exact ⟨k + 1, _, cap, by omega, by go_num, by rw [HX.out], rfl, ho3, hbel.trans hb3⟩
      case measure => simp [intOf]; omega
    · obtain rfl : k = 17 := by omega
      go_wp2_with (fail)
      go_ret
      exact ⟨_, _, rfl, .of hown, hbel⟩

/-! ### a number made small again -/
theorem dL_set (f : Nat → Nat) (n k v : Nat) : (dL f n).set k (v : Int) = dL (fun i => if i = k then v else f i) n := by
  apply List.ext_getElem?
  intro j
  by_cases hj : j < n
  · by_cases hk : k = j
    · subst hk
      rw [List.getElem?_set_self (by rw [dL_length]; exact hj)]
      simp [dL, hj]
    · rw [List.getElem?_set_ne hk]
      simp [dL, hj, Ne.symm hk]
  · rw [List.getElem?_eq_none (by simp [dL_length]; omega), List.getElem?_eq_none (by simp [dL_length]; omega)]
def less1 (x : Nat → Nat) (k i : Nat) : Nat := if i < k then digN x 0 i else x i
def less2 (x : Nat → Nat) (k i : Nat) : Nat := if i < k then digN (digN x 0) (lowN x) i else if i < 16 then digN x 0 i else topN x % 4
theorem less1_step (x : Nat → Nat) (k : Nat) : dL (fun i => if i = k then digN x 0 k else less1 x k i) 17 = dL (less1 x (k + 1)) 17 := by
  refine dL_congr fun i _ => ?_
  unfold less1
  by_cases h : i = k
  · subst h; simp
  · have : i < k ↔ i < k + 1 := by omega
    simp [h, this]
theorem less1_end (x : Nat → Nat) : dL (fun i => if i = 16 then topN x % 4 else less1 x 16 i) 17 = dL (less2 x 0) 17 := by
  refine dL_congr fun i hi => ?_
  unfold less1 less2
  by_cases h : i = 16
  · subst h; simp
  · have : i < 16 := by omega
    simp [h, this]
theorem less2_step (x : Nat → Nat) (k : Nat) : dL (fun i => if i = k then digN (digN x 0) (lowN x) k else less2 x k i) 17 = dL (less2 x (k + 1)) 17 := by
  refine dL_congr fun i _ => ?_
  unfold less2
  by_cases h : i = k
  · subst h; simp
  · have : i < k ↔ i < k + 1 := by omega
    simp [h, this]
theorem less2_end (x : Nat → Nat) : dL (fun i => if i = 16 then topN x % 4 + carN (digN x 0) (lowN x) 16 else less2 x 16 i) 17 = dL (lessN x) 17 := by
  refine dL_congr fun i hi => ?_
  unfold lessN less2
  by_cases h : i = 16
  · subst h; simp
  · have : i < 16 := by omega
    simp [h, this]

set_option maxRecDepth 100000 in
set_option maxHeartbeats 2400000 in
theorem l6Less_any (lo g c : Nat) (x : Nat → Nat) (w : World) (hx : ∀ i, x i ≤ 356515840) (h : w.ownsRow lo 3 1 (.slice (some ⟨g, 0, none⟩) 17 c) 17 ((dL x 17).map (Value.int .i64))) :
    Calls Try.prog 32 #[.slice (some ⟨g, 0, none⟩) 17 c] w fun e w' => e = .returned (.slice (some ⟨g, 0, none⟩) 17 c) ∧ w'.ownsRow lo 3 1 (.slice (some ⟨g, 0, none⟩) 17 c) 17 ((dL (lessN x) 17).map (Value.int .i64)) ∧ w.grownBy w' (some g) := by
  have HC : Hid (∀ k, carN x 0 k ≤ 1398102) := fun k => carN_le (M := 1398102) (fun i => by have := hx i; omega) (by omega) k
  have ht : topN x ≤ 357913942 := by have := hx 16; have := HC.out 16; unfold topN; omega
  have hl : lowN x ≤ 447392425 := by unfold lowN; omega
  have HD : Hid (∀ k, carN (digN x 0) (lowN x) k ≤ 447392425) := fun k => carN_le (M := 447392425) (fun i => by have := digN_lt x 0 i; omega) hl k
  have h0 : w.ownsRow lo 3 1 (.slice (some ⟨g, 0, none⟩) 17 c) 17 ((dL (less1 x 0) 17).map (Value.int .i64)) := h
  clear h
  go_enter Try.func32, Try.ntmps32
  go_wp2_with (fail)
  go_loopw [3, 4] (fun u i wr => ∃ (k : Nat), k ≤ 16 ∧ i = .int .i64 k ∧ u = .int .i64 ((carN x 0 k : Nat) : Int) ∧ wr.ownsRow lo 3 1 (.slice (some ⟨g, 0, none⟩) 17 c) 17 ((dL (less1 x k) 17).map (Value.int .i64)) ∧ w.grownBy wr (some g))
    (fun _ i _ => 16 - (intOf i).toNat)
  case atStart => exact ⟨0, by omega, rfl, rfl, h0, World.grownBy.refl _ _⟩
  case round =>
    clear h0
    obtain ⟨k, hk, rfl, rfl, hown, hgr⟩ := hrel
    by_cases hlt : k < 16
    · have hlt' : (k : Int) < 16 := by omega
      have hlt7 : (k : Int) < 17 := by omega
      have e1 : wr.cell? ⟨g, k, none⟩ = some (.int .i64 ((x k : Nat) : Int)) := by
        rw [hown.cellAt k (by omega), List.getElem?_map]
        simp [dL, less1, show k < 17 by omega]
      have hfr := hown.frozenAt k
      have hu := HC.out k
      have hs := hx k
      have HX : Hid (carN x 0 (k + 1) = (carN x 0 k + x k) / 256) := rfl
      have HY : digN x 0 k = (carN x 0 k + x k) % 256 := rfl
      have st := hown.stored k (.int .i64 ((digN x 0 k : Nat) : Int))
      rw [← List.map_set, dL_set, less1_step] at st
      rw [HY] at st
      clear HY
      generalize carN x 0 k = u at hu HX st
      generalize x k = y at e1 hs HX st
      obtain ⟨v, hv⟩ : ∃ v : Nat, v = u + y := ⟨_, rfl⟩
      have ev : (u : Int) + (y : Int) = (v : Int) := by omega
      have lv : v < 400000000 := by omega
      rw [← hv] at HX st
      obtain ⟨u', hu'⟩ : ∃ u' : Nat, u' = v / 256 := ⟨_, rfl⟩
      obtain ⟨x', hx'⟩ : ∃ x' : Nat, x' = v % 256 := ⟨_, rfl⟩
      have ea := and_255 v (by omega)
      rw [← hx'] at ea st
      have es : (v : Int) / 256 = (u' : Int) := by omega
      rw [← hu'] at HX
      have hgr' := grown_trans hgr st.2
      have st' := st.1
      clear hx' hu' hv hown hgr st
      go_wp2
      go_roundw
      case rel => exact ⟨k + 1, by omega, by go_num, by rw [HX.out], st', hgr'⟩
      case measure => simp [intOf]; omega
    · obtain rfl : k = 16 := by omega
      have e1 : wr.cell? ⟨g, 16, none⟩ = some (.int .i64 ((x 16 : Nat) : Int)) := by
        rw [hown.cellAt 16 (by omega), List.getElem?_map]
        rfl
      have hfr := hown.frozenAt 16
      have st := hown.stored 16 (.int .i64 ((topN x % 4 : Nat) : Int))
      rw [← List.map_set, dL_set, less1_end] at st
      have ev : ((carN x 0 16 : Nat) : Int) + ((x 16 : Nat) : Int) = ((topN x : Nat) : Int) := by unfold topN; omega
      have HLo : Hid (lowN x = 5 * (topN x / 4)) := rfl
      have hu := HC.out 16
      have hs := hx 16
      obtain ⟨t, hT⟩ : ∃ t, t = topN x := ⟨_, rfl⟩
      rw [← hT] at ev ht st HLo
      obtain ⟨L, hL⟩ : ∃ L, L = lowN x := ⟨_, rfl⟩
      rw [← hL] at HLo hl HD
      obtain ⟨t3, ht3⟩ : ∃ t3 : Nat, t3 = t % 4 := ⟨_, rfl⟩
      obtain ⟨t4, ht4⟩ : ∃ t4 : Nat, t4 = t / 4 := ⟨_, rfl⟩
      have ea := and_3 t (by omega)
      rw [← ht3] at ea st
      have es : (t : Int) / 4 = (t4 : Int) := by omega
      rw [← ht4] at HLo
      have em : (5 : Int) * (t4 : Int) = (L : Int) := by rw [HLo.out]; omega
      have hgr' := grown_trans hgr st.2
      have st' := st.1
      generalize carN x 0 16 = u at hu ev
      generalize x 16 = y at e1 hs ev
      replace hT : Hid (t = topN x) := hT
      replace hL : Hid (L = lowN x) := hL
      replace ht3 : Hid (t3 = t % 4) := ht3
      clear st hown hgr ht4 HLo
      go_wp2_with (fail)
      generalize wr.setCell ⟨g, 16, none⟩ (.int .i64 (t3 : Int)) = wc at st' hgr' ⊢
      clear ea es em ev e1 hfr
      go_loopw [3, 5] (fun u i wr => ∃ (k : Nat), k ≤ 16 ∧ i = .int .i64 k ∧ u = .int .i64 ((carN (digN x 0) L k : Nat) : Int) ∧ wr.ownsRow lo 3 1 (.slice (some ⟨g, 0, none⟩) 17 c) 17 ((dL (less2 x k) 17).map (Value.int .i64)) ∧ w.grownBy wr (some g))
        (fun _ i _ => 16 - (intOf i).toNat)
      case atStart => exact ⟨0, by omega, rfl, rfl, st', hgr'⟩
      case round =>
        clear st' hgr'
        obtain ⟨k, hk, rfl, rfl, hown, hgr⟩ := hrel
        by_cases hlt : k < 16
        · have hlt' : (k : Int) < 16 := by omega
          have hlt7 : (k : Int) < 17 := by omega
          have e1 : wr.cell? ⟨g, k, none⟩ = some (.int .i64 ((digN x 0 k : Nat) : Int)) := by
            rw [hown.cellAt k (by omega), List.getElem?_map]
            simp [dL, less2, show k < 17 by omega, hlt]
          have hfr := hown.frozenAt k
          have hu := HD.out k
          have hs := digN_lt x 0 k
          have HX : Hid (carN (digN x 0) L (k + 1) = (carN (digN x 0) L k + digN x 0 k) / 256) := rfl
          have HY : digN (digN x 0) L k = (carN (digN x 0) L k + digN x 0 k) % 256 := rfl
          have st := hown.stored k (.int .i64 ((digN (digN x 0) L k : Nat) : Int))
          rw [← List.map_set, dL_set, hL.out, less2_step, ← hL.out] at st
          rw [HY] at st
          clear HY
          generalize carN (digN x 0) L k = u at hu HX st
          generalize digN x 0 k = y at e1 hs HX st
          obtain ⟨v, hv⟩ : ∃ v : Nat, v = u + y := ⟨_, rfl⟩
          have ev : (u : Int) + (y : Int) = (v : Int) := by omega
          have lv : v < 500000000 := by omega
          rw [← hv] at HX st
          obtain ⟨u', hu'⟩ : ∃ u' : Nat, u' = v / 256 := ⟨_, rfl⟩
          obtain ⟨x', hx'⟩ : ∃ x' : Nat, x' = v % 256 := ⟨_, rfl⟩
          have ea := and_255 v (by omega)
          rw [← hx'] at ea st
          have es : (v : Int) / 256 = (u' : Int) := by omega
          rw [← hu'] at HX
          have hgr' := grown_trans hgr st.2
          have st' := st.1
          clear hx' hu' hv hown hgr st
          go_wp2
          go_roundw
          case rel => exact ⟨k + 1, by omega, by go_num, by rw [HX.out], st', hgr'⟩
          case measure => simp [intOf]; omega
        · obtain rfl : k = 16 := by omega
          have e1 : wr.cell? ⟨g, 16, none⟩ = some (.int .i64 (t3 : Int)) := by
            rw [hown.cellAt 16 (by omega), List.getElem?_map, ht3.out, hT.out]
            rfl
          have hfr := hown.frozenAt 16
          have st := hown.stored 16 (.int .i64 ((topN x % 4 + carN (digN x 0) (lowN x) 16 : Nat) : Int))
          rw [← List.map_set, dL_set, less2_end] at st
          rw [← hT.out, ← ht3.out, ← hL.out] at st
          have hu := HD.out 16
          have l3 : t3 ≤ 3 := by rw [ht3.out]; omega
          generalize carN (digN x 0) L 16 = u at hu st
          obtain ⟨v, hv⟩ : ∃ v : Nat, v = t3 + u := ⟨_, rfl⟩
          have ev : (t3 : Int) + (u : Int) = (v : Int) := by omega
          have lv : v < 500000000 := by omega
          rw [← hv] at st
          have hgr' := grown_trans hgr st.2
          have st' := st.1
          clear hv hown hgr st
          go_wp2
          go_ret
          exact ⟨rfl, st', hgr'⟩

end Go.Proofs.Ythgnekdhldjjmab
