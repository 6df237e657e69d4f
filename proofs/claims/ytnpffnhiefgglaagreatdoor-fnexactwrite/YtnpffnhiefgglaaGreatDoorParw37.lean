/-
  A part of the proof.
-/
import Derived.Test.YtnpffnhiefgglaaGreatDoorParw36
import Derived.Test.YtnpffnhiefgglaaGreatDoorParw35
import Derived.Laws.Cover3
import Derived.Test.YtnpffnhiefgglaaGreatDoorParw31
namespace Go.Proofs.YtnpffnhiefgglaaGreatDoor
open Go.RowKit
set_option maxRecDepth 100000
theorem num_shift (z : Int) (k j : Nat) : numU z (k + j) = numU (z / bU ^ k) j := by
  have := powU_pos k
  rw [numU, numU, Int.pow_add, Int.ediv_ediv_of_nonneg (by omega)]
def prT (x y : Int) (k : Nat) : Int := x % bU ^ k * y
def trmT (x y : Int) (k j : Nat) : Int := numU (prT x y k) (k + j) + numU x k * numU y j
theorem trmT_le (x y : Int) (k j : Nat) : 0 ≤ trmT x y k j ∧ trmT x y k j ≤ bU * (bU - 1) := termU (numU_range _ _) (numU_range _ _) (numU_range _ _)
theorem prT_step (x y : Int) (k : Nat) : prT x y (k + 1) = prT x y k + bU ^ k * (numU x k * y) := by
  unfold prT
  have h : x % bU ^ (k + 1) = x % bU ^ k + numU x k * bU ^ k := by rw [← val_numU, ← val_numU, valU]
  rw [h, Int.add_mul, Int.mul_comm (numU x k), Int.mul_assoc]
theorem prT_range {y : Int} (x : Int) (hy0 : 0 ≤ y) (hy : y < bU ^ 4) (k : Nat) : 0 ≤ prT x y k ∧ prT x y k < bU ^ (k + 4) := by
  have hp := powU_pos k
  have h0 := Int.emod_nonneg x (show bU ^ k ≠ 0 by omega)
  have h1 := Int.emod_lt_of_pos x hp
  unfold prT
  refine ⟨Int.mul_nonneg h0 hy0, ?_⟩
  have h2 : x % bU ^ k * y ≤ x % bU ^ k * bU ^ 4 := Int.mul_le_mul_of_nonneg_left (by omega) h0
  have h3 : x % bU ^ k * bU ^ 4 < bU ^ k * bU ^ 4 := Int.mul_lt_mul_of_pos_right h1 (powU_pos 4)
  rw [Int.pow_add]
  omega
def prI (x y : Int) (k m p : Nat) : Int := if k ≤ p ∧ p < k + m then digU (trmT x y k) 0 (p - k) else numU (prT x y k) p
theorem prI_zero (x y : Int) (k p : Nat) : prI x y k 0 p = numU (prT x y k) p := by rw [prI, if_neg (by omega)]
theorem prI_at (x y : Int) (k m : Nat) : prI x y k m (k + m) = numU (prT x y k) (k + m) := by rw [prI, if_neg (by omega)]
theorem prI_step (x y : Int) (k m p : Nat) : (if p = k + m then digU (trmT x y k) 0 m else prI x y k m p) = prI x y k (m + 1) p := by
  unfold prI
  by_cases h : p = k + m
  · subst h; rw [if_pos rfl, if_pos (by omega), show k + m - k = m by omega]
  · rw [if_neg h]
    by_cases h2 : k ≤ p ∧ p < k + m
    · rw [if_pos h2, if_pos (by omega)]
    · rw [if_neg h2, if_neg (by omega)]
theorem prI_end {x y : Int} (hy0 : 0 ≤ y) (hy : y < bU ^ 4) {k : Nat} (hk : k < 4) {p : Nat} (hp : p < 8) : (if p = k + 4 then carU (trmT x y k) 0 4 else prI x y k 4 p) = numU (prT x y (k + 1)) p := by
  have hr := prT_range x hy0 hy k
  have hc := carU_le (trmT_le x y k) (c := 0) (by decide) 4
  have hrange : ∀ i, i < 8 → 0 ≤ (if i = k + 4 then carU (trmT x y k) 0 4 else prI x y k 4 i) ∧ (if i = k + 4 then carU (trmT x y k) 0 4 else prI x y k 4 i) < bU := by
    intro i _
    split
    · exact hc
    · unfold prI
      split
      · exact digU_range _ _ _
      · exact numU_range _ _
  rw [num_of_parts hrange hp]
  congr 1
  obtain ⟨r, hr8⟩ : ∃ r, 8 = k + (4 + (1 + r)) := ⟨3 - k, by omega⟩
  have s1 := valU_split (fun i => if i = k + 4 then carU (trmT x y k) 0 4 else prI x y k 4 i) k (4 + (1 + r))
  have s2 := valU_split (fun j => (fun i => if i = k + 4 then carU (trmT x y k) 0 4 else prI x y k 4 i) (k + j)) 4 (1 + r)
  have s3 := valU_split (fun q => (fun i => if i = k + 4 then carU (trmT x y k) 0 4 else prI x y k 4 i) (k + (4 + q))) 1 r
  have e1 : valU (fun i => if i = k + 4 then carU (trmT x y k) 0 4 else prI x y k 4 i) k = prT x y k % bU ^ k := by
    rw [← val_numU]
    exact valU_congr fun i hi => by rw [if_neg (by omega), prI, if_neg (by omega)]
  have e2 : valU (fun j => (fun i => if i = k + 4 then carU (trmT x y k) 0 4 else prI x y k 4 i) (k + j)) 4 = valU (digU (trmT x y k) 0) 4 :=
    valU_congr fun i hi => by
      show (if k + i = k + 4 then carU (trmT x y k) 0 4 else prI x y k 4 (k + i)) = _
      rw [if_neg (by omega), prI, if_pos (by omega), show k + i - k = i by omega]
  have e3 : valU (fun q => (fun i => if i = k + 4 then carU (trmT x y k) 0 4 else prI x y k 4 i) (k + (4 + q))) 1 = carU (trmT x y k) 0 4 := by
    simp [valU]
  have e4 : valU (fun i => (fun q => (fun i => if i = k + 4 then carU (trmT x y k) 0 4 else prI x y k 4 i) (k + (4 + q))) (1 + i)) r = 0 := by
    have : valU (fun i => (fun q => (fun i => if i = k + 4 then carU (trmT x y k) 0 4 else prI x y k 4 i) (k + (4 + q))) (1 + i)) r = valU (fun _ => 0) r := valU_congr fun i hi => by
      show (if k + (4 + (1 + i)) = k + 4 then carU (trmT x y k) 0 4 else prI x y k 4 (k + (4 + (1 + i)))) = 0
      rw [if_neg (by omega), prI, if_neg (by omega), numU]
      have hb : bU ^ (k + 4) ≤ bU ^ (k + (4 + (1 + i))) := by
        rw [show k + (4 + (1 + i)) = (k + 4) + (1 + i) by omega, Int.pow_add bU (k + 4)]
        have h1 := powU_pos (k + 4)
        have h2 := powU_pos (1 + i)
        have : bU ^ (k + 4) * 1 ≤ bU ^ (k + 4) * bU ^ (1 + i) := Int.mul_le_mul_of_nonneg_left (by omega) (by omega)
        omega
      rw [Int.ediv_eq_zero_of_lt hr.1 (by omega)]
      rfl
    rw [this]
    clear this e1 e2 e3 s1 s2 s3 hrange hr8
    induction r with
    | zero => rfl
    | succ r ih => rw [valU, ih]; omega
  rw [e3, e4] at s3
  have sv : valU (fun i => (fun j => (fun i => if i = k + 4 then carU (trmT x y k) 0 4 else prI x y k 4 i) (k + j)) (4 + i)) (1 + r) = carU (trmT x y k) 0 4 + bU ^ 1 * 0 := s3
  rw [e2, sv] at s2
  have sw : valU (fun i => (fun i => if i = k + 4 then carU (trmT x y k) 0 4 else prI x y k 4 i) (k + i)) (4 + (1 + r)) = valU (digU (trmT x y k) 0) 4 + bU ^ 4 * (carU (trmT x y k) 0 4 + bU ^ 1 * 0) := s2
  rw [e1, sw, ← hr8] at s1
  rw [s1]
  have hv := val_carU (trmT x y k) 0 4
  have ht : valU (trmT x y k) 4 = prT x y k / bU ^ k + numU x k * y := by
    have a1 := valU_add (fun j => numU (prT x y k) (k + j)) (fun j => numU x k * numU y j) 4
    have a2 : valU (fun j => numU (prT x y k) (k + j)) 4 = prT x y k / bU ^ k := by
      have : valU (fun j => numU (prT x y k) (k + j)) 4 = valU (numU (prT x y k / bU ^ k)) 4 := valU_congr fun j _ => num_shift _ _ _
      rw [this]
      refine val_four (Int.ediv_nonneg hr.1 (by have := powU_pos k; omega)) (Int.ediv_lt_of_lt_mul (powU_pos k) ?_)
      have := hr.2
      rw [Int.pow_add, Int.mul_comm] at this
      exact this
    have a3 : valU (fun j => numU x k * numU y j) 4 = numU x k * y := by
      have : valU (fun j => numU x k * numU y j) 4 = valU (fun j => numU y j * numU x k) 4 := valU_congr fun j _ => Int.mul_comm _ _
      rw [this, valU_mul, val_four hy0 hy, Int.mul_comm]
    rw [a2, a3] at a1
    exact a1
  rw [ht, Int.add_zero] at hv
  rw [Int.mul_zero, Int.add_zero, hv, prT_step, Int.mul_add]
  have := Int.mul_ediv_add_emod (prT x y k) (bU ^ k)
  omega
theorem slice8 (g k : Nat) (hk : k < 4) (w : World) : (Instr.sliceAt 154 (.pointer (some ⟨g, 0, none⟩)) (some (.int .i64 (k : Int))) (some (.int .i64 ((k + 5 : Nat) : Int))) (some (.int .i64 ((k + 5 : Nat) : Int)))).run Tryz.prog w = .ok (.slice (some ⟨g, k, none⟩) 5 5) w := by
  have h0 : (Instr.sliceAt 154 (.pointer (some ⟨g, 0, none⟩)) (some (.int .i64 0)) (some (.int .i64 5)) (some (.int .i64 5))).run Tryz.prog w = .ok (.slice (some ⟨g, 0, none⟩) 5 5) w := by kernel_rfl
  have h1 : (Instr.sliceAt 154 (.pointer (some ⟨g, 0, none⟩)) (some (.int .i64 1)) (some (.int .i64 6)) (some (.int .i64 6))).run Tryz.prog w = .ok (.slice (some ⟨g, 1, none⟩) 5 5) w := by kernel_rfl
  have h2 : (Instr.sliceAt 154 (.pointer (some ⟨g, 0, none⟩)) (some (.int .i64 2)) (some (.int .i64 7)) (some (.int .i64 7))).run Tryz.prog w = .ok (.slice (some ⟨g, 2, none⟩) 5 5) w := by kernel_rfl
  have h3 : (Instr.sliceAt 154 (.pointer (some ⟨g, 0, none⟩)) (some (.int .i64 3)) (some (.int .i64 8)) (some (.int .i64 8))).run Tryz.prog w = .ok (.slice (some ⟨g, 3, none⟩) 5 5) w := by kernel_rfl
  have hc : k = 0 ∨ k = 1 ∨ k = 2 ∨ k = 3 := by omega
  rcases hc with rfl | rfl | rfl | rfl
  · exact h0
  · exact h1
  · exact h2
  · exact h3
theorem slice8_low (g : Nat) (w : World) : (Instr.sliceAt 154 (.pointer (some ⟨g, 0, none⟩)) none (some (.int .i64 4)) none).run Tryz.prog w = .ok (.slice (some ⟨g, 0, none⟩) 4 8) w := by kernel_rfl
theorem slice8_high (g : Nat) (w : World) : (Instr.sliceAt 154 (.pointer (some ⟨g, 0, none⟩)) (some (.int .i64 4)) none none).run Tryz.prog w = .ok (.slice (some ⟨g, 4, none⟩) 4 4) w := by kernel_rfl
theorem infoU8 : (Tryz.prog.info? 154).map (fun i => (i.zero, i.size)) = some (some (.agg (uV (fun _ => 0) 8).toArray), 8) := by kernel_rfl
theorem RowU.part {ty n : Nat} {w : World} {lo g : Nat} {f : Nat → Int} (h : RowU ty n w lo g f) (o m : Nat) (hm : o + m ≤ n) {f' : Nat → Int} (he : ∀ i, i < m → f (o + i) = f' i) : w.rangeAt g o (uV f' m) := by
  intro j v hv
  have hj : j < m := by have := (List.getElem?_eq_some_iff.1 hv).1; rwa [uV_length] at this
  rw [uV_get _ hj, ← he j hj] at hv
  rw [h.cell (o + j) (by omega), hv]
structure PrdI (w : World) (lo G1 G2 G3 : Nat) (fm f : Nat → Int) (wr : World) : Prop where
  m : RowU 112 4 wr lo G1 fm
  r : RowU 112 4 wr lo G2 (fun _ => 0)
  p : RowU 154 8 wr lo G3 f
  b : Below lo w wr
section
variable {w wr wx : World} {lo G1 G2 G3 g : Nat} {fm f f' : Nat → Int}
theorem PrdI.below (h : PrdI w lo G1 G2 G3 fm f wr) (hb : Below wr.heap.size wr wx) : PrdI w lo G1 G2 G3 fm f wx := ⟨h.m.below hb, h.r.below hb, h.p.below hb, h.b.trans (hb.mono (Nat.le_trans h.m.lt.1 (Nat.le_of_lt h.m.lt.2)))⟩
theorem PrdI.grown (h : PrdI w lo G1 G2 G3 fm f wr) (hg : wr.grownBy wx (some g)) (h1 : G1 ≠ g) (h2 : G2 ≠ g) (h3 : G3 ≠ g) (hlo : lo ≤ g) : PrdI w lo G1 G2 G3 fm f wx :=
  ⟨h.m.kept hg h1, h.r.kept hg h2, h.p.kept hg h3, h.b.grown hg (Nat.le_trans h.m.lt.1 (Nat.le_of_lt h.m.lt.2)) (fun k hk => by cases hk; exact hlo)⟩
theorem PrdI.store (h : PrdI w lo G1 G2 G3 fm f wr) (h1 : G1 ≠ G3) (h2 : G2 ≠ G3) (k : Nat) (v : Int) : PrdI w lo G1 G2 G3 fm (fun i => if i = k then v else f i) (wr.setCell ⟨G3, k, none⟩ (.int .u64 v)) := by
  have st := h.p.set k v
  exact ⟨h.m.kept st.2 h1, h.r.kept st.2 h2, st.1, h.b.grown st.2 (Nat.le_trans h.m.lt.1 (Nat.le_of_lt h.m.lt.2)) (fun k hk => by cases hk; exact h.p.lt.1)⟩
theorem PrdI.congr (h : PrdI w lo G1 G2 G3 fm f wr) (he : ∀ i, i < 8 → f i = f' i) : PrdI w lo G1 G2 G3 fm f' wr := ⟨h.m, h.r, h.p.congr he, h.b⟩
end
set_option maxHeartbeats 8000000 in
theorem fieldTimes_any (x y : Int) (w : World) (hx0 : 0 ≤ x) (hx : x < bU ^ 4) (hy0 : 0 ≤ y) (hy : y < bU ^ 4) :
    Calls Tryz.prog 96 #[uP x, uP y] w fun e w' => e = .returned (uP ((x * y) % fldP)) ∧ Below w.heap.size w w' := by
  have hz8 := (zero_of_info infoU8).1
  have hPT : prT x y 4 = x * y := by rw [prT, Int.emod_eq_of_lt hx0 hx]
  have hPR := prT_range x hy0 hy 4
  have hb4 := powU_pos 4
  have HEND : Hid (∀ k, k < 4 → ∀ p, p < 8 → (if p = k + 4 then carU (trmT x y k) 0 4 else prI x y k 4 p) = numU (prT x y (k + 1)) p) := fun k hk p hp => prI_end hy0 hy hk hp
  have HC : Hid (∀ k j, 0 ≤ carU (trmT x y k) 0 j ∧ carU (trmT x y k) 0 j < bU) := fun k j => carU_le (trmT_le x y k) (by decide) j
  have CR := fun X => rop_any (prT x y 4 % bU ^ 4) (prT x y 4 / bU ^ 4) X (Int.emod_nonneg _ (by omega)) (Int.emod_lt_of_pos _ hb4) (Int.ediv_nonneg hPR.1 (by omega)) (Int.ediv_lt_of_lt_mul hb4 (by have := hPR.2; rw [Int.pow_add] at this; exact this))
  have hsum : prT x y 4 % bU ^ 4 + prT x y 4 / bU ^ 4 * bU ^ 4 = x * y := by rw [← hPT, Int.mul_comm (prT x y 4 / bU ^ 4)]; exact Int.emod_add_mul_ediv _ _
  simp only [hsum] at CR
  have hlow : Hid (∀ i, i < 4 → numU (prT x y 4) (0 + i) = numU (prT x y 4 % bU ^ 4) i) := fun i hi => by rw [Nat.zero_add, numU_mod _ hi]
  have hhigh : Hid (∀ i, i < 4 → numU (prT x y 4) (4 + i) = numU (prT x y 4 / bU ^ 4) i) := fun i _ => num_shift _ _ _
  clear hx0 hx hy0 hy hPT hPR hb4 hsum
  unfold uP at CR
  have hz := (zero_of_info infoU4).1
  unfold uP
  obtain ⟨V, hV⟩ : ∃ V, V = numU ((x * y) % fldP) := ⟨_, rfl⟩
  rw [← hV] at CR ⊢
  clear hV
  obtain ⟨LW, hLW⟩ : ∃ LW, LW = numU (prT x y 4 % bU ^ 4) := ⟨_, rfl⟩
  obtain ⟨HW, hHW⟩ : ∃ HW, HW = numU (prT x y 4 / bU ^ 4) := ⟨_, rfl⟩
  rw [← hLW] at CR hlow
  rw [← hHW] at CR hhigh
  clear hLW hHW
  obtain ⟨Z8, hZ8⟩ : ∃ Z8, Z8 = (uV (fun _ => 0) 8).toArray := ⟨_, rfl⟩
  rw [← hZ8] at hz8
  obtain ⟨A, hA⟩ : ∃ A, A = (uV (numU x) 4).toArray := ⟨_, rfl⟩
  obtain ⟨B, hB⟩ : ∃ B, B = (uV (numU y) 4).toArray := ⟨_, rfl⟩
  obtain ⟨Z, hZ⟩ : ∃ Z, Z = (uV (fun _ => 0) 4).toArray := ⟨_, rfl⟩
  obtain ⟨m0, m1, m2, bel, sz⟩ := rows3 w (numU x) (numU y) (fun _ => 0) hA hB hZ
  rw [← hA, ← hB]
  rw [← hZ] at hz
  clear hA hB hZ
  obtain ⟨wb0, hwb0⟩ : ∃ wb0, wb0 = ((w.alloc (.cells A 112)).alloc (.cells B 112)).alloc (.cells Z 112) := ⟨_, rfl⟩
  rw [← hwb0] at m0 m1 m2 bel sz
  have m3 := RowU.made wb0 154 8 w.heap.size (fun _ => 0) (by decide) (by omega)
  rw [← hZ8, sz] at m3
  have b3 : Below wb0.heap.size wb0 (wb0.alloc (.cells Z8 154)) := (Below.refl _ _).alloc (Nat.le_refl _) _
  replace m0 := m0.below b3
  have hI0 : PrdI w w.heap.size (w.heap.size + 1) (w.heap.size + 1 + 1) (w.heap.size + 1 + 1 + 1) (numU y) (fun _ => 0) (wb0.alloc (.cells Z8 154)) := ⟨m1.below b3, m2.below b3, m3, below_on bel b3⟩
  have hra := m0.range
  obtain ⟨X4, hX4⟩ : ∃ X4, X4 = uV (numU x) 4 := ⟨_, rfl⟩
  have HX := fun k hk => index4 (numU x) k hk
  rw [← hX4] at hra HX
  have hszX : (Tryz.prog.info? 112).map (·.size) = some X4.length := by rw [hX4]; exact sizeU
  clear hX4
  replace HX : Hid (∀ (k : Nat), k < 4 → ∀ (w : World), (Instr.index 112 (.agg X4.toArray) (.int .i64 (k : Int))).run Tryz.prog w = .ok (.int .u64 (numU x k)) w) := HX
  rw [hwb0] at hI0 hra
  clear m0 m1 m2 m3 bel sz b3 hwb0 hZ8
  clear wb0
  go_enter Tryz.func96, Tryz.ntmps96
  go_wp2_with (refine wpList_load_mid rfl 112 _ rfl w.heap.size 0 rfl X4 _ hra Tryz.underlying112 rfl hszX ?_)
  obtain ⟨G1, hG1⟩ : ∃ G1, G1 = w.heap.size + 1 := ⟨_, rfl⟩
  obtain ⟨G2, hG2⟩ : ∃ G2, G2 = G1 + 1 := ⟨_, rfl⟩
  obtain ⟨G3, hG3⟩ : ∃ G3, G3 = G2 + 1 := ⟨_, rfl⟩
  rw [← hG1] at hI0 ⊢
  rw [← hG2] at hI0 ⊢
  rw [← hG3] at hI0 ⊢
  generalize (((w.alloc (.cells A 112)).alloc (.cells B 112)).alloc (.cells Z 112)).alloc (.cells Z8 154) = wb at hI0 hra ⊢
  have q1 : G1 ≠ G3 := by omega
  have q2 : G2 ≠ G3 := by omega
  have q3 : w.heap.size ≤ G3 := by omega
  have q4 : w.heap.size ≤ G2 := by omega
  clear hG1 hG2 hG3 hra hz hz8 hszX
  replace hI0 := hI0.congr (f' := numU (prT x y 0)) fun i _ => by rw [prT, Int.pow_zero, Int.emod_one, Int.zero_mul, num_nought]
  go_loopw [13] (fun i wr => ∃ k : Nat, k ≤ 4 ∧ i = .int .i64 k ∧ PrdI w w.heap.size G1 G2 G3 (numU y) (numU (prT x y k)) wr)
    (fun i _ => 4 - (intOf i).toNat)
  case atStart => exact ⟨0, by omega, rfl, hI0⟩
  case round =>
    clear hI0
    obtain ⟨k, hk, rfl, hI⟩ := hrel
    by_cases hlt : k < 4
    · have hlt' : (k : Int) < 4 := by omega
      have hix := HX.out k hlt
      have hsl := slice8 G3 k hlt
      have lx := numU_range x k
      obtain ⟨k4, hk4⟩ : ∃ k4 : Nat, k4 = k + 4 := ⟨_, rfl⟩
      obtain ⟨k5, hk5⟩ : ∃ k5 : Nat, k5 = k + 5 := ⟨_, rfl⟩
      rw [← hk5] at hsl
      have e4 : (k : Int) + 4 = (k4 : Int) := by omega
      have e5 : (k4 : Int) + 1 = (k5 : Int) := by omega
      have l4 : (k4 : Int) < 8 := by omega
      have l5 : (k5 : Int) < 9 := by omega
      replace hk4 : Hid (k4 = k + 4) := hk4
      clear hk5
      go_wp2_with (fail)
      clear hix hsl
      refine (sums_any 0 _).mono ?_
      rintro e w1 ⟨rfl, rfl⟩
      have hsz0 := hI.m.lt
      have hsz2 := hI.r.lt
      have hsz3 := hI.p.lt
      have mo := overRow wr w.heap.size 0 (by omega)
      obtain ⟨GO, hGO⟩ : ∃ GO, GO = wr.heap.size := ⟨_, rfl⟩
      rw [← hGO] at mo ⊢
      generalize wr.alloc (.cells #[.int .u64 0] 110) = wc at mo ⊢
      have bo : Below wr.heap.size wr wc := by rw [← hGO]; exact mo.2
      have d1 : G1 ≠ GO := by omega
      have d2 : G2 ≠ GO := by omega
      have d3 : G3 ≠ GO := by omega
      have d4 : GO ≠ G3 := by omega
      have d5 : w.heap.size ≤ GO := by omega
      replace hI := hI.below bo
      have ho := mo.1
      clear mo bo hGO hsz0 hsz2 hsz3
      have hra := hI.m.range
      obtain ⟨Y4, hY4⟩ : ∃ Y4, Y4 = uV (numU y) 4 := ⟨_, rfl⟩
      have HY := fun k hk => index4 (numU y) k hk
      rw [← hY4] at hra HY
      have hszY : (Tryz.prog.info? 112).map (·.size) = some Y4.length := by rw [hY4]; exact sizeU
      clear hY4
      replace HY : Hid (∀ (k : Nat), k < 4 → ∀ (w : World), (Instr.index 112 (.agg Y4.toArray) (.int .i64 (k : Int))).run Tryz.prog w = .ok (.int .u64 (numU y k)) w) := HY
      unfold tellV
      go_wp2_with (refine wpList_load_mid rfl 112 _ rfl G1 0 rfl Y4 _ hra Tryz.underlying112 rfl hszY ?_)
      clear hra hszY
      replace hI := hI.congr (f' := prI x y k 0) fun i _ => (prI_zero x y k i).symm
      go_loopw [27] (fun i wx => ∃ m : Nat, m ≤ 4 ∧ i = .int .i64 m ∧ PrdI w w.heap.size G1 G2 G3 (numU y) (prI x y k m) wx ∧ RowU 110 1 wx w.heap.size GO (fun _ => carU (trmT x y k) 0 m))
        (fun i _ => 4 - (intOf i).toNat)
      case atStart => exact ⟨0, by omega, rfl, hI, ho⟩
      case round =>
        clear hI ho
        obtain ⟨m, hm, rfl, hI, ho⟩ := hrel
        by_cases hlm : m < 4
        · have hlm' : (m : Int) < 4 := by omega
          have hiy := HY.out m hlm
          have ct := hI.p.cell (k + m) (by omega)
          rw [prI_at] at ct
          have co := ho.cell 0 (by decide)
          have fo := ho.frozen 0
          have lc := HC.out k m
          have la := numU_range (prT x y k) (k + m)
          have ly := numU_range y m
          have CT := tell_any GO (numU (prT x y k) (k + m)) (numU x k) (numU y m) (carU (trmT x y k) 0 m) (digU (trmT x y k) 0 m) (carU (trmT x y k) 0 (m + 1)) wr la lx ly lc rfl rfl co fo
          have o1 := ho.one (carU (trmT x y k) 0 (m + 1))
          have h1 := hI.grown o1.2 d1 d2 d3 d5
          have ct1 := h1.p.cell (k + m) (by omega)
          have ft1 := h1.p.frozen (k + m)
          have ft0 := hI.p.frozen (k + m)
          have h2 := (h1.store q1 q2 (k + m) (digU (trmT x y k) 0 m)).congr fun i _ => prI_step x y k m i
          have o2 := o1.1.kept (h1.p.set (k + m) (digU (trmT x y k) 0 m)).2 d4
          have ld := digU_range (trmT x y k) 0 m
          obtain ⟨o, hoo⟩ : ∃ o, o = carU (trmT x y k) 0 (m + 1) := ⟨_, rfl⟩
          rw [← hoo] at CT o2 h2 ct1 ft1
          replace hoo : Hid (o = carU (trmT x y k) 0 (m + 1)) := hoo
          generalize digU (trmT x y k) 0 m = r at CT h2 o2 ld
          generalize numU (prT x y k) (k + m) = a at ct CT la
          generalize numU x k = xk at CT lx ⊢
          generalize numU y m = ym at hiy CT ly
          unfold bU at la lx ly ld lc
          generalize prI x y k m (k + m) = a1 at ct1
          clear co fo hI ho o1 h1
          go_wp2_with (fail)
          refine CT.mono ?_
          rintro e w9 ⟨rfl, rfl⟩
          go_wp2_with (fail)
          go_roundw
          case rel => exact ⟨m + 1, by omega, by go_num, h2, by rw [← hoo.out]; exact o2⟩
          case measure => simp [intOf]; omega
        · obtain rfl : m = 4 := by omega
          have hno : ¬ ((4 : Nat) : Int) < 4 := by omega
          have lc := HC.out k 4
          have CT := tell_any GO 0 0 0 (carU (trmT x y k) 0 4) (carU (trmT x y k) 0 4) 0 wr (by decide) (by decide) (by decide) lc (by unfold bU at lc ⊢; omega) (by unfold bU at lc ⊢; omega) (ho.cell 0 (by decide)) (ho.frozen 0)
          have h1 := hI.grown (ho.one 0).2 d1 d2 d3 d5
          have ct1 := h1.p.cell (k + 4) (by omega)
          have ft1 := h1.p.frozen (k + 4)
          have ft0 := hI.p.frozen (k + 4)
          have h2 := (h1.store q1 q2 (k + 4) (carU (trmT x y k) 0 4)).congr fun i hi => HEND.out k hlt i hi
          generalize carU (trmT x y k) 0 4 = c4 at CT h2 lc
          generalize prI x y k 4 (k + 4) = a1 at ct1
          unfold bU at lc
          clear hI ho h1 lx
          go_wp2_with (fail)
          refine CT.mono ?_
          rintro e w9 ⟨rfl, rfl⟩
          go_wp2_with (fail)
          go_roundw
          case rel => exact ⟨k + 1, by omega, by go_num, h2⟩
          case measure => simp [intOf]; omega
    · obtain rfl : k = 4 := by omega
      have hno : ¬ ((4 : Nat) : Int) < 4 := by omega
      have hl := hI.p.part 0 4 (by decide) hlow.out
      have hh := hI.p.part 4 4 (by decide) hhigh.out
      have hr := hI.r
      have bel := hI.b
      have hpw := hI.p.lt
      have hPG : Hid (RowU 154 8 wr w.heap.size G3 (numU (prT x y 4))) := hI.p
      have TT : ∀ X, Below wr.heap.size wr X → X.rangeAt G3 0 (uV LW 4) ∧ X.rangeAt G3 4 (uV HW 4) := fun X hX => ⟨(hI.p.below hX).part 0 4 (by decide) hlow.out, (hI.p.below hX).part 4 4 (by decide) hhigh.out⟩
      replace TT : Hid (∀ X, Below wr.heap.size wr X → X.rangeAt G3 0 (uV LW 4) ∧ X.rangeAt G3 4 (uV HW 4)) := TT
      have hd0 : Below wr.heap.size wr wr.drew := (Below.refl _ _).drew
      have s0 := slice8_low G3
      have s4 := slice8_high G3
      have a0 : ∀ w, (Instr.arrayAt 112 (.slice (some ⟨G3, 0, none⟩) 4 8)).run Tryz.prog w = .ok (.pointer (some ⟨G3, 0, none⟩)) w := fun w => run_arrayAt w 112 _ 4 _ 4 8 Tryz.underlying112 (by omega)
      have a4 : ∀ w, (Instr.arrayAt 112 (.slice (some ⟨G3, 4, none⟩) 4 4)).run Tryz.prog w = .ok (.pointer (some ⟨G3, 4, none⟩)) w := fun w => run_arrayAt w 112 _ 4 _ 4 4 Tryz.underlying112 (by omega)
      clear hI hl hh HEND HC HX
      go_wp2_with (fail)
      refine wp_region_noPanic ?_
      refine wp_region_T 99 (fun X => X.rangeAt G3 0 (uV LW 4) ∧ X.rangeAt G3 4 (uV HW 4)) (fun _ => True) (by kernel_rfl) ?_
      generalize wr.drew = wX at hd0 ⊢
      have hT := TT.out _ hd0
      refine anyT_takeT (i := 0) (v := .slice (some ⟨G3, 0, none⟩) 4 8) rfl (by kernel_rfl) (by kernel_rfl) (by kernel_rfl) (by kernel_rfl) (fun _ _ _ h => h) (Or.inl ⟨by rfl, fun X hSw => by ((try dsimp only at hSw); go_simp)⟩) hT (fun _ => trivial) ?_
      simp only [Act.put, List.getElem_toArray, List.getElem_cons_zero, List.setIfInBounds_toArray, List.set_cons_zero, List.set_cons_succ]
      refine anyT_takeT (i := 1) (v := .pointer (some ⟨G3, 0, none⟩)) rfl (by kernel_rfl) (by kernel_rfl) (by kernel_rfl) (by kernel_rfl) (fun _ _ _ h => h) (Or.inl ⟨by rfl, fun X hSw => by ((try dsimp only at hSw); go_simp)⟩) hT (fun _ => trivial) ?_
      simp only [Act.put, List.getElem_toArray, List.getElem_cons_zero, List.getElem_cons_succ, List.setIfInBounds_toArray, List.set_cons_zero, List.set_cons_succ]
      refine anyT_takeT (i := 2) rfl (by kernel_rfl) (by kernel_rfl) (by kernel_rfl) (by kernel_rfl) (fun _ _ _ h => h) (yieldsIf_load_mid (by rfl) _ _ rfl _ _ rfl (uV LW 4) _ (fun _ hw => hw.1) Tryz.underlying112 rfl sizeU) hT (fun _ => trivial) ?_
      simp only [Act.put, List.getElem_toArray, List.getElem_cons_zero, List.getElem_cons_succ, List.setIfInBounds_toArray, List.set_cons_zero, List.set_cons_succ]
      refine anyT_takeT (i := 3) (v := .slice (some ⟨G3, 4, none⟩) 4 4) rfl (by kernel_rfl) (by kernel_rfl) (by kernel_rfl) (by kernel_rfl) (fun _ _ _ h => h) (Or.inl ⟨by rfl, fun X hSw => by ((try dsimp only at hSw); go_simp)⟩) hT (fun _ => trivial) ?_
      simp only [Act.put, List.getElem_toArray, List.getElem_cons_zero, List.getElem_cons_succ, List.setIfInBounds_toArray, List.set_cons_zero, List.set_cons_succ]
      refine anyT_takeT (i := 4) (v := .pointer (some ⟨G3, 4, none⟩)) rfl (by kernel_rfl) (by kernel_rfl) (by kernel_rfl) (by kernel_rfl) (fun _ _ _ h => h) (Or.inl ⟨by rfl, fun X hSw => by ((try dsimp only at hSw); go_simp)⟩) hT (fun _ => trivial) ?_
      simp only [Act.put, List.getElem_toArray, List.getElem_cons_zero, List.getElem_cons_succ, List.setIfInBounds_toArray, List.set_cons_zero, List.set_cons_succ]
      refine anyT_takeT (i := 5) rfl (by kernel_rfl) (by kernel_rfl) (by kernel_rfl) (by kernel_rfl) (fun _ _ _ h => h) (yieldsIf_load_mid (by rfl) _ _ rfl _ _ rfl (uV HW 4) _ (fun _ hw => hw.2) Tryz.underlying112 rfl sizeU) hT (fun _ => trivial) ?_
      simp only [Act.put, List.getElem_toArray, List.getElem_cons_zero, List.getElem_cons_succ, List.setIfInBounds_toArray, List.set_cons_zero, List.set_cons_succ]
      refine anyT_one (i := 6) (by kernel_rfl) rfl (fun K hK => ?_)
      go_simp
      refine (CR _).mono ?_
      rintro e w2 ⟨rfl, b2⟩
      go_wp2_with (fail)
      have hd2 := below_on hd0 b2
      refine hK.out _ _ (TT.out _ hd2) (fun _ => trivial) ?_
      clear hK K
      have hr2 := hr.below hd2
      have bel2 := below_on bel hd2
      have hs2 := hd2.size
      have hp := hr2.put (f' := V)
      have hth := hr2.there2 (f' := V)
      have hbel := bel2.grown hp.2 (by omega) (fun k hk => by cases hk; exact q4)
      have hld := run_loadVar_mid (P := Tryz.prog) _ G2 0 112 _ _ hp.1.range Tryz.underlying112 rfl sizeU
      have hT3 : (World.setCells w2 G2 0 (uV V 4)).rangeAt G3 0 (uV LW 4) ∧ (World.setCells w2 G2 0 (uV V 4)).rangeAt G3 4 (uV HW 4) := ⟨((hPG.out.below hd2).kept hp.2 q2.symm).part 0 4 (by decide) hlow.out, ((hPG.out.below hd2).kept hp.2 q2.symm).part 4 4 (by decide) hhigh.out⟩
      clear hp
      refine anyT_one (i := 7) (by kernel_rfl) rfl (fun K hK => ?_)
      refine wp_store_mid 112 _ _ rfl G2 0 (uV V 4).toArray rfl rfl hth sizeU2 (all_oneCell_toArray (uV_one V 4)) ?_
      refine hK.out _ _ hT3 (fun _ => trivial) ?_
      clear hK K
      refine anyT_done (by kernel_rfl) ?_ _
      refine NoPanic.normal ?_
      go_wp2_with (fail)
      (try simp only [Exit.inBlock, Exit.then])
      refine bodyPost_ret (v := .agg (uV V 4).toArray) ?_ rfl ⟨rfl, hbel⟩
      simp [results, asAddr, Act.put, hld]
structure Q4 (L : List Value) : Prop where
  len : L.length = 4
  one : ∀ v ∈ L, v.oneCell' = true
theorem q4 (z : Int) : Q4 (uV (numU z) 4) := ⟨uV_length _ _, uV_one _ _⟩
theorem Q4.sz {L : List Value} (h : Q4 L) : (Tryz.prog.info? 112).map (·.size) = some L.length := by rw [h.len]; exact (zero_of_info infoU4).2
theorem Q4.sz2 {L : List Value} (h : Q4 L) : (Tryz.prog.info? 112).map (·.size) = some L.toArray.size := by
  have : L.toArray.size = 4 := by simp [h.len]
  rw [this]; exact (zero_of_info infoU4).2
def RowL (ty n : Nat) (w : World) (lo g : Nat) (L : List Value) : Prop := w.ownsRow lo ty 1 (.slice (some ⟨g, 0, none⟩) n n) n L
def putV (xs : List Value) (o : Nat) : List Value → List Value
  | [] => xs
  | v :: r => putV (xs.set o v) (o + 1) r
theorem ownsV_put {lo e g n c : Nat} (vs : List Value) : ∀ (o : Nat) (w : World) (xs : List Value), w.ownsRow lo e 1 (.slice (some ⟨g, 0, none⟩) n c) n xs →
    (w.setCells g o vs).ownsRow lo e 1 (.slice (some ⟨g, 0, none⟩) n c) n (putV xs o vs) ∧ w.grownBy (w.setCells g o vs) (some g) := by
  induction vs with
  | nil => intro o w xs h; exact ⟨h, World.grownBy.refl _ _⟩
  | cons v r ih =>
    intro o w xs h
    have h1 := h.stored o v
    have h2 := ih (o + 1) _ _ h1.1
    exact ⟨h2.1, grown_trans h1.2 h2.2⟩
theorem putV_mid (A B C : List Value) : ∀ (B' : List Value), B'.length = B.length → putV (A ++ (B ++ C)) A.length B' = A ++ (B' ++ C) := by
  intro B'
  induction B' generalizing A B with
  | nil =>
    intro h
    obtain rfl : B = [] := List.eq_nil_of_length_eq_zero h.symm
    rfl
  | cons v r ih =>
    intro h
    cases B with
    | nil => simp at h
    | cons b B =>
      have := ih (A ++ [v]) B (by simpa using h)
      simp only [putV]
      rw [List.set_append_right _ _ (Nat.le_refl _), Nat.sub_self]
      simpa using this
section
variable {ty n : Nat} {w w' : World} {lo g : Nat} {L : List Value}
theorem RowL.lt (h : RowL ty n w lo g L) : lo ≤ g ∧ g < w.heap.size := World.ownsRow.lt h g rfl
theorem RowL.below (h : RowL ty n w lo g L) (hb : Below w.heap.size w w') : RowL ty n w' lo g L := owns_below h hb
theorem RowL.kept {r : Nat} (h : RowL ty n w lo g L) (hg : w.grownBy w' (some r)) (hne : g ≠ r) : RowL ty n w' lo g L := World.ownsRow.kept h hg (.inr (by simp [Value.ownBlock]; exact fun e => hne e))
theorem RowL.length (h : RowL ty n w lo g L) : L.length = n := by simpa using (show w.ownsRow lo ty 1 (.slice (some ⟨g, 0, none⟩) n n) n L from h).1
theorem RowL.mid {A B C : List Value} {o : Nat} (h : RowL ty n w lo g (A ++ (B ++ C))) (ho : A.length = o) : w.rangeAt g o B := by
  intro j v hv
  have hj : j < B.length := (List.getElem?_eq_some_iff.1 hv).1
  have hl := h.length
  have e : (A ++ (B ++ C))[o + j]? = some v := by
    rw [List.getElem?_append_right (by omega), show o + j - A.length = j by omega, List.getElem?_append_left hj, hv]
  have h' : w.ownsRow lo ty 1 (.slice (some ⟨g, 0, none⟩) n n) n (A ++ (B ++ C)) := h
  rw [h'.cellAt (o + j) (by have := (List.getElem?_eq_some_iff.1 e).1; omega), e]
theorem RowL.all (h : RowL ty n w lo g L) : w.rangeAt g 0 L := by
  have h' : RowL ty n w lo g ([] ++ (L ++ [])) := by simpa using h
  exact h'.mid rfl
theorem RowL.there (h : RowL ty n w lo g L) {o m : Nat} (hm : o + m ≤ n) : w.there g o m := by
  intro j hj
  have hl := h.length
  have h' : w.ownsRow lo ty 1 (.slice (some ⟨g, 0, none⟩) n n) n L := h
  rw [h'.cellAt (o + j) (by omega), List.getElem?_eq_getElem (by omega)]
  exact ⟨rfl, World.ownsRow.frozenAt h (o + j)⟩
theorem RowL.putMid {A B B' C : List Value} {o : Nat} (h : RowL ty n w lo g (A ++ (B ++ C))) (ho : A.length = o) (hB : B'.length = B.length) :
    RowL ty n (w.setCells g o B') lo g (A ++ (B' ++ C)) ∧ w.grownBy (w.setCells g o B') (some g) := by
  have k := ownsV_put B' o w _ h
  rw [← ho, putV_mid A B C B' hB, ho] at k
  exact k
theorem RowL.putAll {B : List Value} (h : RowL ty n w lo g L) (hB : B.length = L.length) : RowL ty n (w.setCells g 0 B) lo g B ∧ w.grownBy (w.setCells g 0 B) (some g) := by
  have h' : RowL ty n w lo g ([] ++ (L ++ [])) := by simpa using h
  simpa using h'.putMid (B' := B) rfl hB
theorem RowL.made (w : World) (ty n lo : Nat) (hL : L.length = n) (hn : n ≤ 1000) (hlo : lo ≤ w.heap.size) : RowL ty n (w.alloc (.cells L.toArray ty)) lo w.heap.size L := by
  refine ⟨by simp [hL], .inr ⟨w.heap.size, n, _, rfl, hlo, heap_alloc_new w _, Nat.le_refl _, by unfold maxLen; omega, by simp [hL], ?_⟩⟩
  rw [List.take_of_length_le (by simp [hL])]
end
theorem RowU.rowL {ty n : Nat} {w : World} {lo g : Nat} {f : Nat → Int} (h : RowU ty n w lo g f) : RowL ty n w lo g (uV f n) := h
def LadV (X A C B D : List Value) : List Value := X ++ (A ++ (C ++ (B ++ D)))
theorem LadV_length {X A C B D : List Value} (hX : Q4 X) (hA : Q4 A) (hC : Q4 C) (hB : Q4 B) (hD : Q4 D) : (LadV X A C B D).length = 20 := by
  simp [LadV, hX.len, hA.len, hC.len, hB.len, hD.len]
theorem LadV_one {X A C B D : List Value} (hX : Q4 X) (hA : Q4 A) (hC : Q4 C) (hB : Q4 B) (hD : Q4 D) : ∀ v ∈ LadV X A C B D, v.oneCell' = true := by
  intro v hv
  simp only [LadV, List.mem_append] at hv
  rcases hv with h | h | h | h | h
  · exact hX.one v h
  · exact hA.one v h
  · exact hC.one v h
  · exact hB.one v h
  · exact hD.one v h
theorem infoLad : (Tryz.prog.info? 118).map (fun i => (i.zero, i.size)) = some (some (.agg (uV (fun _ => 0) 20).toArray), 20) := by kernel_rfl
theorem infoRat : (Tryz.prog.info? 116).map (fun i => (i.zero, i.size)) = some (some (.agg (uV (fun _ => 0) 8).toArray), 8) := by kernel_rfl
section
variable {w : World} {lo g : Nat} {X A C B D : List Value}
theorem lad_x (h : RowL 118 20 w lo g (LadV X A C B D)) : w.rangeAt g 0 X := RowL.mid (A := []) (B := X) (C := A ++ (C ++ (B ++ D))) (o := 0) h rfl
theorem lad_a (h : RowL 118 20 w lo g (LadV X A C B D)) (hX : Q4 X) : w.rangeAt g 4 A := RowL.mid (A := X) (B := A) (C := C ++ (B ++ D)) h hX.len
theorem lad_c (h : RowL 118 20 w lo g (LadV X A C B D)) (hX : Q4 X) (hA : Q4 A) : w.rangeAt g 8 C := by
  have h' : RowL 118 20 w lo g ((X ++ A) ++ (C ++ (B ++ D))) := by rw [List.append_assoc]; exact h
  exact h'.mid (by simp [hX.len, hA.len])
theorem lad_b (h : RowL 118 20 w lo g (LadV X A C B D)) (hX : Q4 X) (hA : Q4 A) (hC : Q4 C) : w.rangeAt g 12 B := by
  have h' : RowL 118 20 w lo g ((X ++ (A ++ C)) ++ (B ++ D)) := by rw [List.append_assoc, List.append_assoc]; exact h
  exact h'.mid (by simp [hX.len, hA.len, hC.len])
theorem lad_d (h : RowL 118 20 w lo g (LadV X A C B D)) (hX : Q4 X) (hA : Q4 A) (hC : Q4 C) (hB : Q4 B) : w.rangeAt g 16 D := by
  have h' : RowL 118 20 w lo g ((X ++ (A ++ (C ++ B))) ++ (D ++ [])) := by rw [List.append_nil, List.append_assoc, List.append_assoc, List.append_assoc]; exact h
  exact h'.mid (by simp [hX.len, hA.len, hC.len, hB.len])
theorem lad_ac (h : RowL 118 20 w lo g (LadV X A C B D)) (hX : Q4 X) : w.rangeAt g 4 (A ++ C) := by
  have h' : RowL 118 20 w lo g (X ++ ((A ++ C) ++ (B ++ D))) := by rw [List.append_assoc]; exact h
  exact h'.mid hX.len
theorem lad_bd (h : RowL 118 20 w lo g (LadV X A C B D)) (hX : Q4 X) (hA : Q4 A) (hC : Q4 C) : w.rangeAt g 12 (B ++ D) := by
  have h' : RowL 118 20 w lo g ((X ++ (A ++ C)) ++ ((B ++ D) ++ [])) := by rw [List.append_nil, List.append_assoc, List.append_assoc]; exact h
  exact h'.mid (by simp [hX.len, hA.len, hC.len])
theorem lad_put_ac {A' C' : List Value} (h : RowL 118 20 w lo g (LadV X A C B D)) (hX : Q4 X) (hA : Q4 A) (hC : Q4 C) (hA' : Q4 A') (hC' : Q4 C') :
    RowL 118 20 (w.setCells g 4 (A' ++ C')) lo g (LadV X A' C' B D) ∧ w.grownBy (w.setCells g 4 (A' ++ C')) (some g) := by
  have h' : RowL 118 20 w lo g (X ++ ((A ++ C) ++ (B ++ D))) := by rw [List.append_assoc]; exact h
  have k := h'.putMid (B' := A' ++ C') hX.len (by simp [hA.len, hC.len, hA'.len, hC'.len])
  rw [List.append_assoc] at k
  exact k
theorem lad_put_bd {B' D' : List Value} (h : RowL 118 20 w lo g (LadV X A C B D)) (hX : Q4 X) (hA : Q4 A) (hC : Q4 C) (hB : Q4 B) (hD : Q4 D) (hB' : Q4 B') (hD' : Q4 D') :
    RowL 118 20 (w.setCells g 12 (B' ++ D')) lo g (LadV X A C B' D') ∧ w.grownBy (w.setCells g 12 (B' ++ D')) (some g) := by
  have h' : RowL 118 20 w lo g ((X ++ (A ++ C)) ++ ((B ++ D) ++ [])) := by rw [List.append_nil, List.append_assoc, List.append_assoc]; exact h
  have k := h'.putMid (o := 12) (B' := B' ++ D') (by simp [hX.len, hA.len, hC.len]) (by simp [hB.len, hD.len, hB'.len, hD'.len])
  rw [List.append_nil, List.append_assoc, List.append_assoc] at k
  exact k
end
theorem szLad {L : List Value} (h : L.length = 20) : (Tryz.prog.info? 118).map (·.size) = some L.length := by rw [h]; exact (zero_of_info infoLad).2
theorem szLad2 {L : List Value} (h : L.length = 20) : (Tryz.prog.info? 118).map (·.size) = some L.toArray.size := by
  have : L.toArray.size = 20 := by simp [h]
  rw [this]; exact (zero_of_info infoLad).2
theorem szRat {L : List Value} (h : L.length = 8) : (Tryz.prog.info? 116).map (·.size) = some L.length := by rw [h]; exact (zero_of_info infoRat).2
theorem szRat2 {L : List Value} (h : L.length = 8) : (Tryz.prog.info? 116).map (·.size) = some L.toArray.size := by
  have : L.toArray.size = 8 := by simp [h]
  rw [this]; exact (zero_of_info infoRat).2
theorem rat_length {A C : List Value} (hA : Q4 A) (hC : Q4 C) : (A ++ C).length = 8 := by simp [hA.len, hC.len]
theorem rat_one {A C : List Value} (hA : Q4 A) (hC : Q4 C) : ∀ v ∈ A ++ C, v.oneCell' = true := by
  intro v hv
  rcases List.mem_append.1 hv with h | h
  · exact hA.one v h
  · exact hC.one v h
theorem ladRows (w : World) {L : List Value} (hL : L.length = 20) {ty n : Nat} {A Z : Array Value} (hn : n ≤ 1000) (hA : A = L.toArray) (hZ : Z = (uV (fun _ => 0) n).toArray) :
    RowL 118 20 ((w.alloc (.cells A 118)).alloc (.cells Z ty)) w.heap.size w.heap.size L ∧ RowL ty n ((w.alloc (.cells A 118)).alloc (.cells Z ty)) w.heap.size (w.heap.size + 1) (uV (fun _ => 0) n) ∧ Below w.heap.size w ((w.alloc (.cells A 118)).alloc (.cells Z ty)) ∧ ((w.alloc (.cells A 118)).alloc (.cells Z ty)).heap.size = w.heap.size + 1 + 1 := by
  subst hA hZ
  have m0 := RowL.made (L := L) w 118 20 w.heap.size hL (by decide) (Nat.le_refl _)
  obtain ⟨wa, hwa⟩ : ∃ wa, wa = w.alloc (.cells L.toArray 118) := ⟨_, rfl⟩
  rw [← hwa] at m0 ⊢
  have sa : wa.heap.size = w.heap.size + 1 := by rw [hwa]; simp
  have ba : Below w.heap.size w wa := by rw [hwa]; exact (Below.refl _ _).alloc (Nat.le_refl _) _
  have m1 := RowL.made (L := uV (fun _ => 0) n) wa ty n w.heap.size (uV_length _ _) hn (by omega)
  have b1 : Below wa.heap.size wa (wa.alloc (.cells (uV (fun _ => 0) n).toArray ty)) := (Below.refl _ _).alloc (Nat.le_refl _) _
  rw [sa] at m1
  exact ⟨m0.below b1, m1, below_on ba b1, by simp [sa]⟩
theorem RowL.low {ty n : Nat} {w : World} {lo lo' g : Nat} {L : List Value} (h : RowL ty n w lo g L) (hl : lo' ≤ lo) : RowL ty n w lo' g L := owns_mono h hl
theorem yieldsIf_build {P : Program} {ops : Array Oper} {S : World → Prop} {op : Oper} {a : Act} (hw : Region.wanted op (yielded ops a.tmps) = true) (t : TypeId) (parts : Array (Nat × Operand)) (ho : op.op = .build t parts)
    (vs : Array (Nat × Value)) (hvs : (parts.map fun (i, x) => (i, a.eval x)) = vs) {v : Value} (hr : ∀ w, (Instr.build t vs).run P w = .ok v w) : YieldsIf P ops S op v a :=
  .inl ⟨hw, fun w _ => by
    unfold execOp
    subst hvs
    simp only [ho, Sem.run_bind, Sem.run_pure, Result.andThen_ok, hr]⟩
theorem wpL_build_run {P : Program} {ops : Array Oper} {rest : List Oper} {o : Oper} {a : Act} {w : World} {Q : Exit → Act → World → Prop} (hgd : o.guard = none) (t : TypeId) (parts : Array (Nat × Operand)) (ho : o.op = .build t parts)
    (vs : Array (Nat × Value)) (hvs : (parts.map fun (i, x) => (i, a.eval x)) = vs) {v : Value} (hr : (Instr.build t vs).run P w = .ok v w) (h : wpList P ops Q rest (a.put o.dst v) w) : wpList P ops Q (o :: rest) a w :=
  wpList_plain hgd fun _ hK => by
    unfold Oper.wp execOp
    subst hvs
    simp only [ho, Sem.run_bind, Sem.run_pure, Result.andThen_ok, hr]
    exact hK _ _ h
theorem four_of {L : List Value} (h : Q4 L) : ∃ a b c d, L = [a, b, c, d] := by
  have hl := h.len
  match L, hl with
  | [a, b, c, d], _ => exact ⟨a, b, c, d, rfl⟩
theorem b_rat {A C : List Value} (hA : Q4 A) (hC : Q4 C) (w : World) : (Instr.build 116 #[(0, .agg A.toArray), (1, .agg C.toArray)]).run Tryz.prog w = .ok (.agg (A ++ C).toArray) w := by
  obtain ⟨a, b, c, d, rfl⟩ := four_of hA
  obtain ⟨a', b', c', d', rfl⟩ := four_of hC
  exact run_build w 116 _ _ (by kernel_rfl)
theorem b_rat1 {A C : List Value} (hA : Q4 A) (hC : C = uV (numU 0) 4) (w : World) : (Instr.build 116 #[(0, .agg A.toArray)]).run Tryz.prog w = .ok (.agg (A ++ C).toArray) w := by
  obtain ⟨a, b, c, d, rfl⟩ := four_of hA
  subst hC
  exact run_build w 116 _ _ (by kernel_rfl)
theorem b_lad {X A C B D : List Value} (hX : Q4 X) (hA : Q4 A) (hC : Q4 C) (hB : Q4 B) (hD : Q4 D) (w : World) : (Instr.build 118 #[(0, .agg X.toArray), (1, .agg (A ++ C).toArray), (2, .agg (B ++ D).toArray)]).run Tryz.prog w = .ok (.agg (LadV X A C B D).toArray) w := by
  obtain ⟨a, b, c, d, rfl⟩ := four_of hX
  obtain ⟨a1, b1, c1, d1, rfl⟩ := four_of hA
  obtain ⟨a2, b2, c2, d2, rfl⟩ := four_of hC
  obtain ⟨a3, b3, c3, d3, rfl⟩ := four_of hB
  obtain ⟨a4, b4, c4, d4, rfl⟩ := four_of hD
  exact run_build w 118 _ _ (by kernel_rfl)
theorem b_one {A : List Value} (hA : A = uV (numU 1) 4) (w : World) : (Instr.build 112 #[(0, .int .u64 1)]).run Tryz.prog w = .ok (.agg A.toArray) w := by
  subst hA
  exact run_build w 112 _ _ (by kernel_rfl)
theorem b_curve {A : List Value} (hA : A = uV (numU 121665) 4) (w : World) : (Instr.build 112 #[(0, .int .u64 121665)]).run Tryz.prog w = .ok (.agg A.toArray) w := by
  subst hA
  exact run_build w 112 _ _ (by kernel_rfl)
set_option maxHeartbeats 8000000 in
theorem ladderAt_sym (LX L1 L0 : List Value) (w : World) (hX : Q4 LX) (h1 : L1 = uV (numU 1) 4) (h0 : L0 = uV (numU 0) 4) :
    Calls Tryz.prog 94 #[.agg LX.toArray] w fun e w' => e = .returned (.agg (LadV LX L1 L0 LX L1).toArray) ∧ Below w.heap.size w w' := by
  have q1 : Q4 L1 := by rw [h1]; exact q4 1
  have q0 : Q4 L0 := by rw [h0]; exact q4 0
  have B1 := fun X => b_one h1 X
  have B2 := fun X => b_rat1 q1 h0 X
  have B3 := fun X => b_rat hX q1 X
  have B4 := fun X => b_lad hX q1 q0 hX q1 X
  have hlen := LadV_length hX q1 q0 hX q1
  have hone := LadV_one hX q1 q0 hX q1
  obtain ⟨LR, hR⟩ : ∃ L, L = LadV LX L1 L0 LX L1 := ⟨_, rfl⟩
  rw [← hR] at hlen hone ⊢
  simp only [← hR] at B4
  clear hR h0
  obtain ⟨LP, hP⟩ : ∃ L, L = L1 ++ L0 := ⟨_, rfl⟩
  simp only [← hP] at B2 B4
  obtain ⟨LQ, hQ⟩ : ∃ L, L = LX ++ L1 := ⟨_, rfl⟩
  simp only [← hQ] at B3 B4
  clear hP hQ
  have hz := (zero_of_info infoLad).1
  have hzf := (zero_of_info infoU4).1
  obtain ⟨Z, hZ⟩ : ∃ Z, Z = (uV (fun _ => 0) 20).toArray := ⟨_, rfl⟩
  obtain ⟨Zf, hZf⟩ : ∃ Z, Z = (uV (fun _ => 0) 4).toArray := ⟨_, rfl⟩
  rw [← hZ] at hz
  rw [← hZf] at hzf
  have hZ1 : Zf.setIfInBounds 0 (Value.int .u64 1) = L1.toArray := by rw [hZf, h1]; kernel_rfl
  have m0 := RowL.made (L := LX) w 112 4 w.heap.size hX.len (by decide) (Nat.le_refl _)
  obtain ⟨w0, hw0⟩ : ∃ W, W = w.alloc (.cells LX.toArray 112) := ⟨_, rfl⟩
  rw [← hw0] at m0
  have s0 : w0.heap.size = w.heap.size + 1 := by rw [hw0]; simp
  have bel : Below w.heap.size w w0 := by rw [hw0]; exact (Below.refl _ _).alloc (Nat.le_refl _) _
  have m1 := RowL.made (L := uV (fun _ => 0) 20) w0 118 20 w.heap.size (uV_length _ _) (by decide) (by omega)
  rw [← hZ, s0] at m1
  have b1 : Below w0.heap.size w0 (w0.alloc (.cells Z 118)) := (Below.refl _ _).alloc (Nat.le_refl _) _
  obtain ⟨w1, hw1⟩ : ∃ W, W = w0.alloc (.cells Z 118) := ⟨_, rfl⟩
  rw [← hw1] at m1 b1
  have s1 : w1.heap.size = w.heap.size + 1 + 1 := by rw [hw1]; simp [s0]
  replace m0 := m0.below b1
  replace bel := below_on bel b1
  have m2 := RowL.made (L := uV (fun _ => 0) 4) w1 112 4 w.heap.size (uV_length _ _) (by decide) (by omega)
  rw [← hZf, s1] at m2
  have b2 : Below w1.heap.size w1 (w1.alloc (.cells Zf 112)) := (Below.refl _ _).alloc (Nat.le_refl _) _
  obtain ⟨w2, hw2⟩ : ∃ W, W = w1.alloc (.cells Zf 112) := ⟨_, rfl⟩
  rw [← hw2] at m2 b2
  replace m0 := m0.below b2
  replace m1 := m1.below b2
  replace bel := below_on bel b2
  have t2 := m2.there (o := 0) (m := L1.toArray.size) (by simp [q1.len])
  have p2 := m2.putAll (B := L1) (by rw [q1.len, uV_length])
  replace m0 := m0.kept p2.2 (by omega)
  replace m1 := m1.kept p2.2 (by omega)
  replace bel := bel.grown p2.2 bel.size (fun k hk => by cases hk; omega)
  have m2' := p2.1
  have ra := m0.all
  have rb := m2'.all
  have t1 := m1.there (o := 0) (m := LR.toArray.size) (by simp [hlen])
  have p1 := m1.putAll (B := LR) (by rw [hlen, uV_length])
  replace bel := bel.grown p1.2 bel.size (fun k hk => by cases hk; omega)
  have hld := run_loadVar_mid (P := Tryz.prog) _ _ 0 118 _ _ p1.1.all Tryz.underlying118 rfl (szLad hlen)
  have z1 := hX.sz
  have z2 := q1.sz
  have z3 := q1.sz2
  have z4 := szLad2 hlen
  have o1 := q1.one
  clear m0 m1 m2 m2' p1 p2 b1 b2 hZ hZf h1
  rw [hw2, hw1, hw0] at t2 ra rb t1 bel hld
  clear hw2 hw1 hw0 s0 s1
  clear w0 w1 w2
  go_enter Tryz.func94, Tryz.ntmps94
  go_wp2_with (first | (refine wpL_build_run rfl 112 #[(0, .const (.int .u64 1))] rfl #[(0, .int .u64 1)] (by simp [Act.eval, Act.put]) (B1 _) ?_) | (with_reducible refine wpList_store_mid rfl 112 _ _ rfl (w.heap.size + 1 + 1) 0 L1.toArray rfl rfl t2 z3 (all_oneCell_toArray o1) ?_; (try dsimp only)) | (with_reducible refine wpList_load_mid rfl 112 _ rfl w.heap.size 0 rfl LX _ ra Tryz.underlying112 rfl z1 ?_) | (with_reducible refine wpList_load_mid rfl 112 _ rfl (w.heap.size + 1 + 1) 0 rfl L1 _ rb Tryz.underlying112 rfl z2 ?_) | (refine wpL_build_run rfl 116 #[(0, .tmp 6)] rfl #[(0, .agg L1.toArray)] (by simp [Act.eval, Act.put]) (B2 _) ?_) | (refine wpL_build_run rfl 116 #[(0, .tmp 8), (1, .tmp 9)] rfl #[(0, .agg LX.toArray), (1, .agg L1.toArray)] (by simp [Act.eval, Act.put]) (B3 _) ?_) | (refine wpL_build_run rfl 118 #[(0, .tmp 5), (1, .tmp 7), (2, .tmp 10)] rfl #[(0, .agg LX.toArray), (1, .agg LP.toArray), (2, .agg LQ.toArray)] (by simp [Act.eval, Act.put]) (B4 _) ?_) | (with_reducible refine wpList_store_mid rfl 118 _ _ rfl (w.heap.size + 1) 0 LR.toArray rfl rfl t1 z4 (all_oneCell_toArray hone) ?_; (try dsimp only)))
  (try simp only [Exit.inBlock, Exit.then])
  refine bodyPost_ret (v := .agg LR.toArray) ?_ rfl ⟨rfl, bel⟩
  simp [results, asAddr, Act.put, hld]
set_option maxHeartbeats 8000000 in
theorem changed_true (LX LA LC LB LD : List Value) (w : World) (hX : Q4 LX) (hA : Q4 LA) (hC : Q4 LC) (hB : Q4 LB) (hD : Q4 LD) :
    Calls Tryz.prog 128 #[.agg (LadV LX LA LC LB LD).toArray, .bool true] w fun e w' => e = .returned (.agg (LadV LX LB LD LA LC).toArray) ∧ Below w.heap.size w w' := by
  have hz := (zero_of_info infoLad).1
  obtain ⟨Z20, hZ20⟩ : ∃ Z, Z = (uV (fun _ => 0) 20).toArray := ⟨_, rfl⟩
  rw [← hZ20] at hz
  have hlen0 := LadV_length hX hA hC hB hD
  obtain ⟨LA0, hL0⟩ : ∃ A, A = LadV LX LA LC LB LD := ⟨_, rfl⟩
  obtain ⟨AL, hAL⟩ : ∃ A, A = LA0.toArray := ⟨_, rfl⟩
  have hpre : AL = (LadV LX LA LC LB LD).toArray := by rw [hAL, hL0]
  obtain ⟨rl, rr, bel, sz⟩ := ladRows w hlen0 (ty := 118) (n := 20) (by decide) hpre hZ20
  rw [← hpre]
  generalize hwb : (w.alloc (.cells AL 118)).alloc (.cells Z20 118) = wb at rl rr bel sz
  have q1 := lad_bd rl hX hA hC
  have q2 := lad_ac rl hX
  have t1 := rl.there (o := 4) (m := (LB ++ LD).toArray.size) (by simp [hB.len, hD.len])
  have p1 := lad_put_ac rl hX hA hC hB hD
  replace rr := rr.kept p1.2 (by omega)
  replace bel := bel.grown p1.2 bel.size (fun k hk => by cases hk; exact Nat.le_refl _)
  have t2 := p1.1.there (o := 12) (m := (LA ++ LC).toArray.size) (by simp [hA.len, hC.len])
  have p2 := lad_put_bd p1.1 hX hB hD hB hD hA hC
  replace rr := rr.kept p2.2 (by omega)
  replace bel := bel.grown p2.2 bel.size (fun k hk => by cases hk; exact Nat.le_refl _)
  have rf := p2.1
  have y1 := szRat (rat_length hB hD)
  have y2 := szRat (rat_length hA hC)
  have y3 := szRat2 (rat_length hB hD)
  have y4 := szRat2 (rat_length hA hC)
  have y5 := rat_one hB hD
  have y6 := rat_one hA hC
  have hlen := LadV_length hX hB hD hA hC
  have hone := LadV_one hX hB hD hA hC
  obtain ⟨LR, hR⟩ : ∃ L, L = LadV LX LB LD LA LC := ⟨_, rfl⟩
  rw [← hR] at rf hlen hone ⊢
  have q3 := rf.all
  have t3 := rr.there (o := 0) (m := LR.toArray.size) (by simp [hlen])
  have p3 := rr.putAll (B := LR) (by rw [hlen, uV_length])
  replace bel := bel.grown p3.2 bel.size (fun k hk => by cases hk; omega)
  have hld := run_loadVar_mid (P := Tryz.prog) _ _ 0 118 _ _ p3.1.all Tryz.underlying118 rfl (szLad hlen)
  have z3 := szLad hlen
  have z4 := szLad2 hlen
  obtain ⟨LP, hP⟩ : ∃ L, L = LA ++ LC := ⟨_, rfl⟩
  obtain ⟨LQ, hQ⟩ : ∃ L, L = LB ++ LD := ⟨_, rfl⟩
  rw [← hQ] at q1 t1 y1 y3 y5 q3 t3 bel hld t2
  rw [← hP] at q2 t2 y2 y4 y6 q3 t3 bel hld
  clear p1 p2 hP hQ
  clear rl rr rf p3 hR hL0 hpre hAL hlen0 hlen hZ20 sz hX hA hC hB hD
  rw [← hwb] at q1 q2 t1 t2 q3 t3 bel hld
  clear hwb
  clear LA0
  clear wb LA LB LC LD LX
  go_enter Tryz.func128, Tryz.ntmps128
  go_wp2_with (first | (with_reducible refine wpList_load_mid rfl 116 _ rfl w.heap.size 12 rfl LQ _ q1 Tryz.underlying116 rfl y1 ?_) | (with_reducible refine wpList_load_mid rfl 116 _ rfl w.heap.size 4 rfl LP _ q2 Tryz.underlying116 rfl y2 ?_) | (with_reducible refine wpList_store_mid rfl 116 _ _ rfl w.heap.size 4 LQ.toArray rfl rfl t1 y3 (all_oneCell_toArray y5) ?_; (try dsimp only)) | (with_reducible refine wpList_store_mid rfl 116 _ _ rfl w.heap.size 12 LP.toArray rfl rfl t2 y4 (all_oneCell_toArray y6) ?_; (try dsimp only)) | (with_reducible refine wpList_load_mid rfl 118 _ rfl w.heap.size 0 rfl LR _ q3 Tryz.underlying118 rfl z3 ?_) | (with_reducible refine wpList_store_mid rfl 118 _ _ rfl (w.heap.size + 1) 0 LR.toArray rfl rfl t3 z4 (all_oneCell_toArray hone) ?_; (try dsimp only)))
  (try simp only [Exit.inBlock, Exit.then])
  refine bodyPost_ret (v := .agg LR.toArray) ?_ rfl ⟨rfl, bel⟩
  simp [results, asAddr, Act.put, hld]
set_option maxHeartbeats 8000000 in
theorem changed_false (LX LA LC LB LD : List Value) (w : World) (hX : Q4 LX) (hA : Q4 LA) (hC : Q4 LC) (hB : Q4 LB) (hD : Q4 LD) :
    Calls Tryz.prog 128 #[.agg (LadV LX LA LC LB LD).toArray, .bool false] w fun e w' => e = .returned (.agg (LadV LX LA LC LB LD).toArray) ∧ Below w.heap.size w w' := by
  have hz := (zero_of_info infoLad).1
  obtain ⟨Z20, hZ20⟩ : ∃ Z, Z = (uV (fun _ => 0) 20).toArray := ⟨_, rfl⟩
  rw [← hZ20] at hz
  have hlen0 := LadV_length hX hA hC hB hD
  obtain ⟨LA0, hL0⟩ : ∃ A, A = LadV LX LA LC LB LD := ⟨_, rfl⟩
  obtain ⟨AL, hAL⟩ : ∃ A, A = LA0.toArray := ⟨_, rfl⟩
  have hpre : AL = (LadV LX LA LC LB LD).toArray := by rw [hAL, hL0]
  obtain ⟨rl, rr, bel, sz⟩ := ladRows w hlen0 (ty := 118) (n := 20) (by decide) hpre hZ20
  obtain ⟨LR, hR⟩ : ∃ L, L = LadV LX LA LC LB LD := ⟨_, rfl⟩
  have hpr2 : AL = LR.toArray := by rw [hpre, hR]
  rw [← hR]
  obtain ⟨RV, hRV⟩ : ∃ v, v = Value.agg LR.toArray := ⟨_, rfl⟩
  have hre : Calls Tryz.prog 128 #[.agg AL, .bool false] w (fun e w' => e = .returned RV ∧ Below w.heap.size w w') → Calls Tryz.prog 128 #[.agg LR.toArray, .bool false] w fun e w' => e = .returned (.agg LR.toArray) ∧ Below w.heap.size w w' := fun h => by rw [hpr2, hRV] at h; exact h
  refine hre ?_
  rw [hRV]
  clear hre hRV
  generalize hwb : (w.alloc (.cells AL 118)).alloc (.cells Z20 118) = wb at rl rr bel sz
  have rf := rl
  have hlen := hlen0
  have hone := LadV_one hX hA hC hB hD
  rw [← hR] at rf hlen hone
  have q3 := rf.all
  have t3 := rr.there (o := 0) (m := LR.toArray.size) (by simp [hlen])
  have p3 := rr.putAll (B := LR) (by rw [hlen, uV_length])
  replace bel := bel.grown p3.2 bel.size (fun k hk => by cases hk; omega)
  have hld := run_loadVar_mid (P := Tryz.prog) _ _ 0 118 _ _ p3.1.all Tryz.underlying118 rfl (szLad hlen)
  have z3 := szLad hlen
  have z4 := szLad2 hlen
  clear rl rr rf p3 hR hL0 hpre hAL hlen0 hlen hZ20 sz hX hA hC hB hD hpr2
  rw [← hwb] at q3 t3 bel hld
  clear hwb
  clear LA0
  clear wb LA LB LC LD LX
  go_enter Tryz.func128, Tryz.ntmps128
  go_wp2_with (first | (with_reducible refine wpList_load_mid rfl 118 _ rfl w.heap.size 0 rfl LR _ q3 Tryz.underlying118 rfl z3 ?_) | (with_reducible refine wpList_store_mid rfl 118 _ _ rfl (w.heap.size + 1) 0 LR.toArray rfl rfl t3 z4 (all_oneCell_toArray hone) ?_; (try dsimp only)))
  (try simp only [Exit.inBlock, Exit.then])
  refine bodyPost_ret (v := .agg LR.toArray) ?_ rfl ⟨rfl, bel⟩
  simp [results, asAddr, Act.put, hld]
end Go.Proofs.YtnpffnhiefgglaaGreatDoor
