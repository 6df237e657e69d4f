/-
  What the program's times answers. Condition: numbers below 2 to the 256th.
-/
import Derived.Test.YtghoibggmddkmaoFieldE
import Derived.Test.YtghoibggmddkmaoParts4
import Derived.Laws.Cover3
namespace Go.Proofs.Ytghoibggmddkmao
open Go.RowKit

theorem num_shift (z : Int) (k j : Nat) : numU z (k + j) = numU (z / bU ^ k) j := by
  have := powU_pos k
  rw [numU, numU, Int.pow_add, Int.ediv_ediv_of_nonneg (by omega)]
/-- The product with the first k parts of x. -/
def prT (x y : Int) (k : Nat) : Int := x % bU ^ k * y
def trmT (x y : Int) (k j : Nat) : Int := numU (prT x y k) (k + j) + numU x k * numU y j
theorem trmT_le (x y : Int) (k j : Nat) : 0 ≤ trmT x y k j ∧ trmT x y k j ≤ bU * (bU - 1) := termU (numU_range _ _) (numU_range _ _) (numU_range _ _)
theorem prT_step (x y : Int) (k : Nat) : prT x y (k + 1) = prT x y k + bU ^ k * (numU x k * y) := by
  unfold prT
  have h : x % bU ^ (k + 1) = x % bU ^ k + numU x k * bU ^ k := by rw [← val_numU, ← val_numU, valU]
  rw [h, Int.add_mul, Int.mul_comm (numU x k), Int.mul_assoc]
theorem prT_range {y : Int} (x : Int) (hy0 : 0 ≤ y) (hy : y < bU ^ 4) (k : Nat) : 0 ≤ prT x y k ∧ prT x y k < bU ^ (k + 4) := by
  have hp := powU_pos k
  have h0 := Int.emod_nonneg x (show bU ^ k ≠ 0 by omega)
  have h1 := Int.emod_lt_of_pos x hp
  unfold prT
  refine ⟨Int.mul_nonneg h0 hy0, ?_⟩
  have h2 : x % bU ^ k * y ≤ x % bU ^ k * bU ^ 4 := Int.mul_le_mul_of_nonneg_left (by omega) h0
  have h3 : x % bU ^ k * bU ^ 4 < bU ^ k * bU ^ 4 := Int.mul_lt_mul_of_pos_right h1 (powU_pos 4)
  rw [Int.pow_add]
  omega
/-- The parts of the product in the midst of a row. -/
def prI (x y : Int) (k m p : Nat) : Int := if k ≤ p ∧ p < k + m then digU (trmT x y k) 0 (p - k) else numU (prT x y k) p
theorem prI_zero (x y : Int) (k p : Nat) : prI x y k 0 p = numU (prT x y k) p := by rw [prI, if_neg (by omega)]
theorem prI_at (x y : Int) (k m : Nat) : prI x y k m (k + m) = numU (prT x y k) (k + m) := by rw [prI, if_neg (by omega)]
theorem prI_step (x y : Int) (k m p : Nat) : (if p = k + m then digU (trmT x y k) 0 m else prI x y k m p) = prI x y k (m + 1) p := by
  unfold prI
  by_cases h : p = k + m
  · subst h; rw [if_pos rfl, if_pos (by omega), show k + m - k = m by omega]
  · rw [if_neg h]
    by_cases h2 : k ≤ p ∧ p < k + m
    · rw [if_pos h2, if_pos (by omega)]
    · rw [if_neg h2, if_neg (by omega)]
theorem prI_end {x y : Int} (hy0 : 0 ≤ y) (hy : y < bU ^ 4) {k : Nat} (hk : k < 4) {p : Nat} (hp : p < 8) : (if p = k + 4 then carU (trmT x y k) 0 4 else prI x y k 4 p) = numU (prT x y (k + 1)) p := by
  have hr := prT_range x hy0 hy k
  have hc := carU_le (trmT_le x y k) (c := 0) (by decide) 4
  have hrange : ∀ i, i < 8 → 0 ≤ (if i = k + 4 then carU (trmT x y k) 0 4 else prI x y k 4 i) ∧ (if i = k + 4 then carU (trmT x y k) 0 4 else prI x y k 4 i) < bU := by
    intro i _
    split
    · exact hc
    · unfold prI
      split
      · exact digU_range _ _ _
      · exact numU_range _ _
  rw [num_of_parts hrange hp]
  congr 1
  obtain ⟨r, hr8⟩ : ∃ r, 8 = k + (4 + (1 + r)) := ⟨3 - k, by omega⟩
  have s1 := valU_split (fun i => if i = k + 4 then carU (trmT x y k) 0 4 else prI x y k 4 i) k (4 + (1 + r))
  have s2 := valU_split (fun j => (fun i => if i = k + 4 then carU (trmT x y k) 0 4 else prI x y k 4 i) (k + j)) 4 (1 + r)
  have s3 := valU_split (fun q => (fun i => if i = k + 4 then carU (trmT x y k) 0 4 else prI x y k 4 i) (k + (4 + q))) 1 r
  have e1 : valU (fun i => if i = k + 4 then carU (trmT x y k) 0 4 else prI x y k 4 i) k = prT x y k % bU ^ k := by
    rw [← val_numU]
    exact valU_congr fun i hi => by rw [if_neg (by omega), prI, if_neg (by omega)]
  have e2 : valU (fun j => (fun i => if i = k + 4 then carU (trmT x y k) 0 4 else prI x y k 4 i) (k + j)) 4 = valU (digU (trmT x y k) 0) 4 :=
    valU_congr fun i hi => by
      show (if k + i = k + 4 then carU (trmT x y k) 0 4 else prI x y k 4 (k + i)) = _
      rw [if_neg (by omega), prI, if_pos (by omega), show k + i - k = i by omega]
  have e3 : valU (fun q => (fun i => if i = k + 4 then carU (trmT x y k) 0 4 else prI x y k 4 i) (k + (4 + q))) 1 = carU (trmT x y k) 0 4 := by
    simp [valU]
  have e4 : valU (fun i => (fun q => (fun i => if i = k + 4 then carU (trmT x y k) 0 4 else prI x y k 4 i) (k + (4 + q))) (1 + i)) r = 0 := by
    have : valU (fun i => (fun q => (fun i => if i = k + 4 then carU (trmT x y k) 0 4 else prI x y k 4 i) (k + (4 + q))) (1 + i)) r = valU (fun _ => 0) r := valU_congr fun i hi => by
      show (if k + (4 + (1 + i)) = k + 4 then carU (trmT x y k) 0 4 else prI x y k 4 (k + (4 + (1 + i)))) = 0
      rw [if_neg (by omega), prI, if_neg (by omega), numU]
      have hb : bU ^ (k + 4) ≤ bU ^ (k + (4 + (1 + i))) := by
        rw [show k + (4 + (1 + i)) = (k + 4) + (1 + i) by omega, Int.pow_add bU (k + 4)]
        have h1 := powU_pos (k + 4)
        have h2 := powU_pos (1 + i)
        have : bU ^ (k + 4) * 1 ≤ bU ^ (k + 4) * bU ^ (1 + i) := Int.mul_le_mul_of_nonneg_left (by omega) (by omega)
        omega
      rw [Int.ediv_eq_zero_of_lt hr.1 (by omega)]
      rfl
    rw [this]
    clear this e1 e2 e3 s1 s2 s3 hrange hr8
    induction r with
    | zero => rfl
    | succ r ih => rw [valU, ih]; omega
  rw [e3, e4] at s3
  have sv : valU (fun i => (fun j => (fun i => if i = k + 4 then carU (trmT x y k) 0 4 else prI x y k 4 i) (k + j)) (4 + i)) (1 + r) = carU (trmT x y k) 0 4 + bU ^ 1 * 0 := s3
  rw [e2, sv] at s2
  have sw : valU (fun i => (fun i => if i = k + 4 then carU (trmT x y k) 0 4 else prI x y k 4 i) (k + i)) (4 + (1 + r)) = valU (digU (trmT x y k) 0) 4 + bU ^ 4 * (carU (trmT x y k) 0 4 + bU ^ 1 * 0) := s2
  rw [e1, sw, ← hr8] at s1
  rw [s1]
  have hv := val_carU (trmT x y k) 0 4
  have ht : valU (trmT x y k) 4 = prT x y k / bU ^ k + numU x k * y := by
    have a1 := valU_add (fun j => numU (prT x y k) (k + j)) (fun j => numU x k * numU y j) 4
    have a2 : valU (fun j => numU (prT x y k) (k + j)) 4 = prT x y k / bU ^ k := by
      have : valU (fun j => numU (prT x y k) (k + j)) 4 = valU (numU (prT x y k / bU ^ k)) 4 := valU_congr fun j _ => num_shift _ _ _
      rw [this]
      refine val_four (Int.ediv_nonneg hr.1 (by have := powU_pos k; omega)) (Int.ediv_lt_of_lt_mul (powU_pos k) ?_)
      have := hr.2
      rw [Int.pow_add, Int.mul_comm] at this
      exact this
    have a3 : valU (fun j => numU x k * numU y j) 4 = numU x k * y := by
      have : valU (fun j => numU x k * numU y j) 4 = valU (fun j => numU y j * numU x k) 4 := valU_congr fun j _ => Int.mul_comm _ _
      rw [this, valU_mul, val_four hy0 hy, Int.mul_comm]
    rw [a2, a3] at a1
    exact a1
  rw [ht, Int.add_zero] at hv
  rw [Int.mul_zero, Int.add_zero, hv, prT_step, Int.mul_add]
  have := Int.mul_ediv_add_emod (prT x y k) (bU ^ k)
  omega

theorem slice8 (g k : Nat) (hk : k < 4) (w : World) : (Instr.sliceAt 58 (.pointer (some ⟨g, 0, none⟩)) (some (.int .i64 (k : Int))) (some (.int .i64 ((k + 5 : Nat) : Int))) (some (.int .i64 ((k + 5 : Nat) : Int)))).run Try.prog w = .ok (.slice (some ⟨g, k, none⟩) 5 5) w := by
  have h0 : (Instr.sliceAt 58 (.pointer (some ⟨g, 0, none⟩)) (some (.int .i64 0)) (some (.int .i64 5)) (some (.int .i64 5))).run Try.prog w = .ok (.slice (some ⟨g, 0, none⟩) 5 5) w := by kernel_rfl
  have h1 : (Instr.sliceAt 58 (.pointer (some ⟨g, 0, none⟩)) (some (.int .i64 1)) (some (.int .i64 6)) (some (.int .i64 6))).run Try.prog w = .ok (.slice (some ⟨g, 1, none⟩) 5 5) w := by kernel_rfl
  have h2 : (Instr.sliceAt 58 (.pointer (some ⟨g, 0, none⟩)) (some (.int .i64 2)) (some (.int .i64 7)) (some (.int .i64 7))).run Try.prog w = .ok (.slice (some ⟨g, 2, none⟩) 5 5) w := by kernel_rfl
  have h3 : (Instr.sliceAt 58 (.pointer (some ⟨g, 0, none⟩)) (some (.int .i64 3)) (some (.int .i64 8)) (some (.int .i64 8))).run Try.prog w = .ok (.slice (some ⟨g, 3, none⟩) 5 5) w := by kernel_rfl
  have hc : k = 0 ∨ k = 1 ∨ k = 2 ∨ k = 3 := by omega
  rcases hc with rfl | rfl | rfl | rfl
  · exact h0
  · exact h1
  · exact h2
  · exact h3
theorem slice8_low (g : Nat) (w : World) : (Instr.sliceAt 58 (.pointer (some ⟨g, 0, none⟩)) none (some (.int .i64 4)) none).run Try.prog w = .ok (.slice (some ⟨g, 0, none⟩) 4 8) w := by kernel_rfl
theorem slice8_high (g : Nat) (w : World) : (Instr.sliceAt 58 (.pointer (some ⟨g, 0, none⟩)) (some (.int .i64 4)) none none).run Try.prog w = .ok (.slice (some ⟨g, 4, none⟩) 4 4) w := by kernel_rfl
theorem infoU8 : (Try.prog.info? 58).map (fun i => (i.zero, i.size)) = some (some (.agg (uV (fun _ => 0) 8).toArray), 8) := by kernel_rfl
theorem RowU.part {ty n : Nat} {w : World} {lo g : Nat} {f : Nat → Int} (h : RowU ty n w lo g f) (o m : Nat) (hm : o + m ≤ n) {f' : Nat → Int} (he : ∀ i, i < m → f (o + i) = f' i) : w.rangeAt g o (uV f' m) := by
  intro j v hv
  have hj : j < m := by have := (List.getElem?_eq_some_iff.1 hv).1; rwa [uV_length] at this
  rw [uV_get _ hj, ← he j hj] at hv
  rw [h.cell (o + j) (by omega), hv]
/-- The rows of a product: m, the result, the product, and the word that goes over. -/
structure PrdI (w : World) (lo G1 G2 G3 : Nat) (fm f : Nat → Int) (wr : World) : Prop where
  m : RowU 38 4 wr lo G1 fm
  r : RowU 38 4 wr lo G2 (fun _ => 0)
  p : RowU 58 8 wr lo G3 f
  b : Below lo w wr
section
variable {w wr wx : World} {lo G1 G2 G3 g : Nat} {fm f f' : Nat → Int}
theorem PrdI.below (h : PrdI w lo G1 G2 G3 fm f wr) (hb : Below wr.heap.size wr wx) : PrdI w lo G1 G2 G3 fm f wx := ⟨h.m.below hb, h.r.below hb, h.p.below hb, h.b.trans (hb.mono (Nat.le_trans h.m.lt.1 (Nat.le_of_lt h.m.lt.2)))⟩
theorem PrdI.grown (h : PrdI w lo G1 G2 G3 fm f wr) (hg : wr.grownBy wx (some g)) (h1 : G1 ≠ g) (h2 : G2 ≠ g) (h3 : G3 ≠ g) (hlo : lo ≤ g) : PrdI w lo G1 G2 G3 fm f wx :=
  ⟨h.m.kept hg h1, h.r.kept hg h2, h.p.kept hg h3, h.b.grown hg (Nat.le_trans h.m.lt.1 (Nat.le_of_lt h.m.lt.2)) (fun k hk => by cases hk; exact hlo)⟩
theorem PrdI.store (h : PrdI w lo G1 G2 G3 fm f wr) (h1 : G1 ≠ G3) (h2 : G2 ≠ G3) (k : Nat) (v : Int) : PrdI w lo G1 G2 G3 fm (fun i => if i = k then v else f i) (wr.setCell ⟨G3, k, none⟩ (.int .u64 v)) := by
  have st := h.p.set k v
  exact ⟨h.m.kept st.2 h1, h.r.kept st.2 h2, st.1, h.b.grown st.2 (Nat.le_trans h.m.lt.1 (Nat.le_of_lt h.m.lt.2)) (fun k hk => by cases hk; exact h.p.lt.1)⟩
theorem PrdI.congr (h : PrdI w lo G1 G2 G3 fm f wr) (he : ∀ i, i < 8 → f i = f' i) : PrdI w lo G1 G2 G3 fm f' wr := ⟨h.m, h.r, h.p.congr he, h.b⟩
end

set_option maxRecDepth 100000 in
set_option maxHeartbeats 8000000 in
theorem times_any (x y : Int) (w : World) (hx0 : 0 ≤ x) (hx : x < bU ^ 4) (hy0 : 0 ≤ y) (hy : y < bU ^ 4) :
    Calls Try.prog 27 #[uP x, uP y] w fun e w' => e = .returned (uP ((x * y) % fldP)) ∧ Below w.heap.size w w' := by
  have hz8 := (zero_of_info infoU8).1
  have hPT : prT x y 4 = x * y := by rw [prT, Int.emod_eq_of_lt hx0 hx]
  have hPR := prT_range x hy0 hy 4
  have hb4 := powU_pos 4
  have HEND : Hid (∀ k, k < 4 → ∀ p, p < 8 → (if p = k + 4 then carU (trmT x y k) 0 4 else prI x y k 4 p) = numU (prT x y (k + 1)) p) := fun k hk p hp => prI_end hy0 hy hk hp
  have HC : Hid (∀ k j, 0 ≤ carU (trmT x y k) 0 j ∧ carU (trmT x y k) 0 j < bU) := fun k j => carU_le (trmT_le x y k) (by decide) j
  have CR := fun X => rop_any (prT x y 4 % bU ^ 4) (prT x y 4 / bU ^ 4) X (Int.emod_nonneg _ (by omega)) (Int.emod_lt_of_pos _ hb4) (Int.ediv_nonneg hPR.1 (by omega)) (Int.ediv_lt_of_lt_mul hb4 (by have := hPR.2; rw [Int.pow_add] at this; exact this))
  have hsum : prT x y 4 % bU ^ 4 + prT x y 4 / bU ^ 4 * bU ^ 4 = x * y := by rw [← hPT, Int.mul_comm (prT x y 4 / bU ^ 4)]; exact Int.emod_add_mul_ediv _ _
  simp only [hsum] at CR
  have hlow : Hid (∀ i, i < 4 → numU (prT x y 4) (0 + i) = numU (prT x y 4 % bU ^ 4) i) := fun i hi => by rw [Nat.zero_add, numU_mod _ hi]
  have hhigh : Hid (∀ i, i < 4 → numU (prT x y 4) (4 + i) = numU (prT x y 4 / bU ^ 4) i) := fun i _ => num_shift _ _ _
  clear hx0 hx hy0 hy hPT hPR hb4 hsum
  unfold uP at CR
  have hz := (zero_of_info infoU4).1
  unfold uP
  obtain ⟨V, hV⟩ : ∃ V, V = numU ((x * y) % fldP) := ⟨_, rfl⟩
  rw [← hV] at CR ⊢
  clear hV
  obtain ⟨LW, hLW⟩ : ∃ LW, LW = numU (prT x y 4 % bU ^ 4) := ⟨_, rfl⟩
  obtain ⟨HW, hHW⟩ : ∃ HW, HW = numU (prT x y 4 / bU ^ 4) := ⟨_, rfl⟩
  rw [← hLW] at CR hlow
  rw [← hHW] at CR hhigh
  clear hLW hHW
  obtain ⟨Z8, hZ8⟩ : ∃ Z8, Z8 = (uV (fun _ => 0) 8).toArray := ⟨_, rfl⟩
  rw [← hZ8] at hz8
  obtain ⟨A, hA⟩ : ∃ A, A = (uV (numU x) 4).toArray := ⟨_, rfl⟩
  obtain ⟨B, hB⟩ : ∃ B, B = (uV (numU y) 4).toArray := ⟨_, rfl⟩
  obtain ⟨Z, hZ⟩ : ∃ Z, Z = (uV (fun _ => 0) 4).toArray := ⟨_, rfl⟩
  obtain ⟨m0, m1, m2, bel, sz⟩ := rows3 w (numU x) (numU y) (fun _ => 0) hA hB hZ
  rw [← hA, ← hB]
  rw [← hZ] at hz
  clear hA hB hZ
  obtain ⟨wb0, hwb0⟩ : ∃ wb0, wb0 = ((w.alloc (.cells A 38)).alloc (.cells B 38)).alloc (.cells Z 38) := ⟨_, rfl⟩
  rw [← hwb0] at m0 m1 m2 bel sz
  have m3 := RowU.made wb0 58 8 w.heap.size (fun _ => 0) (by decide) (by omega)
  rw [← hZ8, sz] at m3
  have b3 : Below wb0.heap.size wb0 (wb0.alloc (.cells Z8 58)) := (Below.refl _ _).alloc (Nat.le_refl _) _
  replace m0 := m0.below b3
  have hI0 : PrdI w w.heap.size (w.heap.size + 1) (w.heap.size + 1 + 1) (w.heap.size + 1 + 1 + 1) (numU y) (fun _ => 0) (wb0.alloc (.cells Z8 58)) := ⟨m1.below b3, m2.below b3, m3, below_on bel b3⟩
  have hra := m0.range
  obtain ⟨X4, hX4⟩ : ∃ X4, X4 = uV (numU x) 4 := ⟨_, rfl⟩
  have HX := fun k hk => index4 (numU x) k hk
  rw [← hX4] at hra HX
  have hszX : (Try.prog.info? 38).map (·.size) = some X4.length := by rw [hX4]; exact sizeU
  clear hX4
  replace HX : Hid (∀ (k : Nat), k < 4 → ∀ (w : World), (Instr.index 38 (.agg X4.toArray) (.int .i64 (k : Int))).run Try.prog w = .ok (.int .u64 (numU x k)) w) := HX
  rw [hwb0] at hI0 hra
  clear m0 m1 m2 m3 bel sz b3 hwb0 hZ8
  clear wb0
  go_enter Try.func27, Try.ntmps27
  go_wp2_with (refine wpList_load_mid rfl 38 _ rfl w.heap.size 0 rfl X4 _ hra Try.underlying38 rfl hszX ?_)
  obtain ⟨G1, hG1⟩ : ∃ G1, G1 = w.heap.size + 1 := ⟨_, rfl⟩
  obtain ⟨G2, hG2⟩ : ∃ G2, G2 = G1 + 1 := ⟨_, rfl⟩
  obtain ⟨G3, hG3⟩ : ∃ G3, G3 = G2 + 1 := ⟨_, rfl⟩
  rw [← hG1] at hI0 ⊢
  rw [← hG2] at hI0 ⊢
  rw [← hG3] at hI0 ⊢
  generalize (((w.alloc (.cells A 38)).alloc (.cells B 38)).alloc (.cells Z 38)).alloc (.cells Z8 58) = wb at hI0 hra ⊢
  have q1 : G1 ≠ G3 := by omega
  have q2 : G2 ≠ G3 := by omega
  have q3 : w.heap.size ≤ G3 := by omega
  have q4 : w.heap.size ≤ G2 := by omega
  clear hG1 hG2 hG3 hra hz hz8 hszX
  replace hI0 := hI0.congr (f' := numU (prT x y 0)) fun i _ => by rw [prT, Int.pow_zero, Int.emod_one, Int.zero_mul, num_nought]
  go_loopw [13] (fun i wr => ∃ k : Nat, k ≤ 4 ∧ i = .int .i64 k ∧ PrdI w w.heap.size G1 G2 G3 (numU y) (numU (prT x y k)) wr)
    (fun i _ => 4 - (intOf i).toNat)
  case atStart => exact ⟨0, by omega, rfl, hI0⟩
  case round =>
    clear hI0
    obtain ⟨k, hk, rfl, hI⟩ := hrel
    by_cases hlt : k < 4
    · have hlt' : (k : Int) < 4 := by omega
      have hix := HX.out k hlt
      have hsl := slice8 G3 k hlt
      have lx := numU_range x k
      obtain ⟨k4, hk4⟩ : ∃ k4 : Nat, k4 = k + 4 := ⟨_, rfl⟩
      obtain ⟨k5, hk5⟩ : ∃ k5 : Nat, k5 = k + 5 := ⟨_, rfl⟩
      rw [← hk5] at hsl
      have e4 : (k : Int) + 4 = (k4 : Int) := by omega
      have e5 : (k4 : Int) + 1 = (k5 : Int) := by omega
      have l4 : (k4 : Int) < 8 := by omega
      have l5 : (k5 : Int) < 9 := by omega
      replace hk4 : Hid (k4 = k + 4) := hk4
      clear hk5
      go_wp2_with (fail)
      clear hix hsl
      refine (sums_any 0 _).mono ?_
      rintro e w1 ⟨rfl, rfl⟩
      have hsz0 := hI.m.lt
      have hsz2 := hI.r.lt
      have hsz3 := hI.p.lt
      have mo := overRow wr w.heap.size 0 (by omega)
      obtain ⟨GO, hGO⟩ : ∃ GO, GO = wr.heap.size := ⟨_, rfl⟩
      rw [← hGO] at mo ⊢
      generalize wr.alloc (.cells #[.int .u64 0] 36) = wc at mo ⊢
      have bo : Below wr.heap.size wr wc := by rw [← hGO]; exact mo.2
      have d1 : G1 ≠ GO := by omega
      have d2 : G2 ≠ GO := by omega
      have d3 : G3 ≠ GO := by omega
      have d4 : GO ≠ G3 := by omega
      have d5 : w.heap.size ≤ GO := by omega
      replace hI := hI.below bo
      have ho := mo.1
      clear mo bo hGO hsz0 hsz2 hsz3
      have hra := hI.m.range
      obtain ⟨Y4, hY4⟩ : ∃ Y4, Y4 = uV (numU y) 4 := ⟨_, rfl⟩
      have HY := fun k hk => index4 (numU y) k hk
      rw [← hY4] at hra HY
      have hszY : (Try.prog.info? 38).map (·.size) = some Y4.length := by rw [hY4]; exact sizeU
      clear hY4
      replace HY : Hid (∀ (k : Nat), k < 4 → ∀ (w : World), (Instr.index 38 (.agg Y4.toArray) (.int .i64 (k : Int))).run Try.prog w = .ok (.int .u64 (numU y k)) w) := HY
      unfold tellV
      go_wp2_with (refine wpList_load_mid rfl 38 _ rfl G1 0 rfl Y4 _ hra Try.underlying38 rfl hszY ?_)
      clear hra hszY
      replace hI := hI.congr (f' := prI x y k 0) fun i _ => (prI_zero x y k i).symm
      go_loopw [27] (fun i wx => ∃ m : Nat, m ≤ 4 ∧ i = .int .i64 m ∧ PrdI w w.heap.size G1 G2 G3 (numU y) (prI x y k m) wx ∧ RowU 36 1 wx w.heap.size GO (fun _ => carU (trmT x y k) 0 m))
        (fun i _ => 4 - (intOf i).toNat)
      case atStart => exact ⟨0, by omega, rfl, hI, ho⟩
      case round =>
        clear hI ho
        obtain ⟨m, hm, rfl, hI, ho⟩ := hrel
        by_cases hlm : m < 4
        · have hlm' : (m : Int) < 4 := by omega
          have hiy := HY.out m hlm
          have ct := hI.p.cell (k + m) (by omega)
          rw [prI_at] at ct
          have co := ho.cell 0 (by decide)
          have fo := ho.frozen 0
          have lc := HC.out k m
          have la := numU_range (prT x y k) (k + m)
          have ly := numU_range y m
          have CT := tell_any GO (numU (prT x y k) (k + m)) (numU x k) (numU y m) (carU (trmT x y k) 0 m) (digU (trmT x y k) 0 m) (carU (trmT x y k) 0 (m + 1)) wr la lx ly lc rfl rfl co fo
          have o1 := ho.one (carU (trmT x y k) 0 (m + 1))
          have h1 := hI.grown o1.2 d1 d2 d3 d5
          have ct1 := h1.p.cell (k + m) (by omega)
          have ft1 := h1.p.frozen (k + m)
          have ft0 := hI.p.frozen (k + m)
          have h2 := (h1.store q1 q2 (k + m) (digU (trmT x y k) 0 m)).congr fun i _ => prI_step x y k m i
          have o2 := o1.1.kept (h1.p.set (k + m) (digU (trmT x y k) 0 m)).2 d4
          have ld := digU_range (trmT x y k) 0 m
          obtain ⟨o, hoo⟩ : ∃ o, o = carU (trmT x y k) 0 (m + 1) := ⟨_, rfl⟩
          rw [← hoo] at CT o2 h2 ct1 ft1
          replace hoo : Hid (o = carU (trmT x y k) 0 (m + 1)) := hoo
          generalize digU (trmT x y k) 0 m = r at CT h2 o2 ld
          generalize numU (prT x y k) (k + m) = a at ct CT la
          generalize numU x k = xk at CT lx ⊢
          generalize numU y m = ym at hiy CT ly
          unfold bU at la lx ly ld lc
          generalize prI x y k m (k + m) = a1 at ct1
          clear co fo hI ho o1 h1
          go_wp2_with (fail)
          refine CT.mono ?_
          rintro e w9 ⟨rfl, rfl⟩
          go_wp2_with (fail)
          go_roundw
          case rel => exact ⟨m + 1, by omega, by go_num, h2, by rw [← hoo.out]; exact o2⟩
          case measure => simp [intOf]; omega
        · obtain rfl : m = 4 := by omega
          have hno : ¬ ((4 : Nat) : Int) < 4 := by omega
          have lc := HC.out k 4
          have CT := tell_any GO 0 0 0 (carU (trmT x y k) 0 4) (carU (trmT x y k) 0 4) 0 wr (by decide) (by decide) (by decide) lc (by unfold bU at lc ⊢; omega) (by unfold bU at lc ⊢; omega) (ho.cell 0 (by decide)) (ho.frozen 0)
          have h1 := hI.grown (ho.one 0).2 d1 d2 d3 d5
          have ct1 := h1.p.cell (k + 4) (by omega)
          have ft1 := h1.p.frozen (k + 4)
          have ft0 := hI.p.frozen (k + 4)
          have h2 := (h1.store q1 q2 (k + 4) (carU (trmT x y k) 0 4)).congr fun i hi => HEND.out k hlt i hi
          generalize carU (trmT x y k) 0 4 = c4 at CT h2 lc
          generalize prI x y k 4 (k + 4) = a1 at ct1
          unfold bU at lc
          clear hI ho h1 lx
          go_wp2_with (fail)
          refine CT.mono ?_
          rintro e w9 ⟨rfl, rfl⟩
          go_wp2_with (fail)
          go_roundw
          case rel => exact ⟨k + 1, by omega, by go_num, h2⟩
          case measure => simp [intOf]; omega
    · obtain rfl : k = 4 := by omega
      have hno : ¬ ((4 : Nat) : Int) < 4 := by omega
      have hl := hI.p.part 0 4 (by decide) hlow.out
      have hh := hI.p.part 4 4 (by decide) hhigh.out
      have hr := hI.r
      have bel := hI.b
      have hpw := hI.p.lt
      have hPG : Hid (RowU 58 8 wr w.heap.size G3 (numU (prT x y 4))) := hI.p
      have TT : ∀ X, Below wr.heap.size wr X → X.rangeAt G3 0 (uV LW 4) ∧ X.rangeAt G3 4 (uV HW 4) := fun X hX => ⟨(hI.p.below hX).part 0 4 (by decide) hlow.out, (hI.p.below hX).part 4 4 (by decide) hhigh.out⟩
      replace TT : Hid (∀ X, Below wr.heap.size wr X → X.rangeAt G3 0 (uV LW 4) ∧ X.rangeAt G3 4 (uV HW 4)) := TT
      have hd0 : Below wr.heap.size wr wr.drew := (Below.refl _ _).drew
      have s0 := slice8_low G3
      have s4 := slice8_high G3
      have a0 : ∀ w, (Instr.arrayAt 38 (.slice (some ⟨G3, 0, none⟩) 4 8)).run Try.prog w = .ok (.pointer (some ⟨G3, 0, none⟩)) w := fun w => run_arrayAt w 38 _ 4 _ 4 8 Try.underlying38 (by omega)
      have a4 : ∀ w, (Instr.arrayAt 38 (.slice (some ⟨G3, 4, none⟩) 4 4)).run Try.prog w = .ok (.pointer (some ⟨G3, 4, none⟩)) w := fun w => run_arrayAt w 38 _ 4 _ 4 4 Try.underlying38 (by omega)
      clear hI hl hh HEND HC HX
      go_wp2_with (fail)
      refine wp_region_noPanic ?_
      refine wp_region_T 99 (fun X => X.rangeAt G3 0 (uV LW 4) ∧ X.rangeAt G3 4 (uV HW 4)) (fun _ => True) (by kernel_rfl) ?_
      generalize wr.drew = wX at hd0 ⊢
      have hT := TT.out _ hd0
      refine anyT_takeT (i := 0) (v := .slice (some ⟨G3, 0, none⟩) 4 8) rfl (by kernel_rfl) (by kernel_rfl) (by kernel_rfl) (by kernel_rfl) (fun _ _ _ h => h) (Or.inl ⟨by rfl, fun X hSw => by ((try dsimp only at hSw); go_simp)⟩) hT (fun _ => trivial) ?_
      simp only [Act.put, List.getElem_toArray, List.getElem_cons_zero, List.setIfInBounds_toArray, List.set_cons_zero, List.set_cons_succ]
      refine anyT_takeT (i := 1) (v := .pointer (some ⟨G3, 0, none⟩)) rfl (by kernel_rfl) (by kernel_rfl) (by kernel_rfl) (by kernel_rfl) (fun _ _ _ h => h) (Or.inl ⟨by rfl, fun X hSw => by ((try dsimp only at hSw); go_simp)⟩) hT (fun _ => trivial) ?_
      simp only [Act.put, List.getElem_toArray, List.getElem_cons_zero, List.getElem_cons_succ, List.setIfInBounds_toArray, List.set_cons_zero, List.set_cons_succ]
      refine anyT_takeT (i := 2) rfl (by kernel_rfl) (by kernel_rfl) (by kernel_rfl) (by kernel_rfl) (fun _ _ _ h => h) (yieldsIf_load_mid (by rfl) _ _ rfl _ _ rfl (uV LW 4) _ (fun _ hw => hw.1) Try.underlying38 rfl sizeU) hT (fun _ => trivial) ?_
      simp only [Act.put, List.getElem_toArray, List.getElem_cons_zero, List.getElem_cons_succ, List.setIfInBounds_toArray, List.set_cons_zero, List.set_cons_succ]
      refine anyT_takeT (i := 3) (v := .slice (some ⟨G3, 4, none⟩) 4 4) rfl (by kernel_rfl) (by kernel_rfl) (by kernel_rfl) (by kernel_rfl) (fun _ _ _ h => h) (Or.inl ⟨by rfl, fun X hSw => by ((try dsimp only at hSw); go_simp)⟩) hT (fun _ => trivial) ?_
      simp only [Act.put, List.getElem_toArray, List.getElem_cons_zero, List.getElem_cons_succ, List.setIfInBounds_toArray, List.set_cons_zero, List.set_cons_succ]
      refine anyT_takeT (i := 4) (v := .pointer (some ⟨G3, 4, none⟩)) rfl (by kernel_rfl) (by kernel_rfl) (by kernel_rfl) (by kernel_rfl) (fun _ _ _ h => h) (Or.inl ⟨by rfl, fun X hSw => by ((try dsimp only at hSw); go_simp)⟩) hT (fun _ => trivial) ?_
      simp only [Act.put, List.getElem_toArray, List.getElem_cons_zero, List.getElem_cons_succ, List.setIfInBounds_toArray, List.set_cons_zero, List.set_cons_succ]
      refine anyT_takeT (i := 5) rfl (by kernel_rfl) (by kernel_rfl) (by kernel_rfl) (by kernel_rfl) (fun _ _ _ h => h) (yieldsIf_load_mid (by rfl) _ _ rfl _ _ rfl (uV HW 4) _ (fun _ hw => hw.2) Try.underlying38 rfl sizeU) hT (fun _ => trivial) ?_
      simp only [Act.put, List.getElem_toArray, List.getElem_cons_zero, List.getElem_cons_succ, List.setIfInBounds_toArray, List.set_cons_zero, List.set_cons_succ]
      refine anyT_one (i := 6) (by kernel_rfl) rfl (fun K hK => ?_)
      go_simp
      refine (CR _).mono ?_
      rintro e w2 ⟨rfl, b2⟩
      go_wp2_with (fail)
      have hd2 := below_on hd0 b2
      refine hK.out _ _ (TT.out _ hd2) (fun _ => trivial) ?_
      clear hK K
      have hr2 := hr.below hd2
      have bel2 := below_on bel hd2
      have hs2 := hd2.size
      have hp := hr2.put (f' := V)
      have hth := hr2.there2 (f' := V)
      have hbel := bel2.grown hp.2 (by omega) (fun k hk => by cases hk; exact q4)
      have hld := run_loadVar_mid (P := Try.prog) _ G2 0 38 _ _ hp.1.range Try.underlying38 rfl sizeU
      have hT3 : (World.setCells w2 G2 0 (uV V 4)).rangeAt G3 0 (uV LW 4) ∧ (World.setCells w2 G2 0 (uV V 4)).rangeAt G3 4 (uV HW 4) := ⟨((hPG.out.below hd2).kept hp.2 q2.symm).part 0 4 (by decide) hlow.out, ((hPG.out.below hd2).kept hp.2 q2.symm).part 4 4 (by decide) hhigh.out⟩
      clear hp
      refine anyT_one (i := 7) (by kernel_rfl) rfl (fun K hK => ?_)
      refine wp_store_mid 38 _ _ rfl G2 0 (uV V 4).toArray rfl rfl hth sizeU2 (all_oneCell_toArray (uV_one V 4)) ?_
      refine hK.out _ _ hT3 (fun _ => trivial) ?_
      clear hK K
      refine anyT_done (by kernel_rfl) ?_ _
      refine NoPanic.normal ?_
      go_wp2_with (fail)
      (try simp only [Exit.inBlock, Exit.then])
      refine bodyPost_ret (v := .agg (uV V 4).toArray) ?_ rfl ⟨rfl, hbel⟩
      simp [results, asAddr, Act.put, hld]

end Go.Proofs.Ytghoibggmddkmao
