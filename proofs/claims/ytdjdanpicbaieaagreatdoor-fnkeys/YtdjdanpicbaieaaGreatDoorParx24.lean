/-
  What the program's times answers. Condition: numbers below 2 to the 256th.
  The program's ladder as one row of twenty words of 64 bits: its parts, read and written. Conditions: each law's own.
  What the program's ladderAt and changed answer. Conditions: none.
  What the program's step of a ladder answers, by what its sums and products answer. Conditions: these.
  What the program's squared and ones answer. Conditions: a number below p, at most 1000 times or bits.
  What the program's ladder answers by whole numbers: ladderAt, changed, step. Conditions: numbers from 0 to below p.
  What the program's ones answers. Conditions: a number below p, at most 1000 bits.
-/
import Derived.Test.YtdjdanpicbaieaaGreatDoorParx23
import Derived.Test.YtdjdanpicbaieaaGreatDoorParx21
import Derived.Laws.Cover3
import Derived.Test.YtdjdanpicbaieaaGreatDoorParx20
namespace Go.Proofs.YtdjdanpicbaieaaGreatDoor
open Go.RowKit

theorem num_shift (z : Int) (k j : Nat) : numU z (k + j) = numU (z / bU ^ k) j := by
  have := powU_pos k
  rw [numU, numU, Int.pow_add, Int.ediv_ediv_of_nonneg (by omega)]
/-- The product with the first k parts of x. -/
def prT (x y : Int) (k : Nat) : Int := x % bU ^ k * y
def trmT (x y : Int) (k j : Nat) : Int := numU (prT x y k) (k + j) + numU x k * numU y j
theorem trmT_le (x y : Int) (k j : Nat) : 0 ≤ trmT x y k j ∧ trmT x y k j ≤ bU * (bU - 1) := termU (numU_range _ _) (numU_range _ _) (numU_range _ _)
theorem prT_step (x y : Int) (k : Nat) : prT x y (k + 1) = prT x y k + bU ^ k * (numU x k * y) := by
  unfold prT
  have h : x % bU ^ (k + 1) = x % bU ^ k + numU x k * bU ^ k := by rw [← val_numU, ← val_numU, valU]
  rw [h, Int.add_mul, Int.mul_comm (numU x k), Int.mul_assoc]
theorem prT_range {y : Int} (x : Int) (hy0 : 0 ≤ y) (hy : y < bU ^ 4) (k : Nat) : 0 ≤ prT x y k ∧ prT x y k < bU ^ (k + 4) := by
  have hp := powU_pos k
  have h0 := Int.emod_nonneg x (show bU ^ k ≠ 0 by omega)
  have h1 := Int.emod_lt_of_pos x hp
  unfold prT
  refine ⟨Int.mul_nonneg h0 hy0, ?_⟩
  have h2 : x % bU ^ k * y ≤ x % bU ^ k * bU ^ 4 := Int.mul_le_mul_of_nonneg_left (by omega) h0
  have h3 : x % bU ^ k * bU ^ 4 < bU ^ k * bU ^ 4 := Int.mul_lt_mul_of_pos_right h1 (powU_pos 4)
  rw [Int.pow_add]
  omega
/-- The parts of the product in the midst of a row. -/
def prI (x y : Int) (k m p : Nat) : Int := if k ≤ p ∧ p < k + m then digU (trmT x y k) 0 (p - k) else numU (prT x y k) p
theorem prI_zero (x y : Int) (k p : Nat) : prI x y k 0 p = numU (prT x y k) p := by rw [prI, if_neg (by omega)]
theorem prI_at (x y : Int) (k m : Nat) : prI x y k m (k + m) = numU (prT x y k) (k + m) := by rw [prI, if_neg (by omega)]
theorem prI_step (x y : Int) (k m p : Nat) : (if p = k + m then digU (trmT x y k) 0 m else prI x y k m p) = prI x y k (m + 1) p := by
  unfold prI
  by_cases h : p = k + m
  · subst h; rw [if_pos rfl, if_pos (by omega), show k + m - k = m by omega]
  · rw [if_neg h]
    by_cases h2 : k ≤ p ∧ p < k + m
    · rw [if_pos h2, if_pos (by omega)]
    · rw [if_neg h2, if_neg (by omega)]
theorem prI_end {x y : Int} (hy0 : 0 ≤ y) (hy : y < bU ^ 4) {k : Nat} (hk : k < 4) {p : Nat} (hp : p < 8) : (if p = k + 4 then carU (trmT x y k) 0 4 else prI x y k 4 p) = numU (prT x y (k + 1)) p := by
  have hr := prT_range x hy0 hy k
  have hc := carU_le (trmT_le x y k) (c := 0) (by decide) 4
  have hrange : ∀ i, i < 8 → 0 ≤ (if i = k + 4 then carU (trmT x y k) 0 4 else prI x y k 4 i) ∧ (if i = k + 4 then carU (trmT x y k) 0 4 else prI x y k 4 i) < bU := by
    intro i _
    split
    · exact hc
    · unfold prI
      split
      · exact digU_range _ _ _
      · exact numU_range _ _
  rw [num_of_parts hrange hp]
  congr 1
  obtain ⟨r, hr8⟩ : ∃ r, 8 = k + (4 + (1 + r)) := ⟨3 - k, by omega⟩
  have s1 := valU_split (fun i => if i = k + 4 then carU (trmT x y k) 0 4 else prI x y k 4 i) k (4 + (1 + r))
  have s2 := valU_split (fun j => (fun i => if i = k + 4 then carU (trmT x y k) 0 4 else prI x y k 4 i) (k + j)) 4 (1 + r)
  have s3 := valU_split (fun q => (fun i => if i = k + 4 then carU (trmT x y k) 0 4 else prI x y k 4 i) (k + (4 + q))) 1 r
  have e1 : valU (fun i => if i = k + 4 then carU (trmT x y k) 0 4 else prI x y k 4 i) k = prT x y k % bU ^ k := by
    rw [← val_numU]
    exact valU_congr fun i hi => by rw [if_neg (by omega), prI, if_neg (by omega)]
  have e2 : valU (fun j => (fun i => if i = k + 4 then carU (trmT x y k) 0 4 else prI x y k 4 i) (k + j)) 4 = valU (digU (trmT x y k) 0) 4 :=
    valU_congr fun i hi => by
      show (if k + i = k + 4 then carU (trmT x y k) 0 4 else prI x y k 4 (k + i)) = _
      rw [if_neg (by omega), prI, if_pos (by omega), show k + i - k = i by omega]
  have e3 : valU (fun q => (fun i => if i = k + 4 then carU (trmT x y k) 0 4 else prI x y k 4 i) (k + (4 + q))) 1 = carU (trmT x y k) 0 4 := by
    simp [valU]
  have e4 : valU (fun i => (fun q => (fun i => if i = k + 4 then carU (trmT x y k) 0 4 else prI x y k 4 i) (k + (4 + q))) (1 + i)) r = 0 := by
    have : valU (fun i => (fun q => (fun i => if i = k + 4 then carU (trmT x y k) 0 4 else prI x y k 4 i) (k + (4 + q))) (1 + i)) r = valU (fun _ => 0) r := valU_congr fun i hi => by
      show (if k + (4 + (1 + i)) = k + 4 then carU (trmT x y k) 0 4 else prI x y k 4 (k + (4 + (1 + i)))) = 0
      rw [if_neg (by omega), prI, if_neg (by omega), numU]
      have hb : bU ^ (k + 4) ≤ bU ^ (k + (4 + (1 + i))) := by
        rw [show k + (4 + (1 + i)) = (k + 4) + (1 + i) by omega, Int.pow_add bU (k + 4)]
        have h1 := powU_pos (k + 4)
        have h2 := powU_pos (1 + i)
        have : bU ^ (k + 4) * 1 ≤ bU ^ (k + 4) * bU ^ (1 + i) := Int.mul_le_mul_of_nonneg_left (by omega) (by omega)
        omega
      rw [Int.ediv_eq_zero_of_lt hr.1 (by omega)]
      rfl
    rw [this]
    clear this e1 e2 e3 s1 s2 s3 hrange hr8
    induction r with
    | zero => rfl
    | succ r ih => rw [valU, ih]; omega
  rw [e3, e4] at s3
  have sv : valU (fun i => (fun j => (fun i => if i = k + 4 then carU (trmT x y k) 0 4 else prI x y k 4 i) (k + j)) (4 + i)) (1 + r) = carU (trmT x y k) 0 4 + bU ^ 1 * 0 := s3
  rw [e2, sv] at s2
  have sw : valU (fun i => (fun i => if i = k + 4 then carU (trmT x y k) 0 4 else prI x y k 4 i) (k + i)) (4 + (1 + r)) = valU (digU (trmT x y k) 0) 4 + bU ^ 4 * (carU (trmT x y k) 0 4 + bU ^ 1 * 0) := s2
  rw [e1, sw, ← hr8] at s1
  rw [s1]
  have hv := val_carU (trmT x y k) 0 4
  have ht : valU (trmT x y k) 4 = prT x y k / bU ^ k + numU x k * y := by
    have a1 := valU_add (fun j => numU (prT x y k) (k + j)) (fun j => numU x k * numU y j) 4
    have a2 : valU (fun j => numU (prT x y k) (k + j)) 4 = prT x y k / bU ^ k := by
      have : valU (fun j => numU (prT x y k) (k + j)) 4 = valU (numU (prT x y k / bU ^ k)) 4 := valU_congr fun j _ => num_shift _ _ _
      rw [this]
      refine val_four (Int.ediv_nonneg hr.1 (by have := powU_pos k; omega)) (Int.ediv_lt_of_lt_mul (powU_pos k) ?_)
      have := hr.2
      rw [Int.pow_add, Int.mul_comm] at this
      exact this
    have a3 : valU (fun j => numU x k * numU y j) 4 = numU x k * y := by
      have : valU (fun j => numU x k * numU y j) 4 = valU (fun j => numU y j * numU x k) 4 := valU_congr fun j _ => Int.mul_comm _ _
      rw [this, valU_mul, val_four hy0 hy, Int.mul_comm]
    rw [a2, a3] at a1
    exact a1
  rw [ht, Int.add_zero] at hv
  rw [Int.mul_zero, Int.add_zero, hv, prT_step, Int.mul_add]
  have := Int.mul_ediv_add_emod (prT x y k) (bU ^ k)
  omega

theorem slice8 (g k : Nat) (hk : k < 4) (w : World) : (Instr.sliceAt 114 (.pointer (some ⟨g, 0, none⟩)) (some (.int .i64 (k : Int))) (some (.int .i64 ((k + 5 : Nat) : Int))) (some (.int .i64 ((k + 5 : Nat) : Int)))).run Tryz.prog w = .ok (.slice (some ⟨g, k, none⟩) 5 5) w := by
  have h0 : (Instr.sliceAt 114 (.pointer (some ⟨g, 0, none⟩)) (some (.int .i64 0)) (some (.int .i64 5)) (some (.int .i64 5))).run Tryz.prog w = .ok (.slice (some ⟨g, 0, none⟩) 5 5) w := by kernel_rfl
  have h1 : (Instr.sliceAt 114 (.pointer (some ⟨g, 0, none⟩)) (some (.int .i64 1)) (some (.int .i64 6)) (some (.int .i64 6))).run Tryz.prog w = .ok (.slice (some ⟨g, 1, none⟩) 5 5) w := by kernel_rfl
  have h2 : (Instr.sliceAt 114 (.pointer (some ⟨g, 0, none⟩)) (some (.int .i64 2)) (some (.int .i64 7)) (some (.int .i64 7))).run Tryz.prog w = .ok (.slice (some ⟨g, 2, none⟩) 5 5) w := by kernel_rfl
  have h3 : (Instr.sliceAt 114 (.pointer (some ⟨g, 0, none⟩)) (some (.int .i64 3)) (some (.int .i64 8)) (some (.int .i64 8))).run Tryz.prog w = .ok (.slice (some ⟨g, 3, none⟩) 5 5) w := by kernel_rfl
  have hc : k = 0 ∨ k = 1 ∨ k = 2 ∨ k = 3 := by omega
  rcases hc with rfl | rfl | rfl | rfl
  · exact h0
  · exact h1
  · exact h2
  · exact h3
theorem slice8_low (g : Nat) (w : World) : (Instr.sliceAt 114 (.pointer (some ⟨g, 0, none⟩)) none (some (.int .i64 4)) none).run Tryz.prog w = .ok (.slice (some ⟨g, 0, none⟩) 4 8) w := by kernel_rfl
theorem slice8_high (g : Nat) (w : World) : (Instr.sliceAt 114 (.pointer (some ⟨g, 0, none⟩)) (some (.int .i64 4)) none none).run Tryz.prog w = .ok (.slice (some ⟨g, 4, none⟩) 4 4) w := by kernel_rfl
theorem infoU8 : (Tryz.prog.info? 114).map (fun i => (i.zero, i.size)) = some (some (.agg (uV (fun _ => 0) 8).toArray), 8) := by kernel_rfl
theorem RowU.part {ty n : Nat} {w : World} {lo g : Nat} {f : Nat → Int} (h : RowU ty n w lo g f) (o m : Nat) (hm : o + m ≤ n) {f' : Nat → Int} (he : ∀ i, i < m → f (o + i) = f' i) : w.rangeAt g o (uV f' m) := by
  intro j v hv
  have hj : j < m := by have := (List.getElem?_eq_some_iff.1 hv).1; rwa [uV_length] at this
  rw [uV_get _ hj, ← he j hj] at hv
  rw [h.cell (o + j) (by omega), hv]
/-- The rows of a product: m, the result, the product, and the word that goes over. -/
structure PrdI (w : World) (lo G1 G2 G3 : Nat) (fm f : Nat → Int) (wr : World) : Prop where
  m : RowU 84 4 wr lo G1 fm
  r : RowU 84 4 wr lo G2 (fun _ => 0)
  p : RowU 114 8 wr lo G3 f
  b : Below lo w wr
section
variable {w wr wx : World} {lo G1 G2 G3 g : Nat} {fm f f' : Nat → Int}
theorem PrdI.below (h : PrdI w lo G1 G2 G3 fm f wr) (hb : Below wr.heap.size wr wx) : PrdI w lo G1 G2 G3 fm f wx := ⟨h.m.below hb, h.r.below hb, h.p.below hb, h.b.trans (hb.mono (Nat.le_trans h.m.lt.1 (Nat.le_of_lt h.m.lt.2)))⟩
theorem PrdI.grown (h : PrdI w lo G1 G2 G3 fm f wr) (hg : wr.grownBy wx (some g)) (h1 : G1 ≠ g) (h2 : G2 ≠ g) (h3 : G3 ≠ g) (hlo : lo ≤ g) : PrdI w lo G1 G2 G3 fm f wx :=
  ⟨h.m.kept hg h1, h.r.kept hg h2, h.p.kept hg h3, h.b.grown hg (Nat.le_trans h.m.lt.1 (Nat.le_of_lt h.m.lt.2)) (fun k hk => by cases hk; exact hlo)⟩
theorem PrdI.store (h : PrdI w lo G1 G2 G3 fm f wr) (h1 : G1 ≠ G3) (h2 : G2 ≠ G3) (k : Nat) (v : Int) : PrdI w lo G1 G2 G3 fm (fun i => if i = k then v else f i) (wr.setCell ⟨G3, k, none⟩ (.int .u64 v)) := by
  have st := h.p.set k v
  exact ⟨h.m.kept st.2 h1, h.r.kept st.2 h2, st.1, h.b.grown st.2 (Nat.le_trans h.m.lt.1 (Nat.le_of_lt h.m.lt.2)) (fun k hk => by cases hk; exact h.p.lt.1)⟩
theorem PrdI.congr (h : PrdI w lo G1 G2 G3 fm f wr) (he : ∀ i, i < 8 → f i = f' i) : PrdI w lo G1 G2 G3 fm f' wr := ⟨h.m, h.r, h.p.congr he, h.b⟩
end

set_option maxRecDepth 100000 in
set_option maxHeartbeats 8000000 in
theorem times_any (x y : Int) (w : World) (hx0 : 0 ≤ x) (hx : x < bU ^ 4) (hy0 : 0 ≤ y) (hy : y < bU ^ 4) :
    Calls Tryz.prog 64 #[uP x, uP y] w fun e w' => e = .returned (uP ((x * y) % fldP)) ∧ Below w.heap.size w w' := by
  have hz8 := (zero_of_info infoU8).1
  have hPT : prT x y 4 = x * y := by rw [prT, Int.emod_eq_of_lt hx0 hx]
  have hPR := prT_range x hy0 hy 4
  have hb4 := powU_pos 4
  have HEND : Hid (∀ k, k < 4 → ∀ p, p < 8 → (if p = k + 4 then carU (trmT x y k) 0 4 else prI x y k 4 p) = numU (prT x y (k + 1)) p) := fun k hk p hp => prI_end hy0 hy hk hp
  have HC : Hid (∀ k j, 0 ≤ carU (trmT x y k) 0 j ∧ carU (trmT x y k) 0 j < bU) := fun k j => carU_le (trmT_le x y k) (by decide) j
  have CR := fun X => rop_any (prT x y 4 % bU ^ 4) (prT x y 4 / bU ^ 4) X (Int.emod_nonneg _ (by omega)) (Int.emod_lt_of_pos _ hb4) (Int.ediv_nonneg hPR.1 (by omega)) (Int.ediv_lt_of_lt_mul hb4 (by have := hPR.2; rw [Int.pow_add] at this; exact this))
  have hsum : prT x y 4 % bU ^ 4 + prT x y 4 / bU ^ 4 * bU ^ 4 = x * y := by rw [← hPT, Int.mul_comm (prT x y 4 / bU ^ 4)]; exact Int.emod_add_mul_ediv _ _
  simp only [hsum] at CR
  have hlow : Hid (∀ i, i < 4 → numU (prT x y 4) (0 + i) = numU (prT x y 4 % bU ^ 4) i) := fun i hi => by rw [Nat.zero_add, numU_mod _ hi]
  have hhigh : Hid (∀ i, i < 4 → numU (prT x y 4) (4 + i) = numU (prT x y 4 / bU ^ 4) i) := fun i _ => num_shift _ _ _
  clear hx0 hx hy0 hy hPT hPR hb4 hsum
  unfold uP at CR
  have hz := (zero_of_info infoU4).1
  unfold uP
  obtain ⟨V, hV⟩ : ∃ V, V = numU ((x * y) % fldP) := ⟨_, rfl⟩
  rw [← hV] at CR ⊢
  clear hV
  obtain ⟨LW, hLW⟩ : ∃ LW, LW = numU (prT x y 4 % bU ^ 4) := ⟨_, rfl⟩
  obtain ⟨HW, hHW⟩ : ∃ HW, HW = numU (prT x y 4 / bU ^ 4) := ⟨_, rfl⟩
  rw [← hLW] at CR hlow
  rw [← hHW] at CR hhigh
  clear hLW hHW
  obtain ⟨Z8, hZ8⟩ : ∃ Z8, Z8 = (uV (fun _ => 0) 8).toArray := ⟨_, rfl⟩
  rw [← hZ8] at hz8
  obtain ⟨A, hA⟩ : ∃ A, A = (uV (numU x) 4).toArray := ⟨_, rfl⟩
  obtain ⟨B, hB⟩ : ∃ B, B = (uV (numU y) 4).toArray := ⟨_, rfl⟩
  obtain ⟨Z, hZ⟩ : ∃ Z, Z = (uV (fun _ => 0) 4).toArray := ⟨_, rfl⟩
  obtain ⟨m0, m1, m2, bel, sz⟩ := rows3 w (numU x) (numU y) (fun _ => 0) hA hB hZ
  rw [← hA, ← hB]
  rw [← hZ] at hz
  clear hA hB hZ
  obtain ⟨wb0, hwb0⟩ : ∃ wb0, wb0 = ((w.alloc (.cells A 84)).alloc (.cells B 84)).alloc (.cells Z 84) := ⟨_, rfl⟩
  rw [← hwb0] at m0 m1 m2 bel sz
  have m3 := RowU.made wb0 114 8 w.heap.size (fun _ => 0) (by decide) (by omega)
  rw [← hZ8, sz] at m3
  have b3 : Below wb0.heap.size wb0 (wb0.alloc (.cells Z8 114)) := (Below.refl _ _).alloc (Nat.le_refl _) _
  replace m0 := m0.below b3
  have hI0 : PrdI w w.heap.size (w.heap.size + 1) (w.heap.size + 1 + 1) (w.heap.size + 1 + 1 + 1) (numU y) (fun _ => 0) (wb0.alloc (.cells Z8 114)) := ⟨m1.below b3, m2.below b3, m3, below_on bel b3⟩
  have hra := m0.range
  obtain ⟨X4, hX4⟩ : ∃ X4, X4 = uV (numU x) 4 := ⟨_, rfl⟩
  have HX := fun k hk => index4 (numU x) k hk
  rw [← hX4] at hra HX
  have hszX : (Tryz.prog.info? 84).map (·.size) = some X4.length := by rw [hX4]; exact sizeU
  clear hX4
  replace HX : Hid (∀ (k : Nat), k < 4 → ∀ (w : World), (Instr.index 84 (.agg X4.toArray) (.int .i64 (k : Int))).run Tryz.prog w = .ok (.int .u64 (numU x k)) w) := HX
  rw [hwb0] at hI0 hra
  clear m0 m1 m2 m3 bel sz b3 hwb0 hZ8
  clear wb0
  go_enter Tryz.func64, Tryz.ntmps64
  go_wp2_with (refine wpList_load_mid rfl 84 _ rfl w.heap.size 0 rfl X4 _ hra Tryz.underlying84 rfl hszX ?_)
  obtain ⟨G1, hG1⟩ : ∃ G1, G1 = w.heap.size + 1 := ⟨_, rfl⟩
  obtain ⟨G2, hG2⟩ : ∃ G2, G2 = G1 + 1 := ⟨_, rfl⟩
  obtain ⟨G3, hG3⟩ : ∃ G3, G3 = G2 + 1 := ⟨_, rfl⟩
  rw [← hG1] at hI0 ⊢
  rw [← hG2] at hI0 ⊢
  rw [← hG3] at hI0 ⊢
  generalize (((w.alloc (.cells A 84)).alloc (.cells B 84)).alloc (.cells Z 84)).alloc (.cells Z8 114) = wb at hI0 hra ⊢
  have q1 : G1 ≠ G3 := by omega
  have q2 : G2 ≠ G3 := by omega
  have q3 : w.heap.size ≤ G3 := by omega
  have q4 : w.heap.size ≤ G2 := by omega
  clear hG1 hG2 hG3 hra hz hz8 hszX
  replace hI0 := hI0.congr (f' := numU (prT x y 0)) fun i _ => by rw [prT, Int.pow_zero, Int.emod_one, Int.zero_mul, num_nought]
  go_loopw [13] (fun i wr => ∃ k : Nat, k ≤ 4 ∧ i = .int .i64 k ∧ PrdI w w.heap.size G1 G2 G3 (numU y) (numU (prT x y k)) wr)
    (fun i _ => 4 - (intOf i).toNat)
  case atStart => exact ⟨0, by omega, rfl, hI0⟩
  case round =>
    clear hI0
    obtain ⟨k, hk, rfl, hI⟩ := hrel
    by_cases hlt : k < 4
    · have hlt' : (k : Int) < 4 := by omega
      have hix := HX.out k hlt
      have hsl := slice8 G3 k hlt
      have lx := numU_range x k
      obtain ⟨k4, hk4⟩ : ∃ k4 : Nat, k4 = k + 4 := ⟨_, rfl⟩
      obtain ⟨k5, hk5⟩ : ∃ k5 : Nat, k5 = k + 5 := ⟨_, rfl⟩
      rw [← hk5] at hsl
      have e4 : (k : Int) + 4 = (k4 : Int) := by omega
      have e5 : (k4 : Int) + 1 = (k5 : Int) := by omega
      have l4 : (k4 : Int) < 8 := by omega
      have l5 : (k5 : Int) < 9 := by omega
      replace hk4 : Hid (k4 = k + 4) := hk4
      clear hk5
      go_wp2_with (fail)
      clear hix hsl
      refine (sums_any 0 _).mono ?_
      rintro e w1 ⟨rfl, rfl⟩
      have hsz0 := hI.m.lt
      have hsz2 := hI.r.lt
      have hsz3 := hI.p.lt
      have mo := overRow wr w.heap.size 0 (by omega)
      obtain ⟨GO, hGO⟩ : ∃ GO, GO = wr.heap.size := ⟨_, rfl⟩
      rw [← hGO] at mo ⊢
      generalize wr.alloc (.cells #[.int .u64 0] 82) = wc at mo ⊢
      have bo : Below wr.heap.size wr wc := by rw [← hGO]; exact mo.2
      have d1 : G1 ≠ GO := by omega
      have d2 : G2 ≠ GO := by omega
      have d3 : G3 ≠ GO := by omega
      have d4 : GO ≠ G3 := by omega
      have d5 : w.heap.size ≤ GO := by omega
      replace hI := hI.below bo
      have ho := mo.1
      clear mo bo hGO hsz0 hsz2 hsz3
      have hra := hI.m.range
      obtain ⟨Y4, hY4⟩ : ∃ Y4, Y4 = uV (numU y) 4 := ⟨_, rfl⟩
      have HY := fun k hk => index4 (numU y) k hk
      rw [← hY4] at hra HY
      have hszY : (Tryz.prog.info? 84).map (·.size) = some Y4.length := by rw [hY4]; exact sizeU
      clear hY4
      replace HY : Hid (∀ (k : Nat), k < 4 → ∀ (w : World), (Instr.index 84 (.agg Y4.toArray) (.int .i64 (k : Int))).run Tryz.prog w = .ok (.int .u64 (numU y k)) w) := HY
      unfold tellV
      go_wp2_with (refine wpList_load_mid rfl 84 _ rfl G1 0 rfl Y4 _ hra Tryz.underlying84 rfl hszY ?_)
      clear hra hszY
      replace hI := hI.congr (f' := prI x y k 0) fun i _ => (prI_zero x y k i).symm
      go_loopw [27] (fun i wx => ∃ m : Nat, m ≤ 4 ∧ i = .int .i64 m ∧ PrdI w w.heap.size G1 G2 G3 (numU y) (prI x y k m) wx ∧ RowU 82 1 wx w.heap.size GO (fun _ => carU (trmT x y k) 0 m))
        (fun i _ => 4 - (intOf i).toNat)
      case atStart => exact ⟨0, by omega, rfl, hI, ho⟩
      case round =>
        clear hI ho
        obtain ⟨m, hm, rfl, hI, ho⟩ := hrel
        by_cases hlm : m < 4
        · have hlm' : (m : Int) < 4 := by omega
          have hiy := HY.out m hlm
          have ct := hI.p.cell (k + m) (by omega)
          rw [prI_at] at ct
          have co := ho.cell 0 (by decide)
          have fo := ho.frozen 0
          have lc := HC.out k m
          have la := numU_range (prT x y k) (k + m)
          have ly := numU_range y m
          have CT := tell_any GO (numU (prT x y k) (k + m)) (numU x k) (numU y m) (carU (trmT x y k) 0 m) (digU (trmT x y k) 0 m) (carU (trmT x y k) 0 (m + 1)) wr la lx ly lc rfl rfl co fo
          have o1 := ho.one (carU (trmT x y k) 0 (m + 1))
          have h1 := hI.grown o1.2 d1 d2 d3 d5
          have ct1 := h1.p.cell (k + m) (by omega)
          have ft1 := h1.p.frozen (k + m)
          have ft0 := hI.p.frozen (k + m)
          have h2 := (h1.store q1 q2 (k + m) (digU (trmT x y k) 0 m)).congr fun i _ => prI_step x y k m i
          have o2 := o1.1.kept (h1.p.set (k + m) (digU (trmT x y k) 0 m)).2 d4
          have ld := digU_range (trmT x y k) 0 m
          obtain ⟨o, hoo⟩ : ∃ o, o = carU (trmT x y k) 0 (m + 1) := ⟨_, rfl⟩
          rw [← hoo] at CT o2 h2 ct1 ft1
          replace hoo : Hid (o = carU (trmT x y k) 0 (m + 1)) := hoo
          generalize digU (trmT x y k) 0 m = r at CT h2 o2 ld
          generalize numU (prT x y k) (k + m) = a at ct CT la
          generalize numU x k = xk at CT lx ⊢
          generalize numU y m = ym at hiy CT ly
          unfold bU at la lx ly ld lc
          generalize prI x y k m (k + m) = a1 at ct1
          clear co fo hI ho o1 h1
          go_wp2_with (fail)
          refine CT.mono ?_
          rintro e w9 ⟨rfl, rfl⟩
          go_wp2_with (fail)
          go_roundw
          case rel => exact ⟨m + 1, by omega, by go_num, h2, by rw [← hoo.out]; exact o2⟩
          case measure => simp [intOf]; omega
        · obtain rfl : m = 4 := by omega
          have hno : ¬ ((4 : Nat) : Int) < 4 := by omega
          have lc := HC.out k 4
          have CT := tell_any GO 0 0 0 (carU (trmT x y k) 0 4) (carU (trmT x y k) 0 4) 0 wr (by decide) (by decide) (by decide) lc (by unfold bU at lc ⊢; omega) (by unfold bU at lc ⊢; omega) (ho.cell 0 (by decide)) (ho.frozen 0)
          have h1 := hI.grown (ho.one 0).2 d1 d2 d3 d5
          have ct1 := h1.p.cell (k + 4) (by omega)
          have ft1 := h1.p.frozen (k + 4)
          have ft0 := hI.p.frozen (k + 4)
          have h2 := (h1.store q1 q2 (k + 4) (carU (trmT x y k) 0 4)).congr fun i hi => HEND.out k hlt i hi
          generalize carU (trmT x y k) 0 4 = c4 at CT h2 lc
          generalize prI x y k 4 (k + 4) = a1 at ct1
          unfold bU at lc
          clear hI ho h1 lx
          go_wp2_with (fail)
          refine CT.mono ?_
          rintro e w9 ⟨rfl, rfl⟩
          go_wp2_with (fail)
          go_roundw
          case rel => exact ⟨k + 1, by omega, by go_num, h2⟩
          case measure => simp [intOf]; omega
    · obtain rfl : k = 4 := by omega
      have hno : ¬ ((4 : Nat) : Int) < 4 := by omega
      have hl := hI.p.part 0 4 (by decide) hlow.out
      have hh := hI.p.part 4 4 (by decide) hhigh.out
      have hr := hI.r
      have bel := hI.b
      have hpw := hI.p.lt
      have hPG : Hid (RowU 114 8 wr w.heap.size G3 (numU (prT x y 4))) := hI.p
      have TT : ∀ X, Below wr.heap.size wr X → X.rangeAt G3 0 (uV LW 4) ∧ X.rangeAt G3 4 (uV HW 4) := fun X hX => ⟨(hI.p.below hX).part 0 4 (by decide) hlow.out, (hI.p.below hX).part 4 4 (by decide) hhigh.out⟩
      replace TT : Hid (∀ X, Below wr.heap.size wr X → X.rangeAt G3 0 (uV LW 4) ∧ X.rangeAt G3 4 (uV HW 4)) := TT
      have hd0 : Below wr.heap.size wr wr.drew := (Below.refl _ _).drew
      have s0 := slice8_low G3
      have s4 := slice8_high G3
      have a0 : ∀ w, (Instr.arrayAt 84 (.slice (some ⟨G3, 0, none⟩) 4 8)).run Tryz.prog w = .ok (.pointer (some ⟨G3, 0, none⟩)) w := fun w => run_arrayAt w 84 _ 4 _ 4 8 Tryz.underlying84 (by omega)
      have a4 : ∀ w, (Instr.arrayAt 84 (.slice (some ⟨G3, 4, none⟩) 4 4)).run Tryz.prog w = .ok (.pointer (some ⟨G3, 4, none⟩)) w := fun w => run_arrayAt w 84 _ 4 _ 4 4 Tryz.underlying84 (by omega)
      clear hI hl hh HEND HC HX
      go_wp2_with (fail)
      refine wp_region_noPanic ?_
      refine wp_region_T 99 (fun X => X.rangeAt G3 0 (uV LW 4) ∧ X.rangeAt G3 4 (uV HW 4)) (fun _ => True) (by kernel_rfl) ?_
      generalize wr.drew = wX at hd0 ⊢
      have hT := TT.out _ hd0
      refine anyT_takeT (i := 0) (v := .slice (some ⟨G3, 0, none⟩) 4 8) rfl (by kernel_rfl) (by kernel_rfl) (by kernel_rfl) (by kernel_rfl) (fun _ _ _ h => h) (Or.inl ⟨by rfl, fun X hSw => by ((try dsimp only at hSw); go_simp)⟩) hT (fun _ => trivial) ?_
      simp only [Act.put, List.getElem_toArray, List.getElem_cons_zero, List.setIfInBounds_toArray, List.set_cons_zero, List.set_cons_succ]
      refine anyT_takeT (i := 1) (v := .pointer (some ⟨G3, 0, none⟩)) rfl (by kernel_rfl) (by kernel_rfl) (by kernel_rfl) (by kernel_rfl) (fun _ _ _ h => h) (Or.inl ⟨by rfl, fun X hSw => by ((try dsimp only at hSw); go_simp)⟩) hT (fun _ => trivial) ?_
      simp only [Act.put, List.getElem_toArray, List.getElem_cons_zero, List.getElem_cons_succ, List.setIfInBounds_toArray, List.set_cons_zero, List.set_cons_succ]
      refine anyT_takeT (i := 2) rfl (by kernel_rfl) (by kernel_rfl) (by kernel_rfl) (by kernel_rfl) (fun _ _ _ h => h) (yieldsIf_load_mid (by rfl) _ _ rfl _ _ rfl (uV LW 4) _ (fun _ hw => hw.1) Tryz.underlying84 rfl sizeU) hT (fun _ => trivial) ?_
      simp only [Act.put, List.getElem_toArray, List.getElem_cons_zero, List.getElem_cons_succ, List.setIfInBounds_toArray, List.set_cons_zero, List.set_cons_succ]
      refine anyT_takeT (i := 3) (v := .slice (some ⟨G3, 4, none⟩) 4 4) rfl (by kernel_rfl) (by kernel_rfl) (by kernel_rfl) (by kernel_rfl) (fun _ _ _ h => h) (Or.inl ⟨by rfl, fun X hSw => by ((try dsimp only at hSw); go_simp)⟩) hT (fun _ => trivial) ?_
      simp only [Act.put, List.getElem_toArray, List.getElem_cons_zero, List.getElem_cons_succ, List.setIfInBounds_toArray, List.set_cons_zero, List.set_cons_succ]
      refine anyT_takeT (i := 4) (v := .pointer (some ⟨G3, 4, none⟩)) rfl (by kernel_rfl) (by kernel_rfl) (by kernel_rfl) (by kernel_rfl) (fun _ _ _ h => h) (Or.inl ⟨by rfl, fun X hSw => by ((try dsimp only at hSw); go_simp)⟩) hT (fun _ => trivial) ?_
      simp only [Act.put, List.getElem_toArray, List.getElem_cons_zero, List.getElem_cons_succ, List.setIfInBounds_toArray, List.set_cons_zero, List.set_cons_succ]
      refine anyT_takeT (i := 5) rfl (by kernel_rfl) (by kernel_rfl) (by kernel_rfl) (by kernel_rfl) (fun _ _ _ h => h) (yieldsIf_load_mid (by rfl) _ _ rfl _ _ rfl (uV HW 4) _ (fun _ hw => hw.2) Tryz.underlying84 rfl sizeU) hT (fun _ => trivial) ?_
      simp only [Act.put, List.getElem_toArray, List.getElem_cons_zero, List.getElem_cons_succ, List.setIfInBounds_toArray, List.set_cons_zero, List.set_cons_succ]
      refine anyT_one (i := 6) (by kernel_rfl) rfl (fun K hK => ?_)
      go_simp
      refine (CR _).mono ?_
      rintro e w2 ⟨rfl, b2⟩
      go_wp2_with (fail)
      have hd2 := below_on hd0 b2
      refine hK.out _ _ (TT.out _ hd2) (fun _ => trivial) ?_
      clear hK K
      have hr2 := hr.below hd2
      have bel2 := below_on bel hd2
      have hs2 := hd2.size
      have hp := hr2.put (f' := V)
      have hth := hr2.there2 (f' := V)
      have hbel := bel2.grown hp.2 (by omega) (fun k hk => by cases hk; exact q4)
      have hld := run_loadVar_mid (P := Tryz.prog) _ G2 0 84 _ _ hp.1.range Tryz.underlying84 rfl sizeU
      have hT3 : (World.setCells w2 G2 0 (uV V 4)).rangeAt G3 0 (uV LW 4) ∧ (World.setCells w2 G2 0 (uV V 4)).rangeAt G3 4 (uV HW 4) := ⟨((hPG.out.below hd2).kept hp.2 q2.symm).part 0 4 (by decide) hlow.out, ((hPG.out.below hd2).kept hp.2 q2.symm).part 4 4 (by decide) hhigh.out⟩
      clear hp
      refine anyT_one (i := 7) (by kernel_rfl) rfl (fun K hK => ?_)
      refine wp_store_mid 84 _ _ rfl G2 0 (uV V 4).toArray rfl rfl hth sizeU2 (all_oneCell_toArray (uV_one V 4)) ?_
      refine hK.out _ _ hT3 (fun _ => trivial) ?_
      clear hK K
      refine anyT_done (by kernel_rfl) ?_ _
      refine NoPanic.normal ?_
      go_wp2_with (fail)
      (try simp only [Exit.inBlock, Exit.then])
      refine bodyPost_ret (v := .agg (uV V 4).toArray) ?_ rfl ⟨rfl, hbel⟩
      simp [results, asAddr, Act.put, hld]

end Go.Proofs.YtdjdanpicbaieaaGreatDoor

namespace Go.Proofs.YtdjdanpicbaieaaGreatDoor
open Go.RowKit
set_option maxRecDepth 100000

/-- Four words, each of one cell. -/
structure Q4 (L : List Value) : Prop where
  len : L.length = 4
  one : ∀ v ∈ L, v.oneCell' = true
theorem q4 (z : Int) : Q4 (uV (numU z) 4) := ⟨uV_length _ _, uV_one _ _⟩
theorem Q4.sz {L : List Value} (h : Q4 L) : (Tryz.prog.info? 84).map (·.size) = some L.length := by rw [h.len]; exact (zero_of_info infoU4).2
theorem Q4.sz2 {L : List Value} (h : Q4 L) : (Tryz.prog.info? 84).map (·.size) = some L.toArray.size := by
  have : L.toArray.size = 4 := by simp [h.len]
  rw [this]; exact (zero_of_info infoU4).2
def RowL (ty n : Nat) (w : World) (lo g : Nat) (L : List Value) : Prop := w.ownsRow lo ty 1 (.slice (some ⟨g, 0, none⟩) n n) n L
def putV (xs : List Value) (o : Nat) : List Value → List Value
  | [] => xs
  | v :: r => putV (xs.set o v) (o + 1) r
theorem ownsV_put {lo e g n c : Nat} (vs : List Value) : ∀ (o : Nat) (w : World) (xs : List Value), w.ownsRow lo e 1 (.slice (some ⟨g, 0, none⟩) n c) n xs →
    (w.setCells g o vs).ownsRow lo e 1 (.slice (some ⟨g, 0, none⟩) n c) n (putV xs o vs) ∧ w.grownBy (w.setCells g o vs) (some g) := by
  induction vs with
  | nil => intro o w xs h; exact ⟨h, World.grownBy.refl _ _⟩
  | cons v r ih =>
    intro o w xs h
    have h1 := h.stored o v
    have h2 := ih (o + 1) _ _ h1.1
    exact ⟨h2.1, grown_trans h1.2 h2.2⟩
theorem putV_mid (A B C : List Value) : ∀ (B' : List Value), B'.length = B.length → putV (A ++ (B ++ C)) A.length B' = A ++ (B' ++ C) := by
  intro B'
  induction B' generalizing A B with
  | nil =>
    intro h
    obtain rfl : B = [] := List.eq_nil_of_length_eq_zero h.symm
    rfl
  | cons v r ih =>
    intro h
    cases B with
    | nil => simp at h
    | cons b B =>
      have := ih (A ++ [v]) B (by simpa using h)
      simp only [putV]
      rw [List.set_append_right _ _ (Nat.le_refl _), Nat.sub_self]
      simpa using this
section
variable {ty n : Nat} {w w' : World} {lo g : Nat} {L : List Value}
theorem RowL.lt (h : RowL ty n w lo g L) : lo ≤ g ∧ g < w.heap.size := World.ownsRow.lt h g rfl
theorem RowL.below (h : RowL ty n w lo g L) (hb : Below w.heap.size w w') : RowL ty n w' lo g L := owns_below h hb
theorem RowL.drew (h : RowL ty n w lo g L) : RowL ty n w.drew lo g L := h.below (Below.refl _ _).drew
theorem RowL.kept {r : Nat} (h : RowL ty n w lo g L) (hg : w.grownBy w' (some r)) (hne : g ≠ r) : RowL ty n w' lo g L := World.ownsRow.kept h hg (.inr (by simp [Value.ownBlock]; exact fun e => hne e))
theorem RowL.length (h : RowL ty n w lo g L) : L.length = n := by simpa using (show w.ownsRow lo ty 1 (.slice (some ⟨g, 0, none⟩) n n) n L from h).1
theorem RowL.mid {A B C : List Value} {o : Nat} (h : RowL ty n w lo g (A ++ (B ++ C))) (ho : A.length = o) : w.rangeAt g o B := by
  intro j v hv
  have hj : j < B.length := (List.getElem?_eq_some_iff.1 hv).1
  have hl := h.length
  have e : (A ++ (B ++ C))[o + j]? = some v := by
    rw [List.getElem?_append_right (by omega), show o + j - A.length = j by omega, List.getElem?_append_left hj, hv]
  have h' : w.ownsRow lo ty 1 (.slice (some ⟨g, 0, none⟩) n n) n (A ++ (B ++ C)) := h
  rw [h'.cellAt (o + j) (by have := (List.getElem?_eq_some_iff.1 e).1; omega), e]
theorem RowL.all (h : RowL ty n w lo g L) : w.rangeAt g 0 L := by
  have h' : RowL ty n w lo g ([] ++ (L ++ [])) := by simpa using h
  exact h'.mid rfl
theorem RowL.there (h : RowL ty n w lo g L) {o m : Nat} (hm : o + m ≤ n) : w.there g o m := by
  intro j hj
  have hl := h.length
  have h' : w.ownsRow lo ty 1 (.slice (some ⟨g, 0, none⟩) n n) n L := h
  rw [h'.cellAt (o + j) (by omega), List.getElem?_eq_getElem (by omega)]
  exact ⟨rfl, World.ownsRow.frozenAt h (o + j)⟩
theorem RowL.putMid {A B B' C : List Value} {o : Nat} (h : RowL ty n w lo g (A ++ (B ++ C))) (ho : A.length = o) (hB : B'.length = B.length) :
    RowL ty n (w.setCells g o B') lo g (A ++ (B' ++ C)) ∧ w.grownBy (w.setCells g o B') (some g) := by
  have k := ownsV_put B' o w _ h
  rw [← ho, putV_mid A B C B' hB, ho] at k
  exact k
theorem RowL.putAll {B : List Value} (h : RowL ty n w lo g L) (hB : B.length = L.length) : RowL ty n (w.setCells g 0 B) lo g B ∧ w.grownBy (w.setCells g 0 B) (some g) := by
  have h' : RowL ty n w lo g ([] ++ (L ++ [])) := by simpa using h
  simpa using h'.putMid (B' := B) rfl hB
theorem RowL.made (w : World) (ty n lo : Nat) (hL : L.length = n) (hn : n ≤ 1000) (hlo : lo ≤ w.heap.size) : RowL ty n (w.alloc (.cells L.toArray ty)) lo w.heap.size L := by
  refine ⟨by simp [hL], .inr ⟨w.heap.size, n, _, rfl, hlo, heap_alloc_new w _, Nat.le_refl _, by unfold maxLen; omega, by simp [hL], ?_⟩⟩
  rw [List.take_of_length_le (by simp [hL])]
end
theorem RowU.rowL {ty n : Nat} {w : World} {lo g : Nat} {f : Nat → Int} (h : RowU ty n w lo g f) : RowL ty n w lo g (uV f n) := h

/-- A ladder: x1, and two points, each as x and z. -/
def LadV (X A C B D : List Value) : List Value := X ++ (A ++ (C ++ (B ++ D)))
theorem LadV_length {X A C B D : List Value} (hX : Q4 X) (hA : Q4 A) (hC : Q4 C) (hB : Q4 B) (hD : Q4 D) : (LadV X A C B D).length = 20 := by
  simp [LadV, hX.len, hA.len, hC.len, hB.len, hD.len]
theorem LadV_one {X A C B D : List Value} (hX : Q4 X) (hA : Q4 A) (hC : Q4 C) (hB : Q4 B) (hD : Q4 D) : ∀ v ∈ LadV X A C B D, v.oneCell' = true := by
  intro v hv
  simp only [LadV, List.mem_append] at hv
  rcases hv with h | h | h | h | h
  · exact hX.one v h
  · exact hA.one v h
  · exact hC.one v h
  · exact hB.one v h
  · exact hD.one v h

theorem infoLad : (Tryz.prog.info? 90).map (fun i => (i.zero, i.size)) = some (some (.agg (uV (fun _ => 0) 20).toArray), 20) := by kernel_rfl

theorem infoRat : (Tryz.prog.info? 88).map (fun i => (i.zero, i.size)) = some (some (.agg (uV (fun _ => 0) 8).toArray), 8) := by kernel_rfl

section
variable {w : World} {lo g : Nat} {X A C B D : List Value}
theorem lad_x (h : RowL 90 20 w lo g (LadV X A C B D)) : w.rangeAt g 0 X := RowL.mid (A := []) (B := X) (C := A ++ (C ++ (B ++ D))) (o := 0) h rfl
theorem lad_a (h : RowL 90 20 w lo g (LadV X A C B D)) (hX : Q4 X) : w.rangeAt g 4 A := RowL.mid (A := X) (B := A) (C := C ++ (B ++ D)) h hX.len
theorem lad_c (h : RowL 90 20 w lo g (LadV X A C B D)) (hX : Q4 X) (hA : Q4 A) : w.rangeAt g 8 C := by
  have h' : RowL 90 20 w lo g ((X ++ A) ++ (C ++ (B ++ D))) := by rw [List.append_assoc]; exact h
  exact h'.mid (by simp [hX.len, hA.len])
theorem lad_b (h : RowL 90 20 w lo g (LadV X A C B D)) (hX : Q4 X) (hA : Q4 A) (hC : Q4 C) : w.rangeAt g 12 B := by
  have h' : RowL 90 20 w lo g ((X ++ (A ++ C)) ++ (B ++ D)) := by rw [List.append_assoc, List.append_assoc]; exact h
  exact h'.mid (by simp [hX.len, hA.len, hC.len])
theorem lad_d (h : RowL 90 20 w lo g (LadV X A C B D)) (hX : Q4 X) (hA : Q4 A) (hC : Q4 C) (hB : Q4 B) : w.rangeAt g 16 D := by
  have h' : RowL 90 20 w lo g ((X ++ (A ++ (C ++ B))) ++ (D ++ [])) := by rw [List.append_nil, List.append_assoc, List.append_assoc, List.append_assoc]; exact h
  exact h'.mid (by simp [hX.len, hA.len, hC.len, hB.len])
theorem lad_ac (h : RowL 90 20 w lo g (LadV X A C B D)) (hX : Q4 X) : w.rangeAt g 4 (A ++ C) := by
  have h' : RowL 90 20 w lo g (X ++ ((A ++ C) ++ (B ++ D))) := by rw [List.append_assoc]; exact h
  exact h'.mid hX.len
theorem lad_bd (h : RowL 90 20 w lo g (LadV X A C B D)) (hX : Q4 X) (hA : Q4 A) (hC : Q4 C) : w.rangeAt g 12 (B ++ D) := by
  have h' : RowL 90 20 w lo g ((X ++ (A ++ C)) ++ ((B ++ D) ++ [])) := by rw [List.append_nil, List.append_assoc, List.append_assoc]; exact h
  exact h'.mid (by simp [hX.len, hA.len, hC.len])
theorem lad_put_ac {A' C' : List Value} (h : RowL 90 20 w lo g (LadV X A C B D)) (hX : Q4 X) (hA : Q4 A) (hC : Q4 C) (hA' : Q4 A') (hC' : Q4 C') :
    RowL 90 20 (w.setCells g 4 (A' ++ C')) lo g (LadV X A' C' B D) ∧ w.grownBy (w.setCells g 4 (A' ++ C')) (some g) := by
  have h' : RowL 90 20 w lo g (X ++ ((A ++ C) ++ (B ++ D))) := by rw [List.append_assoc]; exact h
  have k := h'.putMid (B' := A' ++ C') hX.len (by simp [hA.len, hC.len, hA'.len, hC'.len])
  rw [List.append_assoc] at k
  exact k
theorem lad_put_bd {B' D' : List Value} (h : RowL 90 20 w lo g (LadV X A C B D)) (hX : Q4 X) (hA : Q4 A) (hC : Q4 C) (hB : Q4 B) (hD : Q4 D) (hB' : Q4 B') (hD' : Q4 D') :
    RowL 90 20 (w.setCells g 12 (B' ++ D')) lo g (LadV X A C B' D') ∧ w.grownBy (w.setCells g 12 (B' ++ D')) (some g) := by
  have h' : RowL 90 20 w lo g ((X ++ (A ++ C)) ++ ((B ++ D) ++ [])) := by rw [List.append_nil, List.append_assoc, List.append_assoc]; exact h
  have k := h'.putMid (o := 12) (B' := B' ++ D') (by simp [hX.len, hA.len, hC.len]) (by simp [hB.len, hD.len, hB'.len, hD'.len])
  rw [List.append_nil, List.append_assoc, List.append_assoc] at k
  exact k
end
theorem szLad {L : List Value} (h : L.length = 20) : (Tryz.prog.info? 90).map (·.size) = some L.length := by rw [h]; exact (zero_of_info infoLad).2
theorem szLad2 {L : List Value} (h : L.length = 20) : (Tryz.prog.info? 90).map (·.size) = some L.toArray.size := by
  have : L.toArray.size = 20 := by simp [h]
  rw [this]; exact (zero_of_info infoLad).2
theorem szRat {L : List Value} (h : L.length = 8) : (Tryz.prog.info? 88).map (·.size) = some L.length := by rw [h]; exact (zero_of_info infoRat).2
theorem szRat2 {L : List Value} (h : L.length = 8) : (Tryz.prog.info? 88).map (·.size) = some L.toArray.size := by
  have : L.toArray.size = 8 := by simp [h]
  rw [this]; exact (zero_of_info infoRat).2
theorem rat_length {A C : List Value} (hA : Q4 A) (hC : Q4 C) : (A ++ C).length = 8 := by simp [hA.len, hC.len]
theorem rat_one {A C : List Value} (hA : Q4 A) (hC : Q4 C) : ∀ v ∈ A ++ C, v.oneCell' = true := by
  intro v hv
  rcases List.mem_append.1 hv with h | h
  · exact hA.one v h
  · exact hC.one v h
/-- A ladder's row, and behind it one of noughts for the result. -/
theorem ladRows (w : World) {L : List Value} (hL : L.length = 20) {ty n : Nat} {A Z : Array Value} (hn : n ≤ 1000) (hA : A = L.toArray) (hZ : Z = (uV (fun _ => 0) n).toArray) :
    RowL 90 20 ((w.alloc (.cells A 90)).alloc (.cells Z ty)) w.heap.size w.heap.size L ∧ RowL ty n ((w.alloc (.cells A 90)).alloc (.cells Z ty)) w.heap.size (w.heap.size + 1) (uV (fun _ => 0) n) ∧ Below w.heap.size w ((w.alloc (.cells A 90)).alloc (.cells Z ty)) ∧ ((w.alloc (.cells A 90)).alloc (.cells Z ty)).heap.size = w.heap.size + 1 + 1 := by
  subst hA hZ
  have m0 := RowL.made (L := L) w 90 20 w.heap.size hL (by decide) (Nat.le_refl _)
  obtain ⟨wa, hwa⟩ : ∃ wa, wa = w.alloc (.cells L.toArray 90) := ⟨_, rfl⟩
  rw [← hwa] at m0 ⊢
  have sa : wa.heap.size = w.heap.size + 1 := by rw [hwa]; simp
  have ba : Below w.heap.size w wa := by rw [hwa]; exact (Below.refl _ _).alloc (Nat.le_refl _) _
  have m1 := RowL.made (L := uV (fun _ => 0) n) wa ty n w.heap.size (uV_length _ _) hn (by omega)
  have b1 : Below wa.heap.size wa (wa.alloc (.cells (uV (fun _ => 0) n).toArray ty)) := (Below.refl _ _).alloc (Nat.le_refl _) _
  rw [sa] at m1
  exact ⟨m0.below b1, m1, below_on ba b1, by simp [sa]⟩

end Go.Proofs.YtdjdanpicbaieaaGreatDoor

namespace Go.Proofs.YtdjdanpicbaieaaGreatDoor
open Go.RowKit

theorem RowL.low {ty n : Nat} {w : World} {lo lo' g : Nat} {L : List Value} (h : RowL ty n w lo g L) (hl : lo' ≤ lo) : RowL ty n w lo' g L := owns_mono h hl

theorem yieldsIf_build {P : Program} {ops : Array Oper} {S : World → Prop} {op : Oper} {a : Act} (hw : Region.wanted op (yielded ops a.tmps) = true) (t : TypeId) (parts : Array (Nat × Operand)) (ho : op.op = .build t parts)
    (vs : Array (Nat × Value)) (hvs : (parts.map fun (i, x) => (i, a.eval x)) = vs) {v : Value} (hr : ∀ w, (Instr.build t vs).run P w = .ok v w) : YieldsIf P ops S op v a :=
  .inl ⟨hw, fun w _ => by
    unfold execOp
    subst hvs
    simp only [ho, Sem.run_bind, Sem.run_pure, Result.andThen_ok, hr]⟩
theorem wpL_build_run {P : Program} {ops : Array Oper} {rest : List Oper} {o : Oper} {a : Act} {w : World} {Q : Exit → Act → World → Prop} (hgd : o.guard = none) (t : TypeId) (parts : Array (Nat × Operand)) (ho : o.op = .build t parts)
    (vs : Array (Nat × Value)) (hvs : (parts.map fun (i, x) => (i, a.eval x)) = vs) {v : Value} (hr : (Instr.build t vs).run P w = .ok v w) (h : wpList P ops Q rest (a.put o.dst v) w) : wpList P ops Q (o :: rest) a w :=
  wpList_plain hgd fun _ hK => by
    unfold Oper.wp execOp
    subst hvs
    simp only [ho, Sem.run_bind, Sem.run_pure, Result.andThen_ok, hr]
    exact hK _ _ h
theorem four_of {L : List Value} (h : Q4 L) : ∃ a b c d, L = [a, b, c, d] := by
  have hl := h.len
  match L, hl with
  | [a, b, c, d], _ => exact ⟨a, b, c, d, rfl⟩
theorem b_rat {A C : List Value} (hA : Q4 A) (hC : Q4 C) (w : World) : (Instr.build 88 #[(0, .agg A.toArray), (1, .agg C.toArray)]).run Tryz.prog w = .ok (.agg (A ++ C).toArray) w := by
  obtain ⟨a, b, c, d, rfl⟩ := four_of hA
  obtain ⟨a', b', c', d', rfl⟩ := four_of hC
  exact run_build w 88 _ _ (by kernel_rfl)

theorem b_rat1 {A C : List Value} (hA : Q4 A) (hC : C = uV (numU 0) 4) (w : World) : (Instr.build 88 #[(0, .agg A.toArray)]).run Tryz.prog w = .ok (.agg (A ++ C).toArray) w := by
  obtain ⟨a, b, c, d, rfl⟩ := four_of hA
  subst hC
  exact run_build w 88 _ _ (by kernel_rfl)

theorem b_lad {X A C B D : List Value} (hX : Q4 X) (hA : Q4 A) (hC : Q4 C) (hB : Q4 B) (hD : Q4 D) (w : World) : (Instr.build 90 #[(0, .agg X.toArray), (1, .agg (A ++ C).toArray), (2, .agg (B ++ D).toArray)]).run Tryz.prog w = .ok (.agg (LadV X A C B D).toArray) w := by
  obtain ⟨a, b, c, d, rfl⟩ := four_of hX
  obtain ⟨a1, b1, c1, d1, rfl⟩ := four_of hA
  obtain ⟨a2, b2, c2, d2, rfl⟩ := four_of hC
  obtain ⟨a3, b3, c3, d3, rfl⟩ := four_of hB
  obtain ⟨a4, b4, c4, d4, rfl⟩ := four_of hD
  exact run_build w 90 _ _ (by kernel_rfl)

theorem b_one {A : List Value} (hA : A = uV (numU 1) 4) (w : World) : (Instr.build 84 #[(0, .int .u64 1)]).run Tryz.prog w = .ok (.agg A.toArray) w := by
  subst hA
  exact run_build w 84 _ _ (by kernel_rfl)

theorem b_curve {A : List Value} (hA : A = uV (numU 121665) 4) (w : World) : (Instr.build 84 #[(0, .int .u64 121665)]).run Tryz.prog w = .ok (.agg A.toArray) w := by
  subst hA
  exact run_build w 84 _ _ (by kernel_rfl)

set_option maxRecDepth 100000 in
set_option maxHeartbeats 8000000 in
theorem ladderAt_sym (LX L1 L0 : List Value) (w : World) (hX : Q4 LX) (h1 : L1 = uV (numU 1) 4) (h0 : L0 = uV (numU 0) 4) :
    Calls Tryz.prog 62 #[.agg LX.toArray] w fun e w' => e = .returned (.agg (LadV LX L1 L0 LX L1).toArray) ∧ Below w.heap.size w w' := by
  have q1 : Q4 L1 := by rw [h1]; exact q4 1
  have q0 : Q4 L0 := by rw [h0]; exact q4 0
  have B1 := fun X => b_one h1 X
  have B2 := fun X => b_rat1 q1 h0 X
  have B3 := fun X => b_rat hX q1 X
  have B4 := fun X => b_lad hX q1 q0 hX q1 X
  have hlen := LadV_length hX q1 q0 hX q1
  have hone := LadV_one hX q1 q0 hX q1
  obtain ⟨LR, hR⟩ : ∃ L, L = LadV LX L1 L0 LX L1 := ⟨_, rfl⟩
  rw [← hR] at hlen hone ⊢
  simp only [← hR] at B4
  clear hR h0
  obtain ⟨LP, hP⟩ : ∃ L, L = L1 ++ L0 := ⟨_, rfl⟩
  simp only [← hP] at B2 B4
  obtain ⟨LQ, hQ⟩ : ∃ L, L = LX ++ L1 := ⟨_, rfl⟩
  simp only [← hQ] at B3 B4
  clear hP hQ
  have hz := (zero_of_info infoLad).1
  have hzf := (zero_of_info infoU4).1
  obtain ⟨Z, hZ⟩ : ∃ Z, Z = (uV (fun _ => 0) 20).toArray := ⟨_, rfl⟩
  obtain ⟨Zf, hZf⟩ : ∃ Z, Z = (uV (fun _ => 0) 4).toArray := ⟨_, rfl⟩
  rw [← hZ] at hz
  rw [← hZf] at hzf
  have hZ1 : Zf.setIfInBounds 0 (Value.int .u64 1) = L1.toArray := by rw [hZf, h1]; kernel_rfl
  have m0 := RowL.made (L := LX) w 84 4 w.heap.size hX.len (by decide) (Nat.le_refl _)
  obtain ⟨w0, hw0⟩ : ∃ W, W = w.alloc (.cells LX.toArray 84) := ⟨_, rfl⟩
  rw [← hw0] at m0
  have s0 : w0.heap.size = w.heap.size + 1 := by rw [hw0]; simp
  have bel : Below w.heap.size w w0 := by rw [hw0]; exact (Below.refl _ _).alloc (Nat.le_refl _) _
  have m1 := RowL.made (L := uV (fun _ => 0) 20) w0 90 20 w.heap.size (uV_length _ _) (by decide) (by omega)
  rw [← hZ, s0] at m1
  have b1 : Below w0.heap.size w0 (w0.alloc (.cells Z 90)) := (Below.refl _ _).alloc (Nat.le_refl _) _
  obtain ⟨w1, hw1⟩ : ∃ W, W = w0.alloc (.cells Z 90) := ⟨_, rfl⟩
  rw [← hw1] at m1 b1
  have s1 : w1.heap.size = w.heap.size + 1 + 1 := by rw [hw1]; simp [s0]
  replace m0 := m0.below b1
  replace bel := below_on bel b1
  have m2 := RowL.made (L := uV (fun _ => 0) 4) w1 84 4 w.heap.size (uV_length _ _) (by decide) (by omega)
  rw [← hZf, s1] at m2
  have b2 : Below w1.heap.size w1 (w1.alloc (.cells Zf 84)) := (Below.refl _ _).alloc (Nat.le_refl _) _
  obtain ⟨w2, hw2⟩ : ∃ W, W = w1.alloc (.cells Zf 84) := ⟨_, rfl⟩
  rw [← hw2] at m2 b2
  replace m0 := m0.below b2
  replace m1 := m1.below b2
  replace bel := below_on bel b2
  have t2 := m2.there (o := 0) (m := L1.toArray.size) (by simp [q1.len])
  have p2 := m2.putAll (B := L1) (by rw [q1.len, uV_length])
  replace m0 := m0.kept p2.2 (by omega)
  replace m1 := m1.kept p2.2 (by omega)
  replace bel := bel.grown p2.2 bel.size (fun k hk => by cases hk; omega)
  have m2' := p2.1
  have ra := m0.all
  have rb := m2'.all
  have t1 := m1.there (o := 0) (m := LR.toArray.size) (by simp [hlen])
  have p1 := m1.putAll (B := LR) (by rw [hlen, uV_length])
  replace bel := bel.grown p1.2 bel.size (fun k hk => by cases hk; omega)
  have hld := run_loadVar_mid (P := Tryz.prog) _ _ 0 90 _ _ p1.1.all Tryz.underlying90 rfl (szLad hlen)
  have z1 := hX.sz
  have z2 := q1.sz
  have z3 := q1.sz2
  have z4 := szLad2 hlen
  have o1 := q1.one
  clear m0 m1 m2 m2' p1 p2 b1 b2 hZ hZf h1
  rw [hw2, hw1, hw0] at t2 ra rb t1 bel hld
  clear hw2 hw1 hw0 s0 s1
  clear w0 w1 w2
  go_enter Tryz.func62, Tryz.ntmps62
  go_wp2_with (first | (refine wpL_build_run rfl 84 #[(0, .const (.int .u64 1))] rfl #[(0, .int .u64 1)] (by simp [Act.eval, Act.put]) (B1 _) ?_) | (with_reducible refine wpList_store_mid rfl 84 _ _ rfl (w.heap.size + 1 + 1) 0 L1.toArray rfl rfl t2 z3 (all_oneCell_toArray o1) ?_; (try dsimp only)) | (with_reducible refine wpList_load_mid rfl 84 _ rfl w.heap.size 0 rfl LX _ ra Tryz.underlying84 rfl z1 ?_) | (with_reducible refine wpList_load_mid rfl 84 _ rfl (w.heap.size + 1 + 1) 0 rfl L1 _ rb Tryz.underlying84 rfl z2 ?_) | (refine wpL_build_run rfl 88 #[(0, .tmp 6)] rfl #[(0, .agg L1.toArray)] (by simp [Act.eval, Act.put]) (B2 _) ?_) | (refine wpL_build_run rfl 88 #[(0, .tmp 8), (1, .tmp 9)] rfl #[(0, .agg LX.toArray), (1, .agg L1.toArray)] (by simp [Act.eval, Act.put]) (B3 _) ?_) | (refine wpL_build_run rfl 90 #[(0, .tmp 5), (1, .tmp 7), (2, .tmp 10)] rfl #[(0, .agg LX.toArray), (1, .agg LP.toArray), (2, .agg LQ.toArray)] (by simp [Act.eval, Act.put]) (B4 _) ?_) | (with_reducible refine wpList_store_mid rfl 90 _ _ rfl (w.heap.size + 1) 0 LR.toArray rfl rfl t1 z4 (all_oneCell_toArray hone) ?_; (try dsimp only)))
  (try simp only [Exit.inBlock, Exit.then])
  refine bodyPost_ret (v := .agg LR.toArray) ?_ rfl ⟨rfl, bel⟩
  simp [results, asAddr, Act.put, hld]

set_option maxRecDepth 100000 in
set_option maxHeartbeats 8000000 in
theorem changed_true (LX LA LC LB LD : List Value) (w : World) (hX : Q4 LX) (hA : Q4 LA) (hC : Q4 LC) (hB : Q4 LB) (hD : Q4 LD) :
    Calls Tryz.prog 97 #[.agg (LadV LX LA LC LB LD).toArray, .bool true] w fun e w' => e = .returned (.agg (LadV LX LB LD LA LC).toArray) ∧ Below w.heap.size w w' := by
  have hz := (zero_of_info infoLad).1
  obtain ⟨Z20, hZ20⟩ : ∃ Z, Z = (uV (fun _ => 0) 20).toArray := ⟨_, rfl⟩
  rw [← hZ20] at hz
  have hlen0 := LadV_length hX hA hC hB hD
  obtain ⟨LA0, hL0⟩ : ∃ A, A = LadV LX LA LC LB LD := ⟨_, rfl⟩
  obtain ⟨AL, hAL⟩ : ∃ A, A = LA0.toArray := ⟨_, rfl⟩
  have hpre : AL = (LadV LX LA LC LB LD).toArray := by rw [hAL, hL0]
  obtain ⟨rl, rr, bel, sz⟩ := ladRows w hlen0 (ty := 90) (n := 20) (by decide) hpre hZ20
  rw [← hpre]
  generalize hwb : (w.alloc (.cells AL 90)).alloc (.cells Z20 90) = wb at rl rr bel sz
  have q1 := lad_bd rl hX hA hC
  have q2 := lad_ac rl hX
  have t1 := rl.there (o := 4) (m := (LB ++ LD).toArray.size) (by simp [hB.len, hD.len])
  have p1 := lad_put_ac rl hX hA hC hB hD
  replace rr := rr.kept p1.2 (by omega)
  replace bel := bel.grown p1.2 bel.size (fun k hk => by cases hk; exact Nat.le_refl _)
  have t2 := p1.1.there (o := 12) (m := (LA ++ LC).toArray.size) (by simp [hA.len, hC.len])
  have p2 := lad_put_bd p1.1 hX hB hD hB hD hA hC
  replace rr := rr.kept p2.2 (by omega)
  replace bel := bel.grown p2.2 bel.size (fun k hk => by cases hk; exact Nat.le_refl _)
  have rf := p2.1
  have y1 := szRat (rat_length hB hD)
  have y2 := szRat (rat_length hA hC)
  have y3 := szRat2 (rat_length hB hD)
  have y4 := szRat2 (rat_length hA hC)
  have y5 := rat_one hB hD
  have y6 := rat_one hA hC
  have hlen := LadV_length hX hB hD hA hC
  have hone := LadV_one hX hB hD hA hC
  obtain ⟨LR, hR⟩ : ∃ L, L = LadV LX LB LD LA LC := ⟨_, rfl⟩
  rw [← hR] at rf hlen hone ⊢
  have q3 := rf.all
  have t3 := rr.there (o := 0) (m := LR.toArray.size) (by simp [hlen])
  have p3 := rr.putAll (B := LR) (by rw [hlen, uV_length])
  replace bel := bel.grown p3.2 bel.size (fun k hk => by cases hk; omega)
  have hld := run_loadVar_mid (P := Tryz.prog) _ _ 0 90 _ _ p3.1.all Tryz.underlying90 rfl (szLad hlen)
  have z3 := szLad hlen
  have z4 := szLad2 hlen
  obtain ⟨LP, hP⟩ : ∃ L, L = LA ++ LC := ⟨_, rfl⟩
  obtain ⟨LQ, hQ⟩ : ∃ L, L = LB ++ LD := ⟨_, rfl⟩
  rw [← hQ] at q1 t1 y1 y3 y5 q3 t3 bel hld t2
  rw [← hP] at q2 t2 y2 y4 y6 q3 t3 bel hld
  clear p1 p2 hP hQ
  clear rl rr rf p3 hR hL0 hpre hAL hlen0 hlen hZ20 sz hX hA hC hB hD
  rw [← hwb] at q1 q2 t1 t2 q3 t3 bel hld
  clear hwb
  clear LA0
  clear wb LA LB LC LD LX
  go_enter Tryz.func97, Tryz.ntmps97
  go_wp2_with (first | (with_reducible refine wpList_load_mid rfl 88 _ rfl w.heap.size 12 rfl LQ _ q1 Tryz.underlying88 rfl y1 ?_) | (with_reducible refine wpList_load_mid rfl 88 _ rfl w.heap.size 4 rfl LP _ q2 Tryz.underlying88 rfl y2 ?_) | (with_reducible refine wpList_store_mid rfl 88 _ _ rfl w.heap.size 4 LQ.toArray rfl rfl t1 y3 (all_oneCell_toArray y5) ?_; (try dsimp only)) | (with_reducible refine wpList_store_mid rfl 88 _ _ rfl w.heap.size 12 LP.toArray rfl rfl t2 y4 (all_oneCell_toArray y6) ?_; (try dsimp only)) | (with_reducible refine wpList_load_mid rfl 90 _ rfl w.heap.size 0 rfl LR _ q3 Tryz.underlying90 rfl z3 ?_) | (with_reducible refine wpList_store_mid rfl 90 _ _ rfl (w.heap.size + 1) 0 LR.toArray rfl rfl t3 z4 (all_oneCell_toArray hone) ?_; (try dsimp only)))
  (try simp only [Exit.inBlock, Exit.then])
  refine bodyPost_ret (v := .agg LR.toArray) ?_ rfl ⟨rfl, bel⟩
  simp [results, asAddr, Act.put, hld]

set_option maxRecDepth 100000 in
set_option maxHeartbeats 8000000 in
theorem changed_false (LX LA LC LB LD : List Value) (w : World) (hX : Q4 LX) (hA : Q4 LA) (hC : Q4 LC) (hB : Q4 LB) (hD : Q4 LD) :
    Calls Tryz.prog 97 #[.agg (LadV LX LA LC LB LD).toArray, .bool false] w fun e w' => e = .returned (.agg (LadV LX LA LC LB LD).toArray) ∧ Below w.heap.size w w' := by
  have hz := (zero_of_info infoLad).1
  obtain ⟨Z20, hZ20⟩ : ∃ Z, Z = (uV (fun _ => 0) 20).toArray := ⟨_, rfl⟩
  rw [← hZ20] at hz
  have hlen0 := LadV_length hX hA hC hB hD
  obtain ⟨LA0, hL0⟩ : ∃ A, A = LadV LX LA LC LB LD := ⟨_, rfl⟩
  obtain ⟨AL, hAL⟩ : ∃ A, A = LA0.toArray := ⟨_, rfl⟩
  have hpre : AL = (LadV LX LA LC LB LD).toArray := by rw [hAL, hL0]
  obtain ⟨rl, rr, bel, sz⟩ := ladRows w hlen0 (ty := 90) (n := 20) (by decide) hpre hZ20
  obtain ⟨LR, hR⟩ : ∃ L, L = LadV LX LA LC LB LD := ⟨_, rfl⟩
  have hpr2 : AL = LR.toArray := by rw [hpre, hR]
  rw [← hR]
  obtain ⟨RV, hRV⟩ : ∃ v, v = Value.agg LR.toArray := ⟨_, rfl⟩
  have hre : Calls Tryz.prog 97 #[.agg AL, .bool false] w (fun e w' => e = .returned RV ∧ Below w.heap.size w w') → Calls Tryz.prog 97 #[.agg LR.toArray, .bool false] w fun e w' => e = .returned (.agg LR.toArray) ∧ Below w.heap.size w w' := fun h => by rw [hpr2, hRV] at h; exact h
  refine hre ?_
  rw [hRV]
  clear hre hRV
  generalize hwb : (w.alloc (.cells AL 90)).alloc (.cells Z20 90) = wb at rl rr bel sz
  have rf := rl
  have hlen := hlen0
  have hone := LadV_one hX hA hC hB hD
  rw [← hR] at rf hlen hone
  have q3 := rf.all
  have t3 := rr.there (o := 0) (m := LR.toArray.size) (by simp [hlen])
  have p3 := rr.putAll (B := LR) (by rw [hlen, uV_length])
  replace bel := bel.grown p3.2 bel.size (fun k hk => by cases hk; omega)
  have hld := run_loadVar_mid (P := Tryz.prog) _ _ 0 90 _ _ p3.1.all Tryz.underlying90 rfl (szLad hlen)
  have z3 := szLad hlen
  have z4 := szLad2 hlen
  clear rl rr rf p3 hR hL0 hpre hAL hlen0 hlen hZ20 sz hX hA hC hB hD hpr2
  rw [← hwb] at q3 t3 bel hld
  clear hwb
  clear LA0
  clear wb LA LB LC LD LX
  go_enter Tryz.func97, Tryz.ntmps97
  go_wp2_with (first | (with_reducible refine wpList_load_mid rfl 90 _ rfl w.heap.size 0 rfl LR _ q3 Tryz.underlying90 rfl z3 ?_) | (with_reducible refine wpList_store_mid rfl 90 _ _ rfl (w.heap.size + 1) 0 LR.toArray rfl rfl t3 z4 (all_oneCell_toArray hone) ?_; (try dsimp only)))
  (try simp only [Exit.inBlock, Exit.then])
  refine bodyPost_ret (v := .agg LR.toArray) ?_ rfl ⟨rfl, bel⟩
  simp [results, asAddr, Act.put, hld]


end Go.Proofs.YtdjdanpicbaieaaGreatDoor

namespace Go.Proofs.YtdjdanpicbaieaaGreatDoor
open Go.RowKit

set_option maxRecDepth 100000 in
set_option maxHeartbeats 8000000 in
theorem step_sym (LX LA LC LB LD LK La Lb Laa Lbb Le Lc Ld Lda Lcb Lboth Lbet LnB Lbb2 LnD LnA Lek Ls LnC : List Value) (w : World) (hK : LK = uV (numU 121665) 4) (qX : Q4 LX) (qA : Q4 LA) (qC : Q4 LC) (qB : Q4 LB) (qD : Q4 LD) (qa : Q4 La) (qb : Q4 Lb) (qaa : Q4 Laa) (qbb : Q4 Lbb) (qe : Q4 Le) (qc : Q4 Lc) (qd : Q4 Ld) (qda : Q4 Lda) (qcb : Q4 Lcb) (qboth : Q4 Lboth) (qbet : Q4 Lbet) (qnB : Q4 LnB) (qnD : Q4 LnD) (qnA : Q4 LnA) (qnC : Q4 LnC)
    (CP1 : ∀ X, Calls Tryz.prog 131 #[.agg LA.toArray, .agg LC.toArray] X fun e w' => e = .returned (.agg La.toArray) ∧ Below X.heap.size X w')
    (CM1 : ∀ X, Calls Tryz.prog 132 #[.agg LA.toArray, .agg LC.toArray] X fun e w' => e = .returned (.agg Lb.toArray) ∧ Below X.heap.size X w')
    (CT1 : ∀ X, Calls Tryz.prog 64 #[.agg La.toArray, .agg La.toArray] X fun e w' => e = .returned (.agg Laa.toArray) ∧ Below X.heap.size X w')
    (CT2 : ∀ X, Calls Tryz.prog 64 #[.agg Lb.toArray, .agg Lb.toArray] X fun e w' => e = .returned (.agg Lbb.toArray) ∧ Below X.heap.size X w')
    (CM2 : ∀ X, Calls Tryz.prog 132 #[.agg Laa.toArray, .agg Lbb.toArray] X fun e w' => e = .returned (.agg Le.toArray) ∧ Below X.heap.size X w')
    (CP2 : ∀ X, Calls Tryz.prog 131 #[.agg LB.toArray, .agg LD.toArray] X fun e w' => e = .returned (.agg Lc.toArray) ∧ Below X.heap.size X w')
    (CM3 : ∀ X, Calls Tryz.prog 132 #[.agg LB.toArray, .agg LD.toArray] X fun e w' => e = .returned (.agg Ld.toArray) ∧ Below X.heap.size X w')
    (CT3 : ∀ X, Calls Tryz.prog 64 #[.agg Ld.toArray, .agg La.toArray] X fun e w' => e = .returned (.agg Lda.toArray) ∧ Below X.heap.size X w')
    (CT4 : ∀ X, Calls Tryz.prog 64 #[.agg Lc.toArray, .agg Lb.toArray] X fun e w' => e = .returned (.agg Lcb.toArray) ∧ Below X.heap.size X w')
    (CP3 : ∀ X, Calls Tryz.prog 131 #[.agg Lda.toArray, .agg Lcb.toArray] X fun e w' => e = .returned (.agg Lboth.toArray) ∧ Below X.heap.size X w')
    (CM4 : ∀ X, Calls Tryz.prog 132 #[.agg Lda.toArray, .agg Lcb.toArray] X fun e w' => e = .returned (.agg Lbet.toArray) ∧ Below X.heap.size X w')
    (CT5 : ∀ X, Calls Tryz.prog 64 #[.agg Lboth.toArray, .agg Lboth.toArray] X fun e w' => e = .returned (.agg LnB.toArray) ∧ Below X.heap.size X w')
    (CT6 : ∀ X, Calls Tryz.prog 64 #[.agg Lbet.toArray, .agg Lbet.toArray] X fun e w' => e = .returned (.agg Lbb2.toArray) ∧ Below X.heap.size X w')
    (CT7 : ∀ X, Calls Tryz.prog 64 #[.agg LX.toArray, .agg Lbb2.toArray] X fun e w' => e = .returned (.agg LnD.toArray) ∧ Below X.heap.size X w')
    (CT8 : ∀ X, Calls Tryz.prog 64 #[.agg Laa.toArray, .agg Lbb.toArray] X fun e w' => e = .returned (.agg LnA.toArray) ∧ Below X.heap.size X w')
    (CT9 : ∀ X, Calls Tryz.prog 64 #[.agg Le.toArray, .agg LK.toArray] X fun e w' => e = .returned (.agg Lek.toArray) ∧ Below X.heap.size X w')
    (CP4 : ∀ X, Calls Tryz.prog 131 #[.agg Laa.toArray, .agg Lek.toArray] X fun e w' => e = .returned (.agg Ls.toArray) ∧ Below X.heap.size X w')
    (CT10 : ∀ X, Calls Tryz.prog 64 #[.agg Le.toArray, .agg Ls.toArray] X fun e w' => e = .returned (.agg LnC.toArray) ∧ Below X.heap.size X w')
    : Calls Tryz.prog 98 #[.agg (LadV LX LA LC LB LD).toArray] w fun e w' => e = .returned (.agg (LadV LX LnA LnC LnB LnD).toArray) ∧ Below w.heap.size w w' := by
  have hz := (zero_of_info infoLad).1
  obtain ⟨Z20, hZ20⟩ : ∃ Z, Z = (uV (fun _ => 0) 20).toArray := ⟨_, rfl⟩
  rw [← hZ20] at hz
  have BK := fun X => b_curve hK X
  have qK : Q4 LK := by rw [hK]; exact q4 _
  clear hK
  have hlen0 := LadV_length qX qA qC qB qD
  obtain ⟨AL, hAL⟩ : ∃ A, A = (LadV LX LA LC LB LD).toArray := ⟨_, rfl⟩
  obtain ⟨rl, rr, bel, sz⟩ := ladRows w hlen0 (ty := 90) (n := 20) (by decide) hAL hZ20
  rw [← hAL]
  clear hAL hlen0
  obtain ⟨LR, hR⟩ : ∃ L, L = LadV LX LnA LnC LnB LnD := ⟨_, rfl⟩
  rw [← hR]
  replace hR : Hid (LR = LadV LX LnA LnC LnB LnD) := hR
  have hzf := (zero_of_info infoU4).1
  obtain ⟨Z, hZ⟩ : ∃ Z, Z = (uV (fun _ => 0) 4).toArray := ⟨_, rfl⟩
  rw [← hZ] at hzf
  replace hZ : Hid (Z = (uV (fun _ => 0) 4).toArray) := hZ
  replace hZ20 : Hid (Z20 = (uV (fun _ => 0) 20).toArray) := hZ20
  go_enter Tryz.func98, Tryz.ntmps98
  go_wp2_with (fail)
  obtain ⟨Gr, hGr⟩ : ∃ G, G = w.heap.size + 1 := ⟨_, rfl⟩
  rw [← hGr] at rr sz ⊢
  generalize (w.alloc (.cells AL 90)).alloc (.cells Z20 90) = wb at rl rr bel sz ⊢
  have oGr : w.heap.size < Gr := by omega
  clear hGr sz hz hZ20
  clear Z20
  have hd0 : Below wb.heap.size wb wb.drew := (Below.refl _ _).drew
  refine wp_region_noPanic ?_
  refine wp_region_T 99 (fun X => X.rangeAt w.heap.size 4 LA ∧ X.rangeAt w.heap.size 8 LC) (fun _ => True) (by kernel_rfl) ?_
  generalize wb.drew = W1 at hd0 ⊢
  replace rl := rl.below hd0
  replace rr := rr.below hd0
  replace bel := below_on bel hd0
  clear hd0
  have hT : W1.rangeAt w.heap.size 4 LA ∧ W1.rangeAt w.heap.size 8 LC := ⟨(lad_a rl qX), (lad_c rl qX qA)⟩
  refine anyT_takeT (i := 0) (v := .pointer (some ⟨w.heap.size, 4, none⟩)) rfl (by kernel_rfl) (by kernel_rfl) (by kernel_rfl) (by kernel_rfl) (fun _ _ _ h => h) (Or.inl ⟨by rfl, fun X hSw => by ((try dsimp only at hSw); go_simp)⟩) hT (fun _ => trivial) ?_
  simp only [Act.put, List.getElem_toArray, List.getElem_cons_zero, List.setIfInBounds_toArray, List.set_cons_zero, List.set_cons_succ]
  refine anyT_takeT (i := 1) (v := .pointer (some ⟨w.heap.size, 4, none⟩)) rfl (by kernel_rfl) (by kernel_rfl) (by kernel_rfl) (by kernel_rfl) (fun _ _ _ h => h) (Or.inl ⟨by rfl, fun X hSw => by ((try dsimp only at hSw); go_simp)⟩) hT (fun _ => trivial) ?_
  simp only [Act.put, List.getElem_toArray, List.getElem_cons_zero, List.getElem_cons_succ, List.setIfInBounds_toArray, List.set_cons_zero, List.set_cons_succ]
  refine anyT_takeT (i := 2) rfl (by kernel_rfl) (by kernel_rfl) (by kernel_rfl) (by kernel_rfl) (fun _ _ _ h => h) (yieldsIf_load_mid (by rfl) _ _ rfl _ _ rfl LA _ (fun _ hw => hw.1) Tryz.underlying84 rfl qA.sz) hT (fun _ => trivial) ?_
  simp only [Act.put, List.getElem_toArray, List.getElem_cons_zero, List.getElem_cons_succ, List.setIfInBounds_toArray, List.set_cons_zero, List.set_cons_succ]
  refine anyT_takeT (i := 3) (v := .pointer (some ⟨w.heap.size, 4, none⟩)) rfl (by kernel_rfl) (by kernel_rfl) (by kernel_rfl) (by kernel_rfl) (fun _ _ _ h => h) (Or.inl ⟨by rfl, fun X hSw => by ((try dsimp only at hSw); go_simp)⟩) hT (fun _ => trivial) ?_
  simp only [Act.put, List.getElem_toArray, List.getElem_cons_zero, List.getElem_cons_succ, List.setIfInBounds_toArray, List.set_cons_zero, List.set_cons_succ]
  refine anyT_takeT (i := 4) (v := .pointer (some ⟨w.heap.size, 8, none⟩)) rfl (by kernel_rfl) (by kernel_rfl) (by kernel_rfl) (by kernel_rfl) (fun _ _ _ h => h) (Or.inl ⟨by rfl, fun X hSw => by ((try dsimp only at hSw); go_simp)⟩) hT (fun _ => trivial) ?_
  simp only [Act.put, List.getElem_toArray, List.getElem_cons_zero, List.getElem_cons_succ, List.setIfInBounds_toArray, List.set_cons_zero, List.set_cons_succ]
  refine anyT_takeT (i := 5) rfl (by kernel_rfl) (by kernel_rfl) (by kernel_rfl) (by kernel_rfl) (fun _ _ _ h => h) (yieldsIf_load_mid (by rfl) _ _ rfl _ _ rfl LC _ (fun _ hw => hw.2) Tryz.underlying84 rfl qC.sz) hT (fun _ => trivial) ?_
  simp only [Act.put, List.getElem_toArray, List.getElem_cons_zero, List.getElem_cons_succ, List.setIfInBounds_toArray, List.set_cons_zero, List.set_cons_succ]
  refine anyT_takeT (i := 7) (v := .pointer (some ⟨w.heap.size, 4, none⟩)) rfl (by kernel_rfl) (by kernel_rfl) (by kernel_rfl) (by kernel_rfl) (fun _ _ _ h => h) (Or.inl ⟨by rfl, fun X hSw => by ((try dsimp only at hSw); go_simp)⟩) hT (fun _ => trivial) ?_
  simp only [Act.put, List.getElem_toArray, List.getElem_cons_zero, List.getElem_cons_succ, List.setIfInBounds_toArray, List.set_cons_zero, List.set_cons_succ]
  refine anyT_takeT (i := 8) (v := .pointer (some ⟨w.heap.size, 4, none⟩)) rfl (by kernel_rfl) (by kernel_rfl) (by kernel_rfl) (by kernel_rfl) (fun _ _ _ h => h) (Or.inl ⟨by rfl, fun X hSw => by ((try dsimp only at hSw); go_simp)⟩) hT (fun _ => trivial) ?_
  simp only [Act.put, List.getElem_toArray, List.getElem_cons_zero, List.getElem_cons_succ, List.setIfInBounds_toArray, List.set_cons_zero, List.set_cons_succ]
  refine anyT_takeT (i := 9) rfl (by kernel_rfl) (by kernel_rfl) (by kernel_rfl) (by kernel_rfl) (fun _ _ _ h => h) (yieldsIf_load_mid (by rfl) _ _ rfl _ _ rfl LA _ (fun _ hw => hw.1) Tryz.underlying84 rfl qA.sz) hT (fun _ => trivial) ?_
  simp only [Act.put, List.getElem_toArray, List.getElem_cons_zero, List.getElem_cons_succ, List.setIfInBounds_toArray, List.set_cons_zero, List.set_cons_succ]
  refine anyT_takeT (i := 10) (v := .pointer (some ⟨w.heap.size, 4, none⟩)) rfl (by kernel_rfl) (by kernel_rfl) (by kernel_rfl) (by kernel_rfl) (fun _ _ _ h => h) (Or.inl ⟨by rfl, fun X hSw => by ((try dsimp only at hSw); go_simp)⟩) hT (fun _ => trivial) ?_
  simp only [Act.put, List.getElem_toArray, List.getElem_cons_zero, List.getElem_cons_succ, List.setIfInBounds_toArray, List.set_cons_zero, List.set_cons_succ]
  refine anyT_takeT (i := 11) (v := .pointer (some ⟨w.heap.size, 8, none⟩)) rfl (by kernel_rfl) (by kernel_rfl) (by kernel_rfl) (by kernel_rfl) (fun _ _ _ h => h) (Or.inl ⟨by rfl, fun X hSw => by ((try dsimp only at hSw); go_simp)⟩) hT (fun _ => trivial) ?_
  simp only [Act.put, List.getElem_toArray, List.getElem_cons_zero, List.getElem_cons_succ, List.setIfInBounds_toArray, List.set_cons_zero, List.set_cons_succ]
  refine anyT_takeT (i := 12) rfl (by kernel_rfl) (by kernel_rfl) (by kernel_rfl) (by kernel_rfl) (fun _ _ _ h => h) (yieldsIf_load_mid (by rfl) _ _ rfl _ _ rfl LC _ (fun _ hw => hw.2) Tryz.underlying84 rfl qC.sz) hT (fun _ => trivial) ?_
  simp only [Act.put, List.getElem_toArray, List.getElem_cons_zero, List.getElem_cons_succ, List.setIfInBounds_toArray, List.set_cons_zero, List.set_cons_succ]
  clear hT
  refine anyT_pair (c1 := 6) (c2 := 13) (b1 := 14) (b2 := 15) (d1 := 3) (d2 := 4) (e1 := 20) (e2 := 27) (ty := 84) (Z := Z) (pt := fun g => .pointer (some ⟨g, 0, none⟩)) (v1 := .agg La.toArray) (v2 := .agg Lb.toArray) (by kernel_rfl) (by rfl) hZ.out (fun X hX => ⟨(lad_a (rl.below hX) qX), (lad_c (rl.below hX) qX qA)⟩) ?_ ?_ ?_ ?_ ?_
  · intro u1 u2 X hX
    clear hX
    refine wpOp_step rfl (fun K hK => ?_)
    replace hK : Hid _ := hK
    simp only [frP, Act.put, List.getElem_toArray, List.getElem_cons_zero, List.getElem_cons_succ, List.setIfInBounds_toArray, List.set_cons_zero, List.set_cons_succ]
    go_simp
    refine (CP1 _).mono ?_
    rintro e w1 ⟨rfl, b1⟩
    go_wp2_with (fail)
    exact hK.out _ _ ⟨rfl, b1⟩
  · intro u1 u2 X hX
    clear hX
    refine wpOp_step rfl (fun K hK => ?_)
    replace hK : Hid _ := hK
    simp only [frP, Act.put, List.getElem_toArray, List.getElem_cons_zero, List.getElem_cons_succ, List.setIfInBounds_toArray, List.set_cons_zero, List.set_cons_succ]
    go_simp
    refine (CM1 _).mono ?_
    rintro e w1 ⟨rfl, b1⟩
    go_wp2_with (fail)
    exact hK.out _ _ ⟨rfl, b1⟩
  · intro u1 r1 r2 X
    refine wpOp_step rfl (fun K hK => ?_)
    simp only [frP, Act.put, List.getElem_toArray, List.getElem_cons_zero, List.getElem_cons_succ, List.setIfInBounds_toArray, List.set_cons_zero, List.set_cons_succ]
    go_simp
    exact hK _ _ ⟨rfl, rfl⟩
  · intro u1 r1 r2 X
    refine wpOp_step rfl (fun K hK => ?_)
    simp only [frP, Act.put, List.getElem_toArray, List.getElem_cons_zero, List.getElem_cons_succ, List.setIfInBounds_toArray, List.set_cons_zero, List.set_cons_succ]
    go_simp
    exact hK _ _ ⟨rfl, rfl⟩
  intro wx2 Ga Gb hX m1 m2 hg
  simp only [frP, Act.put, List.setIfInBounds_toArray, List.set_cons_zero, List.set_cons_succ]
  have hlow := bel.size
  have l1 := m1.lt
  have l2 := m2.lt
  have lt_rl := rl.lt
  have lt_rr := rr.lt
  replace rl := rl.below hX
  replace rr := rr.below hX
  replace bel := below_on bel hX
  replace m1 := m1.rowL.low hlow
  replace m2 := m2.rowL.low hlow
  have th := m1.there (o := 0) (m := La.toArray.size) (by simp [qa.len])
  have pp := m1.putAll (B := La) (by rw [qa.len, uV_length])
  replace rl := rl.kept pp.2 (by omega)
  replace rr := rr.kept pp.2 (by omega)
  replace bel := bel.grown pp.2 bel.size (fun k hk => by cases hk; omega)
  replace m2 := m2.kept pp.2 (by omega)
  have ra := pp.1
  clear m1 pp
  refine anyT_one (i := 16) (by kernel_rfl) rfl (fun K hK => ?_)
  refine wp_store_mid 84 _ _ rfl Ga 0 La.toArray rfl rfl th qa.sz2 (all_oneCell_toArray qa.one) ?_
  (try dsimp only)
  refine hK.out _ _ ⟨(lad_a rl qX), (lad_c rl qX qA)⟩ (fun _ => trivial) ?_
  clear hK K th
  generalize wx2.setCells Ga 0 La = wq3 at rl rr ra m2 bel ⊢
  have th := m2.there (o := 0) (m := Lb.toArray.size) (by simp [qb.len])
  have pp := m2.putAll (B := Lb) (by rw [qb.len, uV_length])
  replace rl := rl.kept pp.2 (by omega)
  replace rr := rr.kept pp.2 (by omega)
  replace ra := ra.kept pp.2 (by omega)
  replace bel := bel.grown pp.2 bel.size (fun k hk => by cases hk; omega)
  have rb := pp.1
  clear m2 pp
  refine anyT_one (i := 17) (by kernel_rfl) rfl (fun K hK => ?_)
  refine wp_store_mid 84 _ _ rfl Gb 0 Lb.toArray rfl rfl th qb.sz2 (all_oneCell_toArray qb.one) ?_
  (try dsimp only)
  refine hK.out _ _ ⟨(lad_a rl qX), (lad_c rl qX qA)⟩ (fun _ => trivial) ?_
  clear hK K th
  refine anyT_done (by kernel_rfl) ?_ _
  refine NoPanic.normal ?_
  generalize wq3.setCells Gb 0 Lb = wq4 at rl rr ra rb bel ⊢
  have ob : Ga ≠ Gb := hg
  have za : w.heap.size < Ga := by omega
  have zb : w.heap.size < Gb := by omega
  clear hg hlow l1 l2 lt_rl lt_rr
  go_wp2_with (fail)
  have hd0 : Below wq4.heap.size wq4 wq4.drew := (Below.refl _ _).drew
  refine wp_region_noPanic ?_
  refine wp_region_T 99 (fun X => X.rangeAt Ga 0 La ∧ X.rangeAt Gb 0 Lb) (fun _ => True) (by kernel_rfl) ?_
  generalize wq4.drew = W5 at hd0 ⊢
  replace rl := rl.below hd0
  replace rr := rr.below hd0
  replace ra := ra.below hd0
  replace rb := rb.below hd0
  replace bel := below_on bel hd0
  clear hd0
  have hT : W5.rangeAt Ga 0 La ∧ W5.rangeAt Gb 0 Lb := ⟨ra.all, rb.all⟩
  refine anyT_takeT (i := 0) rfl (by kernel_rfl) (by kernel_rfl) (by kernel_rfl) (by kernel_rfl) (fun _ _ _ h => h) (yieldsIf_load_mid (by rfl) _ _ rfl _ _ rfl La _ (fun _ hw => hw.1) Tryz.underlying84 rfl qa.sz) hT (fun _ => trivial) ?_
  simp only [Act.put, List.getElem_toArray, List.getElem_cons_zero, List.setIfInBounds_toArray]
  refine anyT_takeT (i := 1) rfl (by kernel_rfl) (by kernel_rfl) (by kernel_rfl) (by kernel_rfl) (fun _ _ _ h => h) (yieldsIf_load_mid (by rfl) _ _ rfl _ _ rfl La _ (fun _ hw => hw.1) Tryz.underlying84 rfl qa.sz) hT (fun _ => trivial) ?_
  simp only [Act.put, List.getElem_toArray, List.getElem_cons_zero, List.getElem_cons_succ, List.setIfInBounds_toArray, List.set_cons_zero, List.set_cons_succ]
  refine anyT_takeT (i := 3) rfl (by kernel_rfl) (by kernel_rfl) (by kernel_rfl) (by kernel_rfl) (fun _ _ _ h => h) (yieldsIf_load_mid (by rfl) _ _ rfl _ _ rfl Lb _ (fun _ hw => hw.2) Tryz.underlying84 rfl qb.sz) hT (fun _ => trivial) ?_
  simp only [Act.put, List.getElem_toArray, List.getElem_cons_zero, List.getElem_cons_succ, List.setIfInBounds_toArray, List.set_cons_zero, List.set_cons_succ]
  refine anyT_takeT (i := 4) rfl (by kernel_rfl) (by kernel_rfl) (by kernel_rfl) (by kernel_rfl) (fun _ _ _ h => h) (yieldsIf_load_mid (by rfl) _ _ rfl _ _ rfl Lb _ (fun _ hw => hw.2) Tryz.underlying84 rfl qb.sz) hT (fun _ => trivial) ?_
  simp only [Act.put, List.getElem_toArray, List.getElem_cons_zero, List.getElem_cons_succ, List.setIfInBounds_toArray, List.set_cons_zero, List.set_cons_succ]
  clear hT
  refine anyT_pair (c1 := 2) (c2 := 5) (b1 := 6) (b2 := 7) (d1 := 5) (d2 := 6) (e1 := 30) (e2 := 33) (ty := 84) (Z := Z) (pt := fun g => .pointer (some ⟨g, 0, none⟩)) (v1 := .agg Laa.toArray) (v2 := .agg Lbb.toArray) (by kernel_rfl) (by rfl) hZ.out (fun X hX => ⟨(ra.below hX).all, (rb.below hX).all⟩) ?_ ?_ ?_ ?_ ?_
  · intro u1 u2 X hX
    clear hX
    refine wpOp_step rfl (fun K hK => ?_)
    replace hK : Hid _ := hK
    simp only [frP, Act.put, List.getElem_toArray, List.getElem_cons_zero, List.getElem_cons_succ, List.setIfInBounds_toArray, List.set_cons_zero, List.set_cons_succ]
    go_simp
    refine (CT1 _).mono ?_
    rintro e w1 ⟨rfl, b1⟩
    go_wp2_with (fail)
    exact hK.out _ _ ⟨rfl, b1⟩
  · intro u1 u2 X hX
    clear hX
    refine wpOp_step rfl (fun K hK => ?_)
    replace hK : Hid _ := hK
    simp only [frP, Act.put, List.getElem_toArray, List.getElem_cons_zero, List.getElem_cons_succ, List.setIfInBounds_toArray, List.set_cons_zero, List.set_cons_succ]
    go_simp
    refine (CT2 _).mono ?_
    rintro e w1 ⟨rfl, b1⟩
    go_wp2_with (fail)
    exact hK.out _ _ ⟨rfl, b1⟩
  · intro u1 r1 r2 X
    refine wpOp_step rfl (fun K hK => ?_)
    simp only [frP, Act.put, List.getElem_toArray, List.getElem_cons_zero, List.getElem_cons_succ, List.setIfInBounds_toArray, List.set_cons_zero, List.set_cons_succ]
    go_simp
    exact hK _ _ ⟨rfl, rfl⟩
  · intro u1 r1 r2 X
    refine wpOp_step rfl (fun K hK => ?_)
    simp only [frP, Act.put, List.getElem_toArray, List.getElem_cons_zero, List.getElem_cons_succ, List.setIfInBounds_toArray, List.set_cons_zero, List.set_cons_succ]
    go_simp
    exact hK _ _ ⟨rfl, rfl⟩
  intro wx6 Gaa Gbb hX m1 m2 hg
  simp only [frP, Act.put, List.setIfInBounds_toArray, List.set_cons_zero, List.set_cons_succ]
  have hlow := bel.size
  have l1 := m1.lt
  have l2 := m2.lt
  have lt_rl := rl.lt
  have lt_rr := rr.lt
  have lt_ra := ra.lt
  have lt_rb := rb.lt
  replace rl := rl.below hX
  replace rr := rr.below hX
  replace ra := ra.below hX
  replace rb := rb.below hX
  replace bel := below_on bel hX
  replace m1 := m1.rowL.low hlow
  replace m2 := m2.rowL.low hlow
  have th := m1.there (o := 0) (m := Laa.toArray.size) (by simp [qaa.len])
  have pp := m1.putAll (B := Laa) (by rw [qaa.len, uV_length])
  replace rl := rl.kept pp.2 (by omega)
  replace rr := rr.kept pp.2 (by omega)
  replace ra := ra.kept pp.2 (by omega)
  replace rb := rb.kept pp.2 (by omega)
  replace bel := bel.grown pp.2 bel.size (fun k hk => by cases hk; omega)
  replace m2 := m2.kept pp.2 (by omega)
  have raa := pp.1
  clear m1 pp
  refine anyT_one (i := 8) (by kernel_rfl) rfl (fun K hK => ?_)
  refine wp_store_mid 84 _ _ rfl Gaa 0 Laa.toArray rfl rfl th qaa.sz2 (all_oneCell_toArray qaa.one) ?_
  (try dsimp only)
  refine hK.out _ _ ⟨ra.all, rb.all⟩ (fun _ => trivial) ?_
  clear hK K th
  generalize wx6.setCells Gaa 0 Laa = wq7 at rl rr ra rb raa m2 bel ⊢
  have th := m2.there (o := 0) (m := Lbb.toArray.size) (by simp [qbb.len])
  have pp := m2.putAll (B := Lbb) (by rw [qbb.len, uV_length])
  replace rl := rl.kept pp.2 (by omega)
  replace rr := rr.kept pp.2 (by omega)
  replace ra := ra.kept pp.2 (by omega)
  replace rb := rb.kept pp.2 (by omega)
  replace raa := raa.kept pp.2 (by omega)
  replace bel := bel.grown pp.2 bel.size (fun k hk => by cases hk; omega)
  have rbb := pp.1
  clear m2 pp
  refine anyT_one (i := 9) (by kernel_rfl) rfl (fun K hK => ?_)
  refine wp_store_mid 84 _ _ rfl Gbb 0 Lbb.toArray rfl rfl th qbb.sz2 (all_oneCell_toArray qbb.one) ?_
  (try dsimp only)
  refine hK.out _ _ ⟨ra.all, rb.all⟩ (fun _ => trivial) ?_
  clear hK K th
  refine anyT_done (by kernel_rfl) ?_ _
  refine NoPanic.normal ?_
  generalize wq7.setCells Gbb 0 Lbb = wq8 at rl rr ra rb raa rbb bel ⊢
  have obb : Gaa ≠ Gbb := hg
  have zaa : w.heap.size < Gaa := by omega
  have zbb : w.heap.size < Gbb := by omega
  clear hg hlow l1 l2 lt_rl lt_rr lt_ra lt_rb
  have q0 := raa.all
  have q1 := rbb.all
  go_wp2_with (first | (with_reducible refine wpList_load_mid rfl 84 _ rfl Gaa 0 rfl Laa _ q0 Tryz.underlying84 rfl qaa.sz ?_) | (with_reducible refine wpList_load_mid rfl 84 _ rfl Gbb 0 rfl Lbb _ q1 Tryz.underlying84 rfl qbb.sz ?_))
  clear q0 q1
  refine (CM2 _).mono ?_
  rintro e wk1 ⟨rfl, bk⟩
  replace rl := rl.below bk
  replace rr := rr.below bk
  replace ra := ra.below bk
  replace rb := rb.below bk
  replace raa := raa.below bk
  replace rbb := rbb.below bk
  replace bel := below_on bel bk
  have m1 := RowL.made (L := uV (fun _ => 0) 4) wk1 84 4 w.heap.size (uV_length _ _) (by decide) bel.size
  rw [← hZ.out] at m1
  have b2 : Below wk1.heap.size wk1 (wk1.alloc (.cells Z 84)) := (Below.refl _ _).alloc (Nat.le_refl _) _
  have lt_rl := rl.lt
  have lt_rr := rr.lt
  have lt_ra := ra.lt
  have lt_rb := rb.lt
  have lt_raa := raa.lt
  have lt_rbb := rbb.lt
  replace rl := rl.below b2
  replace rr := rr.below b2
  replace ra := ra.below b2
  replace rb := rb.below b2
  replace raa := raa.below b2
  replace rbb := rbb.below b2
  replace bel := below_on bel b2
  have th := m1.there (o := 0) (m := Le.toArray.size) (by simp [qe.len])
  have pp := m1.putAll (B := Le) (by rw [qe.len, uV_length])
  replace rl := rl.kept pp.2 (by omega)
  replace rr := rr.kept pp.2 (by omega)
  replace ra := ra.kept pp.2 (by omega)
  replace rb := rb.kept pp.2 (by omega)
  replace raa := raa.kept pp.2 (by omega)
  replace rbb := rbb.kept pp.2 (by omega)
  replace bel := bel.grown pp.2 bel.size (fun k hk => by cases hk; omega)
  have re := pp.1
  have ze : w.heap.size < wk1.heap.size := by omega
  clear m1 pp b2 bk lt_rl lt_rr lt_ra lt_rb lt_raa lt_rbb
  go_wp2_with (first | (with_reducible refine wpList_store_mid rfl 84 _ _ rfl wk1.heap.size 0 Le.toArray rfl rfl th qe.sz2 (all_oneCell_toArray qe.one) ?_; (try dsimp only)))
  clear th
  generalize (wk1.alloc (.cells Z 84)).setCells wk1.heap.size 0 Le = wq9 at rl rr ra rb raa rbb re bel ⊢
  generalize wk1.heap.size = Ge at re ze ⊢
  have hd0 : Below wq9.heap.size wq9 wq9.drew := (Below.refl _ _).drew
  refine wp_region_noPanic ?_
  refine wp_region_T 99 (fun X => X.rangeAt w.heap.size 12 LB ∧ X.rangeAt w.heap.size 16 LD) (fun _ => True) (by kernel_rfl) ?_
  generalize wq9.drew = W10 at hd0 ⊢
  replace rl := rl.below hd0
  replace rr := rr.below hd0
  replace ra := ra.below hd0
  replace rb := rb.below hd0
  replace raa := raa.below hd0
  replace rbb := rbb.below hd0
  replace re := re.below hd0
  replace bel := below_on bel hd0
  clear hd0
  have hT : W10.rangeAt w.heap.size 12 LB ∧ W10.rangeAt w.heap.size 16 LD := ⟨(lad_b rl qX qA qC), (lad_d rl qX qA qC qB)⟩
  refine anyT_takeT (i := 0) (v := .pointer (some ⟨w.heap.size, 12, none⟩)) rfl (by kernel_rfl) (by kernel_rfl) (by kernel_rfl) (by kernel_rfl) (fun _ _ _ h => h) (Or.inl ⟨by rfl, fun X hSw => by ((try dsimp only at hSw); go_simp)⟩) hT (fun _ => trivial) ?_
  simp only [Act.put, List.getElem_toArray, List.getElem_cons_zero, List.setIfInBounds_toArray, List.set_cons_zero, List.set_cons_succ]
  refine anyT_takeT (i := 1) (v := .pointer (some ⟨w.heap.size, 12, none⟩)) rfl (by kernel_rfl) (by kernel_rfl) (by kernel_rfl) (by kernel_rfl) (fun _ _ _ h => h) (Or.inl ⟨by rfl, fun X hSw => by ((try dsimp only at hSw); go_simp)⟩) hT (fun _ => trivial) ?_
  simp only [Act.put, List.getElem_toArray, List.getElem_cons_zero, List.getElem_cons_succ, List.setIfInBounds_toArray, List.set_cons_zero, List.set_cons_succ]
  refine anyT_takeT (i := 2) rfl (by kernel_rfl) (by kernel_rfl) (by kernel_rfl) (by kernel_rfl) (fun _ _ _ h => h) (yieldsIf_load_mid (by rfl) _ _ rfl _ _ rfl LB _ (fun _ hw => hw.1) Tryz.underlying84 rfl qB.sz) hT (fun _ => trivial) ?_
  simp only [Act.put, List.getElem_toArray, List.getElem_cons_zero, List.getElem_cons_succ, List.setIfInBounds_toArray, List.set_cons_zero, List.set_cons_succ]
  refine anyT_takeT (i := 3) (v := .pointer (some ⟨w.heap.size, 12, none⟩)) rfl (by kernel_rfl) (by kernel_rfl) (by kernel_rfl) (by kernel_rfl) (fun _ _ _ h => h) (Or.inl ⟨by rfl, fun X hSw => by ((try dsimp only at hSw); go_simp)⟩) hT (fun _ => trivial) ?_
  simp only [Act.put, List.getElem_toArray, List.getElem_cons_zero, List.getElem_cons_succ, List.setIfInBounds_toArray, List.set_cons_zero, List.set_cons_succ]
  refine anyT_takeT (i := 4) (v := .pointer (some ⟨w.heap.size, 16, none⟩)) rfl (by kernel_rfl) (by kernel_rfl) (by kernel_rfl) (by kernel_rfl) (fun _ _ _ h => h) (Or.inl ⟨by rfl, fun X hSw => by ((try dsimp only at hSw); go_simp)⟩) hT (fun _ => trivial) ?_
  simp only [Act.put, List.getElem_toArray, List.getElem_cons_zero, List.getElem_cons_succ, List.setIfInBounds_toArray, List.set_cons_zero, List.set_cons_succ]
  refine anyT_takeT (i := 5) rfl (by kernel_rfl) (by kernel_rfl) (by kernel_rfl) (by kernel_rfl) (fun _ _ _ h => h) (yieldsIf_load_mid (by rfl) _ _ rfl _ _ rfl LD _ (fun _ hw => hw.2) Tryz.underlying84 rfl qD.sz) hT (fun _ => trivial) ?_
  simp only [Act.put, List.getElem_toArray, List.getElem_cons_zero, List.getElem_cons_succ, List.setIfInBounds_toArray, List.set_cons_zero, List.set_cons_succ]
  refine anyT_takeT (i := 7) (v := .pointer (some ⟨w.heap.size, 12, none⟩)) rfl (by kernel_rfl) (by kernel_rfl) (by kernel_rfl) (by kernel_rfl) (fun _ _ _ h => h) (Or.inl ⟨by rfl, fun X hSw => by ((try dsimp only at hSw); go_simp)⟩) hT (fun _ => trivial) ?_
  simp only [Act.put, List.getElem_toArray, List.getElem_cons_zero, List.getElem_cons_succ, List.setIfInBounds_toArray, List.set_cons_zero, List.set_cons_succ]
  refine anyT_takeT (i := 8) (v := .pointer (some ⟨w.heap.size, 12, none⟩)) rfl (by kernel_rfl) (by kernel_rfl) (by kernel_rfl) (by kernel_rfl) (fun _ _ _ h => h) (Or.inl ⟨by rfl, fun X hSw => by ((try dsimp only at hSw); go_simp)⟩) hT (fun _ => trivial) ?_
  simp only [Act.put, List.getElem_toArray, List.getElem_cons_zero, List.getElem_cons_succ, List.setIfInBounds_toArray, List.set_cons_zero, List.set_cons_succ]
  refine anyT_takeT (i := 9) rfl (by kernel_rfl) (by kernel_rfl) (by kernel_rfl) (by kernel_rfl) (fun _ _ _ h => h) (yieldsIf_load_mid (by rfl) _ _ rfl _ _ rfl LB _ (fun _ hw => hw.1) Tryz.underlying84 rfl qB.sz) hT (fun _ => trivial) ?_
  simp only [Act.put, List.getElem_toArray, List.getElem_cons_zero, List.getElem_cons_succ, List.setIfInBounds_toArray, List.set_cons_zero, List.set_cons_succ]
  refine anyT_takeT (i := 10) (v := .pointer (some ⟨w.heap.size, 12, none⟩)) rfl (by kernel_rfl) (by kernel_rfl) (by kernel_rfl) (by kernel_rfl) (fun _ _ _ h => h) (Or.inl ⟨by rfl, fun X hSw => by ((try dsimp only at hSw); go_simp)⟩) hT (fun _ => trivial) ?_
  simp only [Act.put, List.getElem_toArray, List.getElem_cons_zero, List.getElem_cons_succ, List.setIfInBounds_toArray, List.set_cons_zero, List.set_cons_succ]
  refine anyT_takeT (i := 11) (v := .pointer (some ⟨w.heap.size, 16, none⟩)) rfl (by kernel_rfl) (by kernel_rfl) (by kernel_rfl) (by kernel_rfl) (fun _ _ _ h => h) (Or.inl ⟨by rfl, fun X hSw => by ((try dsimp only at hSw); go_simp)⟩) hT (fun _ => trivial) ?_
  simp only [Act.put, List.getElem_toArray, List.getElem_cons_zero, List.getElem_cons_succ, List.setIfInBounds_toArray, List.set_cons_zero, List.set_cons_succ]
  refine anyT_takeT (i := 12) rfl (by kernel_rfl) (by kernel_rfl) (by kernel_rfl) (by kernel_rfl) (fun _ _ _ h => h) (yieldsIf_load_mid (by rfl) _ _ rfl _ _ rfl LD _ (fun _ hw => hw.2) Tryz.underlying84 rfl qD.sz) hT (fun _ => trivial) ?_
  simp only [Act.put, List.getElem_toArray, List.getElem_cons_zero, List.getElem_cons_succ, List.setIfInBounds_toArray, List.set_cons_zero, List.set_cons_succ]
  clear hT
  refine anyT_pair (c1 := 6) (c2 := 13) (b1 := 14) (b2 := 15) (d1 := 8) (d2 := 9) (e1 := 43) (e2 := 50) (ty := 84) (Z := Z) (pt := fun g => .pointer (some ⟨g, 0, none⟩)) (v1 := .agg Lc.toArray) (v2 := .agg Ld.toArray) (by kernel_rfl) (by rfl) hZ.out (fun X hX => ⟨(lad_b (rl.below hX) qX qA qC), (lad_d (rl.below hX) qX qA qC qB)⟩) ?_ ?_ ?_ ?_ ?_
  · intro u1 u2 X hX
    clear hX
    refine wpOp_step rfl (fun K hK => ?_)
    replace hK : Hid _ := hK
    simp only [frP, Act.put, List.getElem_toArray, List.getElem_cons_zero, List.getElem_cons_succ, List.setIfInBounds_toArray, List.set_cons_zero, List.set_cons_succ]
    go_simp
    refine (CP2 _).mono ?_
    rintro e w1 ⟨rfl, b1⟩
    go_wp2_with (fail)
    exact hK.out _ _ ⟨rfl, b1⟩
  · intro u1 u2 X hX
    clear hX
    refine wpOp_step rfl (fun K hK => ?_)
    replace hK : Hid _ := hK
    simp only [frP, Act.put, List.getElem_toArray, List.getElem_cons_zero, List.getElem_cons_succ, List.setIfInBounds_toArray, List.set_cons_zero, List.set_cons_succ]
    go_simp
    refine (CM3 _).mono ?_
    rintro e w1 ⟨rfl, b1⟩
    go_wp2_with (fail)
    exact hK.out _ _ ⟨rfl, b1⟩
  · intro u1 r1 r2 X
    refine wpOp_step rfl (fun K hK => ?_)
    simp only [frP, Act.put, List.getElem_toArray, List.getElem_cons_zero, List.getElem_cons_succ, List.setIfInBounds_toArray, List.set_cons_zero, List.set_cons_succ]
    go_simp
    exact hK _ _ ⟨rfl, rfl⟩
  · intro u1 r1 r2 X
    refine wpOp_step rfl (fun K hK => ?_)
    simp only [frP, Act.put, List.getElem_toArray, List.getElem_cons_zero, List.getElem_cons_succ, List.setIfInBounds_toArray, List.set_cons_zero, List.set_cons_succ]
    go_simp
    exact hK _ _ ⟨rfl, rfl⟩
  intro wx11 Gc Gd hX m1 m2 hg
  simp only [frP, Act.put, List.setIfInBounds_toArray, List.set_cons_zero, List.set_cons_succ]
  have hlow := bel.size
  have l1 := m1.lt
  have l2 := m2.lt
  have lt_rl := rl.lt
  have lt_rr := rr.lt
  have lt_ra := ra.lt
  have lt_rb := rb.lt
  have lt_raa := raa.lt
  have lt_rbb := rbb.lt
  have lt_re := re.lt
  replace rl := rl.below hX
  replace rr := rr.below hX
  replace ra := ra.below hX
  replace rb := rb.below hX
  replace raa := raa.below hX
  replace rbb := rbb.below hX
  replace re := re.below hX
  replace bel := below_on bel hX
  replace m1 := m1.rowL.low hlow
  replace m2 := m2.rowL.low hlow
  have th := m1.there (o := 0) (m := Lc.toArray.size) (by simp [qc.len])
  have pp := m1.putAll (B := Lc) (by rw [qc.len, uV_length])
  replace rl := rl.kept pp.2 (by omega)
  replace rr := rr.kept pp.2 (by omega)
  replace ra := ra.kept pp.2 (by omega)
  replace rb := rb.kept pp.2 (by omega)
  replace raa := raa.kept pp.2 (by omega)
  replace rbb := rbb.kept pp.2 (by omega)
  replace re := re.kept pp.2 (by omega)
  replace bel := bel.grown pp.2 bel.size (fun k hk => by cases hk; omega)
  replace m2 := m2.kept pp.2 (by omega)
  have rc := pp.1
  clear m1 pp
  refine anyT_one (i := 16) (by kernel_rfl) rfl (fun K hK => ?_)
  refine wp_store_mid 84 _ _ rfl Gc 0 Lc.toArray rfl rfl th qc.sz2 (all_oneCell_toArray qc.one) ?_
  (try dsimp only)
  refine hK.out _ _ ⟨(lad_b rl qX qA qC), (lad_d rl qX qA qC qB)⟩ (fun _ => trivial) ?_
  clear hK K th
  generalize wx11.setCells Gc 0 Lc = wq12 at rl rr ra rb raa rbb re rc m2 bel ⊢
  have th := m2.there (o := 0) (m := Ld.toArray.size) (by simp [qd.len])
  have pp := m2.putAll (B := Ld) (by rw [qd.len, uV_length])
  replace rl := rl.kept pp.2 (by omega)
  replace rr := rr.kept pp.2 (by omega)
  replace ra := ra.kept pp.2 (by omega)
  replace rb := rb.kept pp.2 (by omega)
  replace raa := raa.kept pp.2 (by omega)
  replace rbb := rbb.kept pp.2 (by omega)
  replace re := re.kept pp.2 (by omega)
  replace rc := rc.kept pp.2 (by omega)
  replace bel := bel.grown pp.2 bel.size (fun k hk => by cases hk; omega)
  have rd := pp.1
  clear m2 pp
  refine anyT_one (i := 17) (by kernel_rfl) rfl (fun K hK => ?_)
  refine wp_store_mid 84 _ _ rfl Gd 0 Ld.toArray rfl rfl th qd.sz2 (all_oneCell_toArray qd.one) ?_
  (try dsimp only)
  refine hK.out _ _ ⟨(lad_b rl qX qA qC), (lad_d rl qX qA qC qB)⟩ (fun _ => trivial) ?_
  clear hK K th
  refine anyT_done (by kernel_rfl) ?_ _
  refine NoPanic.normal ?_
  generalize wq12.setCells Gd 0 Ld = wq13 at rl rr ra rb raa rbb re rc rd bel ⊢
  have od : Gc ≠ Gd := hg
  have zc : w.heap.size < Gc := by omega
  have zd : w.heap.size < Gd := by omega
  clear hg hlow l1 l2 lt_rl lt_rr lt_ra lt_rb lt_raa lt_rbb lt_re
  go_wp2_with (fail)
  have hd0 : Below wq13.heap.size wq13 wq13.drew := (Below.refl _ _).drew
  refine wp_region_noPanic ?_
  refine wp_region_T 99 (fun X => X.rangeAt Gd 0 Ld ∧ X.rangeAt Ga 0 La ∧ X.rangeAt Gc 0 Lc ∧ X.rangeAt Gb 0 Lb) (fun _ => True) (by kernel_rfl) ?_
  generalize wq13.drew = W14 at hd0 ⊢
  replace rl := rl.below hd0
  replace rr := rr.below hd0
  replace ra := ra.below hd0
  replace rb := rb.below hd0
  replace raa := raa.below hd0
  replace rbb := rbb.below hd0
  replace re := re.below hd0
  replace rc := rc.below hd0
  replace rd := rd.below hd0
  replace bel := below_on bel hd0
  clear hd0
  have hT : W14.rangeAt Gd 0 Ld ∧ W14.rangeAt Ga 0 La ∧ W14.rangeAt Gc 0 Lc ∧ W14.rangeAt Gb 0 Lb := ⟨rd.all, ra.all, rc.all, rb.all⟩
  refine anyT_takeT (i := 0) rfl (by kernel_rfl) (by kernel_rfl) (by kernel_rfl) (by kernel_rfl) (fun _ _ _ h => h) (yieldsIf_load_mid (by rfl) _ _ rfl _ _ rfl Ld _ (fun _ hw => hw.1) Tryz.underlying84 rfl qd.sz) hT (fun _ => trivial) ?_
  simp only [Act.put, List.getElem_toArray, List.getElem_cons_zero, List.setIfInBounds_toArray]
  refine anyT_takeT (i := 1) rfl (by kernel_rfl) (by kernel_rfl) (by kernel_rfl) (by kernel_rfl) (fun _ _ _ h => h) (yieldsIf_load_mid (by rfl) _ _ rfl _ _ rfl La _ (fun _ hw => hw.2.1) Tryz.underlying84 rfl qa.sz) hT (fun _ => trivial) ?_
  simp only [Act.put, List.getElem_toArray, List.getElem_cons_zero, List.getElem_cons_succ, List.setIfInBounds_toArray, List.set_cons_zero, List.set_cons_succ]
  refine anyT_takeT (i := 3) rfl (by kernel_rfl) (by kernel_rfl) (by kernel_rfl) (by kernel_rfl) (fun _ _ _ h => h) (yieldsIf_load_mid (by rfl) _ _ rfl _ _ rfl Lc _ (fun _ hw => hw.2.2.1) Tryz.underlying84 rfl qc.sz) hT (fun _ => trivial) ?_
  simp only [Act.put, List.getElem_toArray, List.getElem_cons_zero, List.getElem_cons_succ, List.setIfInBounds_toArray, List.set_cons_zero, List.set_cons_succ]
  refine anyT_takeT (i := 4) rfl (by kernel_rfl) (by kernel_rfl) (by kernel_rfl) (by kernel_rfl) (fun _ _ _ h => h) (yieldsIf_load_mid (by rfl) _ _ rfl _ _ rfl Lb _ (fun _ hw => hw.2.2.2) Tryz.underlying84 rfl qb.sz) hT (fun _ => trivial) ?_
  simp only [Act.put, List.getElem_toArray, List.getElem_cons_zero, List.getElem_cons_succ, List.setIfInBounds_toArray, List.set_cons_zero, List.set_cons_succ]
  clear hT
  refine anyT_pair (c1 := 2) (c2 := 5) (b1 := 6) (b2 := 7) (d1 := 10) (d2 := 11) (e1 := 53) (e2 := 56) (ty := 84) (Z := Z) (pt := fun g => .pointer (some ⟨g, 0, none⟩)) (v1 := .agg Lda.toArray) (v2 := .agg Lcb.toArray) (by kernel_rfl) (by rfl) hZ.out (fun X hX => ⟨(rd.below hX).all, (ra.below hX).all, (rc.below hX).all, (rb.below hX).all⟩) ?_ ?_ ?_ ?_ ?_
  · intro u1 u2 X hX
    clear hX
    refine wpOp_step rfl (fun K hK => ?_)
    replace hK : Hid _ := hK
    simp only [frP, Act.put, List.getElem_toArray, List.getElem_cons_zero, List.getElem_cons_succ, List.setIfInBounds_toArray, List.set_cons_zero, List.set_cons_succ]
    go_simp
    refine (CT3 _).mono ?_
    rintro e w1 ⟨rfl, b1⟩
    go_wp2_with (fail)
    exact hK.out _ _ ⟨rfl, b1⟩
  · intro u1 u2 X hX
    clear hX
    refine wpOp_step rfl (fun K hK => ?_)
    replace hK : Hid _ := hK
    simp only [frP, Act.put, List.getElem_toArray, List.getElem_cons_zero, List.getElem_cons_succ, List.setIfInBounds_toArray, List.set_cons_zero, List.set_cons_succ]
    go_simp
    refine (CT4 _).mono ?_
    rintro e w1 ⟨rfl, b1⟩
    go_wp2_with (fail)
    exact hK.out _ _ ⟨rfl, b1⟩
  · intro u1 r1 r2 X
    refine wpOp_step rfl (fun K hK => ?_)
    simp only [frP, Act.put, List.getElem_toArray, List.getElem_cons_zero, List.getElem_cons_succ, List.setIfInBounds_toArray, List.set_cons_zero, List.set_cons_succ]
    go_simp
    exact hK _ _ ⟨rfl, rfl⟩
  · intro u1 r1 r2 X
    refine wpOp_step rfl (fun K hK => ?_)
    simp only [frP, Act.put, List.getElem_toArray, List.getElem_cons_zero, List.getElem_cons_succ, List.setIfInBounds_toArray, List.set_cons_zero, List.set_cons_succ]
    go_simp
    exact hK _ _ ⟨rfl, rfl⟩
  intro wx15 Gda Gcb hX m1 m2 hg
  simp only [frP, Act.put, List.setIfInBounds_toArray, List.set_cons_zero, List.set_cons_succ]
  have hlow := bel.size
  have l1 := m1.lt
  have l2 := m2.lt
  have lt_rl := rl.lt
  have lt_rr := rr.lt
  have lt_ra := ra.lt
  have lt_rb := rb.lt
  have lt_raa := raa.lt
  have lt_rbb := rbb.lt
  have lt_re := re.lt
  have lt_rc := rc.lt
  have lt_rd := rd.lt
  replace rl := rl.below hX
  replace rr := rr.below hX
  replace ra := ra.below hX
  replace rb := rb.below hX
  replace raa := raa.below hX
  replace rbb := rbb.below hX
  replace re := re.below hX
  replace rc := rc.below hX
  replace rd := rd.below hX
  replace bel := below_on bel hX
  replace m1 := m1.rowL.low hlow
  replace m2 := m2.rowL.low hlow
  have th := m1.there (o := 0) (m := Lda.toArray.size) (by simp [qda.len])
  have pp := m1.putAll (B := Lda) (by rw [qda.len, uV_length])
  replace rl := rl.kept pp.2 (by omega)
  replace rr := rr.kept pp.2 (by omega)
  replace ra := ra.kept pp.2 (by omega)
  replace rb := rb.kept pp.2 (by omega)
  replace raa := raa.kept pp.2 (by omega)
  replace rbb := rbb.kept pp.2 (by omega)
  replace re := re.kept pp.2 (by omega)
  replace rc := rc.kept pp.2 (by omega)
  replace rd := rd.kept pp.2 (by omega)
  replace bel := bel.grown pp.2 bel.size (fun k hk => by cases hk; omega)
  replace m2 := m2.kept pp.2 (by omega)
  have rda := pp.1
  clear m1 pp
  refine anyT_one (i := 8) (by kernel_rfl) rfl (fun K hK => ?_)
  refine wp_store_mid 84 _ _ rfl Gda 0 Lda.toArray rfl rfl th qda.sz2 (all_oneCell_toArray qda.one) ?_
  (try dsimp only)
  refine hK.out _ _ ⟨rd.all, ra.all, rc.all, rb.all⟩ (fun _ => trivial) ?_
  clear hK K th
  generalize wx15.setCells Gda 0 Lda = wq16 at rl rr ra rb raa rbb re rc rd rda m2 bel ⊢
  have th := m2.there (o := 0) (m := Lcb.toArray.size) (by simp [qcb.len])
  have pp := m2.putAll (B := Lcb) (by rw [qcb.len, uV_length])
  replace rl := rl.kept pp.2 (by omega)
  replace rr := rr.kept pp.2 (by omega)
  replace ra := ra.kept pp.2 (by omega)
  replace rb := rb.kept pp.2 (by omega)
  replace raa := raa.kept pp.2 (by omega)
  replace rbb := rbb.kept pp.2 (by omega)
  replace re := re.kept pp.2 (by omega)
  replace rc := rc.kept pp.2 (by omega)
  replace rd := rd.kept pp.2 (by omega)
  replace rda := rda.kept pp.2 (by omega)
  replace bel := bel.grown pp.2 bel.size (fun k hk => by cases hk; omega)
  have rcb := pp.1
  clear m2 pp
  refine anyT_one (i := 9) (by kernel_rfl) rfl (fun K hK => ?_)
  refine wp_store_mid 84 _ _ rfl Gcb 0 Lcb.toArray rfl rfl th qcb.sz2 (all_oneCell_toArray qcb.one) ?_
  (try dsimp only)
  refine hK.out _ _ ⟨rd.all, ra.all, rc.all, rb.all⟩ (fun _ => trivial) ?_
  clear hK K th
  refine anyT_done (by kernel_rfl) ?_ _
  refine NoPanic.normal ?_
  generalize wq16.setCells Gcb 0 Lcb = wq17 at rl rr ra rb raa rbb re rc rd rda rcb bel ⊢
  have ocb : Gda ≠ Gcb := hg
  have zda : w.heap.size < Gda := by omega
  have zcb : w.heap.size < Gcb := by omega
  clear hg hlow l1 l2 lt_rl lt_rr lt_ra lt_rb lt_raa lt_rbb lt_re lt_rc lt_rd
  clear ra rb rc rd
  go_wp2_with (fail)
  have hd0 : Below wq17.heap.size wq17 wq17.drew := (Below.refl _ _).drew
  refine wp_region_noPanic ?_
  refine wp_region_T 99 (fun X => X.rangeAt Gda 0 Lda ∧ X.rangeAt Gcb 0 Lcb) (fun _ => True) (by kernel_rfl) ?_
  generalize wq17.drew = W18 at hd0 ⊢
  replace rl := rl.below hd0
  replace rr := rr.below hd0
  replace raa := raa.below hd0
  replace rbb := rbb.below hd0
  replace re := re.below hd0
  replace rda := rda.below hd0
  replace rcb := rcb.below hd0
  replace bel := below_on bel hd0
  clear hd0
  have hT : W18.rangeAt Gda 0 Lda ∧ W18.rangeAt Gcb 0 Lcb := ⟨rda.all, rcb.all⟩
  refine anyT_takeT (i := 0) rfl (by kernel_rfl) (by kernel_rfl) (by kernel_rfl) (by kernel_rfl) (fun _ _ _ h => h) (yieldsIf_load_mid (by rfl) _ _ rfl _ _ rfl Lda _ (fun _ hw => hw.1) Tryz.underlying84 rfl qda.sz) hT (fun _ => trivial) ?_
  simp only [Act.put, List.getElem_toArray, List.getElem_cons_zero, List.setIfInBounds_toArray]
  refine anyT_takeT (i := 1) rfl (by kernel_rfl) (by kernel_rfl) (by kernel_rfl) (by kernel_rfl) (fun _ _ _ h => h) (yieldsIf_load_mid (by rfl) _ _ rfl _ _ rfl Lcb _ (fun _ hw => hw.2) Tryz.underlying84 rfl qcb.sz) hT (fun _ => trivial) ?_
  simp only [Act.put, List.getElem_toArray, List.getElem_cons_zero, List.getElem_cons_succ, List.setIfInBounds_toArray, List.set_cons_zero, List.set_cons_succ]
  refine anyT_takeT (i := 3) rfl (by kernel_rfl) (by kernel_rfl) (by kernel_rfl) (by kernel_rfl) (fun _ _ _ h => h) (yieldsIf_load_mid (by rfl) _ _ rfl _ _ rfl Lda _ (fun _ hw => hw.1) Tryz.underlying84 rfl qda.sz) hT (fun _ => trivial) ?_
  simp only [Act.put, List.getElem_toArray, List.getElem_cons_zero, List.getElem_cons_succ, List.setIfInBounds_toArray, List.set_cons_zero, List.set_cons_succ]
  refine anyT_takeT (i := 4) rfl (by kernel_rfl) (by kernel_rfl) (by kernel_rfl) (by kernel_rfl) (fun _ _ _ h => h) (yieldsIf_load_mid (by rfl) _ _ rfl _ _ rfl Lcb _ (fun _ hw => hw.2) Tryz.underlying84 rfl qcb.sz) hT (fun _ => trivial) ?_
  simp only [Act.put, List.getElem_toArray, List.getElem_cons_zero, List.getElem_cons_succ, List.setIfInBounds_toArray, List.set_cons_zero, List.set_cons_succ]
  clear hT
  refine anyT_pair (c1 := 2) (c2 := 5) (b1 := 6) (b2 := 7) (d1 := 12) (d2 := 13) (e1 := 59) (e2 := 62) (ty := 84) (Z := Z) (pt := fun g => .pointer (some ⟨g, 0, none⟩)) (v1 := .agg Lboth.toArray) (v2 := .agg Lbet.toArray) (by kernel_rfl) (by rfl) hZ.out (fun X hX => ⟨(rda.below hX).all, (rcb.below hX).all⟩) ?_ ?_ ?_ ?_ ?_
  · intro u1 u2 X hX
    clear hX
    refine wpOp_step rfl (fun K hK => ?_)
    replace hK : Hid _ := hK
    simp only [frP, Act.put, List.getElem_toArray, List.getElem_cons_zero, List.getElem_cons_succ, List.setIfInBounds_toArray, List.set_cons_zero, List.set_cons_succ]
    go_simp
    refine (CP3 _).mono ?_
    rintro e w1 ⟨rfl, b1⟩
    go_wp2_with (fail)
    exact hK.out _ _ ⟨rfl, b1⟩
  · intro u1 u2 X hX
    clear hX
    refine wpOp_step rfl (fun K hK => ?_)
    replace hK : Hid _ := hK
    simp only [frP, Act.put, List.getElem_toArray, List.getElem_cons_zero, List.getElem_cons_succ, List.setIfInBounds_toArray, List.set_cons_zero, List.set_cons_succ]
    go_simp
    refine (CM4 _).mono ?_
    rintro e w1 ⟨rfl, b1⟩
    go_wp2_with (fail)
    exact hK.out _ _ ⟨rfl, b1⟩
  · intro u1 r1 r2 X
    refine wpOp_step rfl (fun K hK => ?_)
    simp only [frP, Act.put, List.getElem_toArray, List.getElem_cons_zero, List.getElem_cons_succ, List.setIfInBounds_toArray, List.set_cons_zero, List.set_cons_succ]
    go_simp
    exact hK _ _ ⟨rfl, rfl⟩
  · intro u1 r1 r2 X
    refine wpOp_step rfl (fun K hK => ?_)
    simp only [frP, Act.put, List.getElem_toArray, List.getElem_cons_zero, List.getElem_cons_succ, List.setIfInBounds_toArray, List.set_cons_zero, List.set_cons_succ]
    go_simp
    exact hK _ _ ⟨rfl, rfl⟩
  intro wx19 Gboth Gbet hX m1 m2 hg
  simp only [frP, Act.put, List.setIfInBounds_toArray, List.set_cons_zero, List.set_cons_succ]
  have hlow := bel.size
  have l1 := m1.lt
  have l2 := m2.lt
  have lt_rl := rl.lt
  have lt_rr := rr.lt
  have lt_raa := raa.lt
  have lt_rbb := rbb.lt
  have lt_re := re.lt
  have lt_rda := rda.lt
  have lt_rcb := rcb.lt
  replace rl := rl.below hX
  replace rr := rr.below hX
  replace raa := raa.below hX
  replace rbb := rbb.below hX
  replace re := re.below hX
  replace rda := rda.below hX
  replace rcb := rcb.below hX
  replace bel := below_on bel hX
  replace m1 := m1.rowL.low hlow
  replace m2 := m2.rowL.low hlow
  have th := m1.there (o := 0) (m := Lboth.toArray.size) (by simp [qboth.len])
  have pp := m1.putAll (B := Lboth) (by rw [qboth.len, uV_length])
  replace rl := rl.kept pp.2 (by omega)
  replace rr := rr.kept pp.2 (by omega)
  replace raa := raa.kept pp.2 (by omega)
  replace rbb := rbb.kept pp.2 (by omega)
  replace re := re.kept pp.2 (by omega)
  replace rda := rda.kept pp.2 (by omega)
  replace rcb := rcb.kept pp.2 (by omega)
  replace bel := bel.grown pp.2 bel.size (fun k hk => by cases hk; omega)
  replace m2 := m2.kept pp.2 (by omega)
  have rboth := pp.1
  clear m1 pp
  refine anyT_one (i := 8) (by kernel_rfl) rfl (fun K hK => ?_)
  refine wp_store_mid 84 _ _ rfl Gboth 0 Lboth.toArray rfl rfl th qboth.sz2 (all_oneCell_toArray qboth.one) ?_
  (try dsimp only)
  refine hK.out _ _ ⟨rda.all, rcb.all⟩ (fun _ => trivial) ?_
  clear hK K th
  generalize wx19.setCells Gboth 0 Lboth = wq20 at rl rr raa rbb re rda rcb rboth m2 bel ⊢
  have th := m2.there (o := 0) (m := Lbet.toArray.size) (by simp [qbet.len])
  have pp := m2.putAll (B := Lbet) (by rw [qbet.len, uV_length])
  replace rl := rl.kept pp.2 (by omega)
  replace rr := rr.kept pp.2 (by omega)
  replace raa := raa.kept pp.2 (by omega)
  replace rbb := rbb.kept pp.2 (by omega)
  replace re := re.kept pp.2 (by omega)
  replace rda := rda.kept pp.2 (by omega)
  replace rcb := rcb.kept pp.2 (by omega)
  replace rboth := rboth.kept pp.2 (by omega)
  replace bel := bel.grown pp.2 bel.size (fun k hk => by cases hk; omega)
  have rbet := pp.1
  clear m2 pp
  refine anyT_one (i := 9) (by kernel_rfl) rfl (fun K hK => ?_)
  refine wp_store_mid 84 _ _ rfl Gbet 0 Lbet.toArray rfl rfl th qbet.sz2 (all_oneCell_toArray qbet.one) ?_
  (try dsimp only)
  refine hK.out _ _ ⟨rda.all, rcb.all⟩ (fun _ => trivial) ?_
  clear hK K th
  refine anyT_done (by kernel_rfl) ?_ _
  refine NoPanic.normal ?_
  generalize wq20.setCells Gbet 0 Lbet = wq21 at rl rr raa rbb re rda rcb rboth rbet bel ⊢
  have obet : Gboth ≠ Gbet := hg
  have zboth : w.heap.size < Gboth := by omega
  have zbet : w.heap.size < Gbet := by omega
  clear hg hlow l1 l2 lt_rl lt_rr lt_raa lt_rbb lt_re lt_rda lt_rcb
  clear rda rcb
  go_wp2_with (fail)
  have hd0 : Below wq21.heap.size wq21 wq21.drew := (Below.refl _ _).drew
  refine wp_region_noPanic ?_
  refine wp_region_T 99 (fun X => X.rangeAt Gboth 0 Lboth ∧ X.rangeAt w.heap.size 0 LX ∧ X.rangeAt Gbet 0 Lbet) (fun _ => True) (by kernel_rfl) ?_
  generalize wq21.drew = W22 at hd0 ⊢
  replace rl := rl.below hd0
  replace rr := rr.below hd0
  replace raa := raa.below hd0
  replace rbb := rbb.below hd0
  replace re := re.below hd0
  replace rboth := rboth.below hd0
  replace rbet := rbet.below hd0
  replace bel := below_on bel hd0
  clear hd0
  have hT : W22.rangeAt Gboth 0 Lboth ∧ W22.rangeAt w.heap.size 0 LX ∧ W22.rangeAt Gbet 0 Lbet := ⟨rboth.all, (lad_x rl ), rbet.all⟩
  refine anyT_takeT (i := 0) rfl (by kernel_rfl) (by kernel_rfl) (by kernel_rfl) (by kernel_rfl) (fun _ _ _ h => h) (yieldsIf_load_mid (by rfl) _ _ rfl _ _ rfl Lboth _ (fun _ hw => hw.1) Tryz.underlying84 rfl qboth.sz) hT (fun _ => trivial) ?_
  simp only [Act.put, List.getElem_toArray, List.getElem_cons_zero, List.setIfInBounds_toArray]
  refine anyT_takeT (i := 1) rfl (by kernel_rfl) (by kernel_rfl) (by kernel_rfl) (by kernel_rfl) (fun _ _ _ h => h) (yieldsIf_load_mid (by rfl) _ _ rfl _ _ rfl Lboth _ (fun _ hw => hw.1) Tryz.underlying84 rfl qboth.sz) hT (fun _ => trivial) ?_
  simp only [Act.put, List.getElem_toArray, List.getElem_cons_zero, List.getElem_cons_succ, List.setIfInBounds_toArray, List.set_cons_zero, List.set_cons_succ]
  refine anyT_takeT (i := 3) (v := .pointer (some ⟨w.heap.size, 0, none⟩)) rfl (by kernel_rfl) (by kernel_rfl) (by kernel_rfl) (by kernel_rfl) (fun _ _ _ h => h) (Or.inl ⟨by rfl, fun X hSw => by ((try dsimp only at hSw); go_simp)⟩) hT (fun _ => trivial) ?_
  simp only [Act.put, List.getElem_toArray, List.getElem_cons_zero, List.getElem_cons_succ, List.setIfInBounds_toArray, List.set_cons_zero, List.set_cons_succ]
  refine anyT_takeT (i := 4) rfl (by kernel_rfl) (by kernel_rfl) (by kernel_rfl) (by kernel_rfl) (fun _ _ _ h => h) (yieldsIf_load_mid (by rfl) _ _ rfl _ _ rfl LX _ (fun _ hw => hw.2.1) Tryz.underlying84 rfl qX.sz) hT (fun _ => trivial) ?_
  simp only [Act.put, List.getElem_toArray, List.getElem_cons_zero, List.getElem_cons_succ, List.setIfInBounds_toArray, List.set_cons_zero, List.set_cons_succ]
  refine anyT_takeT (i := 5) rfl (by kernel_rfl) (by kernel_rfl) (by kernel_rfl) (by kernel_rfl) (fun _ _ _ h => h) (yieldsIf_load_mid (by rfl) _ _ rfl _ _ rfl Lbet _ (fun _ hw => hw.2.2) Tryz.underlying84 rfl qbet.sz) hT (fun _ => trivial) ?_
  simp only [Act.put, List.getElem_toArray, List.getElem_cons_zero, List.getElem_cons_succ, List.setIfInBounds_toArray, List.set_cons_zero, List.set_cons_succ]
  refine anyT_takeT (i := 6) rfl (by kernel_rfl) (by kernel_rfl) (by kernel_rfl) (by kernel_rfl) (fun _ _ _ h => h) (yieldsIf_load_mid (by rfl) _ _ rfl _ _ rfl Lbet _ (fun _ hw => hw.2.2) Tryz.underlying84 rfl qbet.sz) hT (fun _ => trivial) ?_
  simp only [Act.put, List.getElem_toArray, List.getElem_cons_zero, List.getElem_cons_succ, List.setIfInBounds_toArray, List.set_cons_zero, List.set_cons_succ]
  refine anyT_one (i := 2) (by kernel_rfl) rfl (fun K hK => ?_)
  go_simp
  refine (CT5 _).mono ?_
  rintro e wc23 ⟨rfl, bc⟩
  clear hT
  replace rl := rl.below bc
  replace rr := rr.below bc
  replace raa := raa.below bc
  replace rbb := rbb.below bc
  replace re := re.below bc
  replace rboth := rboth.below bc
  replace rbet := rbet.below bc
  replace bel := below_on bel bc
  have hT := (show wc23.rangeAt Gboth 0 Lboth ∧ wc23.rangeAt w.heap.size 0 LX ∧ wc23.rangeAt Gbet 0 Lbet from ⟨rboth.all, (lad_x rl ), rbet.all⟩)
  go_wp2_with (fail)
  refine hK.out _ _ hT (fun _ => trivial) ?_
  clear hK K bc
  refine anyT_one (i := 7) (by kernel_rfl) rfl (fun K hK => ?_)
  go_simp
  refine (CT6 _).mono ?_
  rintro e wc24 ⟨rfl, bc⟩
  clear hT
  replace rl := rl.below bc
  replace rr := rr.below bc
  replace raa := raa.below bc
  replace rbb := rbb.below bc
  replace re := re.below bc
  replace rboth := rboth.below bc
  replace rbet := rbet.below bc
  replace bel := below_on bel bc
  have hT := (show wc24.rangeAt Gboth 0 Lboth ∧ wc24.rangeAt w.heap.size 0 LX ∧ wc24.rangeAt Gbet 0 Lbet from ⟨rboth.all, (lad_x rl ), rbet.all⟩)
  go_wp2_with (fail)
  refine hK.out _ _ hT (fun _ => trivial) ?_
  clear hK K bc
  refine anyT_one (i := 8) (by kernel_rfl) rfl (fun K hK => ?_)
  go_simp
  refine (CT7 _).mono ?_
  rintro e wc25 ⟨rfl, bc⟩
  clear hT
  replace rl := rl.below bc
  replace rr := rr.below bc
  replace raa := raa.below bc
  replace rbb := rbb.below bc
  replace re := re.below bc
  replace rboth := rboth.below bc
  replace rbet := rbet.below bc
  replace bel := below_on bel bc
  have hT := (show wc25.rangeAt Gboth 0 Lboth ∧ wc25.rangeAt w.heap.size 0 LX ∧ wc25.rangeAt Gbet 0 Lbet from ⟨rboth.all, (lad_x rl ), rbet.all⟩)
  go_wp2_with (fail)
  refine hK.out _ _ hT (fun _ => trivial) ?_
  clear hK K bc
  refine anyT_takeT (i := 9) rfl (by kernel_rfl) (by kernel_rfl) (by kernel_rfl) (by kernel_rfl) (fun _ _ _ h => h) (yieldsIf_build (by rfl) 88 #[(0, .tmp 65), (1, .tmp 71)] rfl #[(0, .agg LnB.toArray), (1, .agg LnD.toArray)] (by simp [Act.eval]) (fun X => b_rat qnB qnD X)) hT (fun _ => trivial) ?_
  simp only [Act.put, List.getElem_toArray, List.getElem_cons_zero, List.getElem_cons_succ, List.setIfInBounds_toArray, List.set_cons_zero, List.set_cons_succ]
  refine anyT_takeT (i := 10) (v := .pointer (some ⟨w.heap.size, 12, none⟩)) rfl (by kernel_rfl) (by kernel_rfl) (by kernel_rfl) (by kernel_rfl) (fun _ _ _ h => h) (Or.inl ⟨by rfl, fun X hSw => by ((try dsimp only at hSw); go_simp)⟩) hT (fun _ => trivial) ?_
  simp only [Act.put, List.getElem_toArray, List.getElem_cons_zero, List.getElem_cons_succ, List.setIfInBounds_toArray, List.set_cons_zero, List.set_cons_succ]
  clear hT
  have th := rl.there (o := 12) (m := (LnB ++ LnD).toArray.size) (by simp [qnB.len, qnD.len])
  have pp := lad_put_bd rl qX qA qC qB qD qnB qnD
  have lt_rl := rl.lt
  have lt_rr := rr.lt
  have lt_raa := raa.lt
  have lt_rbb := rbb.lt
  have lt_re := re.lt
  have lt_rboth := rboth.lt
  have lt_rbet := rbet.lt
  replace rr := rr.kept pp.2 (by omega)
  replace raa := raa.kept pp.2 (by omega)
  replace rbb := rbb.kept pp.2 (by omega)
  replace re := re.kept pp.2 (by omega)
  replace rboth := rboth.kept pp.2 (by omega)
  replace rbet := rbet.kept pp.2 (by omega)
  replace bel := bel.grown pp.2 bel.size (fun k hk => by cases hk; omega)
  clear rl
  have rl := pp.1
  clear pp lt_rl lt_rr lt_raa lt_rbb lt_re lt_rboth lt_rbet
  refine anyT_one (i := 11) (by kernel_rfl) rfl (fun K hK => ?_)
  refine wp_store_mid 88 _ _ rfl w.heap.size 12 (LnB ++ LnD).toArray rfl rfl th (szRat2 (rat_length qnB qnD)) (all_oneCell_toArray (rat_one qnB qnD)) ?_
  (try dsimp only)
  refine hK.out _ _ ⟨rboth.all, (lad_x rl ), rbet.all⟩ (fun _ => trivial) ?_
  clear hK K th
  refine anyT_done (by kernel_rfl) ?_ _
  refine NoPanic.normal ?_
  generalize wc25.setCells w.heap.size 12 (LnB ++ LnD) = wq26 at rl rr raa rbb re rboth rbet bel ⊢
  clear rboth rbet
  go_wp2_with (fail)
  have hd0 : Below wq26.heap.size wq26 wq26.drew := (Below.refl _ _).drew
  refine wp_region_noPanic ?_
  refine wp_region_T 99 (fun X => X.rangeAt Gaa 0 Laa ∧ X.rangeAt Gbb 0 Lbb ∧ X.rangeAt Ge 0 Le) (fun _ => True) (by kernel_rfl) ?_
  generalize wq26.drew = W27 at hd0 ⊢
  replace rl := rl.below hd0
  replace rr := rr.below hd0
  replace raa := raa.below hd0
  replace rbb := rbb.below hd0
  replace re := re.below hd0
  replace bel := below_on bel hd0
  clear hd0
  have hT : W27.rangeAt Gaa 0 Laa ∧ W27.rangeAt Gbb 0 Lbb ∧ W27.rangeAt Ge 0 Le := ⟨raa.all, rbb.all, re.all⟩
  refine anyT_takeT (i := 0) rfl (by kernel_rfl) (by kernel_rfl) (by kernel_rfl) (by kernel_rfl) (fun _ _ _ h => h) (yieldsIf_load_mid (by rfl) _ _ rfl _ _ rfl Laa _ (fun _ hw => hw.1) Tryz.underlying84 rfl qaa.sz) hT (fun _ => trivial) ?_
  simp only [Act.put, List.getElem_toArray, List.getElem_cons_zero, List.setIfInBounds_toArray]
  refine anyT_takeT (i := 1) rfl (by kernel_rfl) (by kernel_rfl) (by kernel_rfl) (by kernel_rfl) (fun _ _ _ h => h) (yieldsIf_load_mid (by rfl) _ _ rfl _ _ rfl Lbb _ (fun _ hw => hw.2.1) Tryz.underlying84 rfl qbb.sz) hT (fun _ => trivial) ?_
  simp only [Act.put, List.getElem_toArray, List.getElem_cons_zero, List.getElem_cons_succ, List.setIfInBounds_toArray, List.set_cons_zero, List.set_cons_succ]
  refine anyT_takeT (i := 3) rfl (by kernel_rfl) (by kernel_rfl) (by kernel_rfl) (by kernel_rfl) (fun _ _ _ h => h) (yieldsIf_load_mid (by rfl) _ _ rfl _ _ rfl Le _ (fun _ hw => hw.2.2) Tryz.underlying84 rfl qe.sz) hT (fun _ => trivial) ?_
  simp only [Act.put, List.getElem_toArray, List.getElem_cons_zero, List.getElem_cons_succ, List.setIfInBounds_toArray, List.set_cons_zero, List.set_cons_succ]
  refine anyT_takeT (i := 4) rfl (by kernel_rfl) (by kernel_rfl) (by kernel_rfl) (by kernel_rfl) (fun _ _ _ h => h) (yieldsIf_load_mid (by rfl) _ _ rfl _ _ rfl Laa _ (fun _ hw => hw.1) Tryz.underlying84 rfl qaa.sz) hT (fun _ => trivial) ?_
  simp only [Act.put, List.getElem_toArray, List.getElem_cons_zero, List.getElem_cons_succ, List.setIfInBounds_toArray, List.set_cons_zero, List.set_cons_succ]
  refine anyT_takeT (i := 5) rfl (by kernel_rfl) (by kernel_rfl) (by kernel_rfl) (by kernel_rfl) (fun _ _ _ h => h) (yieldsIf_load_mid (by rfl) _ _ rfl _ _ rfl Le _ (fun _ hw => hw.2.2) Tryz.underlying84 rfl qe.sz) hT (fun _ => trivial) ?_
  simp only [Act.put, List.getElem_toArray, List.getElem_cons_zero, List.getElem_cons_succ, List.setIfInBounds_toArray, List.set_cons_zero, List.set_cons_succ]
  refine anyT_takeT (i := 6) rfl (by kernel_rfl) (by kernel_rfl) (by kernel_rfl) (by kernel_rfl) (fun _ _ _ h => h) (yieldsIf_build (by rfl) 84 #[(0, .const (.int .u64 121665))] rfl #[(0, .int .u64 121665)] (by simp [Act.eval]) (fun X => BK X)) hT (fun _ => trivial) ?_
  simp only [Act.put, List.getElem_toArray, List.getElem_cons_zero, List.getElem_cons_succ, List.setIfInBounds_toArray, List.set_cons_zero, List.set_cons_succ]
  refine anyT_one (i := 2) (by kernel_rfl) rfl (fun K hK => ?_)
  go_simp
  refine (CT8 _).mono ?_
  rintro e wc28 ⟨rfl, bc⟩
  clear hT
  replace rl := rl.below bc
  replace rr := rr.below bc
  replace raa := raa.below bc
  replace rbb := rbb.below bc
  replace re := re.below bc
  replace bel := below_on bel bc
  have hT := (show wc28.rangeAt Gaa 0 Laa ∧ wc28.rangeAt Gbb 0 Lbb ∧ wc28.rangeAt Ge 0 Le from ⟨raa.all, rbb.all, re.all⟩)
  go_wp2_with (fail)
  refine hK.out _ _ hT (fun _ => trivial) ?_
  clear hK K bc
  refine anyT_one (i := 7) (by kernel_rfl) rfl (fun K hK => ?_)
  go_simp
  refine (CT9 _).mono ?_
  rintro e wc29 ⟨rfl, bc⟩
  clear hT
  replace rl := rl.below bc
  replace rr := rr.below bc
  replace raa := raa.below bc
  replace rbb := rbb.below bc
  replace re := re.below bc
  replace bel := below_on bel bc
  have hT := (show wc29.rangeAt Gaa 0 Laa ∧ wc29.rangeAt Gbb 0 Lbb ∧ wc29.rangeAt Ge 0 Le from ⟨raa.all, rbb.all, re.all⟩)
  go_wp2_with (fail)
  refine hK.out _ _ hT (fun _ => trivial) ?_
  clear hK K bc
  refine anyT_one (i := 8) (by kernel_rfl) rfl (fun K hK => ?_)
  go_simp
  refine (CP4 _).mono ?_
  rintro e wc30 ⟨rfl, bc⟩
  clear hT
  replace rl := rl.below bc
  replace rr := rr.below bc
  replace raa := raa.below bc
  replace rbb := rbb.below bc
  replace re := re.below bc
  replace bel := below_on bel bc
  have hT := (show wc30.rangeAt Gaa 0 Laa ∧ wc30.rangeAt Gbb 0 Lbb ∧ wc30.rangeAt Ge 0 Le from ⟨raa.all, rbb.all, re.all⟩)
  go_wp2_with (fail)
  refine hK.out _ _ hT (fun _ => trivial) ?_
  clear hK K bc
  refine anyT_one (i := 9) (by kernel_rfl) rfl (fun K hK => ?_)
  go_simp
  refine (CT10 _).mono ?_
  rintro e wc31 ⟨rfl, bc⟩
  clear hT
  replace rl := rl.below bc
  replace rr := rr.below bc
  replace raa := raa.below bc
  replace rbb := rbb.below bc
  replace re := re.below bc
  replace bel := below_on bel bc
  have hT := (show wc31.rangeAt Gaa 0 Laa ∧ wc31.rangeAt Gbb 0 Lbb ∧ wc31.rangeAt Ge 0 Le from ⟨raa.all, rbb.all, re.all⟩)
  go_wp2_with (fail)
  refine hK.out _ _ hT (fun _ => trivial) ?_
  clear hK K bc
  refine anyT_takeT (i := 10) rfl (by kernel_rfl) (by kernel_rfl) (by kernel_rfl) (by kernel_rfl) (fun _ _ _ h => h) (yieldsIf_build (by rfl) 88 #[(0, .tmp 76), (1, .tmp 83)] rfl #[(0, .agg LnA.toArray), (1, .agg LnC.toArray)] (by simp [Act.eval]) (fun X => b_rat qnA qnC X)) hT (fun _ => trivial) ?_
  simp only [Act.put, List.getElem_toArray, List.getElem_cons_zero, List.getElem_cons_succ, List.setIfInBounds_toArray, List.set_cons_zero, List.set_cons_succ]
  refine anyT_takeT (i := 11) (v := .pointer (some ⟨w.heap.size, 4, none⟩)) rfl (by kernel_rfl) (by kernel_rfl) (by kernel_rfl) (by kernel_rfl) (fun _ _ _ h => h) (Or.inl ⟨by rfl, fun X hSw => by ((try dsimp only at hSw); go_simp)⟩) hT (fun _ => trivial) ?_
  simp only [Act.put, List.getElem_toArray, List.getElem_cons_zero, List.getElem_cons_succ, List.setIfInBounds_toArray, List.set_cons_zero, List.set_cons_succ]
  clear hT
  have th := rl.there (o := 4) (m := (LnA ++ LnC).toArray.size) (by simp [qnA.len, qnC.len])
  have pp := lad_put_ac rl qX qA qC qnA qnC
  have lt_rl := rl.lt
  have lt_rr := rr.lt
  have lt_raa := raa.lt
  have lt_rbb := rbb.lt
  have lt_re := re.lt
  replace rr := rr.kept pp.2 (by omega)
  replace raa := raa.kept pp.2 (by omega)
  replace rbb := rbb.kept pp.2 (by omega)
  replace re := re.kept pp.2 (by omega)
  replace bel := bel.grown pp.2 bel.size (fun k hk => by cases hk; omega)
  clear rl
  have rl := pp.1
  clear pp lt_rl lt_rr lt_raa lt_rbb lt_re
  refine anyT_one (i := 12) (by kernel_rfl) rfl (fun K hK => ?_)
  refine wp_store_mid 88 _ _ rfl w.heap.size 4 (LnA ++ LnC).toArray rfl rfl th (szRat2 (rat_length qnA qnC)) (all_oneCell_toArray (rat_one qnA qnC)) ?_
  (try dsimp only)
  refine hK.out _ _ ⟨raa.all, rbb.all, re.all⟩ (fun _ => trivial) ?_
  clear hK K th
  refine anyT_done (by kernel_rfl) ?_ _
  refine NoPanic.normal ?_
  generalize wc31.setCells w.heap.size 4 (LnA ++ LnC) = wq32 at rl rr raa rbb re bel ⊢
  have hlen := LadV_length qX qnA qnC qnB qnD
  have hone := LadV_one qX qnA qnC qnB qnD
  rw [← hR.out] at rl hlen hone
  have q3 := rl.all
  have t3 := rr.there (o := 0) (m := LR.toArray.size) (by simp [hlen])
  have p3 := rr.putAll (B := LR) (by rw [hlen, uV_length])
  replace bel := bel.grown p3.2 bel.size (fun k hk => by cases hk; omega)
  have hld := run_loadVar_mid (P := Tryz.prog) _ _ 0 90 _ _ p3.1.all Tryz.underlying90 rfl (szLad hlen)
  have z3 := szLad hlen
  have z4 := szLad2 hlen
  clear rl rr p3 hR raa rbb re
  go_wp2_with (first | (with_reducible refine wpList_load_mid rfl 90 _ rfl w.heap.size 0 rfl LR _ q3 Tryz.underlying90 rfl z3 ?_) | (with_reducible refine wpList_store_mid rfl 90 _ _ rfl Gr 0 LR.toArray rfl rfl t3 z4 (all_oneCell_toArray hone) ?_; (try dsimp only)))
  (try simp only [Exit.inBlock, Exit.then])
  refine bodyPost_ret (v := .agg LR.toArray) ?_ rfl ⟨rfl, bel⟩
  simp [results, asAddr, Act.put, hld]

end Go.Proofs.YtdjdanpicbaieaaGreatDoor

namespace Go.Proofs.YtdjdanpicbaieaaGreatDoor
open Go.RowKit

theorem modP_range (z : Int) : 0 ≤ z % fldP ∧ z % fldP < fldP := ⟨Int.emod_nonneg _ (by have := fldP_pos; omega), Int.emod_lt_of_pos _ fldP_pos⟩
theorem modP_b4 (z : Int) : 0 ≤ z % fldP ∧ z % fldP < bU ^ 4 := by
  have h := modP_range z
  have := b4U
  omega
theorem powP_mul (x : Int) (a b : Nat) : (x ^ a % fldP) * (x ^ b % fldP) % fldP = x ^ (a + b) % fldP := by
  rw [left_mul, right_mul, ← Int.pow_add]
theorem powP_pow (x : Int) (a b : Nat) : (x ^ a % fldP) ^ b % fldP = x ^ (a * b) % fldP := by
  rw [left_pow, ← Int.pow_mul]
theorem two_pos (a : Nat) : 1 ≤ 2 ^ a := Nat.one_le_two_pow

set_option maxRecDepth 100000 in
set_option maxHeartbeats 8000000 in
theorem squared_any (x : Int) (n : Nat) (w : World) (hx0 : 0 ≤ x) (hx : x < fldP) (hn : n ≤ 1000) :
    Calls Tryz.prog 101 #[uP x, .int .i64 (n : Int)] w fun e w' => e = .returned (uP (x ^ 2 ^ n % fldP)) ∧ Below w.heap.size w w' := by
  have HV : Hid (∀ k, numU (x ^ 2 ^ k % fldP * (x ^ 2 ^ k % fldP) % fldP) = numU (x ^ 2 ^ (k + 1) % fldP)) := fun k => by
    show numU _ = _
    rw [powP_mul, Nat.pow_succ, Nat.mul_two]
  have CT : Hid (∀ k X, Calls Tryz.prog 64 #[uP (x ^ 2 ^ k % fldP), uP (x ^ 2 ^ k % fldP)] X fun e w' => e = .returned (uP (x ^ 2 ^ k % fldP * (x ^ 2 ^ k % fldP) % fldP)) ∧ Below X.heap.size X w') := fun k X => times_any _ _ X (modP_b4 _).1 (modP_b4 _).2 (modP_b4 _).1 (modP_b4 _).2
  have h0 : numU (x ^ 2 ^ 0 % fldP) = numU x := by rw [Nat.pow_zero, Int.pow_one, Int.emod_eq_of_lt hx0 hx]
  replace h0 : Hid (numU (x ^ 2 ^ 0 % fldP) = numU x) := h0
  clear hx0 hx
  have hz := (zero_of_info infoU4).1
  unfold uP
  obtain ⟨V, hV⟩ : ∃ V, V = numU (x ^ 2 ^ n % fldP) := ⟨_, rfl⟩
  rw [← hV]
  replace hV : Hid (V = numU (x ^ 2 ^ n % fldP)) := hV
  unfold uP at CT
  obtain ⟨A, hA⟩ : ∃ A, A = (uV (numU x) 4).toArray := ⟨_, rfl⟩
  obtain ⟨Z, hZ⟩ : ∃ Z, Z = (uV (fun _ => 0) 4).toArray := ⟨_, rfl⟩
  obtain ⟨m0, m1, bel0, sz⟩ := rows2 w (numU x) (fun _ => 0) hA hZ
  rw [← hA]
  rw [← hZ] at hz
  clear hA
  replace hZ : Hid (Z = (uV (fun _ => 0) 4).toArray) := hZ
  go_enter Tryz.func101, Tryz.ntmps101
  go_wp2_with (fail)
  obtain ⟨G1, hG1⟩ : ∃ G1, G1 = w.heap.size + 1 := ⟨_, rfl⟩
  rw [← hG1] at m1 sz ⊢
  generalize (w.alloc (.cells A 84)).alloc (.cells Z 84) = wb at m0 m1 bel0 sz ⊢
  have hne : w.heap.size ≠ G1 := by omega
  have hloR : w.heap.size ≤ G1 := by omega
  clear hG1 sz
  clear hZ
  rw [← h0.out] at m0
  go_loopw [6] (fun i wr => ∃ k : Nat, k ≤ n ∧ i = .int .i64 k ∧ RowU 84 4 wr w.heap.size w.heap.size (numU (x ^ 2 ^ k % fldP)) ∧ RowU 84 4 wr w.heap.size G1 (fun _ => 0) ∧ Below w.heap.size w wr)
    (fun i _ => n - (intOf i).toNat)
  case atStart => exact ⟨0, by omega, rfl, m0, m1, bel0⟩
  case round =>
    clear m0 m1 bel0 h0
    obtain ⟨k, hk, rfl, hn0, hr, bel⟩ := hrel
    by_cases hlt : k < n
    · have hlt' : (k : Int) < (n : Int) := by omega
      have C := CT.out k
      simp only [HV.out k] at C
      obtain ⟨U, hU⟩ : ∃ U, U = numU (x ^ 2 ^ (k + 1) % fldP) := ⟨_, rfl⟩
      rw [← hU] at C
      replace hU : Hid (U = numU (x ^ 2 ^ (k + 1) % fldP)) := hU
      generalize numU (x ^ 2 ^ k % fldP) = F at hn0 C
      have hra := hn0.range
      go_wp2_with (refine wpList_load_mid rfl 84 _ rfl w.heap.size 0 rfl (uV F 4) _ hra Tryz.underlying84 rfl sizeU ?_)
      refine (C _).mono ?_
      rintro e w2 ⟨rfl, b2⟩
      have hn2 := hn0.below b2
      have hr2 := hr.below b2
      have bel2 := below_on bel b2
      have hp := hn2.put (f' := U)
      have hth := hn2.there2 (f' := U)
      have hr3 := hr2.kept hp.2 hne.symm
      have hws := hn2.lt
      have bel3 := bel2.grown hp.2 (by omega) (fun k hk => by cases hk; exact Nat.le_refl _)
      have hn3 := hp.1
      clear hp hra hn0 hr bel b2 hn2 hr2 bel2 C
      go_wp2_with (refine wpList_store_mid rfl 84 _ _ rfl w.heap.size 0 (uV U 4).toArray rfl rfl hth sizeU2 (all_oneCell_toArray (uV_one U 4)) ?_)
      go_roundw
      case rel => exact ⟨k + 1, by omega, by go_num, by rw [← hU.out]; exact hn3, hr3, bel3⟩
      case measure => simp [intOf]; omega
    · obtain rfl : k = n := by omega
      have hno : ¬ (k : Int) < (k : Int) := by omega
      rw [← hV.out] at hn0
      have hra := hn0.range
      have hws := hn0.lt
      clear CT HV hV hn0
      have hra2 := hra
      have hp := RowU.put hr (f' := V)
      have hth := RowU.there2 hr (f' := V)
      have hbel := Below.grown bel hp.2 (by omega) (fun k hk => by cases hk; exact hloR)
      have hld := run_loadVar_mid (P := Tryz.prog) _ G1 0 84 _ _ hp.1.range Tryz.underlying84 rfl sizeU
      clear hp
      go_wp2_with (first | (refine wpList_load_mid rfl 84 _ rfl w.heap.size 0 rfl (uV V 4) _ hra2 Tryz.underlying84 rfl sizeU ?_) | (refine wpList_store_mid rfl 84 _ _ rfl G1 0 (uV V 4).toArray rfl rfl hth sizeU2 (all_oneCell_toArray (uV_one V 4)) ?_))
      (try simp only [Exit.inBlock, Exit.then])
      refine bodyPost_ret (v := .agg (uV V 4).toArray) ?_ rfl ⟨rfl, hbel⟩
      simp [results, asAddr, hld]

end Go.Proofs.YtdjdanpicbaieaaGreatDoor

namespace Go.Proofs.YtdjdanpicbaieaaGreatDoor
open Go.RowKit
set_option maxRecDepth 100000

def numV (z : Int) : List Value := uV (numU z) 4
theorem numV_q4 (z : Int) : Q4 (numV z) := q4 z
def ladC (x : Int) (s : Lad) : List Value := LadV (numV x) (numV s.a) (numV s.c) (numV s.b) (numV s.d)
theorem ladC_length (x : Int) (s : Lad) : (ladC x s).length = 20 := LadV_length (q4 _) (q4 _) (q4 _) (q4 _) (q4 _)
theorem ladC_one (x : Int) (s : Lad) : ∀ v ∈ ladC x s, v.oneCell' = true := LadV_one (q4 _) (q4 _) (q4 _) (q4 _) (q4 _)
def modL (s : Lad) : Lad := ⟨s.a % fldP, s.b % fldP, s.c % fldP, s.d % fldP⟩
def inP (x : Int) : Prop := 0 ≤ x ∧ x < fldP
theorem inP_mod (x : Int) : inP (x % fldP) := modP_range x
theorem inP.b4 {x : Int} (h : inP x) : 0 ≤ x ∧ x < bU ^ 4 := by have := b4U; have := h.1; have := h.2; have := fldP_pos; omega
def inL (s : Lad) : Prop := inP s.a ∧ inP s.b ∧ inP s.c ∧ inP s.d
theorem inL_mod (s : Lad) : inL (modL s) := ⟨inP_mod _, inP_mod _, inP_mod _, inP_mod _⟩
theorem inL.ladIf {s : Lad} (h : inL s) (t : Bool) : inL (ladIf t s) := by
  cases t
  · exact h
  · exact ⟨h.2.1, h.1, h.2.2.2, h.2.2.1⟩
theorem modL_like (s : Lad) : likeL (modL s) s := ⟨likeP_mod _, likeP_mod _, likeP_mod _, likeP_mod _⟩
theorem likeL.modL {s t : Lad} (h : likeL s t) : modL s = modL t := by
  unfold Go.Proofs.YtdjdanpicbaieaaGreatDoor.modL
  rw [h.1.mod, h.2.1.mod, h.2.2.1.mod, h.2.2.2.mod]

theorem ladderAt_any (x : Int) (w : World) : Calls Tryz.prog 62 #[.agg (numV x).toArray] w fun e w' => e = .returned (.agg (ladC x ⟨1, x, 0, 1⟩).toArray) ∧ Below w.heap.size w w' :=
  ladderAt_sym (numV x) (numV 1) (numV 0) w (q4 _) rfl rfl

theorem changed_any (x : Int) (s : Lad) (t : Bool) (w : World) : Calls Tryz.prog 97 #[.agg (ladC x s).toArray, .bool t] w fun e w' => e = .returned (.agg (ladC x (ladIf t s)).toArray) ∧ Below w.heap.size w w' := by
  cases t
  · exact changed_false _ _ _ _ _ w (q4 _) (q4 _) (q4 _) (q4 _) (q4 _)
  · exact changed_true _ _ _ _ _ w (q4 _) (q4 _) (q4 _) (q4 _) (q4 _)

theorem cplus {x y : Int} (hx : inP x) (hy : inP y) (X : World) : Calls Tryz.prog 131 #[.agg (numV x).toArray, .agg (numV y).toArray] X fun e w' => e = .returned (.agg (numV ((x + y) % fldP)).toArray) ∧ Below X.heap.size X w' :=
  plus_any x y X hx.1 hy.1 (by have := b4U; have := hx.2; have := hy.2; omega)
theorem cminus {x y : Int} (hx : inP x) (hy : inP y) (X : World) : Calls Tryz.prog 132 #[.agg (numV x).toArray, .agg (numV y).toArray] X fun e w' => e = .returned (.agg (numV ((x - y) % fldP)).toArray) ∧ Below X.heap.size X w' :=
  minus_any x y X hx.1 hx.2 hy.1 hy.2
theorem ctimes {x y : Int} (hx : inP x) (hy : inP y) (X : World) : Calls Tryz.prog 64 #[.agg (numV x).toArray, .agg (numV y).toArray] X fun e w' => e = .returned (.agg (numV (x * y % fldP)).toArray) ∧ Below X.heap.size X w' :=
  times_any x y X hx.b4.1 hx.b4.2 hy.b4.1 hy.b4.2

theorem step_any (x : Int) (s : Lad) (w : World) (hx : inP x) (hs : inL s) : Calls Tryz.prog 98 #[.agg (ladC x s).toArray] w fun e w' => e = .returned (.agg (ladC x (modL (ladStep x s))).toArray) ∧ Below w.heap.size w w' := by
  obtain ⟨a, ha⟩ : ∃ a, a = (s.a + s.c) % fldP := ⟨_, rfl⟩
  obtain ⟨b, hb⟩ : ∃ a, a = (s.a - s.c) % fldP := ⟨_, rfl⟩
  obtain ⟨c, hc⟩ : ∃ a, a = (s.b + s.d) % fldP := ⟨_, rfl⟩
  obtain ⟨d, hd⟩ : ∃ a, a = (s.b - s.d) % fldP := ⟨_, rfl⟩
  have la : likeP a (s.a + s.c) := by rw [ha]; exact likeP_mod _
  have lb : likeP b (s.a - s.c) := by rw [hb]; exact likeP_mod _
  have lc : likeP c (s.b + s.d) := by rw [hc]; exact likeP_mod _
  have ld : likeP d (s.b - s.d) := by rw [hd]; exact likeP_mod _
  have ia : inP a := by rw [ha]; exact inP_mod _
  have ib : inP b := by rw [hb]; exact inP_mod _
  have ic : inP c := by rw [hc]; exact inP_mod _
  have id' : inP d := by rw [hd]; exact inP_mod _
  have laa : likeP (a * a % fldP) (ladEE s) := (likeP_mod _).trans (la.mul la)
  have lbb : likeP (b * b % fldP) (ladFF s) := (likeP_mod _).trans (lb.mul lb)
  have lda : likeP (d * a % fldP) (ladHE s) := (likeP_mod _).trans (ld.mul la)
  have lcb : likeP (c * b % fldP) (ladGF s) := (likeP_mod _).trans (lc.mul lb)
  have le : likeP ((a * a % fldP - b * b % fldP) % fldP) (ladEE s - ladFF s) := (likeP_mod _).trans (laa.sub lbb)
  have lbo : likeP ((d * a % fldP + c * b % fldP) % fldP) (ladHE s + ladGF s) := (likeP_mod _).trans (lda.add lcb)
  have lbe : likeP ((d * a % fldP - c * b % fldP) % fldP) (ladHE s - ladGF s) := (likeP_mod _).trans (lda.sub lcb)
  have h := step_sym (numV x) (numV s.a) (numV s.c) (numV s.b) (numV s.d) (numV 121665) (numV a) (numV b) (numV (a * a % fldP)) (numV (b * b % fldP)) (numV ((a * a % fldP - b * b % fldP) % fldP)) (numV c) (numV d) (numV (d * a % fldP)) (numV (c * b % fldP))
    (numV ((d * a % fldP + c * b % fldP) % fldP)) (numV ((d * a % fldP - c * b % fldP) % fldP))
    (numV ((d * a % fldP + c * b % fldP) % fldP * ((d * a % fldP + c * b % fldP) % fldP) % fldP)) (numV ((d * a % fldP - c * b % fldP) % fldP * ((d * a % fldP - c * b % fldP) % fldP) % fldP))
    (numV (x * ((d * a % fldP - c * b % fldP) % fldP * ((d * a % fldP - c * b % fldP) % fldP) % fldP) % fldP))
    (numV (a * a % fldP * (b * b % fldP) % fldP)) (numV ((a * a % fldP - b * b % fldP) % fldP * 121665 % fldP)) (numV ((a * a % fldP + (a * a % fldP - b * b % fldP) % fldP * 121665 % fldP) % fldP))
    (numV ((a * a % fldP - b * b % fldP) % fldP * ((a * a % fldP + (a * a % fldP - b * b % fldP) % fldP * 121665 % fldP) % fldP) % fldP))
    w rfl (q4 _) (q4 _) (q4 _) (q4 _) (q4 _) (q4 _) (q4 _) (q4 _) (q4 _) (q4 _) (q4 _) (q4 _) (q4 _) (q4 _) (q4 _) (q4 _) (q4 _) (q4 _) (q4 _) (q4 _)
    (by have h := cplus hs.1 hs.2.2.1; rw [← ha] at h; exact h) (by have h := cminus hs.1 hs.2.2.1; rw [← hb] at h; exact h) (ctimes ia ia) (ctimes ib ib) (cminus (inP_mod _) (inP_mod _))
    (by have h := cplus hs.2.1 hs.2.2.2; rw [← hc] at h; exact h) (by have h := cminus hs.2.1 hs.2.2.2; rw [← hd] at h; exact h) (ctimes id' ia) (ctimes ic ib) (cplus (inP_mod _) (inP_mod _)) (cminus (inP_mod _) (inP_mod _))
    (ctimes (inP_mod _) (inP_mod _)) (ctimes (inP_mod _) (inP_mod _)) (ctimes hx (inP_mod _))
    (ctimes (inP_mod _) (inP_mod _)) (ctimes (inP_mod _) ⟨by decide, by decide⟩) (cplus (inP_mod _) (inP_mod _)) (ctimes (inP_mod _) (inP_mod _))
  have eA : a * a % fldP * (b * b % fldP) % fldP = (ladStep x s).a % fldP := (laa.mul lbb).mod
  have eB : (d * a % fldP + c * b % fldP) % fldP * ((d * a % fldP + c * b % fldP) % fldP) % fldP = (ladStep x s).b % fldP := (lbo.mul lbo).mod
  have eD : x * ((d * a % fldP - c * b % fldP) % fldP * ((d * a % fldP - c * b % fldP) % fldP) % fldP) % fldP = (ladStep x s).d % fldP := (((likeP_mod _).trans (lbe.mul lbe)).mulL x).mod
  have eC : (a * a % fldP - b * b % fldP) % fldP * ((a * a % fldP + (a * a % fldP - b * b % fldP) % fldP * 121665 % fldP) % fldP) % fldP = (ladStep x s).c % fldP :=
    (le.mul ((likeP_mod _).trans (laa.add ((likeP_mod _).trans (le.mulR _))))).mod
  rw [eA, eB, eC, eD] at h
  exact h

end Go.Proofs.YtdjdanpicbaieaaGreatDoor

namespace Go.Proofs.YtdjdanpicbaieaaGreatDoor
open Go.RowKit

set_option maxRecDepth 100000 in
set_option maxHeartbeats 8000000 in
theorem ones_any (x : Int) (hx0 : 0 ≤ x) (hx : x < fldP) : ∀ (n : Nat), 1 ≤ n → n ≤ 1000 → ∀ (w : World),
    Calls Tryz.prog 102 #[uP x, .int .i64 (n : Int)] w fun e w' => e = .returned (uP (x ^ (2 ^ n - 1) % fldP)) ∧ Below w.heap.size w w' := by
  intro n
  induction n using Nat.strongRecOn with
  | ind n ih =>
  intro hn1 hn2 w
  by_cases h1 : n = 1
  · subst h1
    have e0 : x ^ (2 ^ 1 - 1) % fldP = x := by rw [show 2 ^ 1 - 1 = 1 from rfl, Int.pow_one, Int.emod_eq_of_lt hx0 hx]
    rw [e0, show ((1 : Nat) : Int) = 1 from rfl]
    clear ih e0 hx0 hx
    have hz := (zero_of_info infoU4).1
    unfold uP
    obtain ⟨V, hV⟩ : ∃ V, V = numU x := ⟨_, rfl⟩
    rw [← hV]
    clear hV
    obtain ⟨A, hA⟩ : ∃ A, A = (uV (V) 4).toArray := ⟨_, rfl⟩
    obtain ⟨Z, hZ⟩ : ∃ Z, Z = (uV (fun _ => 0) 4).toArray := ⟨_, rfl⟩
    obtain ⟨m0, m1, bel0, sz⟩ := rows2 w (V) (fun _ => 0) hA hZ
    rw [← hA]
    rw [← hZ] at hz
    replace hA : Hid (A = (uV V 4).toArray) := hA
    replace hZ : Hid (Z = (uV (fun _ => 0) 4).toArray) := hZ
    have hra := m0.range
    have hp := m1.put (f' := V)
    have hth := m1.there2 (f' := V)
    have hbel := bel0.grown hp.2 (by omega) (fun k hk => by cases hk; omega)
    have hld := run_loadVar_mid (P := Tryz.prog) _ (w.heap.size + 1) 0 84 _ _ hp.1.range Tryz.underlying84 rfl sizeU
    clear hp hZ
    go_enter Tryz.func102, Tryz.ntmps102
    go_wp2_with (first | (refine wpList_load_mid rfl 84 _ rfl w.heap.size 0 rfl (uV V 4) _ hra Tryz.underlying84 rfl sizeU ?_) | (refine wpList_store_mid rfl 84 _ _ rfl (w.heap.size + 1) 0 (uV V 4).toArray rfl rfl hth sizeU2 (all_oneCell_toArray (uV_one V 4)) ?_))
    (try simp only [Exit.inBlock, Exit.then])
    refine bodyPost_ret (v := .agg (uV V 4).toArray) ?_ rfl ⟨by rw [hA.out], hbel⟩
    simp [results, asAddr, Act.put, hld]
  · obtain ⟨a, ha⟩ : ∃ a, a = n / 2 := ⟨_, rfl⟩
    have CI := ih a (by omega) (by omega) (by omega)
    have CS : ∀ X, Calls Tryz.prog 101 #[uP (x ^ (2 ^ a - 1) % fldP), .int .i64 (a : Int)] X fun e w' => e = .returned (uP ((x ^ (2 ^ a - 1) % fldP) ^ 2 ^ a % fldP)) ∧ Below X.heap.size X w' := fun X => squared_any _ a X (modP_range _).1 (modP_range _).2 (by omega)
    have CT : ∀ X, Calls Tryz.prog 64 #[uP (x ^ ((2 ^ a - 1) * 2 ^ a) % fldP), uP (x ^ (2 ^ a - 1) % fldP)] X fun e w' => e = .returned (uP (x ^ ((2 ^ a - 1) * 2 ^ a) % fldP * (x ^ (2 ^ a - 1) % fldP) % fldP)) ∧ Below X.heap.size X w' := fun X => times_any _ _ X (modP_b4 _).1 (modP_b4 _).2 (modP_b4 _).1 (modP_b4 _).2
    simp only [powP_pow] at CS
    simp only [powP_mul] at CT
    have h2a := two_pos a
    have e2 : (2 ^ a - 1) * 2 ^ a + (2 ^ a - 1) = 2 ^ (2 * a) - 1 := by
      rw [show 2 * a = a + a by omega, Nat.pow_add, Nat.sub_mul, Nat.one_mul]
      have : 1 * 2 ^ a ≤ 2 ^ a * 2 ^ a := Nat.mul_le_mul_right _ h2a
      omega
    simp only [e2] at CT
    have CS1 : ∀ X, Calls Tryz.prog 101 #[uP (x ^ (2 ^ (2 * a) - 1) % fldP), .int .i64 1] X fun e w' => e = .returned (uP ((x ^ (2 ^ (2 * a) - 1) % fldP) ^ 2 ^ 1 % fldP)) ∧ Below X.heap.size X w' := fun X => squared_any _ 1 X (modP_range _).1 (modP_range _).2 (by omega)
    have CT1 : ∀ X, Calls Tryz.prog 64 #[uP (x ^ ((2 ^ (2 * a) - 1) * 2 ^ 1) % fldP), uP x] X fun e w' => e = .returned (uP (x ^ ((2 ^ (2 * a) - 1) * 2 ^ 1) % fldP * x % fldP)) ∧ Below X.heap.size X w' := fun X => times_any _ _ X (modP_b4 _).1 (modP_b4 _).2 hx0 (by have := b4U; omega)
    simp only [powP_pow] at CS1
    have e3 : x ^ ((2 ^ (2 * a) - 1) * 2 ^ 1) % fldP * x % fldP = x ^ (2 ^ (2 * a + 1) - 1) % fldP := by
      rw [left_mul, ← Int.pow_succ]
      congr 2
      have := two_pos (2 * a)
      rw [Nat.pow_succ]
      omega
    simp only [e3] at CT1
    have ea : Int.tdiv (n : Int) 2 = (a : Int) := by rw [Int.tdiv_eq_ediv_of_nonneg (by omega)]; omega
    have wa : IntKind.i64.wrap (a : Int) = (a : Int) := by rw [IntKind.wrap_i64]; omega
    have ea' : (n : Int) / 2 = (a : Int) := by omega
    have h1' : ¬ (n : Int) = 1 := by omega
    have hsel : (n % 2 = 1 → n = 2 * a + 1) ∧ (n % 2 ≠ 1 → n = 2 * a) := by omega
    replace hsel : Hid ((n % 2 = 1 → n = 2 * a + 1) ∧ (n % 2 ≠ 1 → n = 2 * a)) := hsel
    clear ih ha e2 e3 h2a hx0 hx
    have hz := (zero_of_info infoU4).1
    unfold uP
    unfold uP at CI CS CT CS1 CT1
    obtain ⟨H, hH⟩ : ∃ H, H = numU (x ^ (2 ^ a - 1) % fldP) := ⟨_, rfl⟩
    rw [← hH] at CI CS CT
    obtain ⟨Q, hQ⟩ : ∃ Q, Q = numU (x ^ ((2 ^ a - 1) * 2 ^ a) % fldP) := ⟨_, rfl⟩
    rw [← hQ] at CS CT
    obtain ⟨R, hR⟩ : ∃ R, R = numU (x ^ (2 ^ (2 * a) - 1) % fldP) := ⟨_, rfl⟩
    rw [← hR] at CT CS1
    obtain ⟨S1, hS1⟩ : ∃ S1, S1 = numU (x ^ ((2 ^ (2 * a) - 1) * 2 ^ 1) % fldP) := ⟨_, rfl⟩
    rw [← hS1] at CS1 CT1
    obtain ⟨O, hO⟩ : ∃ O, O = numU (x ^ (2 ^ (2 * a + 1) - 1) % fldP) := ⟨_, rfl⟩
    rw [← hO] at CT1
    obtain ⟨V, hV⟩ : ∃ V, V = numU (x ^ (2 ^ n - 1) % fldP) := ⟨_, rfl⟩
    rw [← hV]
    have hodd : Hid (n % 2 = 1 → V = O) := fun h => by rw [hV, hO, ← hsel.out.1 h]
    have hevn : Hid (n % 2 ≠ 1 → V = R) := fun h => by rw [hV, hR, ← hsel.out.2 h]
    clear hsel hV hO hS1 hR hQ hH
    obtain ⟨F, hF⟩ : ∃ F, F = numU x := ⟨_, rfl⟩
    rw [← hF] at CI CT1 ⊢
    clear hF
    obtain ⟨A, hA⟩ : ∃ A, A = (uV (F) 4).toArray := ⟨_, rfl⟩
    obtain ⟨Z, hZ⟩ : ∃ Z, Z = (uV (fun _ => 0) 4).toArray := ⟨_, rfl⟩
    obtain ⟨m0, m1, bel0, sz⟩ := rows2 w (F) (fun _ => 0) hA hZ
    rw [← hA]
    rw [← hZ] at hz
    clear hA
    replace hZ : Hid (Z = (uV (fun _ => 0) 4).toArray) := hZ
    go_enter Tryz.func102, Tryz.ntmps102
    have hra := m0.range
    go_wp2_with (refine wpList_load_mid rfl 84 _ rfl w.heap.size 0 rfl (uV F 4) _ hra Tryz.underlying84 rfl sizeU ?_)
    obtain ⟨G1, hG1⟩ : ∃ G1, G1 = w.heap.size + 1 := ⟨_, rfl⟩
    rw [← hG1] at m1 sz ⊢
    generalize (w.alloc (.cells A 84)).alloc (.cells Z 84) = wb at m0 m1 bel0 sz ⊢
    have hne : w.heap.size ≠ G1 := by omega
    have hloR : w.heap.size ≤ G1 := by omega
    clear hG1 sz
    refine (CI _).mono ?_
    rintro e w2 ⟨rfl, b2⟩
    replace m0 := m0.below b2
    replace m1 := m1.below b2
    replace bel0 := below_on bel0 b2
    clear b2 CI hra
    have m3 := RowU.made w2 84 4 w.heap.size (fun _ => 0) (by decide) (by have := m0.lt; omega)
    rw [← hZ.out] at m3
    have b3 : Below w2.heap.size w2 (w2.alloc (.cells Z 84)) := (Below.refl _ _).alloc (Nat.le_refl _) _
    obtain ⟨G5, hG5⟩ : ∃ G5, G5 = w2.heap.size := ⟨_, rfl⟩
    have z0 := m0.lt
    have z1 := m1.lt
    rw [← hG5] at m3
    have m3p := m3.put (f' := H)
    have hth5 := m3.there2 (f' := H)
    replace m0 := (m0.below b3).kept m3p.2 (by omega)
    replace m1 := (m1.below b3).kept m3p.2 (by omega)
    have belx := (below_on bel0 b3).grown m3p.2 (by have := b3.size; omega) (fun k hk => by cases hk; omega)
    replace m3 := m3p.1
    have hZz := hz
    clear m3p b3 bel0
    replace hG5 : Hid (G5 = w2.heap.size) := hG5
    go_wp2_with (first | (rw [← hG5.out]; fail) | (refine wpList_store_mid rfl 84 _ _ rfl w2.heap.size 0 (uV H 4).toArray rfl rfl (by rw [← hG5.out]; exact hth5) sizeU2 (all_oneCell_toArray (uV_one H 4)) ?_))
    rw [← hG5.out]
    have hd1 : w.heap.size ≠ G5 := by have := hG5.out; omega
    have hd2 : G1 ≠ G5 := by have := hG5.out; omega
    have hd3 : w.heap.size ≤ G5 := by have := hG5.out; omega
    clear z0 z1 hG5 hth5
    generalize World.setCells _ G5 0 _ = wr at m0 m1 m3 belx ⊢
    have hn := m0.drew
    have hr := m1.drew
    have hh := m3.drew
    have bel := belx.drew
    clear m0 m1 m3 belx
    obtain ⟨W, hW⟩ : ∃ W, W = wr.drew := ⟨_, rfl⟩
    rw [← hW] at hn hr hh bel
    replace hW : Hid (W = wr.drew) := hW
    refine wp_region_noPanic ?_
    refine wp_region_T 99 (fun X => X.rangeAt G5 0 (uV H 4)) (fun _ => True) (by kernel_rfl) ?_
    rw [← hW.out]
    clear hW
    have kX : Below W.heap.size W W := Below.refl _ _
    have hLO : Hid (∃ LO, LO = W.heap.size) := ⟨_, rfl⟩
    obtain ⟨LO, hLO⟩ := hLO.out
    replace hLO : Hid (LO = W.heap.size) := hLO
    by_cases hod : n % 2 = 1
    · have hVV := hodd.out hod
      have hm1 : Int.tmod (n : Int) 2 = 1 := by rw [Int.tmod_eq_emod_of_nonneg (by omega)]; omega
      have hm2 : (n : Int) % 2 = 1 := by omega
      replace hVV : Hid (V = O) := hVV
      refine anyT_takeT (i := 0) rfl (by kernel_rfl) (by kernel_rfl) (by kernel_rfl) (by kernel_rfl) (fun _ _ _ h => h) (yieldsIf_load_mid (by rfl) _ _ rfl _ _ rfl (uV H 4) _ (fun _ hw => hw) Tryz.underlying84 rfl sizeU) (hh.below kX).range (fun _ => trivial) ?_
      simp only [Act.put, List.getElem_toArray, List.getElem_cons_zero, List.setIfInBounds_toArray, List.set_cons_zero, List.set_cons_succ]
      refine anyT_takeT (i := 1) (v := .int .i64 (n : Int)) rfl (by kernel_rfl) (by kernel_rfl) (by kernel_rfl) (by kernel_rfl) (fun _ _ _ h => h) (Or.inl ⟨by rfl, fun X hSw => by ((try dsimp only at hSw); go_simp)⟩) (hh.below kX).range (fun _ => trivial) ?_
      simp only [Act.put, List.getElem_toArray, List.getElem_cons_zero, List.getElem_cons_succ, List.setIfInBounds_toArray, List.set_cons_zero, List.set_cons_succ]
      refine anyT_takeT (i := 2) (v := .int .i64 (a : Int)) rfl (by kernel_rfl) (by kernel_rfl) (by kernel_rfl) (by kernel_rfl) (fun _ _ _ h => h) (Or.inl ⟨by rfl, fun X hSw => by ((try dsimp only at hSw); go_simp)⟩) (hh.below kX).range (fun _ => trivial) ?_
      simp only [Act.put, List.getElem_toArray, List.getElem_cons_zero, List.getElem_cons_succ, List.setIfInBounds_toArray, List.set_cons_zero, List.set_cons_succ]
      refine anyT_takeT (i := 4) rfl (by kernel_rfl) (by kernel_rfl) (by kernel_rfl) (by kernel_rfl) (fun _ _ _ h => h) (yieldsIf_load_mid (by rfl) _ _ rfl _ _ rfl (uV H 4) _ (fun _ hw => hw) Tryz.underlying84 rfl sizeU) (hh.below kX).range (fun _ => trivial) ?_
      simp only [Act.put, List.getElem_toArray, List.getElem_cons_zero, List.getElem_cons_succ, List.setIfInBounds_toArray, List.set_cons_zero, List.set_cons_succ]
      refine anyT_two (i := 3) (j := 6) (by kernel_rfl) rfl rfl (fun K hK => ?_) (fun K hK => ?_)
      · go_simp
        refine (CS _).mono ?_
        rintro e wY1 ⟨rfl, bY1⟩
        have kY1 := below_on kX bY1
        go_wp2_with (fail)
        refine hK.out _ _ (hh.below kY1).range (fun _ => trivial) ?_
        clear hK K
        refine anyT_two (i := 5) (j := 6) (by kernel_rfl) rfl rfl (fun K hK => ?_) (fun K hK => ?_)
        · go_simp
          refine (CT _).mono ?_
          rintro e wY2 ⟨rfl, bY2⟩
          have kY2 := below_on kY1 bY2
          go_wp2_with (fail)
          refine hK.out _ _ (hh.below kY2).range (fun _ => trivial) ?_
          clear hK K
          refine anyT_one (i := 6) (by kernel_rfl) rfl (fun K hK => ?_)
          go_simp
          have h3_3 := RowU.made wY2 84 4 LO (fun _ => 0) (by decide) (by rw [hLO.out]; exact Below.size kY2)
          rw [← hZ.out] at h3_3
          have bY3 : Below wY2.heap.size wY2 (wY2.alloc (.cells Z 84)) := (Below.refl _ _).alloc (Nat.le_refl _) _
          have kY3 := below_on kY2 bY3
          refine hK.out _ _ (hh.below kY3).range (fun _ => trivial) ?_
          clear hK K
          generalize wY2.alloc (.cells Z 84) = wY3 at h3_3 bY3 kY3 ⊢
          obtain ⟨g3, hg3⟩ : ∃ g3, g3 = wY2.heap.size := ⟨_, rfl⟩
          rw [← hg3] at h3_3 ⊢
          clear hg3
          have hp := RowU.put h3_3 (f' := R)
          have hth2 := RowU.there2 h3_3 (f' := R)
          have hlt3 := RowU.lt h3_3
          rw [hLO.out] at hlt3
          have hnw := hn.lt
          have hrw := hr.lt
          have hhw := hh.lt
          have hn2 := (hn.below kY3).kept hp.2 (by omega)
          have hr2 := (hr.below kY3).kept hp.2 (by omega)
          have hh2 := (hh.below kY3).kept hp.2 (by omega)
          have bel1 := below_on bel kY3
          have hsk := Below.size kY3
          have bel2 := bel1.grown hp.2 (by omega) (fun k hk => by cases hk; omega)
          have h32 := hp.1
          have hg3n : w.heap.size ≠ g3 := by omega
          have hg3r : G1 ≠ g3 := by omega
          have hg3w : w.heap.size ≤ g3 := by omega
          refine anyT_one (i := 7) (by kernel_rfl) rfl (fun K hK => ?_)
          refine wp_store_mid 84 _ _ rfl g3 0 (uV R 4).toArray rfl rfl hth2 sizeU2 (all_oneCell_toArray (uV_one R 4)) ?_
          refine hK.out _ _ hh2.range (fun _ => trivial) ?_
          clear hK K
          refine anyT_done (by kernel_rfl) ?_ _
          refine NoPanic.normal ?_
          generalize World.setCells wY3 g3 0 _ = w5 at hp hn2 hr2 hh2 bel2 h32 ⊢
          clear hp hth2 h3_3 hlt3 hnw hrw hhw bel1 CS CT hh2 hsk hn hr hh bel
          have hd0 : Below w5.heap.size w5 w5.drew := (Below.refl _ _).drew
          go_wp2_with (fail)
          refine wp_region_noPanic ?_
          refine wp_region_T 4 (fun X => X.rangeAt w.heap.size 0 (uV F 4)) (fun X => X.rangeAt g3 0 (uV R 4)) (by kernel_rfl) ?_
          generalize w5.drew = wZ at hd0 ⊢
          replace hn2 := hn2.below hd0
          replace hr2 := hr2.below hd0
          replace h32 := h32.below hd0
          replace bel2 := below_on bel2 hd0
          refine anyT_takeS (i := 0) rfl rfl (by kernel_rfl) (by kernel_rfl) (by kernel_rfl) (by kernel_rfl) (by kernel_rfl) (fun _ _ _ h => h) (yieldsIf_load_mid (by rfl) _ _ rfl _ _ rfl (uV R 4) _ (fun _ hw => hw.2) Tryz.underlying84 rfl sizeU) hn2.range h32.range ?_
          simp only [Act.put, List.getElem_toArray, List.getElem_cons_zero, List.setIfInBounds_toArray, List.set_cons_zero, List.set_cons_succ]
          refine anyT_takeT (i := 2) rfl (by kernel_rfl) (by kernel_rfl) (by kernel_rfl) (by kernel_rfl) (fun _ _ _ h => h) (yieldsIf_load_mid (by rfl) _ _ rfl _ _ rfl (uV F 4) _ (fun _ hw => hw) Tryz.underlying84 rfl sizeU) hn2.range (fun _ => h32.range) ?_
          simp only [Act.put, List.getElem_toArray, List.getElem_cons_zero, List.getElem_cons_succ, List.setIfInBounds_toArray, List.set_cons_zero, List.set_cons_succ]
          refine anyT_one (i := 1) (by kernel_rfl) rfl (fun K hK => ?_)
          go_simp
          refine (CS1 _).mono ?_
          rintro e w6 ⟨rfl, b6⟩
          go_wp2_with (fail)
          refine hK.out _ _ (hn2.below b6).range (fun _ => (h32.below b6).range) ?_
          clear hK K
          replace hn2 := hn2.below b6
          replace hr2 := hr2.below b6
          replace h32 := h32.below b6
          replace bel2 := below_on bel2 b6
          refine anyT_one (i := 3) (by kernel_rfl) rfl (fun K hK => ?_)
          go_simp
          refine (CT1 _).mono ?_
          rintro e w7 ⟨rfl, b7⟩
          go_wp2_with (fail)
          refine hK.out _ _ (hn2.below b7).range (fun _ => (h32.below b7).range) ?_
          clear hK K
          replace hn2 := hn2.below b7
          replace hr2 := hr2.below b7
          replace h32 := h32.below b7
          replace bel2 := below_on bel2 b7
          have hq := h32.put (f' := O)
          have hthq := h32.there2 (f' := O)
          have hwq := h32.lt
          replace hn2 := hn2.kept hq.2 hg3n
          replace hr2 := hr2.kept hq.2 hg3r
          replace bel2 := bel2.grown hq.2 (by omega) (fun k hk => by cases hk; omega)
          replace h32 := hq.1
          clear hq hwq
          refine anyT_one (i := 4) (by kernel_rfl) rfl (fun K hK => ?_)
          refine wp_store_mid 84 _ _ rfl g3 0 (uV O 4).toArray rfl rfl hthq sizeU2 (all_oneCell_toArray (uV_one O 4)) ?_
          refine hK.out _ _ hn2.range (fun h => by cases h) ?_
          clear hK K hthq
          refine anyT_done (by kernel_rfl) ?_ _
          refine NoPanic.normal ?_
          generalize World.setCells w7 g3 0 _ = w8 at hn2 hr2 bel2 h32 ⊢
          rw [← hVV.out] at h32
          have hra := h32.range
          have hws := h32.lt
          clear h32 hn2 CS1 CT1
          have hp := RowU.put hr2 (f' := V)
          have hth := RowU.there2 hr2 (f' := V)
          have hbel := Below.grown bel2 hp.2 (by omega) (fun k hk => by cases hk; exact hloR)
          have hld := run_loadVar_mid (P := Tryz.prog) _ G1 0 84 _ _ hp.1.range Tryz.underlying84 rfl sizeU
          clear hp
          go_wp2_with (first | (refine wpList_load_mid rfl 84 _ rfl g3 0 rfl (uV V 4) _ hra Tryz.underlying84 rfl sizeU ?_) | (refine wpList_store_mid rfl 84 _ _ rfl G1 0 (uV V 4).toArray rfl rfl hth sizeU2 (all_oneCell_toArray (uV_one V 4)) ?_))
          (try simp only [Exit.inBlock, Exit.then])
          refine bodyPost_ret (v := .agg (uV V 4).toArray) ?_ rfl ⟨rfl, hbel⟩
          simp [results, asAddr, Act.put, hld]
        · go_simp
          have h3_4 := RowU.made wY1 84 4 LO (fun _ => 0) (by decide) (by rw [hLO.out]; exact Below.size kY1)
          rw [← hZ.out] at h3_4
          have bY4 : Below wY1.heap.size wY1 (wY1.alloc (.cells Z 84)) := (Below.refl _ _).alloc (Nat.le_refl _) _
          have kY4 := below_on kY1 bY4
          refine hK.out _ _ (hh.below kY4).range (fun _ => trivial) ?_
          clear hK K
          generalize wY1.alloc (.cells Z 84) = wY4 at h3_4 bY4 kY4 ⊢
          obtain ⟨g3, hg3⟩ : ∃ g3, g3 = wY1.heap.size := ⟨_, rfl⟩
          rw [← hg3] at h3_4 ⊢
          clear hg3
          refine anyT_one (i := 5) (by kernel_rfl) rfl (fun K hK => ?_)
          go_simp
          refine (CT _).mono ?_
          rintro e wY5 ⟨rfl, bY5⟩
          have kY5 := below_on kY4 bY5
          have h3_5 := RowU.below h3_4 bY5
          go_wp2_with (fail)
          refine hK.out _ _ (hh.below kY5).range (fun _ => trivial) ?_
          clear hK K
          have hp := RowU.put h3_5 (f' := R)
          have hth2 := RowU.there2 h3_5 (f' := R)
          have hlt3 := RowU.lt h3_5
          rw [hLO.out] at hlt3
          have hnw := hn.lt
          have hrw := hr.lt
          have hhw := hh.lt
          have hn2 := (hn.below kY5).kept hp.2 (by omega)
          have hr2 := (hr.below kY5).kept hp.2 (by omega)
          have hh2 := (hh.below kY5).kept hp.2 (by omega)
          have bel1 := below_on bel kY5
          have hsk := Below.size kY5
          have bel2 := bel1.grown hp.2 (by omega) (fun k hk => by cases hk; omega)
          have h32 := hp.1
          have hg3n : w.heap.size ≠ g3 := by omega
          have hg3r : G1 ≠ g3 := by omega
          have hg3w : w.heap.size ≤ g3 := by omega
          refine anyT_one (i := 7) (by kernel_rfl) rfl (fun K hK => ?_)
          refine wp_store_mid 84 _ _ rfl g3 0 (uV R 4).toArray rfl rfl hth2 sizeU2 (all_oneCell_toArray (uV_one R 4)) ?_
          refine hK.out _ _ hh2.range (fun _ => trivial) ?_
          clear hK K
          refine anyT_done (by kernel_rfl) ?_ _
          refine NoPanic.normal ?_
          generalize World.setCells wY5 g3 0 _ = w5 at hp hn2 hr2 hh2 bel2 h32 ⊢
          clear hp hth2 h3_5 hlt3 hnw hrw hhw bel1 CS CT hh2 hsk hn hr hh bel
          have hd0 : Below w5.heap.size w5 w5.drew := (Below.refl _ _).drew
          go_wp2_with (fail)
          refine wp_region_noPanic ?_
          refine wp_region_T 4 (fun X => X.rangeAt w.heap.size 0 (uV F 4)) (fun X => X.rangeAt g3 0 (uV R 4)) (by kernel_rfl) ?_
          generalize w5.drew = wZ at hd0 ⊢
          replace hn2 := hn2.below hd0
          replace hr2 := hr2.below hd0
          replace h32 := h32.below hd0
          replace bel2 := below_on bel2 hd0
          refine anyT_takeS (i := 0) rfl rfl (by kernel_rfl) (by kernel_rfl) (by kernel_rfl) (by kernel_rfl) (by kernel_rfl) (fun _ _ _ h => h) (yieldsIf_load_mid (by rfl) _ _ rfl _ _ rfl (uV R 4) _ (fun _ hw => hw.2) Tryz.underlying84 rfl sizeU) hn2.range h32.range ?_
          simp only [Act.put, List.getElem_toArray, List.getElem_cons_zero, List.setIfInBounds_toArray, List.set_cons_zero, List.set_cons_succ]
          refine anyT_takeT (i := 2) rfl (by kernel_rfl) (by kernel_rfl) (by kernel_rfl) (by kernel_rfl) (fun _ _ _ h => h) (yieldsIf_load_mid (by rfl) _ _ rfl _ _ rfl (uV F 4) _ (fun _ hw => hw) Tryz.underlying84 rfl sizeU) hn2.range (fun _ => h32.range) ?_
          simp only [Act.put, List.getElem_toArray, List.getElem_cons_zero, List.getElem_cons_succ, List.setIfInBounds_toArray, List.set_cons_zero, List.set_cons_succ]
          refine anyT_one (i := 1) (by kernel_rfl) rfl (fun K hK => ?_)
          go_simp
          refine (CS1 _).mono ?_
          rintro e w6 ⟨rfl, b6⟩
          go_wp2_with (fail)
          refine hK.out _ _ (hn2.below b6).range (fun _ => (h32.below b6).range) ?_
          clear hK K
          replace hn2 := hn2.below b6
          replace hr2 := hr2.below b6
          replace h32 := h32.below b6
          replace bel2 := below_on bel2 b6
          refine anyT_one (i := 3) (by kernel_rfl) rfl (fun K hK => ?_)
          go_simp
          refine (CT1 _).mono ?_
          rintro e w7 ⟨rfl, b7⟩
          go_wp2_with (fail)
          refine hK.out _ _ (hn2.below b7).range (fun _ => (h32.below b7).range) ?_
          clear hK K
          replace hn2 := hn2.below b7
          replace hr2 := hr2.below b7
          replace h32 := h32.below b7
          replace bel2 := below_on bel2 b7
          have hq := h32.put (f' := O)
          have hthq := h32.there2 (f' := O)
          have hwq := h32.lt
          replace hn2 := hn2.kept hq.2 hg3n
          replace hr2 := hr2.kept hq.2 hg3r
          replace bel2 := bel2.grown hq.2 (by omega) (fun k hk => by cases hk; omega)
          replace h32 := hq.1
          clear hq hwq
          refine anyT_one (i := 4) (by kernel_rfl) rfl (fun K hK => ?_)
          refine wp_store_mid 84 _ _ rfl g3 0 (uV O 4).toArray rfl rfl hthq sizeU2 (all_oneCell_toArray (uV_one O 4)) ?_
          refine hK.out _ _ hn2.range (fun h => by cases h) ?_
          clear hK K hthq
          refine anyT_done (by kernel_rfl) ?_ _
          refine NoPanic.normal ?_
          generalize World.setCells w7 g3 0 _ = w8 at hn2 hr2 bel2 h32 ⊢
          rw [← hVV.out] at h32
          have hra := h32.range
          have hws := h32.lt
          clear h32 hn2 CS1 CT1
          have hp := RowU.put hr2 (f' := V)
          have hth := RowU.there2 hr2 (f' := V)
          have hbel := Below.grown bel2 hp.2 (by omega) (fun k hk => by cases hk; exact hloR)
          have hld := run_loadVar_mid (P := Tryz.prog) _ G1 0 84 _ _ hp.1.range Tryz.underlying84 rfl sizeU
          clear hp
          go_wp2_with (first | (refine wpList_load_mid rfl 84 _ rfl g3 0 rfl (uV V 4) _ hra Tryz.underlying84 rfl sizeU ?_) | (refine wpList_store_mid rfl 84 _ _ rfl G1 0 (uV V 4).toArray rfl rfl hth sizeU2 (all_oneCell_toArray (uV_one V 4)) ?_))
          (try simp only [Exit.inBlock, Exit.then])
          refine bodyPost_ret (v := .agg (uV V 4).toArray) ?_ rfl ⟨rfl, hbel⟩
          simp [results, asAddr, Act.put, hld]
      · go_simp
        have h3_6 := RowU.made W 84 4 LO (fun _ => 0) (by decide) (by rw [hLO.out]; exact Below.size kX)
        rw [← hZ.out] at h3_6
        have bY6 : Below W.heap.size W (W.alloc (.cells Z 84)) := (Below.refl _ _).alloc (Nat.le_refl _) _
        have kY6 := below_on kX bY6
        refine hK.out _ _ (hh.below kY6).range (fun _ => trivial) ?_
        clear hK K
        generalize W.alloc (.cells Z 84) = wY6 at h3_6 bY6 kY6 ⊢
        obtain ⟨g3, hg3⟩ : ∃ g3, g3 = W.heap.size := ⟨_, rfl⟩
        rw [← hg3] at h3_6 ⊢
        clear hg3
        refine anyT_one (i := 3) (by kernel_rfl) rfl (fun K hK => ?_)
        go_simp
        refine (CS _).mono ?_
        rintro e wY7 ⟨rfl, bY7⟩
        have kY7 := below_on kY6 bY7
        have h3_7 := RowU.below h3_6 bY7
        go_wp2_with (fail)
        refine hK.out _ _ (hh.below kY7).range (fun _ => trivial) ?_
        clear hK K
        refine anyT_one (i := 5) (by kernel_rfl) rfl (fun K hK => ?_)
        go_simp
        refine (CT _).mono ?_
        rintro e wY8 ⟨rfl, bY8⟩
        have kY8 := below_on kY7 bY8
        have h3_8 := RowU.below h3_7 bY8
        go_wp2_with (fail)
        refine hK.out _ _ (hh.below kY8).range (fun _ => trivial) ?_
        clear hK K
        have hp := RowU.put h3_8 (f' := R)
        have hth2 := RowU.there2 h3_8 (f' := R)
        have hlt3 := RowU.lt h3_8
        rw [hLO.out] at hlt3
        have hnw := hn.lt
        have hrw := hr.lt
        have hhw := hh.lt
        have hn2 := (hn.below kY8).kept hp.2 (by omega)
        have hr2 := (hr.below kY8).kept hp.2 (by omega)
        have hh2 := (hh.below kY8).kept hp.2 (by omega)
        have bel1 := below_on bel kY8
        have hsk := Below.size kY8
        have bel2 := bel1.grown hp.2 (by omega) (fun k hk => by cases hk; omega)
        have h32 := hp.1
        have hg3n : w.heap.size ≠ g3 := by omega
        have hg3r : G1 ≠ g3 := by omega
        have hg3w : w.heap.size ≤ g3 := by omega
        refine anyT_one (i := 7) (by kernel_rfl) rfl (fun K hK => ?_)
        refine wp_store_mid 84 _ _ rfl g3 0 (uV R 4).toArray rfl rfl hth2 sizeU2 (all_oneCell_toArray (uV_one R 4)) ?_
        refine hK.out _ _ hh2.range (fun _ => trivial) ?_
        clear hK K
        refine anyT_done (by kernel_rfl) ?_ _
        refine NoPanic.normal ?_
        generalize World.setCells wY8 g3 0 _ = w5 at hp hn2 hr2 hh2 bel2 h32 ⊢
        clear hp hth2 h3_8 hlt3 hnw hrw hhw bel1 CS CT hh2 hsk hn hr hh bel
        have hd0 : Below w5.heap.size w5 w5.drew := (Below.refl _ _).drew
        go_wp2_with (fail)
        refine wp_region_noPanic ?_
        refine wp_region_T 4 (fun X => X.rangeAt w.heap.size 0 (uV F 4)) (fun X => X.rangeAt g3 0 (uV R 4)) (by kernel_rfl) ?_
        generalize w5.drew = wZ at hd0 ⊢
        replace hn2 := hn2.below hd0
        replace hr2 := hr2.below hd0
        replace h32 := h32.below hd0
        replace bel2 := below_on bel2 hd0
        refine anyT_takeS (i := 0) rfl rfl (by kernel_rfl) (by kernel_rfl) (by kernel_rfl) (by kernel_rfl) (by kernel_rfl) (fun _ _ _ h => h) (yieldsIf_load_mid (by rfl) _ _ rfl _ _ rfl (uV R 4) _ (fun _ hw => hw.2) Tryz.underlying84 rfl sizeU) hn2.range h32.range ?_
        simp only [Act.put, List.getElem_toArray, List.getElem_cons_zero, List.setIfInBounds_toArray, List.set_cons_zero, List.set_cons_succ]
        refine anyT_takeT (i := 2) rfl (by kernel_rfl) (by kernel_rfl) (by kernel_rfl) (by kernel_rfl) (fun _ _ _ h => h) (yieldsIf_load_mid (by rfl) _ _ rfl _ _ rfl (uV F 4) _ (fun _ hw => hw) Tryz.underlying84 rfl sizeU) hn2.range (fun _ => h32.range) ?_
        simp only [Act.put, List.getElem_toArray, List.getElem_cons_zero, List.getElem_cons_succ, List.setIfInBounds_toArray, List.set_cons_zero, List.set_cons_succ]
        refine anyT_one (i := 1) (by kernel_rfl) rfl (fun K hK => ?_)
        go_simp
        refine (CS1 _).mono ?_
        rintro e w6 ⟨rfl, b6⟩
        go_wp2_with (fail)
        refine hK.out _ _ (hn2.below b6).range (fun _ => (h32.below b6).range) ?_
        clear hK K
        replace hn2 := hn2.below b6
        replace hr2 := hr2.below b6
        replace h32 := h32.below b6
        replace bel2 := below_on bel2 b6
        refine anyT_one (i := 3) (by kernel_rfl) rfl (fun K hK => ?_)
        go_simp
        refine (CT1 _).mono ?_
        rintro e w7 ⟨rfl, b7⟩
        go_wp2_with (fail)
        refine hK.out _ _ (hn2.below b7).range (fun _ => (h32.below b7).range) ?_
        clear hK K
        replace hn2 := hn2.below b7
        replace hr2 := hr2.below b7
        replace h32 := h32.below b7
        replace bel2 := below_on bel2 b7
        have hq := h32.put (f' := O)
        have hthq := h32.there2 (f' := O)
        have hwq := h32.lt
        replace hn2 := hn2.kept hq.2 hg3n
        replace hr2 := hr2.kept hq.2 hg3r
        replace bel2 := bel2.grown hq.2 (by omega) (fun k hk => by cases hk; omega)
        replace h32 := hq.1
        clear hq hwq
        refine anyT_one (i := 4) (by kernel_rfl) rfl (fun K hK => ?_)
        refine wp_store_mid 84 _ _ rfl g3 0 (uV O 4).toArray rfl rfl hthq sizeU2 (all_oneCell_toArray (uV_one O 4)) ?_
        refine hK.out _ _ hn2.range (fun h => by cases h) ?_
        clear hK K hthq
        refine anyT_done (by kernel_rfl) ?_ _
        refine NoPanic.normal ?_
        generalize World.setCells w7 g3 0 _ = w8 at hn2 hr2 bel2 h32 ⊢
        rw [← hVV.out] at h32
        have hra := h32.range
        have hws := h32.lt
        clear h32 hn2 CS1 CT1
        have hp := RowU.put hr2 (f' := V)
        have hth := RowU.there2 hr2 (f' := V)
        have hbel := Below.grown bel2 hp.2 (by omega) (fun k hk => by cases hk; exact hloR)
        have hld := run_loadVar_mid (P := Tryz.prog) _ G1 0 84 _ _ hp.1.range Tryz.underlying84 rfl sizeU
        clear hp
        go_wp2_with (first | (refine wpList_load_mid rfl 84 _ rfl g3 0 rfl (uV V 4) _ hra Tryz.underlying84 rfl sizeU ?_) | (refine wpList_store_mid rfl 84 _ _ rfl G1 0 (uV V 4).toArray rfl rfl hth sizeU2 (all_oneCell_toArray (uV_one V 4)) ?_))
        (try simp only [Exit.inBlock, Exit.then])
        refine bodyPost_ret (v := .agg (uV V 4).toArray) ?_ rfl ⟨rfl, hbel⟩
        simp [results, asAddr, Act.put, hld]
    · have hVV := hevn.out hod
      have hm1 : ¬ Int.tmod (n : Int) 2 = 1 := by rw [Int.tmod_eq_emod_of_nonneg (by omega)]; omega
      have hm2 : ¬ (n : Int) % 2 = 1 := by omega
      replace hVV : Hid (V = R) := hVV
      refine anyT_takeT (i := 0) rfl (by kernel_rfl) (by kernel_rfl) (by kernel_rfl) (by kernel_rfl) (fun _ _ _ h => h) (yieldsIf_load_mid (by rfl) _ _ rfl _ _ rfl (uV H 4) _ (fun _ hw => hw) Tryz.underlying84 rfl sizeU) (hh.below kX).range (fun _ => trivial) ?_
      simp only [Act.put, List.getElem_toArray, List.getElem_cons_zero, List.setIfInBounds_toArray, List.set_cons_zero, List.set_cons_succ]
      refine anyT_takeT (i := 1) (v := .int .i64 (n : Int)) rfl (by kernel_rfl) (by kernel_rfl) (by kernel_rfl) (by kernel_rfl) (fun _ _ _ h => h) (Or.inl ⟨by rfl, fun X hSw => by ((try dsimp only at hSw); go_simp)⟩) (hh.below kX).range (fun _ => trivial) ?_
      simp only [Act.put, List.getElem_toArray, List.getElem_cons_zero, List.getElem_cons_succ, List.setIfInBounds_toArray, List.set_cons_zero, List.set_cons_succ]
      refine anyT_takeT (i := 2) (v := .int .i64 (a : Int)) rfl (by kernel_rfl) (by kernel_rfl) (by kernel_rfl) (by kernel_rfl) (fun _ _ _ h => h) (Or.inl ⟨by rfl, fun X hSw => by ((try dsimp only at hSw); go_simp)⟩) (hh.below kX).range (fun _ => trivial) ?_
      simp only [Act.put, List.getElem_toArray, List.getElem_cons_zero, List.getElem_cons_succ, List.setIfInBounds_toArray, List.set_cons_zero, List.set_cons_succ]
      refine anyT_takeT (i := 4) rfl (by kernel_rfl) (by kernel_rfl) (by kernel_rfl) (by kernel_rfl) (fun _ _ _ h => h) (yieldsIf_load_mid (by rfl) _ _ rfl _ _ rfl (uV H 4) _ (fun _ hw => hw) Tryz.underlying84 rfl sizeU) (hh.below kX).range (fun _ => trivial) ?_
      simp only [Act.put, List.getElem_toArray, List.getElem_cons_zero, List.getElem_cons_succ, List.setIfInBounds_toArray, List.set_cons_zero, List.set_cons_succ]
      refine anyT_two (i := 3) (j := 6) (by kernel_rfl) rfl rfl (fun K hK => ?_) (fun K hK => ?_)
      · go_simp
        refine (CS _).mono ?_
        rintro e wY1 ⟨rfl, bY1⟩
        have kY1 := below_on kX bY1
        go_wp2_with (fail)
        refine hK.out _ _ (hh.below kY1).range (fun _ => trivial) ?_
        clear hK K
        refine anyT_two (i := 5) (j := 6) (by kernel_rfl) rfl rfl (fun K hK => ?_) (fun K hK => ?_)
        · go_simp
          refine (CT _).mono ?_
          rintro e wY2 ⟨rfl, bY2⟩
          have kY2 := below_on kY1 bY2
          go_wp2_with (fail)
          refine hK.out _ _ (hh.below kY2).range (fun _ => trivial) ?_
          clear hK K
          refine anyT_one (i := 6) (by kernel_rfl) rfl (fun K hK => ?_)
          go_simp
          have h3_3 := RowU.made wY2 84 4 LO (fun _ => 0) (by decide) (by rw [hLO.out]; exact Below.size kY2)
          rw [← hZ.out] at h3_3
          have bY3 : Below wY2.heap.size wY2 (wY2.alloc (.cells Z 84)) := (Below.refl _ _).alloc (Nat.le_refl _) _
          have kY3 := below_on kY2 bY3
          refine hK.out _ _ (hh.below kY3).range (fun _ => trivial) ?_
          clear hK K
          generalize wY2.alloc (.cells Z 84) = wY3 at h3_3 bY3 kY3 ⊢
          obtain ⟨g3, hg3⟩ : ∃ g3, g3 = wY2.heap.size := ⟨_, rfl⟩
          rw [← hg3] at h3_3 ⊢
          clear hg3
          have hp := RowU.put h3_3 (f' := R)
          have hth2 := RowU.there2 h3_3 (f' := R)
          have hlt3 := RowU.lt h3_3
          rw [hLO.out] at hlt3
          have hnw := hn.lt
          have hrw := hr.lt
          have hhw := hh.lt
          have hn2 := (hn.below kY3).kept hp.2 (by omega)
          have hr2 := (hr.below kY3).kept hp.2 (by omega)
          have hh2 := (hh.below kY3).kept hp.2 (by omega)
          have bel1 := below_on bel kY3
          have hsk := Below.size kY3
          have bel2 := bel1.grown hp.2 (by omega) (fun k hk => by cases hk; omega)
          have h32 := hp.1
          have hg3n : w.heap.size ≠ g3 := by omega
          have hg3r : G1 ≠ g3 := by omega
          have hg3w : w.heap.size ≤ g3 := by omega
          refine anyT_one (i := 7) (by kernel_rfl) rfl (fun K hK => ?_)
          refine wp_store_mid 84 _ _ rfl g3 0 (uV R 4).toArray rfl rfl hth2 sizeU2 (all_oneCell_toArray (uV_one R 4)) ?_
          refine hK.out _ _ hh2.range (fun _ => trivial) ?_
          clear hK K
          refine anyT_done (by kernel_rfl) ?_ _
          refine NoPanic.normal ?_
          generalize World.setCells wY3 g3 0 _ = w5 at hp hn2 hr2 hh2 bel2 h32 ⊢
          clear hp hth2 h3_3 hlt3 hnw hrw hhw bel1 CS CT hh2 hsk hn hr hh bel
          rw [← hVV.out] at h32
          have hra := h32.range
          have hws := h32.lt
          clear h32 hn2 CS1 CT1
          have hp := RowU.put hr2 (f' := V)
          have hth := RowU.there2 hr2 (f' := V)
          have hbel := Below.grown bel2 hp.2 (by omega) (fun k hk => by cases hk; exact hloR)
          have hld := run_loadVar_mid (P := Tryz.prog) _ G1 0 84 _ _ hp.1.range Tryz.underlying84 rfl sizeU
          clear hp
          go_wp2_with (first | (refine wpList_load_mid rfl 84 _ rfl g3 0 rfl (uV V 4) _ hra Tryz.underlying84 rfl sizeU ?_) | (refine wpList_store_mid rfl 84 _ _ rfl G1 0 (uV V 4).toArray rfl rfl hth sizeU2 (all_oneCell_toArray (uV_one V 4)) ?_))
          (try simp only [Exit.inBlock, Exit.then])
          refine bodyPost_ret (v := .agg (uV V 4).toArray) ?_ rfl ⟨rfl, hbel⟩
          simp [results, asAddr, Act.put, hld]
        · go_simp
          have h3_4 := RowU.made wY1 84 4 LO (fun _ => 0) (by decide) (by rw [hLO.out]; exact Below.size kY1)
          rw [← hZ.out] at h3_4
          have bY4 : Below wY1.heap.size wY1 (wY1.alloc (.cells Z 84)) := (Below.refl _ _).alloc (Nat.le_refl _) _
          have kY4 := below_on kY1 bY4
          refine hK.out _ _ (hh.below kY4).range (fun _ => trivial) ?_
          clear hK K
          generalize wY1.alloc (.cells Z 84) = wY4 at h3_4 bY4 kY4 ⊢
          obtain ⟨g3, hg3⟩ : ∃ g3, g3 = wY1.heap.size := ⟨_, rfl⟩
          rw [← hg3] at h3_4 ⊢
          clear hg3
          refine anyT_one (i := 5) (by kernel_rfl) rfl (fun K hK => ?_)
          go_simp
          refine (CT _).mono ?_
          rintro e wY5 ⟨rfl, bY5⟩
          have kY5 := below_on kY4 bY5
          have h3_5 := RowU.below h3_4 bY5
          go_wp2_with (fail)
          refine hK.out _ _ (hh.below kY5).range (fun _ => trivial) ?_
          clear hK K
          have hp := RowU.put h3_5 (f' := R)
          have hth2 := RowU.there2 h3_5 (f' := R)
          have hlt3 := RowU.lt h3_5
          rw [hLO.out] at hlt3
          have hnw := hn.lt
          have hrw := hr.lt
          have hhw := hh.lt
          have hn2 := (hn.below kY5).kept hp.2 (by omega)
          have hr2 := (hr.below kY5).kept hp.2 (by omega)
          have hh2 := (hh.below kY5).kept hp.2 (by omega)
          have bel1 := below_on bel kY5
          have hsk := Below.size kY5
          have bel2 := bel1.grown hp.2 (by omega) (fun k hk => by cases hk; omega)
          have h32 := hp.1
          have hg3n : w.heap.size ≠ g3 := by omega
          have hg3r : G1 ≠ g3 := by omega
          have hg3w : w.heap.size ≤ g3 := by omega
          refine anyT_one (i := 7) (by kernel_rfl) rfl (fun K hK => ?_)
          refine wp_store_mid 84 _ _ rfl g3 0 (uV R 4).toArray rfl rfl hth2 sizeU2 (all_oneCell_toArray (uV_one R 4)) ?_
          refine hK.out _ _ hh2.range (fun _ => trivial) ?_
          clear hK K
          refine anyT_done (by kernel_rfl) ?_ _
          refine NoPanic.normal ?_
          generalize World.setCells wY5 g3 0 _ = w5 at hp hn2 hr2 hh2 bel2 h32 ⊢
          clear hp hth2 h3_5 hlt3 hnw hrw hhw bel1 CS CT hh2 hsk hn hr hh bel
          rw [← hVV.out] at h32
          have hra := h32.range
          have hws := h32.lt
          clear h32 hn2 CS1 CT1
          have hp := RowU.put hr2 (f' := V)
          have hth := RowU.there2 hr2 (f' := V)
          have hbel := Below.grown bel2 hp.2 (by omega) (fun k hk => by cases hk; exact hloR)
          have hld := run_loadVar_mid (P := Tryz.prog) _ G1 0 84 _ _ hp.1.range Tryz.underlying84 rfl sizeU
          clear hp
          go_wp2_with (first | (refine wpList_load_mid rfl 84 _ rfl g3 0 rfl (uV V 4) _ hra Tryz.underlying84 rfl sizeU ?_) | (refine wpList_store_mid rfl 84 _ _ rfl G1 0 (uV V 4).toArray rfl rfl hth sizeU2 (all_oneCell_toArray (uV_one V 4)) ?_))
          (try simp only [Exit.inBlock, Exit.then])
          refine bodyPost_ret (v := .agg (uV V 4).toArray) ?_ rfl ⟨rfl, hbel⟩
          simp [results, asAddr, Act.put, hld]
      · go_simp
        have h3_6 := RowU.made W 84 4 LO (fun _ => 0) (by decide) (by rw [hLO.out]; exact Below.size kX)
        rw [← hZ.out] at h3_6
        have bY6 : Below W.heap.size W (W.alloc (.cells Z 84)) := (Below.refl _ _).alloc (Nat.le_refl _) _
        have kY6 := below_on kX bY6
        refine hK.out _ _ (hh.below kY6).range (fun _ => trivial) ?_
        clear hK K
        generalize W.alloc (.cells Z 84) = wY6 at h3_6 bY6 kY6 ⊢
        obtain ⟨g3, hg3⟩ : ∃ g3, g3 = W.heap.size := ⟨_, rfl⟩
        rw [← hg3] at h3_6 ⊢
        clear hg3
        refine anyT_one (i := 3) (by kernel_rfl) rfl (fun K hK => ?_)
        go_simp
        refine (CS _).mono ?_
        rintro e wY7 ⟨rfl, bY7⟩
        have kY7 := below_on kY6 bY7
        have h3_7 := RowU.below h3_6 bY7
        go_wp2_with (fail)
        refine hK.out _ _ (hh.below kY7).range (fun _ => trivial) ?_
        clear hK K
        refine anyT_one (i := 5) (by kernel_rfl) rfl (fun K hK => ?_)
        go_simp
        refine (CT _).mono ?_
        rintro e wY8 ⟨rfl, bY8⟩
        have kY8 := below_on kY7 bY8
        have h3_8 := RowU.below h3_7 bY8
        go_wp2_with (fail)
        refine hK.out _ _ (hh.below kY8).range (fun _ => trivial) ?_
        clear hK K
        have hp := RowU.put h3_8 (f' := R)
        have hth2 := RowU.there2 h3_8 (f' := R)
        have hlt3 := RowU.lt h3_8
        rw [hLO.out] at hlt3
        have hnw := hn.lt
        have hrw := hr.lt
        have hhw := hh.lt
        have hn2 := (hn.below kY8).kept hp.2 (by omega)
        have hr2 := (hr.below kY8).kept hp.2 (by omega)
        have hh2 := (hh.below kY8).kept hp.2 (by omega)
        have bel1 := below_on bel kY8
        have hsk := Below.size kY8
        have bel2 := bel1.grown hp.2 (by omega) (fun k hk => by cases hk; omega)
        have h32 := hp.1
        have hg3n : w.heap.size ≠ g3 := by omega
        have hg3r : G1 ≠ g3 := by omega
        have hg3w : w.heap.size ≤ g3 := by omega
        refine anyT_one (i := 7) (by kernel_rfl) rfl (fun K hK => ?_)
        refine wp_store_mid 84 _ _ rfl g3 0 (uV R 4).toArray rfl rfl hth2 sizeU2 (all_oneCell_toArray (uV_one R 4)) ?_
        refine hK.out _ _ hh2.range (fun _ => trivial) ?_
        clear hK K
        refine anyT_done (by kernel_rfl) ?_ _
        refine NoPanic.normal ?_
        generalize World.setCells wY8 g3 0 _ = w5 at hp hn2 hr2 hh2 bel2 h32 ⊢
        clear hp hth2 h3_8 hlt3 hnw hrw hhw bel1 CS CT hh2 hsk hn hr hh bel
        rw [← hVV.out] at h32
        have hra := h32.range
        have hws := h32.lt
        clear h32 hn2 CS1 CT1
        have hp := RowU.put hr2 (f' := V)
        have hth := RowU.there2 hr2 (f' := V)
        have hbel := Below.grown bel2 hp.2 (by omega) (fun k hk => by cases hk; exact hloR)
        have hld := run_loadVar_mid (P := Tryz.prog) _ G1 0 84 _ _ hp.1.range Tryz.underlying84 rfl sizeU
        clear hp
        go_wp2_with (first | (refine wpList_load_mid rfl 84 _ rfl g3 0 rfl (uV V 4) _ hra Tryz.underlying84 rfl sizeU ?_) | (refine wpList_store_mid rfl 84 _ _ rfl G1 0 (uV V 4).toArray rfl rfl hth sizeU2 (all_oneCell_toArray (uV_one V 4)) ?_))
        (try simp only [Exit.inBlock, Exit.then])
        refine bodyPost_ret (v := .agg (uV V 4).toArray) ?_ rfl ⟨rfl, hbel⟩
        simp [results, asAddr, Act.put, hld]

end Go.Proofs.YtdjdanpicbaieaaGreatDoor
